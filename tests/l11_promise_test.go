package tests

import (
	"fmt"
	"regexp"
	"strconv"
	"strings"
	"sync"
	"testing"

	"loop.example/g01379/impl"
)

// A rule tells what is done for lines with a pattern, in which N stands for a number, L for any number of
// them, and T for a word. It returns the output and codes, of which one that is not ErrNone makes the line
// wrong.
type rule struct {
	pattern string
	does    func(d *desk, n list, text string) (string, list)
}

// numbered is the pattern of a number with a blank in front of it.
const numbered = ` (?:0|[1-9][0-9]{0,8})`

// expressions has what lines of all patterns match.
var expressions = sync.OnceValue(func() map[string]*regexp.Regexp {
	signs := strings.NewReplacer(" N", "("+numbered+")", " L", "((?:"+numbered+")*)", " T", "( [^ ]*)")
	all := map[string]*regexp.Regexp{}
	for _, r := range allRules() {
		all[r.pattern] = regexp.MustCompile(`(?s)\A` + signs.Replace(r.pattern) + `\z`)
	}
	return all
})

// matches returns the numbers and the word of a line with the rule's pattern, and whether it is one.
func (r rule) matches(line string) (list, string, bool) {
	found := expressions()[r.pattern].FindStringSubmatch(line)
	if found == nil {
		return nil, "", false
	}
	if strings.HasSuffix(r.pattern, " T") {
		return nil, found[1][1:], true
	}
	var n list
	for _, word := range strings.Fields(strings.Join(found[1:], "")) {
		number, _ := strconv.ParseInt(word, 10, 64)
		n = append(n, number)
	}
	return n, "", true
}

// firstRules are those of lines that change the first schedule alone, which they put out.
var firstRules = []struct {
	pattern string
	becomes func(d desk, n list, text string) (impl.Schedule, list)
}{
	{"circle N", func(d desk, n list, text string) (impl.Schedule, list) { return coded(impl.CircleOf(n[0])) }},
	{"schedule T", func(d desk, n list, text string) (impl.Schedule, list) { return coded(impl.ParseSchedule(text)) }},
	{"drop N", func(d desk, n list, text string) (impl.Schedule, list) { return coded(impl.DropRound(d.First, n[0])) }},
	{"renumber L", func(d desk, n list, text string) (impl.Schedule, list) { return coded(impl.RenumberTeams(d.First, n)) }},
	{"reorder L", func(d desk, n list, text string) (impl.Schedule, list) { return coded(impl.ReorderRounds(d.First, n)) }},
	{"join", func(d desk, n list, text string) (impl.Schedule, list) {
		return coded(impl.JoinSchedules(d.First, d.Second))
	}},
	{"complete", func(d desk, n list, text string) (impl.Schedule, list) { return coded(impl.CompleteSchedule(d.First)) }},
	{"patterned N", func(d desk, n list, text string) (impl.Schedule, list) {
		pairs, first := impl.PatternedStarter(n[0])
		s, second := impl.ScheduleOfStarter(n[0], pairs)
		return s, list{first, second}
	}},
	{"strong N", func(d desk, n list, text string) (impl.Schedule, list) {
		pairs, first := impl.FirstStrong(n[0])
		s, second := impl.ScheduleOfStarter(n[0], pairs)
		return s, list{first, second}
	}},
	{"partners N", func(d desk, n list, text string) (impl.Schedule, list) {
		base, first := impl.FirstBase(n[0])
		e, second := impl.MadeFrom(n[0], base)
		s, third := impl.PartnerSchedule(e)
		return s, list{first, second, third}
	}},
	{"next", func(d desk, n list, text string) (impl.Schedule, list) {
		r, first := impl.NextRound(d.First, nil)
		s, second := impl.AddRound(d.First, r)
		return s, list{first, second}
	}},
}

// coded returns a result, and its code as a list.
func coded[result any](x result, code int64) (result, list) { return x, list{code} }

// deskRules are those of lines that change more than the first schedule, or have another output.
var deskRules = []rule{
	{"room N", func(d *desk, n list, text string) (string, list) {
		pairs, first := impl.FirstStrong(n[0])
		adder, second := impl.StrongAdder(n[0], pairs)
		x, third := impl.SquareOfStarter(n[0], pairs, adder)
		rows, fourth := impl.RowsOf(x)
		columns, fifth := impl.ColumnsOf(x)
		d.First, d.Second = rows, columns
		return textOfDesk(d.First), list{first, second, third, fourth, fifth}
	}},
	{"swap", func(d *desk, n list, text string) (string, list) {
		*d = desk{First: d.Second, Second: d.First}
		return textOfDesk(d.First), nil
	}},
	{"keep", func(d *desk, n list, text string) (string, list) {
		*d = desk{First: d.First, Second: d.First}
		return textOfDesk(d.Second), nil
	}},
	{"reset", func(d *desk, n list, text string) (string, list) {
		*d = desk{First: four(), Second: four()}
		return "ok", nil
	}},
	{"show", func(d *desk, n list, text string) (string, list) { return textOfDesk(d.First), nil }},
	{"look", func(d *desk, n list, text string) (string, list) { return textOfDesk(d.Second), nil }},
	{"square", func(d *desk, n list, text string) (string, list) {
		x, first := impl.SquareOfSchedules(d.First, d.Second)
		output, second := impl.SquareText(x)
		return output, list{first, second}
	}},
	{"missing", func(d *desk, n list, text string) (string, list) {
		pairs, code := impl.MissingPairs(d.First)
		return strings.ReplaceAll(strings.ReplaceAll(writtenLists(pairs), " ", "-"), ";", " "), list{code}
	}},
	{"starters N", func(d *desk, n list, text string) (string, list) {
		all, strong, skew, code := impl.CountStarters(n[0])
		return fmt.Sprintf("%d %d %d", all, strong, skew), list{code}
	}},
	{"golf N N N", func(d *desk, n list, text string) (string, list) {
		x, code := impl.FirstGolf(n[0], n[1], n[2])
		return writtenLists(x.Rounds), list{code}
	}},
	{"parts N N", func(d *desk, n list, text string) (string, list) {
		r, q, ok := twoOf(d.First, n)
		out, code := impl.ComponentsOf(d.First.Teams, r, q)
		return writtenLists(out), list{ok, code}
	}},
	{"chain N N N", func(d *desk, n list, text string) (string, list) {
		r, q, ok := twoOf(d.First, n)
		out, code := impl.ChainFrom(d.First.Teams, r, q, n[2])
		return writtenList(out), list{ok, code}
	}},
}

// lookRules are those of lines whose output is a result written down.
var lookRules = []struct {
	pattern string
	looks   func(d desk, n list) (any, int64)
}{
	{"free N", func(d desk, n list) (any, int64) { return boxed(impl.FreeTeams(d.First, n[0])) }},
	{"robin", func(d desk, n list) (any, int64) { return boxed(impl.IsRoundRobin(d.First)) }},
	{"perfect", func(d desk, n list) (any, int64) { return boxed(impl.IsPerfect(d.First)) }},
	{"types", func(d desk, n list) (any, int64) { return boxed(impl.TypesOf(d.First)) }},
	{"same", func(d desk, n list) (any, int64) { return boxed(impl.FindRenumbering(d.First, d.Second)) }},
	{"count", func(d desk, n list) (any, int64) { return boxed(impl.CountAutomorphisms(d.First)) }},
	{"robins N", func(d desk, n list) (any, int64) { return boxed(impl.CountRobins(n[0])) }},
	{"breaks", func(d desk, n list) (any, int64) { return boxed(impl.FewestBreaks(d.First)) }},
	{"base N", func(d desk, n list) (any, int64) { return boxed(impl.FirstBase(n[0])) }},
	{"cost", func(d desk, n list) (any, int64) { return boxed(impl.CarryCost(d.First)) }},
	{"leaders", func(d desk, n list) (any, int64) { return boxed(impl.FirstTeams(d.First, nil)) }},
}

// boxed returns a result as any value, and its code.
func boxed[result any](x result, code int64) (any, int64) { return x, code }

// allRules returns the rules of all lines.
func allRules() []rule {
	all := append([]rule{}, deskRules...)
	for _, r := range firstRules {
		all = append(all, rule{r.pattern, func(d *desk, n list, text string) (string, list) {
			s, codes := r.becomes(*d, n, text)
			d.First = s
			return textOfDesk(s), codes
		}})
	}
	for _, r := range lookRules {
		all = append(all, rule{r.pattern, func(d *desk, n list, text string) (string, list) {
			x, code := r.looks(*d, n)
			return written(x), list{code}
		}})
	}
	return all
}

// twoOf returns the two rounds of a schedule that the first two numbers tell, and a code for them.
func twoOf(s impl.Schedule, n list) (round, round, int64) {
	k := int64(len(s.Rounds))
	if n[0] >= k || n[1] >= k {
		return round{}, round{}, impl.ErrRange
	}
	return s.Rounds[n[0]], s.Rounds[n[1]], impl.ErrNone
}

// textOfDesk writes a schedule of a desk.
func textOfDesk(s impl.Schedule) string {
	var rounds []string
	for _, r := range s.Rounds {
		var pairs []string
		for a := range int64(14) {
			if a < r[a] {
				pairs = append(pairs, fmt.Sprintf("%d-%d", a, r[a]))
			}
		}
		rounds = append(rounds, strings.Join(pairs, ","))
	}
	return fmt.Sprintf("%d:%s", s.Teams, strings.Join(rounds, ";"))
}

// written writes a result.
func written(x any) string {
	switch own := x.(type) {
	case bool:
		return map[bool]string{true: "yes", false: "no"}[own]
	case []int64:
		return writtenList(own)
	case [][]int64:
		return writtenLists(own)
	}
	return fmt.Sprint(x)
}

func writtenList(numbers list) string {
	if len(numbers) == 0 {
		return "none"
	}
	return strings.Trim(fmt.Sprint(numbers), "[]")
}

func writtenLists(all lists) string {
	if len(all) == 0 {
		return "none"
	}
	return strings.ReplaceAll(strings.Trim(fmt.Sprint(all), "[]"), "] [", ";")
}

// lineAsTold returns the desk after a line, and its output.
func lineAsTold(d desk, line string) (desk, string) {
	for _, r := range allRules() {
		n, text, ok := r.matches(line)
		if !ok {
			continue
		}
		after := d
		output, codes := r.does(&after, n, text)
		if strings.Trim(fmt.Sprint(codes), "[0 ]") != "" {
			return d, "error"
		}
		return after, output
	}
	return d, "error"
}

// checkLine fails if a line does not do what it should, and returns the output that it should have.
func checkLine(t *testing.T, d desk, line string) string {
	t.Helper()
	want, output := lineAsTold(d, line)
	c := runLine(d, line)
	checkResults(t, c, want, output)
	if !impl.IsDesk(want) {
		t.Errorf("%s: no desk", c.name)
	}
	if output == "error" && show(want) != show(d) {
		t.Errorf("%s: an error, and another desk", c.name)
	}
	return output
}

// word returns a word for a sign of a pattern, mostly one that goes with the first schedule of a desk.
func (d *dice) word(sign string, on desk) string {
	rounds := int64(len(on.First.Rounds))
	switch sign {
	case "N":
		return show(d.below([]int64{2, 4, 6, 10, rounds + 1, 16}[d.below(6)]))
	case "L":
		numbers := d.shuffled([]int64{on.First.Teams, rounds, rounds, 3}[d.below(4)])
		return strings.Trim(fmt.Sprint(numbers), "[]")
	case "T":
		return textOfDesk(d.schedule(2+d.below(9), d.below(6)))
	}
	return sign
}

// lineOf returns some line of a pattern, of which one in twelve has a word too many, or lacks one.
func (d *dice) lineOf(pattern string, on desk) string {
	var words []string
	for _, sign := range strings.Split(pattern, " ") {
		if word := d.word(sign, on); word != "" {
			words = append(words, word)
		}
	}
	switch d.below(24) {
	case 0:
		words = words[:len(words)-1]
	case 1:
		words = append(words, []string{"", "0", "1", "x"}[d.below(4)])
	}
	return strings.Join(words, " ")
}

// line returns some line.
func (d *dice) line(on desk) string {
	all := allRules()
	return d.lineOf(all[d.below(int64(len(all)))].pattern, on)
}

// desk returns some desk, with equal schedules at times.
func (d *dice) desk() desk {
	first := d.schedule(2+d.below(13), d.below(8))
	if d.below(3) > 0 {
		first, _ = impl.CircleOf(2 + d.below(9))
	}
	second := d.schedule(first.Teams, int64(len(first.Rounds)))
	switch d.below(3) {
	case 0:
		p := d.shuffled(first.Teams)
		second, _ = impl.RenumberTeams(first, p)
	case 1:
		second = d.schedule(2+d.below(13), d.below(8))
	}
	return desk{First: first, Second: second}
}

// Promise 11: lines lead from desks to desks, by the words of the document.
func TestPromise11Lines(t *testing.T) {
	d := dice(111)
	right, wrong := map[string]int{}, map[string]int{}
	for _, r := range allRules() {
		for range 300 {
			on := d.desk()
			if checkLine(t, on, d.lineOf(r.pattern, on)) == "error" {
				wrong[r.pattern]++
			} else {
				right[r.pattern]++
			}
		}
	}
	for _, r := range allRules() {
		if right[r.pattern] < 5 || wrong[r.pattern] < 3 {
			t.Errorf("%q: %d lines are right, %d wrong", r.pattern, right[r.pattern], wrong[r.pattern])
		}
	}
	if len(right) != 34 {
		t.Errorf("%d commands", len(right))
	}
}

// Promise 11 along walks: each desk is the one that the lines before left.
func TestPromise11Walks(t *testing.T) {
	d := dice(112)
	for range 60 {
		on := impl.NewDesk()
		for range 40 {
			line := d.line(on)
			checkLine(t, on, line)
			on, _ = impl.RunLine(on, line)
		}
	}
}

// Lines of which one byte is changed, taken out or put in are what the document tells, too.
func TestPromise11ChangedLines(t *testing.T) {
	const bytes = " 01239:-;,srx+\n\t\x00\xff"
	tried := map[string]bool{}
	everyTold(t, func(before desk, line string, after desk, output string) {
		checkLine(t, before, line)
		if tried[line] || len(line) > 40 {
			return
		}
		tried[line] = true
		for i := range line {
			checkLine(t, before, line[:i]+line[i+1:])
			for k := range bytes {
				checkLine(t, before, line[:i]+bytes[k:k+1]+line[i:])
				checkLine(t, before, line[:i]+bytes[k:k+1]+line[i+1:])
			}
		}
	})
}

// checkJoined fails if the console does not join the outputs of the lines of a text, or the desk after
// them is another one.
func checkJoined(t *testing.T, lines []string, text string) {
	t.Helper()
	on, outputs := desk{First: four(), Second: four()}, ""
	for _, line := range lines {
		if line == "" {
			continue
		}
		after, output := lineAsTold(on, line)
		on = after
		outputs += output + "\n"
	}
	checkResults(t, console(text), outputs)
	checkResults(t, deskAfter(text), on, true)
}

// Promise 11: the console joins the outputs of its lines.
func TestPromise11Console(t *testing.T) {
	d := dice(113)
	for range 150 {
		var lines []string
		on := impl.NewDesk()
		for range d.below(39) {
			line := d.line(on)
			if d.below(6) == 0 {
				line = []string{"", "", " ", "fly", "show ", "\x00", "\xff\xfe", "show\r", "\t"}[d.below(9)]
			}
			on, _ = lineAsTold(on, line)
			lines = append(lines, line)
		}
		text := strings.Join(lines, "\n")
		if len(text) > 3990 {
			continue
		}
		checkJoined(t, lines, text)
		checkJoined(t, lines, text+"\n")
		checkJoined(t, lines, "\n"+text)
	}
}

// checkLimits fails if the console does not take a text, or takes one that it should refuse.
func checkLimits(t *testing.T, text string, fits bool) {
	t.Helper()
	if fits {
		checkJoined(t, strings.Split(text, "\n"), text)
		return
	}
	checkResults(t, console(text), "")
	checkResults(t, deskAfter(text), desk{}, false)
}

// A text has at most 40 lines, empty ones included, the last one with a newline or without.
func TestPromise11MaxLines(t *testing.T) {
	for _, line := range []string{"", "show", "drop 0", "swap", "fly", " ", "\x00", "\r"} {
		for _, count := range []int{0, 1, 2, 10, 37, 38, 39, 40, 41, 42, 80} {
			text := strings.Repeat(line+"\n", count)
			checkLimits(t, text, count <= 40)
			checkLimits(t, text+"keep", count <= 39)
			checkLimits(t, "keep\n"+text, count <= 39)
			checkLimits(t, text+"\nkeep", count <= 38)
			checkLimits(t, text+"\n", count <= 39)
		}
	}
	checkLimits(t, "", true)
	checkLimits(t, strings.Repeat("\n", 40), true)
	checkLimits(t, strings.Repeat("\n", 41), false)
	checkLimits(t, strings.Repeat("\n", 39)+"circle 5", true)
	checkLimits(t, strings.Repeat("\n", 40)+"circle 5", false)
	checkLimits(t, "circle 5"+strings.Repeat("\n", 40), true)
	checkLimits(t, "circle 5"+strings.Repeat("\n", 41), false)
	// Other bytes at which texts may be broken do not end lines.
	for _, other := range []string{"\r", "\x00", "\v", "\f", "\u2028", "\u0085", ";"} {
		checkLimits(t, strings.Repeat("show"+other, 100), true)
	}
}

// A text has at most 4000 bytes, not letters.
func TestPromise11MaxBytes(t *testing.T) {
	for size := 3990; size <= 4010; size++ {
		for _, text := range []string{
			strings.Repeat("x", size), strings.Repeat(" ", size), strings.Repeat("\x00", size), strings.Repeat("\xff", size), "keep" + strings.Repeat(" ", size-9) + "\nswap",
			"circle 5\n" + strings.Repeat("y", size-14) + "\njoin", "circle 5\n" + strings.Repeat("z", size-10) + "\n", "schedule 2:0-1\nkeep\nrenumber" + strings.Repeat(" 1", (size-28)/2) + strings.Repeat("\n", size%2),
		} {
			if len(text) != size {
				t.Fatalf("%d bytes for %d", len(text), size)
			}
			checkLimits(t, text, size <= 4000)
		}
	}
	for letter, count := range map[string]int{"é": 2000, "€": 1333, "😀": 1000} {
		checkLimits(t, strings.Repeat(letter, count), true)
		checkLimits(t, strings.Repeat(letter, count+1), false)
	}
	checkLimits(t, strings.Repeat("\n", 4000), false)
	checkLimits(t, strings.Repeat("show\n", 800), false)
	checkLimits(t, strings.Repeat("show\n", 3000000), false)
}

// The guarantee over texts cut in two: the second part goes on where the first one ends.
func TestPromise11CutTexts(t *testing.T) {
	d := dice(114)
	for range 40 {
		var lines []string
		on := impl.NewDesk()
		for range 20 {
			line := d.line(on)
			on, _ = lineAsTold(on, line)
			lines = append(lines, line)
		}
		for i := range lines {
			before, fits := impl.DeskAfter(strings.Join(lines[:i], "\n"))
			after, output := impl.RunLine(before, lines[i])
			joined := impl.Console(strings.Join(lines[:i], "\n"))
			checkResults(t, deskAfter(strings.Join(lines[:i+1], "\n")), after, fits)
			if lines[i] != "" {
				joined += output + "\n"
			}
			checkResults(t, console(strings.Join(lines[:i+1], "\n")), joined)
		}
	}
}

// Calls at the same time do not disturb each other.
func TestConsoleAtTheSameTime(t *testing.T) {
	texts := []string{"circle 8\ncount\nbreaks\nkeep\nrenumber 1 0 2 3 4 5 6 7\nsame", "room 7\nsquare\nleaders\nswap\ncost", "golf 9 3 4\nfly\nbase 8\npartners 8\nperfect", "circle 6\nbreaks\ndrop 0\nnext\nleaders\nshow "}
	want := make([]string, len(texts))
	for i, text := range texts {
		want[i] = show(console(text).run()) + show(deskAfter(text).run())
	}
	var all sync.WaitGroup
	for k := range 32 {
		all.Add(1)
		go func() {
			defer all.Done()
			i := k % len(texts)
			if got := show(console(texts[i]).run()) + show(deskAfter(texts[i]).run()); got != want[i] {
				t.Errorf("Console(%q): %s, want %s", texts[i], got, want[i])
			}
		}()
	}
	all.Wait()
}
