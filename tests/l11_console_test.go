package tests

import (
	"slices"
	"strings"
	"testing"

	"loop.example/g01379/impl"
)

type desk = impl.Desk

// put returns the desk that is written as the texts of both schedules with "|" between them. A number
// without ":" stands for a schedule of so many teams without rounds.
func put(t *testing.T, text string) desk {
	t.Helper()
	first, second, _ := strings.Cut(text, "|")
	return desk{First: putSchedule(t, first), Second: putSchedule(t, second)}
}

func putSchedule(t *testing.T, text string) impl.Schedule {
	t.Helper()
	if !strings.Contains(text, ":") {
		text += ":"
		s := parsed(t, text)
		s.Rounds = nil
		return s
	}
	return parsed(t, text)
}

// Some schedules that the tables below need more than once.
const (
	six3       = "6:0-1,2-3,4-5;0-2,1-3;0-5"
	bipart6    = "6:0-3,1-4,2-5;0-4,1-5,2-3;0-5,1-3,2-4"
	games15    = "6:0-1,2-3,4-5;0-2,1-4,3-5;0-3,1-5,2-4;0-4,1-3,2-5;0-5,1-2,3-4"
	rowsOf7    = "8:0-7,1-3,2-6,4-5;0-3,1-7,2-4,5-6;0-6,1-4,2-7,3-5;0-1,2-5,3-7,4-6;0-5,1-2,3-6,4-7;0-4,1-6,2-3,5-7;0-2,1-5,3-4,6-7"
	columnsOf7 = "8:0-7,1-5,2-3,4-6;0-5,1-7,2-6,3-4;0-3,1-6,2-7,4-5;0-2,1-4,3-7,5-6;0-6,1-3,2-5,4-7;0-1,2-4,3-6,5-7;0-4,1-2,3-5,6-7"
)

// linesThatChange have a desk, a line, and the desk and the output after it.
var linesThatChange = []struct{ before, line, after, output string }{
	{"4:0-1|3:1-2", "circle 5", circle5 + "|3:1-2", circle5}, {"4|3:1-2", "circle 2", "2:0-1|3:1-2", "2:0-1"}, {"2|14", "circle 4", circle4 + "|14", circle4},
	{"2:0-1|3", "schedule 4:0-1,2-3;0-2", "4:0-1,2-3;0-2|3", "4:0-1,2-3;0-2"}, {"2|3", "schedule 14:", "14:|3", "14:"}, {"2|3", "schedule 3:;0-2;", "3:;0-2;|3", "3:;0-2;"},
	{"4:0-1;2-3;0-2|3:1-2", "drop 1", "4:0-1;0-2|3:1-2", "4:0-1;0-2"}, {"4:0-1;2-3;0-2|3", "drop 2", "4:0-1;2-3|3", "4:0-1;2-3"}, {"4:0-1|3:1-2", "drop 0", "4|3:1-2", "4:"},
	{"4:0-1,2-3;0-2|3:1-2", "renumber 1 2 3 0", "4:0-3,1-2;1-3|3:1-2", "4:0-3,1-2;1-3"}, {"3|3:1-2", "renumber 1 2 0", "3|3:1-2", "3:"}, {"2:0-1|2", "renumber 1 0", "2:0-1|2", "2:0-1"},
	{"14:0-13|2", "renumber 13 12 11 10 9 8 7 6 5 4 3 2 0 1", "14:1-13|2", "14:1-13"},
	{"4:0-1;0-2;0-3|3:1-2", "reorder 2 0 1", "4:0-3;0-1;0-2|3:1-2", "4:0-3;0-1;0-2"}, {"2:0-1|3", "reorder 0", "2:0-1|3", "2:0-1"}, {"4|3:1-2", "reorder", "4|3:1-2", "4:"},
	{"3:0-1;|3:1-2", "join", "3:0-1;;1-2|3:1-2", "3:0-1;;1-2"}, {"3|3", "join", "3|3", "3:"}, {"3|3:;", "join", "3:;|3:;", "3:;"}, {"3:0-2|3", "join", "3:0-2|3", "3:0-2"},
	{"6:0-1,2-3,4-5;0-2,1-4,3-5|2", "complete", games15 + "|2", games15}, {"4|2", "complete", "4:0-1,2-3;0-2,1-3;0-3,1-2|2", "4:0-1,2-3;0-2,1-3;0-3,1-2"}, {"2:0-1|3", "complete", "2:0-1|3", "2:0-1"},
	{"2|3", "patterned 3", circle4 + "|3", circle4}, {"2|2", "patterned 5", "6:0-5,1-4,2-3;0-2,1-5,3-4;0-4,1-3,2-5;0-1,2-4,3-5;0-3,1-2,4-5|2", "6:0-5,1-4,2-3;0-2,1-5,3-4;0-4,1-3,2-5;0-1,2-4,3-5;0-3,1-2,4-5"},
	{"2|3:1-2", "strong 7", rowsOf7 + "|3:1-2", rowsOf7}, {"2|3:1-2", "room 7", rowsOf7 + "|" + columnsOf7, rowsOf7},
	{"2|3", "partners 4", "4:0-1,2-3;0-3,1-2;0-2,1-3|3", "4:0-1,2-3;0-3,1-2;0-2,1-3"}, {"2|3", "partners 5", "5:0-1,2-4;0-3,1-2;1-4,2-3;0-2,3-4;0-4,1-3|3", "5:0-1,2-4;0-3,1-2;1-4,2-3;0-2,3-4;0-4,1-3"},
	{"4|3", "next", "4:0-1,2-3|3", "4:0-1,2-3"}, {"6:0-1,2-3,4-5;0-2|3", "next", "6:0-1,2-3,4-5;0-2;0-3,1-4,2-5|3", "6:0-1,2-3,4-5;0-2;0-3,1-4,2-5"}, {"2:;|3", "next", "2:;;0-1|3", "2:;;0-1"},
	{"4:0-1|3:1-2", "swap", "3:1-2|4:0-1", "3:1-2"}, {"4|2:", "swap", "2:|4", "2:"}, {"2:|4", "swap", "4|2:", "4:"},
	{"4:0-1|3:1-2", "keep", "4:0-1|4:0-1", "4:0-1"}, {"4|3:1-2", "keep", "4|4", "4:"}, {"14:;|3", "keep", "14:;|14:;", "14:;"},
	{"4:0-1|3", "reset", circle4 + "|" + circle4, "ok"}, {"14|14", "reset", circle4 + "|" + circle4, "ok"},
}

// linesThatLook have a desk, a line, and the output after it, while the desk stays what it is.
var linesThatLook = []struct{ before, line, output string }{
	{"4:0-1;2-3|3:1-2", "show", "4:0-1;2-3"}, {"4|3:1-2", "show", "4:"}, {"4:|14:;;", "show", "4:"}, {"14:;;|2", "show", "14:;;"},
	{"4:0-1|3:1-2;0-1", "look", "3:1-2;0-1"}, {"4|14", "look", "14:"}, {"4:|14:;;", "look", "14:;;"},
	{"4:0-1;0-2|2", "missing", "0-3 1-2 1-3 2-3"}, {"2:|2:0-1", "missing", "0-1"}, {"2|2:0-1", "missing", "0-1"}, {"2:0-1|2", "missing", "none"}, {circle5 + "|2", "missing", "none"},
	{"14:1-12,3-11|2", "missing", strings.Join(missingOf14(), " ")},
	{"5:0-1,2-3;|2", "free 0", "4"}, {"5:0-1,2-3;|2", "free 1", "0 1 2 3 4"}, {"4:0-1,2-3|2:", "free 0", "none"}, {"14:0-1,2-3,4-5,6-7,8-9|2", "free 0", "10 11 12 13"},
	{"4:0-1|3:1-2;0-2;0-1", "robin", "no"}, {"3:1-2;0-2;0-1|4:0-1", "robin", "yes"}, {"2|2:0-1", "robin", "no"},
	{six3 + "|2", "parts 0 1", "0 1 2 3;4 5"}, {six3 + "|2", "parts 1 0", "0 1 2 3;4 5"}, {six3 + "|2", "parts 1 2", "0 2 5;1 3;4"}, {six3 + "|2", "parts 2 2", "0 5;1;2;3;4"}, {"2:0-1|2", "parts 0 0", "0 1"},
	{six3 + "|2", "chain 0 1 2", "2 3 1 0"}, {six3 + "|2", "chain 1 0 2", "2 0 1 3"}, {six3 + "|2", "chain 2 0 5", "5 0 1"}, {six3 + "|2", "chain 2 0 1", "1"}, {six3 + "|2", "chain 2 2 5", "5 0"},
	{six3 + "|" + circle4, "perfect", "no"}, {circle4 + "|" + six3, "perfect", "yes"}, {"6:0-1|2", "perfect", "yes"}, {"6|2", "perfect", "yes"},
	{six3 + "|2", "types", "4 2;4 2;3 2 1"}, {circle4 + "|2", "types", "4;4;4"}, {"6:0-1|" + circle4, "types", "none"}, {"6|2", "types", "none"}, {"2:;|2", "types", "1 1"},
	{"4:0-1;0-2|4:1-3;2-3", "same", "3 1 2 0"}, {"4:0-1;0-2;0-1|4:1-3;1-2;1-2", "same", "1 2 3 0"}, {"4:1-3;1-2;1-2|4:0-1;0-2;0-1", "same", "3 0 1 2"}, {circle4 + "|" + circle4, "same", "0 1 2 3"}, {"3|3", "same", "0 1 2"},
	{"4:0-1;0-2|2", "count", "2"}, {circle4 + "|2", "count", "24"}, {"8|14", "count", "40320"}, {"2|" + circle4, "count", "2"},
	{"2|2", "robins 2", "1"}, {"2|2", "robins 3", "1"}, {"2|2", "robins 4", "1"}, {"2|2", "robins 5", "6"}, {"2|2", "robins 6", "6"},
	{"2|2", "starters 3", "1 0 0"}, {"2|2", "starters 7", "3 2 2"}, {"2|2", "starters 13", "133 8 8"},
	{"2:0-1|2:0-1", "square", "1:0-1"}, {"4:0-1;0-2;0-3|4:2-3;0-3;0-1", "square", "3:.,.,0-1;.,.,.;.,0-3,."}, {"4:2-3;0-3;0-1|4:0-1;0-2;0-3", "square", "3:.,.,.;.,.,0-3;0-1,.,."},
	{rowsOf7 + "|" + columnsOf7, "square", room7},
	{"4:0-1;0-2;0-1|2", "breaks", "0"}, {circle4 + "|4:0-1", "breaks", "2"}, {games15 + "|2", "breaks", "4"}, {"3|2", "breaks", "0"},
	{"2|2", "base 4", "0 1 2 3"}, {"2|2", "base 5", "0 1 2 4"}, {"2|2", "base 8", "0 1 2 4 3 6 5 7"},
	{"2|2", "golf 9 3 4", "0 1 2 3 4 5 6 7 8;0 3 6 1 4 7 2 5 8;0 4 8 1 5 6 2 3 7;0 5 7 1 3 8 2 4 6"}, {"2|2", "golf 6 3 1", "0 1 2 3 4 5"}, {"2|2", "golf 2 2 1", "0 1"},
	{"2|2", "golf 6 3 0", "none"}, {"2|2", "golf 9 9 0", "none"},
	{circle4 + "|2", "cost", "12"}, {"2:0-1|" + circle4, "cost", "2"}, {"8:0-7,1-6,2-5,3-4;0-2,1-7,3-6,4-5;0-4,1-3,2-7,5-6;0-6,1-5,2-4,3-7;0-1,2-6,3-5,4-7;0-3,1-2,4-6,5-7;0-5,1-4,2-3,6-7|2", "cost", "196"},
	{"4:0-1;0-2;0-3|2", "leaders", "0 1 2 3"}, {"6:2-3;2-4;2-5|2", "leaders", "2 3 4 5"}, {"3|2:0-1", "leaders", "0 1 2"},
}

// missingOf14 returns the pairs of 14 teams but 1, 12 and 3, 11.
func missingOf14() []string {
	var out []string
	for a := range int64(14) {
		for b := a + 1; b < 14; b++ {
			if pair := show(a) + "-" + show(b); pair != "1-12" && pair != "3-11" {
				out = append(out, pair)
			}
		}
	}
	return out
}

// everyTold calls check with each line of both tables, the desks before and after it, and its output.
func everyTold(t *testing.T, check func(before desk, line string, after desk, output string)) {
	t.Helper()
	for _, c := range linesThatChange {
		check(put(t, c.before), c.line, put(t, c.after), c.output)
	}
	for _, c := range linesThatLook {
		check(put(t, c.before), c.line, put(t, c.before), c.output)
	}
}

// checkWrong fails if a line on a desk has another output than error, or changes the desk.
func checkWrong(t *testing.T, d desk, line string) {
	t.Helper()
	checkResults(t, runLine(d, line), d, "error")
}

func TestConstantsOfConsole(t *testing.T) {
	if impl.MaxConsole != 4000 || impl.MaxLines != 40 {
		t.Error(impl.MaxConsole, impl.MaxLines)
	}
}

func TestNewDesk(t *testing.T) {
	checkResults(t, newDesk(), desk{First: four(), Second: four()})
	checkResults(t, newDesk(), put(t, circle4+"|"+circle4))
	checkResults(t, isDesk(impl.NewDesk()), true)
}

func TestToldLines(t *testing.T) {
	var told []string
	everyTold(t, func(before desk, line string, after desk, output string) {
		checkResults(t, runLine(before, line), after, output)
		told = append(told, strings.Split(line, " ")[0])
	})
	slices.Sort(told)
	if all := slices.Compact(told); len(all) != 34 {
		t.Errorf("%d commands are told: %v", len(all), all)
	}
}

// Each word of a line is needed, no other one may be there, even an empty one, and each is what it is.
func TestWordsOfLines(t *testing.T) {
	everyTold(t, func(before desk, line string, after desk, output string) {
		words := strings.Split(line, " ")
		for _, wrong := range []string{line + " 0", line + " 00", line + " x", line + " " + words[0], " " + line, line + " ", "  " + line, line + "  ", " " + line + " ", "\t" + line, line + "\n", line + "\r", line + "\x00", "0 " + line, line + " " + line} {
			checkWrong(t, before, wrong)
		}
		for i, word := range words {
			checkWrong(t, before, strings.Join(slices.Delete(slices.Clone(words), i, i+1), " "))
			checkWrong(t, before, strings.Join(slices.Insert(slices.Clone(words), i, ""), " "))
			for _, wrong := range []string{"", "x", "-1", "+" + word, "-" + word, "0" + word, "00" + word, word + ".", word + ".0", word + "_", word + "\t", word + "\xff", "\u00a0" + word, word + "x", "0x" + word, word + "e0", "\"" + word + "\""} {
				checkWrong(t, before, strings.Join(slices.Replace(slices.Clone(words), i, i+1, wrong), " "))
			}
		}
	})
}

// Words between which something else than a blank stands are one word.
func TestBlanksOfLines(t *testing.T) {
	for _, line := range []string{"golf 9 3 4", "circle 5", "parts 0 1", "chain 0 1 2", "renumber 1 0 3 2", "reorder 1 0 2", "free 0", "schedule 4:0-1"} {
		for _, other := range []string{"", "  ", "\t", "\n", "\r", "\x00", "\u00a0", "\u2003", ",", ";", " \t", "\t ", "+", "_"} {
			checkWrong(t, impl.NewDesk(), strings.Replace(line, " ", other, 1))
			checkWrong(t, impl.NewDesk(), strings.ReplaceAll(line, " ", other))
			last := strings.LastIndex(line, " ")
			checkWrong(t, impl.NewDesk(), line[:last]+other+line[last+1:])
		}
	}
}

func TestNoCommands(t *testing.T) {
	for _, line := range []string{
		"", " ", "  ", "   ", "\n", "\t", "\x00", "\xff", "\xff\xfe", "0", "4", "-", ":", "4:0-1", "error", "none", "ok", "yes", "no", "S", "T", "N", "help", "quit", "first", "second", "Desk",
		"Show", "SHOW", "sHow", "shows", "sho", "how", "show.", "show,look", "show;look", "show\nlook", "show\n", "\nshow", "show,", "show, look", "shоw", "ｓｈｏｗ", "\ufeffshow", "show\u200b",
		"Circle 5", "circle5", "circles 5", "circl 5", "5 circle", "resett", "rese", "text", "parse 4:0-1", "console", "orthogonal", "start 7", "starter 7", "part 0 1", "robin 4", "type",
	} {
		for _, d := range []desk{impl.NewDesk(), put(t, "3|14:;")} {
			checkWrong(t, d, line)
		}
	}
}

// Numbers have at most nine digits, none of them superfluous, and nothing else.
func TestNumbersOfLines(t *testing.T) {
	for _, word := range []string{
		"", "-", "+", "-0", "+0", "00", "000000000", "0000000000", "05", "005", "000000005", "0000000005", "+5", "-5", "--5", "5-", "5+", "5.", "5.0", "5,", "5,0", "5;", "5:", "5_", "_5", "1_0", "5e0", "5E0", "0x5", "0b101", "0o5", "5x", "x5", "five", "V",
		"5\t", "\t5", "5\r", "5\n", "\n5", "5\x00", "\x005", "\xff", "5\xff", "５", "5\u0660", "٥", "²", "5\u00a0", "\u00a05", "NaN", "nil",
		"100", "255", "65541", "999999999", "100000000", "100000005", "1000000000", "1000000005", "4294967301", "9999999999", "9223372036854775807", "9223372036854775808", "18446744073709551621", "-18446744073709551611", strings.Repeat("9", 100), strings.Repeat("0", 100) + "5", strings.Repeat("5", 100000),
	} {
		for _, line := range []string{"circle ?", "patterned ?", "robins ?", "base ?", "golf ? 3 1", "golf 6 ? 1", "golf 6 3 ?", "partners ?", "strong ?", "starters ?", "room ?", "free ?", "drop ?", "parts ? 1", "parts 1 ?", "chain ? 1 0", "chain 0 ? 1", "chain 0 1 ?", "renumber ? 1 2 3 4 0", "renumber 1 2 3 4 0 ?", "renumber ?", "reorder ?"} {
			checkWrong(t, put(t, "6:0-1;2-3;4-5;0-2;;1-3|2"), strings.Replace(line, "?", word, 1))
		}
	}
	// Zero is written 0, and numbers of two digits are numbers, too.
	d := put(t, "14:;;;;;;;;;;0-13;12-13|2")
	checkResults(t, runLine(d, "free 10"), d, "1 2 3 4 5 6 7 8 9 10 11 12")
	checkResults(t, runLine(d, "parts 10 11"), d, "0 12 13;1;2;3;4;5;6;7;8;9;10;11")
	checkResults(t, runLine(d, "chain 10 11 13"), d, "13 0")
	checkResults(t, runLine(d, "chain 11 10 12"), d, "12 13 0")
	for _, line := range []string{"free 00", "free -0", "free 010", "free 12", "drop 12", "parts 12 0", "parts 0 12", "chain 12 0 0", "chain 0 12 0", "chain 0 0 14"} {
		checkWrong(t, d, line)
	}
}

// The functions behind the commands return another code than ErrNone.
var refused = []struct {
	before string
	lines  []string
}{
	{"2|2", []string{"circle 0", "circle 1", "circle 15", "circle 999999999"}},
	{"2|2", []string{"schedule 4", "schedule :", "schedule 4:0", "schedule 4:0-4", "schedule 4:1-0", "schedule 4:0-1,0-2", "schedule 04:0-1", "schedule 1:", "schedule 15:", "schedule 4:0-1;;0", "schedule 2:" + strings.Repeat(";", 40), "schedule 4:0-1\n"}},
	{"4|2:;", []string{"drop 0", "drop 1"}}, {"4:0-1;2-3|2:;;;;", []string{"drop 2", "drop 3", "drop 999999999"}},
	{"3:0-1|4", []string{"renumber", "renumber 0", "renumber 0 1", "renumber 0 1 1", "renumber 1 2 3", "renumber 0 1 2 3", "renumber 0 1 2 2"}},
	{"3:0-1;0-2|3", []string{"reorder", "reorder 0", "reorder 1", "reorder 0 0", "reorder 1 2", "reorder 0 1 2", "reorder 0 1 1"}}, {"3|3:0-1", []string{"reorder 0"}},
	{"2:" + strings.Repeat(";", 39) + "|2", []string{"reorder" + strings.Repeat(" 0", 40), "reorder" + strings.Repeat(" 0", 41), "reorder" + strings.Repeat(" 0", 100)}},
	{"3|4", []string{"join"}}, {"14:0-1|13:0-1", []string{"join"}}, {"2:" + strings.Repeat(";", 39) + "|2:", []string{"join"}}, {"2:0-1;|2:" + strings.Repeat(";", 38), []string{"join"}},
	{"9|2", []string{"complete", "count", "same", "next"}}, {"10|2", []string{"complete", "count", "same"}}, {"2|10", []string{"same"}}, {"10|10", []string{"same"}}, {"3|4", []string{"complete", "next", "cost", "same"}}, {"4:0-1|4", []string{"complete"}}, {"4:0-1,2-3;0-1,2-3|4", []string{"complete"}},
	{bipart6 + "|2", []string{"complete", "next"}}, {"4:0-1,2-3;0-2,1-3;0-3,1-2|2", []string{"next"}}, {"2:0-1|2:", []string{"next"}}, {"2:" + strings.Repeat(";", 39) + "|2", []string{"next"}},
	{"2|2", []string{"patterned 0", "patterned 1", "patterned 2", "patterned 4", "patterned 12", "patterned 14", "patterned 15", "patterned 999999999"}},
	{"2|2", []string{"strong 0", "strong 1", "strong 3", "strong 5", "strong 9", "strong 8", "strong 15", "room 0", "room 1", "room 3", "room 5", "room 9", "room 8", "room 15"}},
	{"2|2", []string{"partners 0", "partners 3", "partners 6", "partners 7", "partners 9", "partners 12", "partners 13", "partners 16", "base 0", "base 3", "base 6", "base 9", "base 12", "base 16"}},
	{"4|4:;", []string{"free 0", "parts 0 0", "chain 0 0 0"}}, {six3 + "|6:;;;;;", []string{"free 3", "parts 0 3", "parts 3 0", "parts 3 3", "chain 0 3 0", "chain 3 0 0", "chain 0 0 6", "chain 0 1 999999999"}},
	{"4:0-1;0-2|4:1-3;", []string{"same"}}, {"4:0-1|4:0-1;0-1", []string{"same"}}, {"4:0-1|5:0-1", []string{"same"}},
	{"2|2", []string{"robins 0", "robins 1", "robins 7", "robins 999999999", "starters 0", "starters 1", "starters 2", "starters 4", "starters 14", "starters 15"}},
	{circle4 + "|" + circle4, []string{"square"}}, {circle4 + "|" + circle5, []string{"square"}}, {circle5 + "|" + circle5, []string{"square"}}, {"4:;|4:;;", []string{"square"}}, {"4:;;|4:;", []string{"square"}}, {"4:;;|4:;;;", []string{"square"}}, {"4|4", []string{"square"}}, {rowsOf7 + "|2:0-1", []string{"square"}},
	{"6:0-1,2-3,4-5;0-2,1-4,3-5;0-3,1-5,2-4;0-4,1-3,2-5;0-5,1-2,3-4;0-1|2", []string{"breaks"}}, {"2:0-1" + strings.Repeat(";0-1", 15) + "|2", []string{"breaks"}},
	{"2|2", []string{"golf 0 2 1", "golf 1 1 1", "golf 10 2 1", "golf 6 1 1", "golf 6 0 1", "golf 6 4 1", "golf 6 12 1", "golf 6 3 8", "golf 6 3 2", "golf 9 3 5", "golf 8 4 2", "golf 7 2 1"}},
	{"4:0-1|" + circle4, []string{"cost"}}, {circle5 + "|" + circle4, []string{"cost"}}, {"2|2:0-1", []string{"cost"}}, {twice4 + "|2", []string{"cost"}},
}

func TestRefusedLines(t *testing.T) {
	for _, c := range refused {
		d := put(t, c.before)
		for _, line := range c.lines {
			checkWrong(t, d, line)
		}
	}
	// At the limits they are not refused.
	checkResults(t, runLine(put(t, "2:"+strings.Repeat(";", 38)+"|2:0-1"), "join"), put(t, "2:"+strings.Repeat(";", 39)+"0-1|2:0-1"), "2:"+strings.Repeat(";", 39)+"0-1")
	checkResults(t, runLine(put(t, "2:"+strings.Repeat(";", 38)+"|3"), "next"), put(t, "2:"+strings.Repeat(";", 39)+"0-1|3"), "2:"+strings.Repeat(";", 39)+"0-1")
	d := put(t, "2:0-1"+strings.Repeat(";0-1", 14)+"|3")
	checkResults(t, runLine(d, "breaks"), d, "0")
	all := "reorder 39"
	for i := range int64(39) {
		all += " " + show(i)
	}
	checkResults(t, runLine(put(t, "2:"+strings.Repeat(";", 39)+"0-1|3"), all), put(t, "2:0-1"+strings.Repeat(";", 39)+"|3"), "2:0-1"+strings.Repeat(";", 39))
}

// A schedule without rounds is put out, and read again as the one with a round without pairs.
func TestScheduleWithoutRoundsPutOut(t *testing.T) {
	for n := int64(2); n <= 14; n++ {
		text := show(n) + ":"
		d := desk{First: impl.Schedule{Teams: n}, Second: four()}
		checkResults(t, runLine(d, "show"), d, text)
		checkResults(t, runLine(d, "reorder"), d, text)
		checkResults(t, runLine(d, "schedule "+text), desk{First: many(n, 1), Second: four()}, text)
		checkResults(t, runLine(desk{First: many(n, 1), Second: four()}, "drop 0"), d, text)
		checkResults(t, runLine(d, "swap"), desk{First: four(), Second: d.First}, circle4)
		checkResults(t, runLine(d, "keep"), desk{First: d.First, Second: d.First}, text)
		checkResults(t, runLine(desk{First: four(), Second: d.First}, "look"), desk{First: four(), Second: d.First}, text)
	}
}

// Where one of the schedules is none, there is no desk, whatever the line is.
func TestNoDesks(t *testing.T) {
	lines := []string{"show", "look", "reset", "circle 5", "swap", "robins 4", "golf 6 3 1", "", " ", "none", "circle", "circle 15", "show ", "\xff"}
	for _, s := range wrongSchedules() {
		for _, d := range []desk{{First: s, Second: four()}, {First: four(), Second: s}, {First: s, Second: s}, {First: s}, {Second: s}} {
			checkResults(t, isDesk(d), false)
			for _, line := range lines {
				checkResults(t, runLine(d, line), desk{}, "")
			}
		}
	}
	for _, d := range []desk{{}, {First: four()}, {Second: four()}} {
		checkResults(t, isDesk(d), false)
		checkResults(t, runLine(d, "reset"), desk{}, "")
	}
	for _, d := range []desk{put(t, "2|14"), put(t, "14|2:"), {First: many(14, 40), Second: many(2, 40)}} {
		checkResults(t, isDesk(d), true)
		checkResults(t, runLine(d, "robins 4"), d, "1")
	}
}

// Long lines are wrong, and need no long time.
func TestMuchOfLines(t *testing.T) {
	for _, line := range []string{
		strings.Repeat(" ", 10000000), "renumber" + strings.Repeat(" 0", 5000000), "reorder" + strings.Repeat(" ", 10000000), "schedule " + strings.Repeat("4", 10000000), "circle " + strings.Repeat("0", 10000000), strings.Repeat("x", 10000000), strings.Repeat("show ", 1000000),
	} {
		if after, output := impl.RunLine(impl.NewDesk(), line); output != "error" || show(after) != show(impl.NewDesk()) {
			t.Errorf("RunLine of a long line that begins with %q: %q", line[:9], output)
		}
	}
}
