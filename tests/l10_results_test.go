package tests

import (
	"math"
	"slices"
	"strings"
	"testing"

	"loop.example/g01379/impl"
)

// played returns the results that are written as a digit for each pair, with ";" behind each round.
func played(text string) lists {
	x := lists{}
	for row := range strings.SplitSeq(text, ";") {
		x = append(x, digitsOf(row))
	}
	return x[:len(x)-1]
}

// The circle of 4 has all meetings once, and twice each has two of them twice.
const (
	circle4 = "4:0-3,1-2;0-2,1-3;0-1,2-3"
	twice4  = "4:0-3,1-2;0-2,1-3;0-1,2-3;0-1,2-3"
	circle5 = "5:1-4,2-3;0-2,3-4;0-4,1-3;0-1,2-4;0-3,1-2"
)

// toldResults are results, and what chapter 10 tells of them.
var toldResults = []struct {
	text, results string
	points        list
	second, third list
	ranking       string
	first         string
}{
	// Of no round, of some, and of all.
	{circle4, "", list{0, 0, 0, 0}, list{0, 0, 0, 0}, list{0, 0, 0, 0}, "0123", "0123"},
	{circle4, "11;", list{2, 2, 0, 0}, list{0, 0, 2, 2}, list{0, 0, 0, 0}, "0123", "0123"},
	{circle4, "11;10;", list{4, 3, 0, 1}, list{1, 1, 7, 7}, list{2, 1, 0, 3}, "0132", "01"},
	{circle4, "11;10;20;", list{4, 5, 1, 2}, list{8, 7, 11, 10}, list{6, 12, 2, 6}, "1032", "1"},
	// The same teams twice: won twice, won and lost, and won and drawn.
	{"2:0-1;0-1", "1;1;", list{4, 0}, list{0, 8}, list{0, 0}, "01", "0"},
	{"2:0-1;0-1", "1;2;", list{2, 2}, list{4, 4}, list{4, 4}, "01", "01"},
	{"2:0-1;0-1", "1;0;", list{3, 1}, list{2, 6}, list{3, 3}, "01", "0"},
	{"2:0-1;0-1", "2;0;", list{1, 3}, list{6, 2}, list{3, 3}, "10", "1"},
	// The last one can come level, but not with one round too few.
	{"2:0-1;0-1", "1;", list{2, 0}, list{0, 2}, list{0, 0}, "01", "01"},
	{"2:0-1;0-1;0-1", "1;1;", list{4, 0}, list{0, 8}, list{0, 0}, "01", "0"},
	{"2:0-1;0-1;0-1;0-1", "1;1;", list{4, 0}, list{0, 8}, list{0, 0}, "01", "01"},
	{"2:0-1", "2;", list{0, 2}, list{2, 0}, list{0, 0}, "10", "1"},
	{"2:0-1", "0;", list{1, 1}, list{1, 1}, list{1, 1}, "01", "01"},
	// Rounds without pairs, and teams that are free.
	{"2:;", "", list{0, 0}, list{0, 0}, list{0, 0}, "01", "01"},
	{"2:;", ";", list{0, 0}, list{0, 0}, list{0, 0}, "01", "01"},
	{"2:;", ";;", list{0, 0}, list{0, 0}, list{0, 0}, "01", "01"},
	{"3:0-1;;0-1;1-2", "1;;0;", list{3, 1, 0}, list{2, 6, 0}, list{3, 3, 0}, "012", "01"},
	{"3:1-2;0-2;0-1", "2;1;", list{2, 0, 2}, list{2, 2, 2}, list{4, 0, 0}, "021", "012"},
	{"3:1-2;0-2;0-1", "1;2;1;", list{2, 2, 2}, list{4, 4, 4}, list{4, 4, 4}, "012", "012"},
	// Ranked by second numbers, though own and third numbers are in the other order; and by third ones.
	{twice4, "20;21;12;21;", list{2, 5, 5, 4}, list{19, 13, 15, 17}, list{10, 17, 17, 14}, "2130", "12"},
	{twice4, "22;10;02;12;", list{5, 2, 2, 7}, list{13, 19, 21, 11}, list{10, 12, 4, 20}, "3021", "3"},
	{twice4, "11;22;11;", list{4, 2, 4, 2}, list{8, 10, 8, 10}, list{8, 8, 12, 4}, "2013", "0123"},
	{circle4, "21;11;", list{2, 4, 0, 2}, list{2, 2, 6, 6}, list{0, 4, 0, 4}, "1302", "013"},
	{circle5, "12;12;22;20;10;", list{4, 5, 2, 4, 5}, list{16, 15, 18, 16, 15}, list{12, 20, 10, 14, 18}, "14302", "14"},
	{circle5, "22;", list{0, 0, 0, 2, 2}, list{0, 2, 2, 0, 0}, list{0, 0, 0, 0, 0}, "34120", "01234"},
	// A draw of the others keeps the teams 0 and 3 first.
	{"4:0-3;1-2", "0;", list{1, 0, 0, 1}, list{1, 0, 0, 1}, list{1, 0, 0, 1}, "0312", "0123"},
	{"4:0-3;1-2;1-2", "0;", list{1, 0, 0, 1}, list{1, 0, 0, 1}, list{1, 0, 0, 1}, "0312", "12"},
	// Three others have six points to share out, but 3 allows for only five, though for those of any two.
	{"6:2-4,3-5;0-1;0-2;1-2", "01;", list{0, 0, 1, 2, 1, 0}, list{0, 0, 1, 0, 1, 2}, list{0, 0, 1, 0, 1, 0}, "324501", "012"},
	{"6:2-4,3-5;0-1;0-2;1-2", "21;", list{0, 0, 0, 2, 2, 0}, list{0, 0, 2, 0, 0, 2}, list{0, 0, 0, 0, 0, 0}, "342501", "01234"},
	// Teams that do not play any more cannot be first, without a result so far.
	{"6:2-3;2-4;2-5", "", list{0, 0, 0, 0, 0, 0}, list{0, 0, 0, 0, 0, 0}, list{0, 0, 0, 0, 0, 0}, "012345", "2345"},
	{"4:0-1;0-2;0-3", "1;", list{2, 0, 0, 0}, list{0, 2, 0, 0}, list{0, 0, 0, 0}, "0123", "023"},
}

func TestToldResults(t *testing.T) {
	for _, c := range toldResults {
		s, x := parsed(t, c.text), played(c.results)
		checkResults(t, areResults(s, x), true, 0)
		checkResults(t, pointsOf(s, x), c.points, 0)
		checkResults(t, secondNumbers(s, x), c.second, 0)
		checkResults(t, thirdNumbers(s, x), c.third, 0)
		checkResults(t, rankingOf(s, x), digitsOf(c.ranking), 0)
		checkResults(t, firstTeams(s, x), digitsOf(c.first), 0)
		for a := range s.Teams {
			checkResults(t, canBeFirst(s, x, a), slices.Contains(digitsOf(c.first), a), 0)
		}
	}
}

// Results of schedules without rounds are none but the empty list.
func TestResultsWithoutRounds(t *testing.T) {
	for n := int64(2); n <= 14; n++ {
		s := impl.Schedule{Teams: n}
		zeros, all := make(list, n), fullRound(0, n)
		for _, x := range []lists{nil, {}} {
			checkResults(t, areResults(s, x), true, 0)
			for _, own := range []call{pointsOf(s, x), secondNumbers(s, x), thirdNumbers(s, x)} {
				checkResults(t, own, zeros, 0)
			}
			checkResults(t, rankingOf(s, x), all, 0)
			checkResults(t, firstTeams(s, x), all, 0)
			checkResults(t, pointsBetween(s, x, 0, n-1), 0, 0, 0)
			checkResults(t, pointsByRound(s, x, n-1), list{0}, 0)
		}
		for _, x := range []lists{{nil}, {{}}, {{0}}, {nil, nil}} {
			checkResults(t, areResults(s, x), false, 0)
			for _, own := range callsOfResults(s, x) {
				checkCode(t, own, impl.ErrRange)
			}
		}
	}
}

// Sums of all meetings that there can be: 14 teams play 40 rounds, and the lesser ones win them all.
func TestResultsOfManyRounds(t *testing.T) {
	var r round
	for a := range int64(14) {
		r[a] = a ^ 1
	}
	s, x := impl.Schedule{Teams: 14}, lists{}
	for k := range 40 {
		s.Rounds, x = append(s.Rounds, r), append(x, slices.Repeat(list{1}, 7))
		if k == 39 {
			x[k] = make(list, 7)
		}
	}
	checkResults(t, pointsOf(s, x), slices.Repeat(list{79, 1}, 7), 0)
	checkResults(t, secondNumbers(s, x), slices.Repeat(list{40, 40 * 79}, 7), 0)
	checkResults(t, thirdNumbers(s, x), slices.Repeat(list{2*39 + 1, 79}, 7), 0)
	checkResults(t, rankingOf(s, x), list{0, 2, 4, 6, 8, 10, 12, 1, 3, 5, 7, 9, 11, 13}, 0)
	checkResults(t, firstTeams(s, x), list{0, 2, 4, 6, 8, 10, 12}, 0)
	checkResults(t, pointsBetween(s, x, 13, 12), 1, 79, 0)
	checkResults(t, nextRound(s, x), round{2, 12, 0, 5, 6, 3, 4, 9, 10, 7, 8, 13, 1, 11}, 0)
}

func TestPointsBetween(t *testing.T) {
	for _, c := range []struct {
		text, results string
		a, b          int64
		first, second int64
	}{
		{circle4, "11;10;", 3, 1, 1, 1}, {circle4, "11;10;", 1, 3, 1, 1}, {circle4, "11;10;", 0, 3, 2, 0}, {circle4, "11;10;", 3, 0, 0, 2},
		// Their round is not played, or they have none.
		{circle4, "11;10;", 0, 1, 0, 0}, {circle4, "11;10;", 3, 2, 0, 0}, {circle4, "", 0, 3, 0, 0}, {circle4, "22;", 2, 0, 0, 0},
		{"4:0-3;0-2", "1;2;", 0, 1, 0, 0}, {"4:0-3;0-2", "1;2;", 1, 3, 0, 0}, {"4:0-3;0-2", "1;2;", 3, 2, 0, 0},
		// They met twice, and once more in a round that is not played.
		{"2:0-1;0-1", "1;0;", 0, 1, 3, 1}, {"2:0-1;0-1", "1;0;", 1, 0, 1, 3}, {"2:0-1;0-1", "1;1;", 0, 1, 4, 0}, {"2:0-1;0-1", "2;1;", 1, 0, 2, 2},
		{"2:0-1;;0-1;0-1", "2;;2;", 1, 0, 4, 0}, {"3:0-2;0-1;0-2;1-2", "2;1;0;1;", 0, 2, 1, 3}, {"3:0-2;0-1;0-2;1-2", "2;1;0;1;", 2, 1, 0, 2},
	} {
		checkResults(t, pointsBetween(parsed(t, c.text), played(c.results), c.a, c.b), c.first, c.second, 0)
	}
}

func TestPointsByRound(t *testing.T) {
	for _, c := range []struct {
		text, results string
		a             int64
		want          list
	}{
		{circle4, "", 0, list{0}}, {circle4, "", 3, list{0}}, {circle4, "11;10;", 0, list{0, 2, 4}}, {circle4, "11;10;", 1, list{0, 2, 3}},
		{circle4, "11;10;", 2, list{0, 0, 0}}, {circle4, "11;10;", 3, list{0, 0, 1}}, {circle4, "11;10;20;", 2, list{0, 0, 0, 1}}, {circle4, "11;10;20;", 1, list{0, 2, 3, 5}},
		// Where it is free, or nobody plays, nothing comes to a team's points.
		{"3:0-1;;0-1;1-2", "1;;0;", 0, list{0, 2, 2, 3}}, {"3:0-1;;0-1;1-2", "1;;0;2;", 2, list{0, 0, 0, 0, 2}}, {"2:;", ";;", 1, list{0, 0, 0}},
	} {
		checkResults(t, pointsByRound(parsed(t, c.text), played(c.results), c.a), c.want, 0)
	}
}

func TestNextRound(t *testing.T) {
	for _, c := range []struct {
		text, results string
		want          round
	}{
		{"2:;", "", round{1, 0}}, {"2:;", ";;", round{1, 0}}, {"4:;", "", round{1, 0, 3, 2}}, {"6:;", ";", round{1, 0, 3, 2, 5, 4}},
		// Rounds that are not played are left out, too.
		{"4:0-1,2-3;", "", round{2, 3, 0, 1}}, {"4:0-1,2-3;", "00;", round{2, 3, 0, 1}}, {"4:0-1;0-2", "0;", round{3, 2, 1, 0}}, {"4:0-1;2-3", "", round{2, 3, 0, 1}},
		// By places, and not by numbers: 1 and 2 are the first ones, or 3 and 0.
		{"4:0-1,2-3;", "21;", round{3, 2, 1, 0}}, {"4:0-1,2-3;", "12;", round{3, 2, 1, 0}}, {"4:0-1,2-3;", "11;", round{2, 3, 0, 1}}, {"4:0-1,2-3;", "01;", round{2, 3, 0, 1}},
		// 0 and 1 could meet, but 2 has met all others.
		{"6:2-3;2-4;2-5", "", round{2, 3, 0, 1, 5, 4}}, {"6:0-5,1-2,3-4;0-2,1-3,4-5;0-2,1-4,3-5", "110;200;", round{4, 5, 3, 2, 0, 1}},
		{"6:0-4,1-5,2-3;0-3,1-5,2-4;0-2,1-3,4-5", "202;102;", round{1, 0, 5, 4, 3, 2}}, {"6:0-1,2-5,3-4;0-5,1-2,3-4;0-4,1-5,2-3", "002;122;", round{2, 4, 0, 5, 1, 3}},
		{"6:2-4,3-5;0-1;0-2;1-2", "01;", round{4, 5, 3, 2, 0, 1}},
	} {
		checkResults(t, nextRound(parsed(t, c.text), played(c.results)), c.want, 0)
	}
	checkResults(t, nextRound(impl.Schedule{Teams: 2}, nil), round{1, 0}, 0)
	checkResults(t, nextRound(impl.Schedule{Teams: 14}, nil), round{1, 0, 3, 2, 5, 4, 7, 6, 9, 8, 11, 10, 13, 12}, 0)
	for n := int64(4); n <= 14; n += 2 {
		s := impl.Schedule{Teams: n, Rounds: many(n, 40).Rounds}
		want, _ := impl.NextRound(impl.Schedule{Teams: n}, nil)
		checkResults(t, nextRound(s, make(lists, 40)), want, 0)
	}
}

func TestNextRoundErrors(t *testing.T) {
	for _, c := range []struct {
		text, results string
		code          int64
	}{
		// The meetings that are left are those of two triangles, or a team has none.
		{"6:0-3,1-4,2-5;0-4,1-5,2-3;0-5,1-3,2-4", "", impl.ErrNotFound}, {"6:0-3,1-4,2-5;0-4,1-5,2-3;0-5,1-3,2-4", "012;120;", impl.ErrNotFound},
		{"4:0-1;0-2;0-3", "1;", impl.ErrNotFound}, {"4:1-3;2-3;0-3", "1;2;0;", impl.ErrNotFound},
		{"2:0-1", "", impl.ErrNotFound}, {"2:0-1", "2;", impl.ErrNotFound}, {"2:;0-1", ";", impl.ErrNotFound}, {circle4, "", impl.ErrNotFound}, {circle4, "11;10;20;", impl.ErrNotFound},
		{"3:0-1", "", impl.ErrState}, {"3:1-2;0-2;0-1", "1;2;1;", impl.ErrState}, {circle5, "12;", impl.ErrState},
		// Wrong results come before an odd number of teams.
		{"3:0-1", "3;", impl.ErrRange}, {"3:0-1", ";", impl.ErrRange}, {circle5, "1;", impl.ErrRange}, {circle4, "11;13;", impl.ErrRange},
	} {
		checkCode(t, nextRound(parsed(t, c.text), played(c.results)), c.code)
	}
	d := dice(28)
	for n := int64(2); n <= 14; n++ {
		s, _ := impl.CircleOf(n)
		code := int64(impl.ErrNotFound)
		if n%2 != 0 {
			code = impl.ErrState
			checkCode(t, nextRound(impl.Schedule{Teams: n}, nil), code)
			checkCode(t, nextRound(impl.Schedule{Teams: n}, lists{{}}), impl.ErrRange)
		}
		checkCode(t, nextRound(s, nil), code)
		checkCode(t, nextRound(s, d.outcomes(s, len(s.Rounds))), code)
	}
}

// wrongResults are no results of a schedule of which each round has a pair, each for another reason.
func wrongResults(s impl.Schedule) []lists {
	d := dice(27)
	k := len(s.Rounds)
	right := d.outcomes(s, k)
	out := []lists{append(copyOfLists(right), nil), append(copyOfLists(right), right[0]), slices.Concat(right, right), make(lists, k+1), make(lists, 41)}
	if k > 1 {
		out = append(out, lists{slices.Concat(right...)}) // all numbers in one list
	}
	for i := range right {
		row := right[i]
		some := right[:i+1]
		out = append(out, withRow(some, i, nil), withRow(some, i, row[1:]), withRow(some, i, append(slices.Clone(row), 0)), withRow(right, i, slices.Concat(row, row)))
		for place := range row {
			for _, number := range (list{math.MinInt64, -2, -1, 3, 4, 1 << 32, 1<<32 + 1, math.MaxInt64}) {
				wrong := copyOfLists(right)
				wrong[i][place] = number
				out = append(out, wrong, wrong[:i+1])
			}
		}
	}
	return out
}

func TestWrongResults(t *testing.T) {
	schedules := []impl.Schedule{four(), parsed(t, twice4), parsed(t, "2:0-1"), parsed(t, "3:0-1;1-2"), parsed(t, "14:12-13;0-13,1-12")}
	for _, n := range (list{3, 5, 8, 14}) {
		s, _ := impl.CircleOf(n)
		schedules = append(schedules, s)
	}
	for _, s := range schedules {
		for _, x := range wrongResults(s) {
			checkResults(t, areResults(s, x), false, 0)
			for _, own := range callsOfResults(s, x) {
				checkCode(t, own, impl.ErrRange)
			}
		}
		for _, own := range callsWithNoTeams(s, wrongResults(s)[0]) {
			checkCode(t, own, impl.ErrRange)
		}
	}
	// Where nobody plays, there is no number.
	checkResults(t, areResults(many(4, 2), lists{{}, {0}}), false, 0)
	checkResults(t, areResults(many(4, 2), lists{{}, {}}), true, 0)
	// A round has its own pairs, and not those of the next one.
	checkResults(t, areResults(parsed(t, "4:0-1;0-1,2-3"), lists{{0, 0}}), false, 0)
	checkResults(t, areResults(parsed(t, "4:0-1;0-1,2-3"), lists{{0}, {0}}), false, 0)
	checkResults(t, areResults(parsed(t, "4:0-1;0-1,2-3"), lists{{0}, {0, 0}}), true, 0)
}

// Long lists are no results, and need no long time.
func TestMuchOfResults(t *testing.T) {
	for _, x := range []lists{make(lists, 10000000), {make(list, 10000000)}, slices.Repeat(lists{make(list, 1000000)}, 3)} {
		if are, code := impl.AreResults(four(), x); are || code != impl.ErrNone {
			t.Errorf("AreResults of much = %v, %d", are, code)
		}
		if first, code := impl.FirstTeams(four(), x); len(first) != 0 || code != impl.ErrRange {
			t.Errorf("FirstTeams of much = %v, %d", first, code)
		}
	}
}

func TestResultsWithNoTeams(t *testing.T) {
	d := dice(29)
	for n := int64(2); n <= 14; n++ {
		s, _ := impl.CircleOf(n)
		for _, x := range []lists{nil, d.outcomes(s, 1), d.outcomes(s, len(s.Rounds))} {
			for _, own := range callsWithNoTeams(s, x) {
				checkCode(t, own, impl.ErrRange)
			}
		}
		for _, own := range callsWithNoTeams(impl.Schedule{Teams: n}, nil) {
			checkCode(t, own, impl.ErrRange)
		}
	}
}

// What is no schedule comes before wrong results, and before wrong numbers.
func TestResultsOfNoSchedules(t *testing.T) {
	wrong := wrongSchedules()
	for n := int64(2); n <= 14; n++ {
		s, _ := impl.CircleOf(n)
		for i := range s.Rounds {
			broken := impl.Schedule{Teams: n, Rounds: slices.Clone(s.Rounds)}
			broken.Rounds[i][0] = n
			wrong = append(wrong, broken)
		}
		wrong = append(wrong, impl.Schedule{Teams: n + 1, Rounds: s.Rounds}, impl.Schedule{Teams: n - 1, Rounds: s.Rounds})
	}
	for _, s := range wrong {
		for _, x := range []lists{nil, {{0, 0}}, {{7}, {-1}, nil}} {
			checkCode(t, areResults(s, x), impl.ErrInvalid)
			for _, own := range callsOfResults(s, x) {
				checkCode(t, own, impl.ErrInvalid)
			}
		}
		for _, own := range callsWithNoTeams(s, make(lists, 50)) {
			checkCode(t, own, impl.ErrInvalid)
		}
	}
	// An odd number of teams does not come before it either.
	checkCode(t, nextRound(many(3, 41), nil), impl.ErrInvalid)
	checkCode(t, nextRound(impl.Schedule{Teams: 15}, nil), impl.ErrInvalid)
}
