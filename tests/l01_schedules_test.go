package tests

import (
	"math"
	"strings"
	"testing"

	"loop.example/g01379/impl"
)

type (
	round = impl.Round
	lists = [][]int64
	list  = []int64
)

// noTeams has numbers that are none of a schedule's teams.
var noTeams = list{math.MinInt64, -1, 0, 1, 15, 16, math.MaxInt64}

// four is the circle of 4, three a schedule of 3 teams with two equal rounds and one in which all are free.
func four() impl.Schedule {
	return impl.Schedule{Teams: 4, Rounds: []round{{3, 2, 1, 0}, {2, 3, 0, 1}, {1, 0, 3, 2}}}
}

func three() impl.Schedule {
	return impl.Schedule{Teams: 3, Rounds: []round{{1, 0, 2}, {0, 1, 2}, {1, 0, 2}, {0, 2, 1}}}
}

// many returns a schedule of n teams with k rounds in which all are free.
func many(n int64, k int) impl.Schedule {
	var free round
	for a := range n {
		free[a] = a
	}
	s := impl.Schedule{Teams: n}
	for range k {
		s.Rounds = append(s.Rounds, free)
	}
	return s
}

func TestConstants(t *testing.T) {
	codes := list{impl.ErrNone, impl.ErrInvalid, impl.ErrRange, impl.ErrLimit, impl.ErrNotFound, impl.ErrState, impl.ErrSyntax}
	if show(codes) != show(list{0, 1, 2, 3, 4, 5, 6}) {
		t.Errorf("codes %v", codes)
	}
	if impl.MaxTeams != 14 || impl.MaxRounds != 40 || len(round{}) != 14 {
		t.Errorf("limits %d, %d, %d", impl.MaxTeams, impl.MaxRounds, len(round{}))
	}
}

func TestIsRound(t *testing.T) {
	full := round{13, 12, 11, 10, 9, 8, 7, 6, 5, 4, 3, 2, 1, 0}
	for _, c := range []struct {
		n    int64
		r    round
		want bool
	}{
		{2, round{1, 0}, true}, {2, round{0, 1}, true}, {2, round{}, false}, {2, round{1, 1}, false},
		{2, round{1, 0, 2}, false}, {2, round{1, 0, 1}, false}, {2, round{2, 1, 0}, false},
		{3, round{1, 0, 2}, true}, {3, round{1, 2, 0}, false}, {3, round{1, 0, 3}, false},
		{3, round{1, 0, 2, 3}, false}, {3, round{1, 0, -1}, false}, {3, round{1, 0, math.MaxInt64}, false},
		{3, round{1, 0, math.MinInt64}, false}, {13, round{1, 0, 2, 3, 4, 5, 6, 7, 8, 9, 10, 11, 12, 13}, false},
		{13, round{1, 0, 2, 3, 4, 5, 6, 7, 8, 9, 10, 11, 12}, true}, {14, full, true}, {13, full, false},
		{14, round{}, false}, {14, round{0, 1, 2, 3, 4, 5, 6, 7, 8, 9, 10, 11, 12, 13}, true},
		{14, round{1, 0, 2, 3, 4, 5, 6, 7, 8, 9, 10, 11, 12, 14}, false},
		{4, round{3, 2, 1, 0, 0, 0, 0, 0, 0, 0, 0, 0, 0, -1}, false},
	} {
		checkResults(t, isRound(c.n, c.r), c.want)
	}
	for _, n := range noTeams {
		checkResults(t, isRound(n, round{}), false)
		checkResults(t, isRound(n, full), false)
	}
}

// TestIsRoundOfAllArrays holds IsRound against the words of the document for all short arrays.
func TestIsRoundOfAllArrays(t *testing.T) {
	for n := int64(2); n <= 4; n++ {
		all := int64(1)
		for range 5 {
			all *= n + 2
		}
		for x := range all {
			var r round
			for a, rest := 0, x; a < 5; a, rest = a+1, rest/(n+2) {
				r[a] = rest%(n+2) - 1
			}
			if got := impl.IsRound(n, r); got != roundAsTold(n, r) {
				t.Fatalf("IsRound(%d, %v) = %v", n, r, got)
			}
		}
	}
}

func roundAsTold(n int64, r round) bool {
	for a := range int64(14) {
		switch {
		case a >= n && r[a] != 0:
			return false
		case a < n && (r[a] < 0 || r[a] >= n):
			return false
		}
	}
	for a := range n {
		if r[r[a]] != a {
			return false
		}
	}
	return true
}

// wrongSchedules are none, each for another reason.
func wrongSchedules() []impl.Schedule {
	out := []impl.Schedule{many(4, 41), many(2, 41), many(14, 1000)}
	for _, n := range noTeams {
		out = append(out, impl.Schedule{Teams: n}, impl.Schedule{Teams: n, Rounds: []round{{}}})
	}
	for i := range 3 {
		for _, r := range []round{{}, {3, 2, 1, 4}, {3, 2, 0, 1}, {3, 2, 1, -1}, {3, 2, 1, 0, 4}, {1, 0, 2}} {
			s := four()
			s.Rounds[i] = r
			out = append(out, s)
		}
	}
	wrong := three()
	wrong.Rounds[3] = round{1, 0, 1}
	return append(out, wrong)
}

func TestIsSchedule(t *testing.T) {
	for _, s := range wrongSchedules() {
		checkResults(t, isSchedule(s), false)
	}
	checkResults(t, isSchedule(impl.Schedule{Rounds: []round{{}}}), false)
	for n := int64(2); n <= 14; n++ {
		checkResults(t, isSchedule(impl.Schedule{Teams: n}), true)
		checkResults(t, isSchedule(impl.Schedule{Teams: n, Rounds: []round{}}), true)
		checkResults(t, isSchedule(many(n, 40)), true)
		checkResults(t, isSchedule(many(n, 41)), false)
	}
	checkResults(t, isSchedule(four()), true)
	checkResults(t, isSchedule(three()), true)
	last := many(4, 40)
	last.Rounds[39] = round{1, 0, 2}
	checkResults(t, isSchedule(last), false)
}

func TestRoundOf(t *testing.T) {
	checkResults(t, roundOf(5, lists{{3, 0}, {1, 4}}), round{3, 4, 2, 0, 1}, 0)
	checkResults(t, roundOf(5, lists{{4, 1}, {0, 3}}), round{3, 4, 2, 0, 1}, 0)
	checkResults(t, roundOf(4, nil), round{0, 1, 2, 3}, 0)
	checkResults(t, roundOf(2, lists{}), round{0, 1}, 0)
	checkResults(t, roundOf(2, lists{{0, 1}}), round{1, 0}, 0)
	checkResults(t, roundOf(14, lists{{13, 0}}), round{13, 1, 2, 3, 4, 5, 6, 7, 8, 9, 10, 11, 12, 0}, 0)
	pairs := lists{{0, 13}, {12, 1}, {2, 11}, {10, 3}, {4, 9}, {8, 5}, {6, 7}}
	checkResults(t, roundOf(14, pairs), round{13, 12, 11, 10, 9, 8, 7, 6, 5, 4, 3, 2, 1, 0}, 0)
}

func TestRoundOfErrors(t *testing.T) {
	for _, n := range noTeams {
		checkCode(t, roundOf(n, nil), impl.ErrRange)
		checkCode(t, roundOf(n, lists{{0, 1}}), impl.ErrRange)
	}
	for _, pairs := range []lists{
		{{3, 3}}, {{0}}, {{}}, {nil}, {{0, 1, 2}}, {{0, 1, 0}}, {{0, 5}}, {{5, 0}}, {{-1, 0}}, {{0, -1}},
		{{0, 1}, {2, 2}}, {{0, 1}, {2}}, {{0, math.MaxInt64}}, {{math.MinInt64, 0}}, {{0, 1}, {0, 2}, {3, 5}},
		{{0, 1}, {0, 1}, {4, 4}},
	} {
		checkCode(t, roundOf(5, pairs), impl.ErrRange)
	}
	for _, pairs := range []lists{
		{{3, 0}, {3, 4}}, {{0, 3}, {4, 3}}, {{0, 3}, {1, 0}}, {{0, 3}, {0, 3}}, {{0, 3}, {3, 0}}, {{0, 1}, {2, 3}, {4, 0}},
	} {
		checkCode(t, roundOf(5, pairs), impl.ErrState)
	}
	var same lists
	for range 14 {
		same = append(same, list{0, 1})
	}
	checkCode(t, roundOf(14, same), impl.ErrState)
	checkCode(t, roundOf(14, append(same, list{2, 3})), impl.ErrRange)
}

func TestPairsOf(t *testing.T) {
	checkResults(t, pairsOf(5, round{3, 4, 2, 0, 1}), lists{{0, 3}, {1, 4}}, 0)
	checkResults(t, pairsOf(2, round{1, 0}), lists{{0, 1}}, 0)
	checkResults(t, pairsOf(2, round{0, 1}), lists{}, 0)
	checkResults(t, pairsOf(13, round{12, 1, 4, 3, 2, 5, 6, 7, 8, 10, 9, 11, 0}), lists{{0, 12}, {2, 4}, {9, 10}}, 0)
	full := round{1, 0, 3, 2, 13, 6, 5, 8, 7, 10, 9, 12, 11, 4}
	checkResults(t, pairsOf(14, full), lists{{0, 1}, {2, 3}, {4, 13}, {5, 6}, {7, 8}, {9, 10}, {11, 12}}, 0)
	for _, n := range noTeams {
		checkCode(t, pairsOf(n, round{}), impl.ErrRange)
	}
	for _, r := range []round{{}, {1, 0, 2, 3}, {1, 2, 0}, {1, 0, 3}, {1, 0, -1}, {1, 0, math.MaxInt64}} {
		checkCode(t, pairsOf(3, r), impl.ErrRange)
	}
}

func TestAddRound(t *testing.T) {
	s := four()
	checkResults(t, addRound(s, round{1, 0, 2, 3}), impl.Schedule{Teams: 4, Rounds: append(four().Rounds, round{1, 0, 2, 3})}, 0)
	checkResults(t, addRound(impl.Schedule{Teams: 2}, round{1, 0}), impl.Schedule{Teams: 2, Rounds: []round{{1, 0}}}, 0)
	checkResults(t, addRound(many(3, 39), many(3, 1).Rounds[0]), many(3, 40), 0)
	for _, wrong := range wrongSchedules() {
		checkCode(t, addRound(wrong, round{3, 2, 1, 0}), impl.ErrInvalid)
		checkCode(t, addRound(wrong, round{}), impl.ErrInvalid)
	}
	for _, r := range []round{{}, {1, 0, 2}, {3, 2, 1, 0, 4}, {1, 2, 0, 3}, {3, 2, 1, -1}} {
		checkCode(t, addRound(s, r), impl.ErrRange)
		checkCode(t, addRound(many(4, 40), r), impl.ErrRange)
	}
	checkCode(t, addRound(many(4, 40), round{3, 2, 1, 0}), impl.ErrLimit)
	checkCode(t, addRound(many(4, 41), round{3, 2, 1, 0}), impl.ErrInvalid)
}

func TestDropRound(t *testing.T) {
	a, b, c := four().Rounds[0], four().Rounds[1], four().Rounds[2]
	checkResults(t, dropRound(four(), 0), impl.Schedule{Teams: 4, Rounds: []round{b, c}}, 0)
	checkResults(t, dropRound(four(), 1), impl.Schedule{Teams: 4, Rounds: []round{a, c}}, 0)
	checkResults(t, dropRound(four(), 2), impl.Schedule{Teams: 4, Rounds: []round{a, b}}, 0)
	checkResults(t, dropRound(many(2, 1), 0), impl.Schedule{Teams: 2}, 0)
	checkResults(t, dropRound(many(14, 40), 39), many(14, 39), 0)
	for _, wrong := range wrongSchedules() {
		checkCode(t, dropRound(wrong, 0), impl.ErrInvalid)
		checkCode(t, dropRound(wrong, -1), impl.ErrInvalid)
	}
	for _, i := range (list{math.MinInt64, -1, 3, 4, math.MaxInt64}) {
		checkCode(t, dropRound(four(), i), impl.ErrRange)
	}
	checkCode(t, dropRound(impl.Schedule{Teams: 4}, 0), impl.ErrRange)
	checkCode(t, dropRound(many(14, 40), 40), impl.ErrRange)
}

func TestMeetingsOf(t *testing.T) {
	checkResults(t, meetingsOf(three()), lists{{0, 2, 0}, {2, 0, 1}, {0, 1, 0}}, 0)
	checkResults(t, meetingsOf(four()), lists{{0, 1, 1, 1}, {1, 0, 1, 1}, {1, 1, 0, 1}, {1, 1, 1, 0}}, 0)
	checkResults(t, meetingsOf(impl.Schedule{Teams: 2}), lists{{0, 0}, {0, 0}}, 0)
	s := many(2, 40)
	for i := range s.Rounds {
		s.Rounds[i] = round{1, 0}
	}
	checkResults(t, meetingsOf(s), lists{{0, 40}, {40, 0}}, 0)
	for _, wrong := range wrongSchedules() {
		checkCode(t, meetingsOf(wrong), impl.ErrInvalid)
	}
}

func TestRoundsBetween(t *testing.T) {
	checkResults(t, roundsBetween(three(), 0, 1), list{0, 2}, 0)
	checkResults(t, roundsBetween(three(), 1, 0), list{0, 2}, 0)
	checkResults(t, roundsBetween(three(), 2, 1), list{3}, 0)
	checkResults(t, roundsBetween(three(), 0, 2), list{}, 0)
	checkResults(t, roundsBetween(four(), 3, 1), list{1}, 0)
	checkResults(t, roundsBetween(impl.Schedule{Teams: 14}, 13, 0), list{}, 0)
	for _, wrong := range wrongSchedules() {
		checkCode(t, roundsBetween(wrong, 0, 1), impl.ErrInvalid)
		checkCode(t, roundsBetween(wrong, 0, 0), impl.ErrInvalid)
	}
	for _, a := range (list{math.MinInt64, -1, 3, 14, math.MaxInt64}) {
		checkCode(t, roundsBetween(three(), a, 0), impl.ErrRange)
		checkCode(t, roundsBetween(three(), 0, a), impl.ErrRange)
		checkCode(t, roundsBetween(three(), a, a), impl.ErrRange)
	}
	for a := range int64(3) {
		checkCode(t, roundsBetween(three(), a, a), impl.ErrRange)
	}
}

func TestOpponentsOf(t *testing.T) {
	checkResults(t, opponentsOf(three(), 0), list{1, -1, 1, -1}, 0)
	checkResults(t, opponentsOf(three(), 1), list{0, -1, 0, 2}, 0)
	checkResults(t, opponentsOf(three(), 2), list{-1, -1, -1, 1}, 0)
	checkResults(t, opponentsOf(four(), 3), list{0, 1, 2}, 0)
	checkResults(t, opponentsOf(impl.Schedule{Teams: 14}, 13), list{}, 0)
	for _, wrong := range wrongSchedules() {
		checkCode(t, opponentsOf(wrong, 0), impl.ErrInvalid)
		checkCode(t, opponentsOf(wrong, -1), impl.ErrInvalid)
	}
	for _, a := range (list{math.MinInt64, -1, 3, 14, math.MaxInt64}) {
		checkCode(t, opponentsOf(three(), a), impl.ErrRange)
	}
}

func TestFreeTeams(t *testing.T) {
	checkResults(t, freeTeams(three(), 0), list{2}, 0)
	checkResults(t, freeTeams(three(), 1), list{0, 1, 2}, 0)
	checkResults(t, freeTeams(three(), 3), list{0}, 0)
	checkResults(t, freeTeams(four(), 2), list{}, 0)
	checkResults(t, freeTeams(many(14, 40), 39), list{0, 1, 2, 3, 4, 5, 6, 7, 8, 9, 10, 11, 12, 13}, 0)
	for _, wrong := range wrongSchedules() {
		checkCode(t, freeTeams(wrong, 0), impl.ErrInvalid)
		checkCode(t, freeTeams(wrong, -1), impl.ErrInvalid)
	}
	for _, i := range (list{math.MinInt64, -1, 4, math.MaxInt64}) {
		checkCode(t, freeTeams(three(), i), impl.ErrRange)
	}
	checkCode(t, freeTeams(impl.Schedule{Teams: 3}, 0), impl.ErrRange)
	checkCode(t, freeTeams(many(14, 40), 40), impl.ErrRange)
}

func TestIsRoundRobin(t *testing.T) {
	for text, want := range map[string]bool{
		"2:0-1": true, "2:": false, "2:0-1;": false, "2:0-1;0-1": false,
		"3:0-1;0-2;1-2": true, "3:0-1;0-2;0-2": false, "3:0-1;0-2": false, "3:0-1;0-2;1-2;": false, "3:0-1;;1-2": false,
		"4:0-1,2-3;0-2,1-3;0-3,1-2": true, "4:0-1,2-3;0-2,1-3;0-3": false, "4:0-1,2-3;0-2,1-3;0-2,1-3": false,
		"4:0-1,2-3;0-2,1-3;0-3,1-2;": false, "4:0-1,2-3;0-2,1-3": false, "4:0-1;2-3;0-2,1-3;0-3,1-2": false,
		"4:0-1,2-3;0-1,2-3;0-3,1-2": false, "5:1-4,2-3;0-2,3-4;0-4,1-3;0-1,2-4;0-3,1-2": true,
		"5:1-4,2-3;0-2,3-4;0-4,1-3;0-1,2-4;0-3,2-4": false,
	} {
		checkResults(t, isRoundRobin(parsed(t, text)), want, 0)
	}
	checkResults(t, isRoundRobin(impl.Schedule{Teams: 2}), false, 0)
	checkResults(t, isRoundRobin(many(14, 13)), false, 0)
	for _, wrong := range wrongSchedules() {
		checkCode(t, isRoundRobin(wrong), impl.ErrInvalid)
	}
}

func TestCircleOf(t *testing.T) {
	checkResults(t, circleOf(2), impl.Schedule{Teams: 2, Rounds: []round{{1, 0}}}, 0)
	checkResults(t, circleOf(3), impl.Schedule{Teams: 3, Rounds: []round{{0, 2, 1}, {2, 1, 0}, {1, 0, 2}}}, 0)
	checkResults(t, circleOf(4), four(), 0)
	for _, n := range noTeams {
		checkCode(t, circleOf(n), impl.ErrRange)
	}
}

func TestRenumberTeams(t *testing.T) {
	checkResults(t, renumberTeams(four(), list{1, 0, 2, 3}), parsed(t, "4:0-2,1-3;0-3,1-2;0-1,2-3"), 0)
	checkResults(t, renumberTeams(three(), list{1, 2, 0}), parsed(t, "3:1-2;;1-2;0-2"), 0)
	checkResults(t, renumberTeams(three(), list{0, 1, 2}), three(), 0)
	checkResults(t, renumberTeams(impl.Schedule{Teams: 2}, list{1, 0}), impl.Schedule{Teams: 2}, 0)
	for _, wrong := range wrongSchedules() {
		checkCode(t, renumberTeams(wrong, list{0, 1, 2, 3}), impl.ErrInvalid)
		checkCode(t, renumberTeams(wrong, nil), impl.ErrInvalid)
	}
	for _, p := range []list{
		nil, {0, 1}, {0, 1, 2, 3}, {0, 1, 1}, {1, 2, 3}, {0, 1, -1}, {0, 1, 3}, {0, 0, 0}, {0, 1, math.MaxInt64}, {math.MinInt64, 1, 2},
	} {
		checkCode(t, renumberTeams(three(), p), impl.ErrRange)
		checkCode(t, renumberTeams(impl.Schedule{Teams: 3}, p), impl.ErrRange)
	}
}

func TestReorderRounds(t *testing.T) {
	a, b, c := four().Rounds[0], four().Rounds[1], four().Rounds[2]
	checkResults(t, reorderRounds(four(), list{2, 0, 1}), impl.Schedule{Teams: 4, Rounds: []round{c, a, b}}, 0)
	checkResults(t, reorderRounds(four(), list{0, 1, 2}), four(), 0)
	checkResults(t, reorderRounds(impl.Schedule{Teams: 14}, nil), impl.Schedule{Teams: 14}, 0)
	checkResults(t, reorderRounds(many(2, 40), mixedOrder(40)), many(2, 40), 0)
	for _, wrong := range wrongSchedules() {
		checkCode(t, reorderRounds(wrong, list{0, 1, 2}), impl.ErrInvalid)
		checkCode(t, reorderRounds(wrong, nil), impl.ErrInvalid)
	}
	for _, q := range []list{
		nil, {0, 1}, {0, 1, 2, 3}, {0, 1, 1}, {1, 2, 3}, {0, 1, -1}, {0, 1, 3}, {0, 1, math.MaxInt64}, {math.MinInt64, 1, 2},
	} {
		checkCode(t, reorderRounds(four(), q), impl.ErrRange)
	}
	checkCode(t, reorderRounds(impl.Schedule{Teams: 4}, list{0}), impl.ErrRange)
}

func mixedOrder(k int64) list {
	d := dice(7)
	return d.shuffled(k)
}

func TestJoinSchedules(t *testing.T) {
	both := impl.Schedule{Teams: 3, Rounds: append(three().Rounds, round{2, 1, 0})}
	checkResults(t, joinSchedules(three(), impl.Schedule{Teams: 3, Rounds: []round{{2, 1, 0}}}), both, 0)
	checkResults(t, joinSchedules(three(), impl.Schedule{Teams: 3}), three(), 0)
	checkResults(t, joinSchedules(impl.Schedule{Teams: 3}, three()), three(), 0)
	checkResults(t, joinSchedules(impl.Schedule{Teams: 2}, impl.Schedule{Teams: 2}), impl.Schedule{Teams: 2}, 0)
	checkResults(t, joinSchedules(many(14, 15), many(14, 25)), many(14, 40), 0)
	for _, wrong := range wrongSchedules() {
		checkCode(t, joinSchedules(wrong, four()), impl.ErrInvalid)
		checkCode(t, joinSchedules(four(), wrong), impl.ErrInvalid)
		checkCode(t, joinSchedules(many(5, 40), wrong), impl.ErrInvalid)
	}
	checkCode(t, joinSchedules(three(), four()), impl.ErrRange)
	checkCode(t, joinSchedules(four(), impl.Schedule{Teams: 14}), impl.ErrRange)
	checkCode(t, joinSchedules(many(3, 40), many(4, 40)), impl.ErrRange)
	checkCode(t, joinSchedules(many(3, 40), many(3, 1)), impl.ErrLimit)
	checkCode(t, joinSchedules(many(3, 1), many(3, 40)), impl.ErrLimit)
	checkCode(t, joinSchedules(many(3, 20), many(3, 21)), impl.ErrLimit)
}

func TestMissingPairs(t *testing.T) {
	checkResults(t, missingPairs(parsed(t, "3:0-1")), lists{{0, 2}, {1, 2}}, 0)
	checkResults(t, missingPairs(three()), lists{{0, 2}}, 0)
	checkResults(t, missingPairs(four()), lists{}, 0)
	checkResults(t, missingPairs(impl.Schedule{Teams: 4}), lists{{0, 1}, {0, 2}, {0, 3}, {1, 2}, {1, 3}, {2, 3}}, 0)
	checkResults(t, missingPairs(parsed(t, "5:0-3,1-4;0-3;2-4")), lists{{0, 1}, {0, 2}, {0, 4}, {1, 2}, {1, 3}, {2, 3}, {3, 4}}, 0)
	if all, _ := impl.MissingPairs(many(14, 40)); len(all) != 91 {
		t.Errorf("MissingPairs: %d pairs of 14 teams", len(all))
	}
	for _, wrong := range wrongSchedules() {
		checkCode(t, missingPairs(wrong), impl.ErrInvalid)
	}
}

func TestScheduleText(t *testing.T) {
	checkResults(t, scheduleText(four()), "4:0-3,1-2;0-2,1-3;0-1,2-3", 0)
	checkResults(t, scheduleText(three()), "3:0-1;;0-1;1-2", 0)
	checkResults(t, scheduleText(many(2, 1)), "2:", 0)
	checkResults(t, scheduleText(many(13, 40)), "13:"+strings.Repeat(";", 39), 0)
	s := impl.Schedule{Teams: 14, Rounds: []round{{13, 12, 11, 10, 9, 8, 7, 6, 5, 4, 3, 2, 1, 0}}}
	checkResults(t, scheduleText(s), "14:0-13,1-12,2-11,3-10,4-9,5-8,6-7", 0)
	for _, wrong := range wrongSchedules() {
		checkCode(t, scheduleText(wrong), impl.ErrInvalid)
	}
	for n := int64(2); n <= 14; n++ {
		checkCode(t, scheduleText(impl.Schedule{Teams: n}), impl.ErrState)
	}
}

// parsed returns the schedule with a text.
func parsed(t *testing.T, text string) impl.Schedule {
	t.Helper()
	s, code := impl.ParseSchedule(text)
	if code != impl.ErrNone {
		t.Fatalf("ParseSchedule(%q): code %d", text, code)
	}
	return s
}
