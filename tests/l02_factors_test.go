package tests

import (
	"math"
	"testing"

	"loop.example/g01379/impl"
)

// onlyRound returns the round of a schedule with one, of which a text tells.
func onlyRound(t *testing.T, text string) round {
	t.Helper()
	return parsed(t, text).Rounds[0]
}

// twoRounds are two rounds, first and second, and what chapter 2 tells of them.
var twoRounds = []struct {
	n             int64
	first, second string
	components    lists
	sizes         list
	chains        lists // those of the teams from 0 on
}{
	{2, "2:", "2:", lists{{0}, {1}}, list{1, 1}, lists{{0}, {1}}},
	{2, "2:0-1", "2:", lists{{0, 1}}, list{2}, lists{{0, 1}, {1, 0}}},
	{2, "2:", "2:0-1", lists{{0, 1}}, list{2}, lists{{0}, {1}}},
	{2, "2:0-1", "2:0-1", lists{{0, 1}}, list{2}, lists{{0, 1}, {1, 0}}},
	{3, "3:0-1", "3:1-2", lists{{0, 1, 2}}, list{3}, lists{{0, 1, 2}, {1, 0}, {2}}},
	{3, "3:1-2", "3:0-1", lists{{0, 1, 2}}, list{3}, lists{{0}, {1, 2}, {2, 1, 0}}},
	{3, "3:0-2", "3:0-2", lists{{0, 2}, {1}}, list{2, 1}, lists{{0, 2}, {1}, {2, 0}}},
	{4, "4:0-3,1-2", "4:0-2,1-3", lists{{0, 1, 2, 3}}, list{4}, lists{{0, 3, 1, 2}, {1, 2, 0, 3}, {2, 1, 3, 0}, {3, 0, 2, 1}}},
	{4, "4:0-3,1-2", "4:0-3,1-2", lists{{0, 3}, {1, 2}}, list{2, 2}, lists{{0, 3}, {1, 2}, {2, 1}, {3, 0}}},
	{5, "5:0-1,2-3", "5:1-2", lists{{0, 1, 2, 3}, {4}}, list{4, 1}, lists{{0, 1, 2, 3}, {1, 0}, {2, 3}, {3, 2, 1, 0}, {4}}},
	{5, "5:1-2", "5:0-1,2-3", lists{{0, 1, 2, 3}, {4}}, list{4, 1}, lists{{0}, {1, 2, 3}, {2, 1, 0}, {3}, {4}}},
	{6, "6:0-5,1-4,2-3", "6:0-5,1-3,2-4", lists{{0, 5}, {1, 2, 3, 4}}, list{4, 2}, lists{{0, 5}, {1, 4, 2, 3}, {2, 3, 1, 4}, {3, 2, 4, 1}, {4, 1, 3, 2}, {5, 0}}},
	{7, "7:1-5,2-6", "7:0-4,3-6", lists{{0, 4}, {1, 5}, {2, 3, 6}}, list{3, 2, 2}, lists{{0}, {1, 5}, {2, 6, 3}, {3}, {4}, {5, 1}, {6, 2}}},
	{
		14, "14:", "14:4-9", lists{{0}, {1}, {2}, {3}, {4, 9}, {5}, {6}, {7}, {8}, {10}, {11}, {12}, {13}},
		list{2, 1, 1, 1, 1, 1, 1, 1, 1, 1, 1, 1, 1}, lists{{0}, {1}, {2}, {3}, {4}},
	},
	{
		14, "14:0-1,2-3,4-5,6-7,8-9,10-11,12-13", "14:0-13,1-2,3-4,5-6,7-8,9-10,11-12",
		lists{{0, 1, 2, 3, 4, 5, 6, 7, 8, 9, 10, 11, 12, 13}}, list{14},
		lists{{0, 1, 2, 3, 4, 5, 6, 7, 8, 9, 10, 11, 12, 13}, {1, 0, 13, 12, 11, 10, 9, 8, 7, 6, 5, 4, 3, 2}},
	},
}

func TestTwoRounds(t *testing.T) {
	for _, c := range twoRounds {
		r, q := onlyRound(t, c.first), onlyRound(t, c.second)
		checkResults(t, componentsOf(c.n, r, q), c.components, 0)
		checkResults(t, componentsOf(c.n, q, r), c.components, 0)
		checkResults(t, typeOfRounds(c.n, r, q), c.sizes, 0)
		checkResults(t, typeOfRounds(c.n, q, r), c.sizes, 0)
		for a, chain := range c.chains {
			checkResults(t, chainFrom(c.n, r, q, int64(a)), chain, 0)
		}
	}
}

func TestTwoRoundsErrors(t *testing.T) {
	for _, n := range noTeams {
		for _, r := range []round{{}, {1, 0}, {13, 12, 11, 10, 9, 8, 7, 6, 5, 4, 3, 2, 1, 0}} {
			checkCode(t, componentsOf(n, r, r), impl.ErrRange)
			checkCode(t, typeOfRounds(n, r, r), impl.ErrRange)
			checkCode(t, chainFrom(n, r, r, 0), impl.ErrRange)
		}
	}
	right := round{1, 0, 2}
	for _, wrong := range []round{{}, {1, 0}, {1, 0, 2, 3}, {1, 2, 0}, {1, 0, 3}, {1, 0, -1}, {1, 0, math.MaxInt64}, {1, 0, math.MinInt64}} {
		checkCode(t, componentsOf(3, wrong, right), impl.ErrRange)
		checkCode(t, componentsOf(3, right, wrong), impl.ErrRange)
		checkCode(t, typeOfRounds(3, wrong, right), impl.ErrRange)
		checkCode(t, typeOfRounds(3, right, wrong), impl.ErrRange)
		checkCode(t, chainFrom(3, wrong, right, 0), impl.ErrRange)
		checkCode(t, chainFrom(3, right, wrong, 0), impl.ErrRange)
	}
	for _, a := range (list{math.MinInt64, -1, 3, 13, 14, math.MaxInt64}) {
		checkCode(t, chainFrom(3, right, right, a), impl.ErrRange)
	}
	checkCode(t, chainFrom(14, many(14, 1).Rounds[0], many(14, 1).Rounds[0], 14), impl.ErrRange)
}

func TestIsPerfect(t *testing.T) {
	for text, want := range map[string]bool{
		"2:": true, "2:0-1": true, "2:0-1;0-1": true, "2:0-1;": true, "2:;0-1;0-1": true, "2:;": false, "2:0-1;;": false,
		"3:0-1;1-2": true, "3:0-1;1-2;0-2": true, "3:0-1;1-2;0-1": false, "3:;": false, "3:": true,
		"4:0-1,2-3": true, "4:0-1": true, "4:0-1;2-3": false, "4:0-1,2-3;1-2": true, "4:0-1,2-3;0-1,2-3": false,
		"4:0-1,2-3;0-2,1-3;0-3,1-2": true, "4:0-1,2-3;0-2,1-3;0-3,1-2;0-1,2-3": false,
		"6:0-1,2-3,4-5;0-2,1-4,3-5;0-3,1-5,2-4;0-4,1-3,2-5;0-5,1-2,3-4": true,
		"6:0-3,1-4,2-5;0-4,1-5,2-3":                                     true, "6:0-1,2-3,4-5;0-2,1-3": false,
		"8:0-1,2-3,4-5,6-7;0-2,1-3,4-6,5-7": false,
	} {
		checkResults(t, isPerfect(parsed(t, text)), want, 0)
	}
	for n := int64(2); n <= 14; n++ {
		checkResults(t, isPerfect(impl.Schedule{Teams: n}), true, 0)
		checkResults(t, isPerfect(many(n, 1)), true, 0)
		checkResults(t, isPerfect(many(n, 2)), false, 0)
		s, _ := impl.CircleOf(n)
		checkResults(t, isPerfect(s), n != 9 && n != 10, 0)
	}
	for _, wrong := range wrongSchedules() {
		checkCode(t, isPerfect(wrong), impl.ErrInvalid)
	}
}

func TestTypesOf(t *testing.T) {
	checkResults(t, typesOf(four()), lists{{4}, {4}, {4}}, 0)
	checkResults(t, typesOf(three()), lists{{2, 1}, {2, 1}, {3}, {2, 1}, {2, 1}, {3}}, 0)
	s := parsed(t, "6:0-1,2-3,4-5;0-1;2-3;;0-2,1-4,3-5")
	checkResults(t, typesOf(s), lists{
		{2, 2, 2}, {2, 2, 2}, {2, 2, 2}, {6},
		{2, 2, 1, 1}, {2, 1, 1, 1, 1}, {4, 2},
		{2, 1, 1, 1, 1}, {4, 2},
		{2, 2, 2},
	}, 0)
	checkResults(t, typesOf(parsed(t, "2:0-1;")), lists{{2}}, 0)
	for n := int64(2); n <= 14; n++ {
		checkResults(t, typesOf(impl.Schedule{Teams: n}), lists{}, 0)
		checkResults(t, typesOf(many(n, 1)), lists{}, 0)
	}
	if all, code := impl.TypesOf(many(14, 40)); len(all) != 780 || code != impl.ErrNone {
		t.Errorf("TypesOf: %d types of 40 rounds, code %d", len(all), code)
	}
	for _, wrong := range wrongSchedules() {
		checkCode(t, typesOf(wrong), impl.ErrInvalid)
	}
}

func TestFindRenumbering(t *testing.T) {
	for _, c := range []struct {
		from, to string
		want     list
	}{
		{"2:0-1", "2:0-1", list{0, 1}}, {"2:", "2:", list{0, 1}}, {"2:;0-1", "2:0-1;", list{0, 1}},
		{"3:0-1", "3:1-2", list{1, 2, 0}}, {"3:0-2", "3:1-2", list{1, 0, 2}}, {"3:1-2", "3:0-1", list{2, 0, 1}},
		{"3:0-1;;0-1;1-2", "3:0-2;0-2;0-1;", list{2, 0, 1}}, {"3:0-1;1-2", "3:1-2;0-1", list{0, 1, 2}},
		{"4:0-1", "4:2-3", list{2, 3, 0, 1}}, {"4:0-1;0-1;2-3", "4:0-1;2-3;2-3", list{2, 3, 0, 1}},
		{"4:0-1,2-3;0-2", "4:0-3;0-1,2-3", list{0, 1, 3, 2}}, {"4:0-1;2-3", "4:0-3;1-2", list{0, 3, 1, 2}},
		{"4:0-3,1-2;0-2,1-3;0-1,2-3", "4:0-1,2-3;0-2,1-3;0-3,1-2", list{0, 1, 2, 3}},
		{"8:6-7", "8:0-7", list{1, 2, 3, 4, 5, 6, 0, 7}}, {"8:0-1;1-2", "8:6-7;5-7", list{5, 7, 6, 0, 1, 2, 3, 4}},
	} {
		checkResults(t, findRenumbering(parsed(t, c.from), parsed(t, c.to)), c.want, 0)
	}
	for n := int64(2); n <= 8; n++ {
		least := list{0, 1, 2, 3, 4, 5, 6, 7}[:n]
		checkResults(t, findRenumbering(impl.Schedule{Teams: n}, impl.Schedule{Teams: n}), least, 0)
		checkResults(t, findRenumbering(many(n, 40), many(n, 40)), least, 0)
		s, _ := impl.CircleOf(n)
		checkResults(t, findRenumbering(s, s), least, 0)
	}
}

func TestFindRenumberingErrors(t *testing.T) {
	for _, wrong := range wrongSchedules() {
		checkCode(t, findRenumbering(wrong, four()), impl.ErrInvalid)
		checkCode(t, findRenumbering(four(), wrong), impl.ErrInvalid)
		checkCode(t, findRenumbering(wrong, many(9, 1)), impl.ErrInvalid)
		checkCode(t, findRenumbering(many(14, 1), wrong), impl.ErrInvalid)
		checkCode(t, findRenumbering(wrong, wrong), impl.ErrInvalid)
	}
	for n := int64(9); n <= 14; n++ {
		checkCode(t, findRenumbering(many(n, 1), many(n, 1)), impl.ErrLimit)
		checkCode(t, findRenumbering(impl.Schedule{Teams: n}, four()), impl.ErrLimit)
		checkCode(t, findRenumbering(four(), impl.Schedule{Teams: n}), impl.ErrLimit)
	}
	for _, c := range [][2]string{
		{"2:0-1", "2:"}, {"2:0-1;", "2:0-1;0-1"}, {"3:0-1;0-1", "3:0-1;1-2"}, {"4:0-1;0-1;2-3", "4:0-1;0-1;0-1"},
		{"4:0-1,2-3;", "4:0-1;2-3"}, {"4:0-1,2-3;", "4:0-1,2-3"}, {"4:0-1,2-3", "4:0-1,2-3;"}, {"4:0-1;1-2;2-3", "4:0-1;0-2;0-3"},
		{"2:0-1", "3:0-1"}, {"3:0-1", "2:0-1"}, {"8:0-1", "7:0-1"}, {"4:0-1,2-3;0-2;1-3", "4:0-1;2-3;0-2,1-3;"},
		{"6:0-1;1-2;0-2;3-4;4-5;3-5", "6:0-1;1-2;2-3;3-4;4-5;0-5"},
		{"4:0-1,2-3;0-1;2-3;", "4:0-1,2-3;0-1,2-3;;"},
	} {
		checkCode(t, findRenumbering(parsed(t, c[0]), parsed(t, c[1])), impl.ErrNotFound)
	}
	checkCode(t, findRenumbering(impl.Schedule{Teams: 2}, impl.Schedule{Teams: 3}), impl.ErrNotFound)
	checkCode(t, findRenumbering(impl.Schedule{Teams: 8}, many(8, 1)), impl.ErrNotFound)
	checkCode(t, findRenumbering(many(8, 1), impl.Schedule{Teams: 8}), impl.ErrNotFound)
}

func TestCountAutomorphisms(t *testing.T) {
	for text, want := range map[string]int64{
		"2:0-1": 2, "2:": 2, "2:0-1;;0-1": 2, "3:0-1": 2, "3:0-1;;0-1;1-2": 1, "3:0-1;1-2;0-2": 6, "3:0-1;1-2": 2,
		"4:0-1,2-3": 8, "4:0-1;2-3": 8, "4:0-1;0-1;2-3": 4, "4:0-1,2-3;0-2": 2, "4:0-1;1-2;2-3": 2, "4:0-1;1-2;2-3;0-3": 8,
		"4:0-3,1-2;0-2,1-3;0-1,2-3": 24, "8:0-1,2-3,4-5,6-7": 384, "8:0-7": 1440, "7:1-3": 240,
		"8:0-1;1-2;2-3;3-4;4-5;5-6;6-7": 2, "8:0-1;1-2;2-3;3-4;4-5;5-6;6-7;0-7": 16, "8:0-1;1-2;1-2;2-3;2-3;2-3": 24,
	} {
		checkResults(t, countAutomorphisms(parsed(t, text)), want, 0)
	}
	circles := list{2, 6, 24, 20, 120, 42, 42}
	for n, all := int64(2), int64(2); n <= 8; n, all = n+1, all*(n+1) {
		checkResults(t, countAutomorphisms(impl.Schedule{Teams: n}), all, 0)
		checkResults(t, countAutomorphisms(many(n, 1)), all, 0)
		checkResults(t, countAutomorphisms(many(n, 40)), all, 0)
		s, _ := impl.CircleOf(n)
		checkResults(t, countAutomorphisms(s), circles[n-2], 0)
	}
	for _, wrong := range wrongSchedules() {
		checkCode(t, countAutomorphisms(wrong), impl.ErrInvalid)
	}
	for n := int64(9); n <= 14; n++ {
		checkCode(t, countAutomorphisms(impl.Schedule{Teams: n}), impl.ErrLimit)
		checkCode(t, countAutomorphisms(many(n, 40)), impl.ErrLimit)
	}
}

func TestCompleteSchedule(t *testing.T) {
	for from, want := range map[string]string{
		"2:0-1": "2:0-1", "4:0-1,2-3": "4:0-1,2-3;0-2,1-3;0-3,1-2", "4:0-2,1-3": "4:0-2,1-3;0-1,2-3;0-3,1-2",
		"4:0-3,1-2;0-2,1-3": "4:0-3,1-2;0-2,1-3;0-1,2-3", "4:0-3,1-2;0-2,1-3;0-1,2-3": "4:0-3,1-2;0-2,1-3;0-1,2-3",
		"6:0-5,1-4,2-3":             "6:0-5,1-4,2-3;0-1,2-4,3-5;0-2,1-5,3-4;0-3,1-2,4-5;0-4,1-3,2-5",
		"6:0-3,1-4,2-5;0-1,2-3,4-5": "6:0-3,1-4,2-5;0-1,2-3,4-5;0-2,1-5,3-4;0-4,1-2,3-5;0-5,1-3,2-4",
		"8:0-7,1-6,2-5,3-4":         "8:0-7,1-6,2-5,3-4;0-1,2-3,4-5,6-7;0-2,1-3,4-6,5-7;0-3,1-2,4-7,5-6;0-4,1-5,2-6,3-7;0-5,1-4,2-7,3-6;0-6,1-7,2-4,3-5",
	} {
		checkResults(t, completeSchedule(parsed(t, from)), parsed(t, want), 0)
	}
	checkResults(t, completeSchedule(impl.Schedule{Teams: 2}), parsed(t, "2:0-1"), 0)
	checkResults(t, completeSchedule(impl.Schedule{Teams: 4}), parsed(t, "4:0-1,2-3;0-2,1-3;0-3,1-2"), 0)
	checkResults(t, completeSchedule(impl.Schedule{Teams: 6}), parsed(t, "6:0-1,2-3,4-5;0-2,1-4,3-5;0-3,1-5,2-4;0-4,1-3,2-5;0-5,1-2,3-4"), 0)
	eight := parsed(t, "8:0-1,2-3,4-5,6-7;0-2,1-3,4-6,5-7;0-3,1-2,4-7,5-6;0-4,1-5,2-6,3-7;0-5,1-4,2-7,3-6;0-6,1-7,2-4,3-5;0-7,1-6,2-5,3-4")
	checkResults(t, completeSchedule(impl.Schedule{Teams: 8}), eight, 0)
	for n := int64(2); n <= 8; n += 2 {
		s, _ := impl.CircleOf(n)
		checkResults(t, completeSchedule(s), s, 0)
	}
}

func TestCompleteScheduleErrors(t *testing.T) {
	for _, wrong := range wrongSchedules() {
		checkCode(t, completeSchedule(wrong), impl.ErrInvalid)
	}
	for n := int64(9); n <= 14; n++ {
		s, _ := impl.CircleOf(n)
		checkCode(t, completeSchedule(s), impl.ErrLimit)
		checkCode(t, completeSchedule(impl.Schedule{Teams: n}), impl.ErrLimit)
		checkCode(t, completeSchedule(many(n, 40)), impl.ErrLimit)
	}
	for n := int64(3); n <= 7; n += 2 {
		s, _ := impl.CircleOf(n)
		checkCode(t, completeSchedule(s), impl.ErrState)
		checkCode(t, completeSchedule(impl.Schedule{Teams: n}), impl.ErrState)
		checkCode(t, completeSchedule(many(n, 1)), impl.ErrState)
		checkCode(t, completeSchedule(many(n, 40)), impl.ErrState)
	}
	for _, text := range []string{
		"2:", "2:0-1;0-1", "2:0-1;", "2:;0-1", "4:0-1", "4:", "4:0-1,2-3;0-2", "4:0-1,2-3;0-1,2-3", "4:0-1,2-3;0-2,1-3;0-3,1-2;",
		"4:0-1,2-3;0-2,1-3;0-3,1-2;0-1,2-3", "4:0-1,2-3;0-2,1-3;0-1,2-3", "6:0-1,2-3,4-5;0-1,2-4,3-5", "6:0-1,2-3,4-5;0-2,1-4,3-5;0-3,1-4,2-5",
		"6:0-3,1-4,2-5;0-4,1-5,2-3;0-5,1-3,2-4;", "6:0-3,1-4,2-5;0-4,1-5,2-3;0-5,1-3,2-4;0-3,1-4,2-5", "8:0-1,2-3,4-5", "8:0-1,2-3,4-5,6-7;0-2,1-3,4-5,6-7",
	} {
		checkCode(t, completeSchedule(parsed(t, text)), impl.ErrState)
	}
	for n := int64(2); n <= 8; n += 2 {
		checkCode(t, completeSchedule(many(n, 1)), impl.ErrState)
		checkCode(t, completeSchedule(many(n, 40)), impl.ErrState)
	}
	checkCode(t, completeSchedule(parsed(t, "6:0-3,1-4,2-5;0-4,1-5,2-3;0-5,1-3,2-4")), impl.ErrNotFound)
	checkCode(t, completeSchedule(parsed(t, "6:0-5,1-3,2-4;0-3,1-4,2-5;0-4,1-5,2-3")), impl.ErrNotFound)
}

func TestCountRobins(t *testing.T) {
	for n, want := range map[int64]int64{2: 1, 3: 1, 4: 1, 5: 6, 6: 6} {
		checkResults(t, countRobins(n), want, 0)
	}
	for _, n := range (list{math.MinInt64, -2, -1, 0, 1, 7, 8, 14, math.MaxInt64}) {
		checkCode(t, countRobins(n), impl.ErrRange)
	}
}

func TestWideLimit(t *testing.T) {
	if impl.MaxWide != 8 {
		t.Errorf("MaxWide is %d", impl.MaxWide)
	}
}
