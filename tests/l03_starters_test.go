package tests

import (
	"math"
	"testing"

	"loop.example/g01379/impl"
)

// noModuli are no moduli of starters: even ones, and those beyond the limits.
var noModuli = list{
	math.MinInt64, math.MinInt64 + 7, -7, -3, -2, -1, 0, 1, 2, 4, 6, 8, 10, 12, 14, 15, 16, 17, 21, 1<<32 + 7, math.MaxInt64 - 1, math.MaxInt64,
}

// strong7 and patterned7 are starters modulo 7, as is the multiple of strong7 by -1.
var (
	strong7    = lists{{1, 3}, {2, 6}, {4, 5}}
	opposite7  = lists{{1, 5}, {2, 3}, {4, 6}}
	patterned7 = lists{{1, 6}, {2, 5}, {3, 4}}
)

// toldStarters are starters, and what chapter 3 tells of them.
var toldStarters = []struct {
	m      int64
	pairs  lists
	sums   list
	strong bool
	adder  list // the least one, if there is one
}{
	{3, lists{{1, 2}}, list{0}, false, nil},
	{5, lists{{1, 4}, {2, 3}}, list{0, 0}, false, nil},
	{7, strong7, list{4, 1, 2}, true, list{3, 6, 5}},
	{7, opposite7, list{6, 5, 3}, true, list{1, 2, 4}},
	{7, patterned7, list{0, 0, 0}, false, list{2, 4, 1}},
	{9, lists{{1, 2}, {3, 6}, {4, 8}, {5, 7}}, list{3, 0, 3, 3}, false, nil},
	{9, lists{{1, 2}, {3, 7}, {4, 6}, {5, 8}}, list{3, 1, 1, 4}, false, list{1, 7, 2, 8}},
	{9, lists{{1, 3}, {2, 5}, {4, 8}, {6, 7}}, list{4, 7, 3, 4}, false, list{1, 5, 4, 8}},
	{9, lists{{1, 5}, {2, 4}, {3, 6}, {7, 8}}, list{6, 6, 0, 6}, false, nil},
	{9, lists{{1, 8}, {2, 7}, {3, 6}, {4, 5}}, list{0, 0, 0, 0}, false, nil},
	{11, lists{{1, 2}, {3, 6}, {4, 8}, {5, 10}, {7, 9}}, list{3, 9, 1, 4, 5}, true, list{1, 3, 4, 5, 9}},
	{11, lists{{1, 10}, {2, 9}, {3, 8}, {4, 7}, {5, 6}}, list{0, 0, 0, 0, 0}, false, list{3, 5, 9, 1, 4}},
	{13, lists{{1, 2}, {3, 6}, {4, 11}, {5, 9}, {7, 12}, {8, 10}}, list{3, 9, 2, 1, 6, 5}, true, list{1, 4, 7, 3, 2, 9}},
	{13, lists{{1, 12}, {2, 11}, {3, 10}, {4, 9}, {5, 8}, {6, 7}}, list{0, 0, 0, 0, 0, 0}, false, list{3, 5, 9, 1, 6, 2}},
}

func TestToldStarters(t *testing.T) {
	if impl.MaxModulus != 13 {
		t.Errorf("MaxModulus = %d", impl.MaxModulus)
	}
	for _, c := range toldStarters {
		checkResults(t, isStarter(c.m, c.pairs), true)
		checkResults(t, sumsOf(c.m, c.pairs), c.sums, 0)
		checkResults(t, isStrong(c.m, c.pairs), c.strong, 0)
		checkResults(t, isSkew(c.m, c.pairs), c.strong, 0) // all strong ones up to the modulus 13 are skew
		if c.adder == nil {
			checkCode(t, firstAdder(c.m, c.pairs), impl.ErrNotFound)
		} else {
			checkResults(t, firstAdder(c.m, c.pairs), c.adder, 0)
			checkResults(t, isAdder(c.m, c.pairs, c.adder), true, 0)
		}
		if c.strong {
			adder := list{}
			for _, sum := range c.sums {
				adder = append(adder, c.m-sum)
			}
			checkResults(t, strongAdder(c.m, c.pairs), adder, 0)
		} else {
			checkCode(t, strongAdder(c.m, c.pairs), impl.ErrState)
		}
	}
}

// Lists that are no starter, though each of their pairs is of two different numbers in 1..m - 1.
var noStarters = []struct {
	m     int64
	pairs lists
}{
	{3, nil}, {3, lists{}}, {3, lists{{2, 1}}}, {3, lists{{1, 2}, {1, 2}}}, {3, lists{{1, 2}, {2, 1}}},
	{5, lists{{1, 4}}}, {5, lists{{2, 3}}}, {5, lists{{1, 2}, {3, 4}}}, {5, lists{{1, 3}, {2, 4}}},
	{5, lists{{4, 1}, {2, 3}}}, {5, lists{{1, 4}, {3, 2}}}, {5, lists{{2, 3}, {1, 4}}}, {5, lists{{1, 4}, {2, 3}, {1, 4}}},
	{5, lists{{1, 4}, {1, 4}}}, {5, lists{{1, 4}, {1, 3}}}, {5, lists{{1, 2}, {1, 3}}}, {5, lists{{1, 4}, {2, 4}}},
	{7, nil}, {7, lists{{1, 3}, {2, 6}}}, {7, lists{{1, 3}, {2, 6}, {4, 5}, {4, 5}}}, {7, lists{{1, 3}, {4, 5}, {2, 6}}},
	{7, lists{{3, 1}, {2, 6}, {4, 5}}}, {7, lists{{1, 3}, {6, 2}, {4, 5}}}, {7, lists{{1, 3}, {2, 6}, {5, 4}}},
	{7, lists{{2, 6}, {1, 3}, {4, 5}}}, {7, lists{{4, 5}, {2, 6}, {1, 3}}}, {7, lists{{1, 2}, {3, 4}, {5, 6}}},
	{7, lists{{1, 4}, {2, 5}, {3, 6}}}, {7, lists{{1, 6}, {2, 4}, {3, 5}}}, {7, lists{{1, 3}, {2, 6}, {4, 6}}},
	{7, lists{{1, 2}, {3, 5}, {4, 6}}}, {7, lists{{1, 3}, {2, 5}, {4, 6}}}, {7, lists{{1, 6}, {2, 4}, {3, 6}}},
	{9, lists{{1, 2}, {3, 6}, {4, 8}}}, {9, lists{{1, 2}, {3, 6}, {4, 8}, {7, 5}}}, {9, lists{{1, 2}, {3, 7}, {4, 8}, {5, 6}}},
	{9, patterned7}, {5, lists{{1, 4}, {2, 3}, {1, 2}, {3, 4}}}, {13, patterned7}, {13, nil},
	{11, lists{{1, 2}, {3, 6}, {4, 8}, {5, 10}}}, {13, lists{{1, 12}, {2, 11}, {3, 10}, {4, 9}, {5, 8}, {6, 7}, {6, 7}}},
}

func TestNoStarters(t *testing.T) {
	for _, c := range noStarters {
		checkResults(t, isStarter(c.m, c.pairs), false)
		for _, own := range callsOfStarter(c.m, c.pairs) {
			checkCode(t, own, impl.ErrInvalid)
		}
	}
}

// noPairs are lists that are no pair of two different numbers in 1..6.
var noPairs = lists{
	nil, {}, {1}, {2, 6, 4}, {2, 6, 0}, {2, 6, 2, 6}, {2, 2}, {6, 6}, {0, 6}, {2, 0}, {0, 0}, {2, 7}, {7, 2}, {7, 7}, {2, 8},
	{-1, 6}, {2, -1}, {2, 13}, {9, 13}, {2, math.MaxInt64}, {math.MinInt64, 6}, {math.MinInt64, math.MaxInt64},
}

func TestNoPairs(t *testing.T) {
	for _, wrong := range noPairs {
		for _, pairs := range []lists{
			{{1, 3}, wrong, {4, 5}}, {wrong, {2, 6}, {4, 5}}, {{1, 3}, {2, 6}, wrong}, {wrong}, {{1, 2}, wrong},
			{{1, 3}, {2, 6}, {4, 5}, wrong}, {{5, 4}, {5, 4}, {5, 4}, {5, 4}, wrong},
		} {
			checkResults(t, isStarter(7, pairs), false)
			for _, own := range callsOfStarter(7, pairs) {
				checkCode(t, own, impl.ErrRange)
			}
		}
	}
	// The numbers that a pair may have depend on the modulus.
	checkCode(t, sumsOf(5, strong7), impl.ErrRange)
	checkCode(t, sumsOf(9, strong7), impl.ErrInvalid)
}

func TestNoModuli(t *testing.T) {
	patterned15 := lists{{1, 14}, {2, 13}, {3, 12}, {4, 11}, {5, 10}, {6, 9}, {7, 8}}
	for _, m := range noModuli {
		checkCode(t, patternedStarter(m), impl.ErrRange)
		checkCode(t, countStarters(m), impl.ErrRange)
		checkCode(t, firstStrong(m), impl.ErrRange)
		checkCode(t, starterList(m), impl.ErrRange)
		for _, pairs := range []lists{nil, {{1, 2}}, {{1, 3}}, {{1, 4}, {2, 3}}, strong7, patterned7, patterned15, {{0, 0}}, {{3}}} {
			checkResults(t, isStarter(m, pairs), false)
			for _, own := range callsOfStarter(m, pairs) {
				checkCode(t, own, impl.ErrRange)
			}
			checkCode(t, isAdder(m, pairs, nil), impl.ErrRange)
		}
	}
}

func TestPatternedStarter(t *testing.T) {
	checkResults(t, patternedStarter(3), lists{{1, 2}}, 0)
	checkResults(t, patternedStarter(5), lists{{1, 4}, {2, 3}}, 0)
	checkResults(t, patternedStarter(7), patterned7, 0)
	checkResults(t, patternedStarter(9), lists{{1, 8}, {2, 7}, {3, 6}, {4, 5}}, 0)
	checkResults(t, patternedStarter(11), lists{{1, 10}, {2, 9}, {3, 8}, {4, 7}, {5, 6}}, 0)
	checkResults(t, patternedStarter(13), lists{{1, 12}, {2, 11}, {3, 10}, {4, 9}, {5, 8}, {6, 7}}, 0)
}

func TestIsAdder(t *testing.T) {
	for _, c := range []struct {
		pairs lists
		adder list
		want  bool
	}{
		{strong7, list{3, 6, 5}, true}, {strong7, list{1, 2, 3}, false},
		{strong7, list{6, 6, 6}, false},   // 1 becomes 0, and the numbers are equal
		{strong7, list{1, 1, 1}, false},   // 6 becomes 0, and the numbers are equal
		{strong7, list{4, 6, 5}, false},   // 3 becomes 0
		{strong7, list{3, 6, 2}, false},   // 5 becomes 0
		{strong7, list{3, 6, 3}, false},   // 4 becomes 0, and two numbers are equal
		{strong7, list{3, 6, 6}, false},   // 4 becomes 3, 5 becomes 4, as does 1, and two numbers are equal
		{strong7, list{3, 6, 4}, false},   // 5 and 4 become 2 and 1, and 2 becomes 1, too
		{strong7, list{3, 6, 1}, false},   // 4 and 5 become 5 and 6, and 6 becomes 5, too
		{strong7, list{5, 6, 4}, false},   // 1 becomes 6, 3 becomes 1, and 2 becomes 1, too
		{opposite7, list{1, 2, 4}, true},  // the least one
		{opposite7, list{4, 2, 1}, false}, // the same numbers for other pairs
		{patterned7, list{2, 4, 1}, true}, {patterned7, list{5, 3, 6}, true}, {patterned7, list{4, 1, 2}, false},
		{patterned7, list{3, 5, 6}, false}, {patterned7, list{2, 4, 2}, false},
	} {
		checkResults(t, isAdder(7, c.pairs, c.adder), c.want, 0)
	}
	checkResults(t, isAdder(3, lists{{1, 2}}, list{1}), false, 0)
	checkResults(t, isAdder(3, lists{{1, 2}}, list{2}), false, 0)
}

func TestIsAdderErrors(t *testing.T) {
	for _, adder := range (lists{
		nil, {}, {3}, {3, 6}, {3, 6, 5, 1}, {3, 6, 5, 0}, {0, 6, 5}, {3, 0, 5}, {3, 6, 0}, {7, 6, 5}, {3, 7, 5}, {3, 6, 7},
		{-4, 6, 5}, {3, -1, 5}, {3, 6, 12}, {3, 6, math.MaxInt64}, {math.MinInt64, 6, 5},
	}) {
		checkCode(t, isAdder(7, strong7, adder), impl.ErrRange)
		// All ranges are checked before it is asked whether the pairs are a starter.
		checkCode(t, isAdder(7, lists{{1, 2}, {3, 4}, {5, 6}}, adder), impl.ErrRange)
	}
	checkCode(t, isAdder(7, lists{{1, 2}, {3, 4}, {5, 6}}, list{3, 6, 5}), impl.ErrInvalid)
	checkCode(t, isAdder(7, lists{{1, 3}, {2, 6}}, list{3, 6}), impl.ErrInvalid)
	checkCode(t, isAdder(7, lists{{1, 3}, {2, 6}}, list{3, 6, 5}), impl.ErrRange)
	checkCode(t, isAdder(7, nil, nil), impl.ErrInvalid)
	checkCode(t, isAdder(7, lists{{1, 3}, {2, 6}, {4, 4}}, list{3, 6, 5}), impl.ErrRange)
	checkCode(t, isAdder(5, lists{{1, 4}, {2, 3}}, list{3, 5}), impl.ErrRange)
	checkCode(t, isAdder(6, strong7, list{3, 6, 5}), impl.ErrRange)
}

func TestCounts(t *testing.T) {
	for _, c := range (lists{{3, 1, 0, 0}, {5, 1, 0, 0}, {7, 3, 2, 2}, {9, 9, 0, 0}, {11, 25, 4, 4}, {13, 133, 8, 8}}) {
		checkResults(t, countStarters(c[0]), c[1], c[2], c[3], 0)
	}
}

func TestFirstStrong(t *testing.T) {
	checkResults(t, firstStrong(7), strong7, 0)
	checkResults(t, firstStrong(11), lists{{1, 2}, {3, 6}, {4, 8}, {5, 10}, {7, 9}}, 0)
	checkResults(t, firstStrong(13), lists{{1, 2}, {3, 6}, {4, 11}, {5, 9}, {7, 12}, {8, 10}}, 0)
	for _, m := range (list{3, 5, 9}) {
		checkCode(t, firstStrong(m), impl.ErrNotFound)
	}
}

func TestStarterList(t *testing.T) {
	checkResults(t, starterList(3), []lists{{{1, 2}}}, 0)
	checkResults(t, starterList(5), []lists{{{1, 4}, {2, 3}}}, 0)
	checkResults(t, starterList(7), []lists{strong7, opposite7, patterned7}, 0)
	checkResults(t, starterList(9), []lists{
		{{1, 2}, {3, 6}, {4, 8}, {5, 7}}, {{1, 2}, {3, 7}, {4, 6}, {5, 8}}, {{1, 3}, {2, 5}, {4, 8}, {6, 7}},
		{{1, 4}, {2, 6}, {3, 5}, {7, 8}}, {{1, 5}, {2, 3}, {4, 7}, {6, 8}}, {{1, 5}, {2, 4}, {3, 6}, {7, 8}},
		{{1, 6}, {2, 8}, {3, 4}, {5, 7}}, {{1, 7}, {2, 4}, {3, 8}, {5, 6}}, {{1, 8}, {2, 7}, {3, 6}, {4, 5}},
	}, 0)
	checkCode(t, starterList(11), impl.ErrLimit)
	checkCode(t, starterList(13), impl.ErrLimit)
	checkCode(t, starterList(10), impl.ErrRange)
	checkCode(t, starterList(15), impl.ErrRange)
}

func TestAreOrthogonal(t *testing.T) {
	for _, c := range []struct {
		m      int64
		pairs  lists
		others lists
		want   bool
	}{
		{3, lists{{1, 2}}, lists{{1, 2}}, false}, {5, lists{{1, 4}, {2, 3}}, lists{{1, 4}, {2, 3}}, false},
		{7, strong7, opposite7, true}, {7, strong7, strong7, false}, {7, patterned7, patterned7, false},
		{7, strong7, patterned7, true}, {7, opposite7, patterned7, true},
		// The pairs with the difference 3 are equal.
		{9, lists{{1, 2}, {3, 6}, {4, 8}, {5, 7}}, lists{{1, 8}, {2, 7}, {3, 6}, {4, 5}}, false},
		// 4, 6 and 3, 5 differ by 8, as do 3, 7 and 2, 6.
		{9, lists{{1, 2}, {3, 7}, {4, 6}, {5, 8}}, lists{{1, 4}, {2, 6}, {3, 5}, {7, 8}}, false},
		// The pairs with the differences 1 to 4 differ by 1, 2, 8 and 7.
		{9, lists{{1, 2}, {3, 7}, {4, 6}, {5, 8}}, lists{{1, 5}, {2, 3}, {4, 7}, {6, 8}}, true},
		{11, lists{{1, 2}, {3, 6}, {4, 8}, {5, 10}, {7, 9}}, lists{{1, 6}, {2, 4}, {3, 7}, {5, 8}, {9, 10}}, true},
	} {
		checkResults(t, areOrthogonal(c.m, c.pairs, c.others), c.want, 0)
		checkResults(t, areOrthogonal(c.m, c.others, c.pairs), c.want, 0)
	}
}

func TestAreOrthogonalErrors(t *testing.T) {
	none, wrong := lists{{1, 2}, {3, 4}, {5, 6}}, lists{{1, 3}, {2, 6}, {4, 7}}
	checkCode(t, areOrthogonal(7, strong7, none), impl.ErrInvalid)
	checkCode(t, areOrthogonal(7, none, strong7), impl.ErrInvalid)
	checkCode(t, areOrthogonal(7, strong7, wrong), impl.ErrRange)
	checkCode(t, areOrthogonal(7, wrong, strong7), impl.ErrRange)
	checkCode(t, areOrthogonal(7, none, wrong), impl.ErrRange)
	checkCode(t, areOrthogonal(7, wrong, none), impl.ErrRange)
	checkCode(t, areOrthogonal(7, strong7, nil), impl.ErrInvalid)
	checkCode(t, areOrthogonal(7, nil, strong7), impl.ErrInvalid)
	checkCode(t, areOrthogonal(9, strong7, patterned7), impl.ErrInvalid)
	checkCode(t, areOrthogonal(5, lists{{1, 4}, {2, 3}}, strong7), impl.ErrRange)
	checkCode(t, areOrthogonal(8, strong7, opposite7), impl.ErrRange)
}

func TestMultipleOf(t *testing.T) {
	nine := lists{{1, 2}, {3, 6}, {4, 8}, {5, 7}}
	for _, c := range []struct {
		m     int64
		pairs lists
		t     int64
		want  lists
	}{
		{3, lists{{1, 2}}, 1, lists{{1, 2}}}, {3, lists{{1, 2}}, 2, lists{{1, 2}}},
		{5, lists{{1, 4}, {2, 3}}, 3, lists{{1, 4}, {2, 3}}},
		{7, strong7, 1, strong7}, {7, strong7, 2, strong7}, {7, strong7, 3, opposite7}, {7, strong7, 6, opposite7},
		{7, opposite7, 6, strong7}, {7, patterned7, 5, patterned7}, {7, patterned7, 6, patterned7},
		{9, nine, 1, nine}, {9, nine, 8, lists{{1, 5}, {2, 4}, {3, 6}, {7, 8}}}, {9, nine, 2, lists{{1, 5}, {2, 4}, {3, 6}, {7, 8}}},
		{
			11, lists{{1, 2}, {3, 6}, {4, 8}, {5, 10}, {7, 9}}, 10,
			lists{{1, 6}, {2, 4}, {3, 7}, {5, 8}, {9, 10}},
		},
		{
			13, lists{{1, 2}, {3, 6}, {4, 11}, {5, 9}, {7, 12}, {8, 10}}, 2,
			lists{{1, 11}, {2, 4}, {3, 7}, {5, 10}, {6, 12}, {8, 9}},
		},
		{
			13, lists{{1, 2}, {3, 6}, {4, 11}, {5, 9}, {7, 12}, {8, 10}}, 12,
			lists{{1, 6}, {2, 9}, {3, 5}, {4, 8}, {7, 10}, {11, 12}},
		},
	} {
		checkResults(t, multipleOf(c.m, c.pairs, c.t), c.want, 0)
	}
}

func TestMultipleOfErrors(t *testing.T) {
	nine, none := lists{{1, 2}, {3, 6}, {4, 8}, {5, 7}}, lists{{1, 2}, {3, 4}, {5, 6}, {7, 8}}
	for _, x := range (list{math.MinInt64, -8, -1, 0, 3, 6, 9, 10, 18, 19, math.MaxInt64}) {
		checkCode(t, multipleOf(9, nine, x), impl.ErrRange)
		checkCode(t, multipleOf(9, none, x), impl.ErrRange)
	}
	for _, x := range (list{-6, -1, 0, 7, 8, 14, 15}) {
		checkCode(t, multipleOf(7, strong7, x), impl.ErrRange)
	}
	for _, x := range (list{1, 2, 4, 5, 7, 8}) {
		checkCode(t, multipleOf(9, none, x), impl.ErrInvalid)
		checkCode(t, multipleOf(9, lists{{1, 2}, {3, 6}, {4, 8}, {5, 9}}, x), impl.ErrRange)
	}
	checkCode(t, multipleOf(10, nine, 3), impl.ErrRange)
}

func TestScheduleOfStarter(t *testing.T) {
	for _, c := range []struct {
		m     int64
		pairs lists
		text  string
	}{
		{3, lists{{1, 2}}, "4:0-3,1-2;0-2,1-3;0-1,2-3"},
		{5, lists{{1, 4}, {2, 3}}, "6:0-5,1-4,2-3;0-2,1-5,3-4;0-4,1-3,2-5;0-1,2-4,3-5;0-3,1-2,4-5"},
		{7, strong7, "8:0-7,1-3,2-6,4-5;0-3,1-7,2-4,5-6;0-6,1-4,2-7,3-5;0-1,2-5,3-7,4-6;0-5,1-2,3-6,4-7;0-4,1-6,2-3,5-7;0-2,1-5,3-4,6-7"},
	} {
		checkResults(t, scheduleOfStarter(c.m, c.pairs), parsed(t, c.text), 0)
	}
	// The schedule of the greatest modulus has all teams.
	s, code := impl.ScheduleOfStarter(13, lists{{1, 12}, {2, 11}, {3, 10}, {4, 9}, {5, 8}, {6, 7}})
	if code != impl.ErrNone || s.Teams != 14 || len(s.Rounds) != 13 {
		t.Fatalf("ScheduleOfStarter(13) = %v, %d", s, code)
	}
	if s.Rounds[12] != (round{11, 10, 9, 8, 7, 6, 5, 4, 3, 2, 1, 0, 13, 12}) {
		t.Errorf("ScheduleOfStarter(13) has the last round %v", s.Rounds[12])
	}
}
