package tests

import (
	"math"
	"slices"
	"testing"

	"loop.example/g01379/impl"
)

// toldVenues are venues of schedules, and what chapter 5 tells of them.
var toldVenues = []struct {
	schedule string
	venues   lists
	breaks   list
	homes    list
	balanced bool
	opposite lists // the pairs of opposite teams
}{
	{"2:0-1", lists{{1, 0}}, list{0, 0}, list{1, 0}, true, lists{{0, 1}}},
	{"2:", lists{{-1, -1}}, list{0, 0}, list{0, 0}, true, lists{{0, 1}}},
	{"2:0-1;0-1", lists{{0, 1}, {0, 1}}, list{1, 1}, list{0, 2}, false, lists{{0, 1}}},
	{"2:0-1;0-1", lists{{0, 1}, {1, 0}}, list{0, 0}, list{1, 1}, true, lists{{0, 1}}},
	{"2:0-1;0-1;0-1;0-1", lists{{0, 1}, {0, 1}, {0, 1}, {1, 0}}, list{2, 2}, list{1, 3}, false, lists{{0, 1}}},
	{"2:0-1;0-1;0-1", lists{{0, 1}, {1, 0}, {1, 0}}, list{1, 1}, list{2, 1}, true, lists{{0, 1}}},
	// A round in which a team is free parts its breaks, and two such rounds are none.
	{"2:0-1;;0-1", lists{{1, 0}, {-1, -1}, {1, 0}}, list{0, 0}, list{2, 0}, false, lists{{0, 1}}},
	{"2:;;0-1;;", lists{{-1, -1}, {-1, -1}, {0, 1}, {-1, -1}, {-1, -1}}, list{0, 0}, list{0, 1}, true, lists{{0, 1}}},
	{"2:0-1;0-1;;0-1;0-1", lists{{1, 0}, {1, 0}, {-1, -1}, {1, 0}, {1, 0}}, list{2, 2}, list{4, 0}, false, lists{{0, 1}}},
	{"3:0-1;1-2", lists{{1, 0, -1}, {-1, 1, 0}}, list{0, 0, 0}, list{1, 1, 0}, true, nil},
	{"3:0-1;1-2;0-2", lists{{1, 0, -1}, {-1, 1, 0}, {0, -1, 1}}, list{0, 0, 0}, list{1, 1, 1}, true, nil},
	{"3:0-1;1-2;0-2", lists{{1, 0, -1}, {-1, 0, 1}, {0, -1, 1}}, list{0, 1, 1}, list{1, 0, 2}, false, nil},
	{"3:0-1;0-1;1-2", lists{{1, 0, -1}, {1, 0, -1}, {-1, 0, 1}}, list{1, 2, 0}, list{2, 0, 1}, false, nil},
	{"3:0-1;0-1;", lists{{1, 0, -1}, {0, 1, -1}, {-1, -1, -1}}, list{0, 0, 0}, list{1, 1, 0}, true, lists{{0, 1}}},
	{"3:0-1;1-2;0-1;", lists{{0, 1, -1}, {-1, 1, 0}, {1, 0, -1}, {-1, -1, -1}}, list{0, 1, 0}, list{1, 2, 0}, true, nil},
	{"4:0-3,1-2;0-2,1-3;0-1,2-3", lists{{0, 1, 0, 1}, {0, 1, 1, 0}, {1, 0, 0, 1}}, list{1, 1, 0, 0}, list{1, 2, 1, 2}, true, lists{{0, 1}, {2, 3}}},
	{"4:0-3,1-2;0-2,1-3;0-1,2-3", lists{{1, 1, 0, 0}, {1, 1, 0, 0}, {1, 0, 1, 0}}, list{2, 1, 1, 2}, list{3, 2, 1, 0}, false, lists{{0, 3}, {1, 2}}},
	{"4:0-1;2-3", lists{{1, 0, -1, -1}, {-1, -1, 1, 0}}, list{0, 0, 0, 0}, list{1, 0, 1, 0}, true, lists{{0, 1}, {2, 3}}},
	{"4:0-1,2-3;0-2", lists{{1, 0, 1, 0}, {1, -1, 0, -1}}, list{1, 0, 0, 0}, list{2, 0, 1, 0}, false, nil},
	{"5:0-1,2-3;0-1,2-4;0-1,2-3", lists{{1, 0, 0, 1, -1}, {0, 1, 0, -1, 1}, {1, 0, 1, 0, -1}}, list{0, 0, 1, 0, 0}, list{2, 1, 1, 1, 1}, true, lists{{0, 1}}},
}

func TestToldVenues(t *testing.T) {
	for _, c := range toldVenues {
		s := parsed(t, c.schedule)
		checkResults(t, areVenues(s, c.venues), true, 0)
		checkResults(t, breaksOf(s, c.venues), c.breaks, 0)
		checkResults(t, homesOf(s, c.venues), c.homes, 0)
		checkResults(t, areBalanced(s, c.venues), c.balanced, 0)
		for a := range s.Teams {
			for b := range a {
				is := slices.ContainsFunc(c.opposite, func(p list) bool { return p[0] == b && p[1] == a })
				checkResults(t, areOpposite(s, c.venues, a, b), is, 0)
				checkResults(t, areOpposite(s, c.venues, b, a), is, 0)
			}
		}
	}
}

// notVenues have the form of venues, but are none.
var notVenues = []struct {
	schedule string
	venues   lists
}{
	{"2:0-1", lists{{1, 1}}}, {"2:0-1", lists{{0, 0}}}, // two opponents both at home, or both away
	{"2:", lists{{1, -1}}}, {"2:", lists{{-1, 0}}}, {"2:", lists{{0, 1}}}, // a free team with 0 or 1
	{"2:0-1", lists{{-1, -1}}}, {"2:0-1", lists{{-1, 1}}}, {"2:0-1", lists{{0, -1}}}, // a team that plays with -1
	{"2:0-1;0-1", lists{{1, 0}, {1, 1}}}, {"2:0-1;;0-1", lists{{1, 0}, {1, 0}, {0, 1}}}, {"2:0-1;;0-1", lists{{-1, -1}, {-1, -1}, {0, 1}}},
	{"3:0-1;1-2", lists{{1, 0, 0}, {-1, 1, 0}}}, {"3:0-1;1-2", lists{{1, 0, 1}, {-1, 1, 0}}}, {"3:0-1;1-2", lists{{1, 0, -1}, {1, 0, -1}}},
	{"3:0-1;1-2", lists{{1, 0, -1}, {0, -1, 1}}}, {"3:0-2", lists{{1, -1, 1}}}, {"3:", lists{{-1, -1, 1}}},
	{"4:0-3,1-2;0-2,1-3;0-1,2-3", lists{{1, 1, 0, 0}, {0, 1, 1, 1}, {1, 0, 0, 1}}},
	{"4:0-3,1-2;0-2,1-3;0-1,2-3", lists{{1, 1, 0, 0}, {0, 1, 1, 0}, {1, 0, 1, 1}}},
	{"4:0-3,1-2;0-2,1-3;0-1,2-3", lists{{1, 0, 1, 0}, {0, 1, 0, 1}, {1, 0, 0, 1}}},
	{"4:0-3,1-2", lists{{1, -1, -1, 0}}}, {"4:0-3", lists{{1, 1, 0, 0}}}, {"4:0-3,1-2", lists{{0, 0, 0, 1}}},
}

func TestNotVenues(t *testing.T) {
	for _, c := range notVenues {
		s := parsed(t, c.schedule)
		checkResults(t, areVenues(s, c.venues), false, 0)
		for _, own := range callsOfVenues(s, c.venues) {
			checkCode(t, own, impl.ErrState)
		}
		for _, own := range callsWithNoNumbers(s, c.venues) {
			checkCode(t, own, impl.ErrRange)
		}
	}
	// Each team alone, at the limits of teams and of rounds.
	s := many(14, 40)
	for i := range 40 {
		for _, number := range (list{0, 1}) {
			v := freeOnes(s)
			v[i][(5*i+3)%14] = number
			checkResults(t, areVenues(s, v), false, 0)
		}
	}
	checkResults(t, areVenues(s, freeOnes(s)), true, 0)
}

// freeOnes returns lists of -1 for a schedule, or something like them if it is none.
func freeOnes(s impl.Schedule) lists {
	v := lists{}
	for range s.Rounds {
		v = append(v, slices.Repeat(list{-1}, int(max(0, min(s.Teams, 20)))))
	}
	return v
}

// withoutForm returns lists that have not the form of venues of a schedule, each for another reason.
func withoutForm(s impl.Schedule) []lists {
	v := freeOnes(s)
	out := []lists{append(freeOnes(s), slices.Repeat(list{-1}, int(s.Teams))), append(freeOnes(s), nil)}
	if len(v) == 0 {
		return append(out, lists{{}}, lists{{1, 0}})
	}
	out = append(out, nil, v[1:], v[:len(v)-1])
	if len(v) > 1 {
		out = append(out, lists{slices.Concat(v...)}) // all numbers in one list
	}
	for _, i := range []int{0, len(v) / 2, len(v) - 1} {
		short, long, none := freeOnes(s), freeOnes(s), freeOnes(s)
		short[i], long[i], none[i] = short[i][1:], append(long[i], -1), nil
		out = append(out, short, long, none)
		for _, number := range (list{math.MinInt64, -3, -2, 2, 3, 1 << 32, math.MaxInt64}) {
			for _, a := range []int64{0, s.Teams / 2, s.Teams - 1} {
				wrong := freeOnes(s)
				wrong[i][a] = number
				out = append(out, wrong)
			}
		}
	}
	return out
}

func TestVenuesWithoutForm(t *testing.T) {
	for _, s := range []impl.Schedule{
		four(), three(), {Teams: 2}, {Teams: 3}, {Teams: 14}, parsed(t, "2:0-1"), many(2, 1), many(2, 40), many(13, 2), many(14, 40),
		parsed(t, "5:0-1,2-3;0-1,2-4;0-1,2-3"),
	} {
		for _, v := range withoutForm(s) {
			checkCode(t, areVenues(s, v), impl.ErrRange)
			for _, own := range slices.Concat(callsOfVenues(s, v), callsWithNoNumbers(s, v)) {
				checkCode(t, own, impl.ErrRange)
			}
		}
	}
	// The form comes before the meetings: a number outside -1..1 behind two opponents both at home.
	s := parsed(t, "2:0-1;0-1")
	checkCode(t, areVenues(s, lists{{1, 1}, {2, 0}}), impl.ErrRange)
	checkCode(t, areVenues(s, lists{{1, 1}, {1, 0, 0}}), impl.ErrRange)
	checkCode(t, breaksOf(s, lists{{1, 1}, {-2, 0}}), impl.ErrRange)
	// A number and what is missing to 1 are opponents only in -1..1.
	checkCode(t, areVenues(s, lists{{1, 0}, {2, -1}}), impl.ErrRange)
	checkCode(t, areVenues(s, lists{{1, 0}, {3, -2}}), impl.ErrRange)
}

func TestVenuesOfWrongSchedules(t *testing.T) {
	for _, s := range wrongSchedules() {
		checkCode(t, firstVenues(s), impl.ErrInvalid)
		checkCode(t, fewestBreaks(s), impl.ErrInvalid)
		for _, v := range []lists{freeOnes(s), {{7}, nil}} {
			checkCode(t, areVenues(s, v), impl.ErrInvalid)
			for _, own := range callsOfVenues(s, v) {
				checkCode(t, own, impl.ErrInvalid)
			}
		}
		for _, own := range callsWithNoNumbers(s, nil) {
			checkCode(t, own, impl.ErrInvalid)
		}
	}
	// Forty-one rounds are no schedule, before they are too many for anything else.
	checkCode(t, doubleSchedule(many(4, 41), freeOnes(many(4, 41))), impl.ErrInvalid)
	checkCode(t, fewestBreaks(playedBy(2, 41)), impl.ErrInvalid)
}

// Numbers of teams and of rounds beyond their limits come behind wrong schedules, and before venues that
// are not those of the schedule.
func TestVenuesWithNoNumbers(t *testing.T) {
	for n := int64(2); n <= 14; n++ {
		for _, k := range []int{0, 1, 2, 40} {
			s := many(n, k)
			for _, own := range callsWithNoNumbers(s, freeOnes(s)) {
				checkCode(t, own, impl.ErrRange)
			}
			if k > 0 {
				wrong := freeOnes(s)
				wrong[k-1][n-1] = 1
				for _, own := range callsWithNoNumbers(s, wrong) {
					checkCode(t, own, impl.ErrRange)
				}
				checkCode(t, patternOf(s, wrong, n-1), impl.ErrState)
			}
			checkResults(t, patternOf(s, freeOnes(s), n-1), slices.Repeat(list{-1}, k), 0)
		}
	}
}

func TestVenuesWithoutRounds(t *testing.T) {
	for n := int64(2); n <= 14; n++ {
		s := impl.Schedule{Teams: n}
		none := make(list, n)
		for _, v := range []lists{nil, {}} {
			checkResults(t, areVenues(s, v), true, 0)
			checkResults(t, breaksOf(s, v), none, 0)
			checkResults(t, homesOf(s, v), none, 0)
			checkResults(t, areBalanced(s, v), true, 0)
			checkResults(t, patternOf(s, v, n-1), list{}, 0)
			checkResults(t, areOpposite(s, v, 0, n-1), true, 0)
			checkResults(t, doubleSchedule(s, v), s, lists{}, 0)
			checkCode(t, exchangeGame(s, v, 0, 0), impl.ErrRange)
		}
		checkResults(t, firstVenues(s), lists{}, 0)
		checkResults(t, fewestBreaks(s), 0, 0)
	}
}

func TestFirstVenues(t *testing.T) {
	for text, want := range map[string]lists{
		"2:0-1": {{1, 0}}, "2:;0-1": {{-1, -1}, {1, 0}}, "3:0-1;1-2": {{1, 0, -1}, {-1, 1, 0}}, "3:0-2": {{1, -1, 0}},
		"4:0-3,1-2;0-2,1-3;0-1,2-3": {{1, 1, 0, 0}, {1, 1, 0, 0}, {1, 0, 1, 0}},
		"5:2-4;0-4,1-3":             {{-1, -1, 1, -1, 0}, {1, 1, -1, 0, 0}},
		"14:0-13,1-12,2-11,3-10,4-9,5-8,6-7;12-13": {
			{1, 1, 1, 1, 1, 1, 1, 0, 0, 0, 0, 0, 0, 0}, {-1, -1, -1, -1, -1, -1, -1, -1, -1, -1, -1, -1, 1, 0},
		},
	} {
		checkResults(t, firstVenues(parsed(t, text)), want, 0)
	}
	for n := int64(2); n <= 14; n++ {
		checkResults(t, firstVenues(many(n, 40)), freeOnes(many(n, 40)), 0)
	}
}

func TestPatternOf(t *testing.T) {
	s, v := four(), lists{{0, 1, 0, 1}, {0, 1, 1, 0}, {1, 0, 0, 1}}
	for a, want := range (lists{{0, 0, 1}, {1, 1, 0}, {0, 1, 0}, {1, 0, 1}}) {
		checkResults(t, patternOf(s, v, int64(a)), want, 0)
	}
	s, v = parsed(t, "3:0-1;1-2;;0-2"), lists{{1, 0, -1}, {-1, 0, 1}, {-1, -1, -1}, {0, -1, 1}}
	for a, want := range (lists{{1, -1, -1, 0}, {0, 0, -1, -1}, {-1, 1, -1, 1}}) {
		checkResults(t, patternOf(s, v, int64(a)), want, 0)
	}
}

// playedBy returns a schedule of n teams with k rounds, in which the first two teams meet.
func playedBy(n int64, k int) impl.Schedule {
	s := many(n, k)
	for i := range s.Rounds {
		s.Rounds[i][0], s.Rounds[i][1] = 1, 0
	}
	return s
}

func TestFewestBreaks(t *testing.T) {
	for text, want := range map[string]int64{
		"2:0-1": 0, "2:": 0, "2:;;": 0, "2:0-1;0-1": 0, "3:0-1;1-2": 0, "3:0-1;1-2;0-2": 0, "3:0-1;1-2;0-2;0-1": 0,
		"4:0-3,1-2;0-2,1-3;0-1,2-3": 2, "4:0-1,2-3;0-2,1-3": 0, "4:0-1,2-3;0-2,1-3;0-3,1-2;0-1,2-3": 2,
		"4:0-1,2-3;0-2,1-3;;0-3,1-2": 0, "4:0-1,2-3;0-1,2-3;0-1,2-3": 0, "4:0-1,2-3;0-2;0-3,1-2": 0,
		"4:0-1,2-3;0-2,1-3;0-1,2-3;0-2,1-3;0-1,2-3": 0, "4:0-3,1-2;0-2,1-3;0-1,2-3;0-3,1-2;0-2,1-3;0-1,2-3": 4,
		"6:0-5,1-4,2-3;0-2,1-5,3-4;0-4,1-3,2-5;0-1,2-4,3-5;0-3,1-2,4-5": 4,
		"5:1-4,2-3;0-2,3-4;0-4,1-3;0-1,2-4;0-3,1-2":                     0,
	} {
		checkResults(t, fewestBreaks(parsed(t, text)), want, 0)
	}
}

// Fifteen games are not too many, sixteen are, however they are put in rounds.
func TestFewestBreaksOfManyGames(t *testing.T) {
	for _, c := range []struct {
		n    int64
		most int // games of a round
	}{{2, 1}, {3, 1}, {4, 2}, {5, 2}, {6, 3}, {9, 3}, {10, 5}, {14, 7}, {14, 1}} {
		for _, games := range []int{0, 1, 14, 15, 16, 17} {
			s := impl.Schedule{Teams: c.n}
			left := games
			for left > 0 {
				r := many(c.n, 1).Rounds[0]
				for k := int64(0); k < int64(min(c.most, left)); k++ {
					r[2*k], r[2*k+1] = 2*k+1, 2*k
				}
				left -= min(c.most, left)
				s.Rounds = append(s.Rounds, r)
			}
			// Rounds without games count for nothing.
			with := impl.Schedule{Teams: c.n, Rounds: slices.Concat(s.Rounds, many(c.n, 3).Rounds)}
			if games > 15 {
				checkCode(t, fewestBreaks(s), impl.ErrLimit)
				checkCode(t, fewestBreaks(with), impl.ErrLimit)
			} else {
				checkResults(t, fewestBreaks(s), 0, 0)
				checkResults(t, fewestBreaks(with), 0, 0)
			}
		}
		checkResults(t, fewestBreaks(many(c.n, 40)), 0, 0)
		checkCode(t, fewestBreaks(playedBy(c.n, 40)), impl.ErrLimit)
	}
	for n, want := range map[int64]int64{2: 0, 3: 0, 4: 2, 5: 0, 6: 4} {
		s, _ := impl.CircleOf(n)
		checkResults(t, fewestBreaks(s), want, 0)
	}
	for n := int64(7); n <= 14; n++ {
		s, _ := impl.CircleOf(n)
		checkCode(t, fewestBreaks(s), impl.ErrLimit)
	}
}

func TestExchangeGame(t *testing.T) {
	s, v := four(), lists{{0, 1, 0, 1}, {0, 1, 1, 0}, {1, 0, 0, 1}}
	checkResults(t, exchangeGame(s, v, 0, 0), lists{{1, 1, 0, 0}, {0, 1, 1, 0}, {1, 0, 0, 1}}, 0)
	checkResults(t, exchangeGame(s, v, 0, 3), lists{{1, 1, 0, 0}, {0, 1, 1, 0}, {1, 0, 0, 1}}, 0)
	checkResults(t, exchangeGame(s, v, 1, 2), lists{{0, 1, 0, 1}, {1, 1, 0, 0}, {1, 0, 0, 1}}, 0)
	checkResults(t, exchangeGame(s, v, 2, 1), lists{{0, 1, 0, 1}, {0, 1, 1, 0}, {0, 1, 0, 1}}, 0)
	checkResults(t, exchangeGame(parsed(t, "2:0-1"), lists{{1, 0}}, 0, 1), lists{{0, 1}}, 0)
	checkResults(t, exchangeGame(parsed(t, "3:;0-2"), lists{{-1, -1, -1}, {0, -1, 1}}, 1, 2), lists{{-1, -1, -1}, {1, -1, 0}}, 0)
	for n := int64(2); n <= 14; n++ {
		for a := range n {
			checkCode(t, exchangeGame(many(n, 1), freeOnes(many(n, 1)), 0, a), impl.ErrState)
			checkCode(t, exchangeGame(many(n, 40), freeOnes(many(n, 40)), 39, a), impl.ErrState)
		}
	}
	checkCode(t, exchangeGame(parsed(t, "3:0-2;0-1"), lists{{0, -1, 1}, {1, 0, -1}}, 0, 1), impl.ErrState)
	checkCode(t, exchangeGame(parsed(t, "3:0-2;0-1"), lists{{0, -1, 1}, {1, 0, -1}}, 1, 2), impl.ErrState)
	checkCode(t, exchangeGame(parsed(t, "3:0-2;0-1"), lists{{0, -1, 1}, {1, 0, -1}}, 1, 3), impl.ErrRange)
	checkCode(t, exchangeGame(parsed(t, "3:0-2;0-1"), lists{{0, -1, 1}, {1, 0, -1}}, 2, 2), impl.ErrRange)
}

func TestCircleVenues(t *testing.T) {
	checkResults(t, circleVenues(2), lists{{0, 1}}, 0)
	checkResults(t, circleVenues(4), lists{{0, 1, 0, 1}, {0, 1, 1, 0}, {1, 0, 0, 1}}, 0)
	checkResults(t, circleVenues(6), lists{
		{0, 1, 0, 1, 0, 1}, {0, 1, 1, 0, 1, 0}, {1, 0, 0, 1, 0, 1}, {0, 1, 0, 1, 1, 0}, {1, 0, 1, 0, 0, 1},
	}, 0)
	if v, code := impl.CircleVenues(14); len(v) != 13 || code != impl.ErrNone {
		t.Errorf("CircleVenues(14) = %v, %d", v, code)
	}
	for _, n := range (list{math.MinInt64, math.MinInt64 + 1, -4, -2, -1, 0, 1, 3, 5, 7, 9, 11, 13, 15, 16, 1 << 32, math.MaxInt64 - 1, math.MaxInt64}) {
		checkCode(t, circleVenues(n), impl.ErrRange)
	}
}

func TestDoubleSchedule(t *testing.T) {
	checkResults(t, doubleSchedule(four(), lists{{0, 1, 0, 1}, {0, 1, 1, 0}, {1, 0, 0, 1}}),
		parsed(t, "4:0-3,1-2;0-2,1-3;0-1,2-3;0-3,1-2;0-2,1-3;0-1,2-3"),
		lists{{0, 1, 0, 1}, {0, 1, 1, 0}, {1, 0, 0, 1}, {1, 0, 1, 0}, {1, 0, 0, 1}, {0, 1, 1, 0}}, 0)
	checkResults(t, doubleSchedule(parsed(t, "3:0-2;"), lists{{1, -1, 0}, {-1, -1, -1}}),
		parsed(t, "3:0-2;;0-2;"), lists{{1, -1, 0}, {-1, -1, -1}, {0, -1, 1}, {-1, -1, -1}}, 0)
	for n := int64(2); n <= 14; n++ {
		for _, k := range []int{1, 19, 20} {
			checkResults(t, doubleSchedule(many(n, k), freeOnes(many(n, k))), many(n, 2*k), freeOnes(many(n, 2*k)), 0)
		}
		for _, k := range []int{21, 22, 39, 40} {
			s := playedBy(n, k)
			v, _ := impl.FirstVenues(s)
			checkCode(t, doubleSchedule(s, v), impl.ErrLimit)
			checkCode(t, doubleSchedule(many(n, k), freeOnes(many(n, k))), impl.ErrLimit)
			// The limit comes last.
			checkCode(t, doubleSchedule(s, freeOnes(s)), impl.ErrState)
			checkCode(t, doubleSchedule(s, v[1:]), impl.ErrRange)
			v[k-1][0] = 2
			checkCode(t, doubleSchedule(s, v), impl.ErrRange)
		}
	}
}

func TestScheduleFor(t *testing.T) {
	for _, c := range []struct {
		patterns lists
		want     string // an empty text if there is none
	}{
		{lists{{0}, {1}}, "2:0-1"}, {lists{{1}, {0}}, "2:0-1"}, {lists{{0}, {0}}, ""}, {lists{{1}, {1}}, ""},
		{lists{{0, 0, 1}, {1, 1, 0}, {0, 1, 0}, {1, 0, 1}}, "4:0-3,1-2;0-1,2-3;0-2,1-3"},
		// The first round that goes with the patterns is not always followed by the first one.
		{lists{{0, 0, 1}, {1, 0, 0}, {0, 1, 0}, {1, 1, 1}}, "4:0-1,2-3;0-3,1-2;0-2,1-3"},
		{lists{{0, 0, 1}, {0, 1, 0}, {1, 0, 0}, {1, 1, 1}}, "4:0-2,1-3;0-3,1-2;0-1,2-3"},
		{lists{{0, 0, 1}, {0, 0, 1}, {1, 1, 0}, {1, 1, 0}}, ""},
		{lists{{0, 0, 1}, {0, 1, 1}, {1, 0, 0}, {1, 1, 0}}, "4:0-2,1-3;0-1,2-3;0-3,1-2"},
		{lists{{0, 0, 0}, {0, 1, 1}, {1, 0, 1}, {1, 1, 0}}, "4:0-2,1-3;0-3,1-2;0-1,2-3"},
		{lists{{1, 1, 1}, {0, 0, 0}, {1, 1, 1}, {0, 0, 0}}, ""}, {lists{{1, 1, 1}, {1, 1, 1}, {1, 1, 1}, {0, 0, 0}}, ""},
		{lists{{0, 0, 0}, {0, 0, 0}, {0, 0, 0}, {0, 0, 0}}, ""},
		{
			lists{{0, 0, 1, 0, 1}, {1, 1, 0, 1, 0}, {0, 1, 0, 0, 1}, {1, 0, 1, 1, 0}, {0, 1, 0, 1, 0}, {1, 0, 1, 0, 1}},
			"6:0-5,1-4,2-3;0-1,2-5,3-4;0-2,1-3,4-5;0-3,1-5,2-4;0-4,1-2,3-5",
		},
	} {
		want, ok := impl.Schedule{}, c.want != ""
		if ok {
			want = parsed(t, c.want)
		}
		checkOr(t, scheduleFor(c.patterns), want, ok, impl.ErrNotFound)
	}
}

// noPatterns are of other numbers of teams, or have other numbers of rounds or other numbers in them.
func noPatterns() []lists {
	out := []lists{nil, {nil}, {{}}, {{0}}, {nil, nil}, {{0}, nil}, {nil, {1}}, {{0}, {1}, {0}}, {{0, 0}, {0, 1}, {1, 0}}, {{0}, {1, 0}}, {{0, 1}, {1}}}
	for n := range int64(20) {
		if n != 2 && n != 4 && n != 6 {
			out = append(out, patternsOf(n, int(n)-1), patternsOf(n, int(n)), patternsOf(n, 1), patternsOf(n, 5))
		}
	}
	for _, n := range (list{2, 4, 6}) {
		k := int(n) - 1
		out = append(out, patternsOf(n, 0), patternsOf(n, k-1), patternsOf(n, k+1), patternsOf(n, int(n)+10))
		for _, a := range (list{0, n / 2, n - 1}) {
			short, long, none := patternsOf(n, k), patternsOf(n, k), patternsOf(n, k)
			short[a], long[a], none[a] = short[a][1:], append(long[a], 0), nil
			out = append(out, short, long, none)
			for _, number := range (list{math.MinInt64, -2, -1, 2, 3, 1 << 32, math.MaxInt64}) {
				for _, i := range []int{0, k / 2, k - 1} {
					wrong := patternsOf(n, k)
					wrong[a][i] = number
					out = append(out, wrong)
				}
			}
		}
	}
	return out
}

// patternsOf returns n lists of k numbers 0 and 1.
func patternsOf(n int64, k int) lists {
	var out lists
	for a := range n {
		numbers := list{}
		for i := range int64(k) {
			numbers = append(numbers, (a+i)%2)
		}
		out = append(out, numbers)
	}
	return out
}

func TestScheduleForErrors(t *testing.T) {
	for _, patterns := range noPatterns() {
		checkCode(t, scheduleFor(patterns), impl.ErrRange)
	}
	// A wrong number comes before patterns that go with no round robin.
	checkCode(t, scheduleFor(lists{{0, 0, 0}, {0, 0, 0}, {0, 0, 0}, {0, 0, 2}}), impl.ErrRange)
	checkCode(t, scheduleFor(lists{{-1}, {-1}}), impl.ErrRange)
	for _, n := range (list{2, 4, 6}) {
		for _, number := range (list{0, 1}) {
			same := lists{}
			for range n {
				same = append(same, slices.Repeat(list{number}, int(n)-1))
			}
			checkCode(t, scheduleFor(same), impl.ErrNotFound)
		}
	}
}
