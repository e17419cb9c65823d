package tests

import (
	"math"
	"slices"
	"strings"
	"testing"

	"loop.example/g01379/impl"
)

func TestConstantsOfWhist(t *testing.T) {
	if impl.MaxPlayers != 16 || impl.MaxEvening != 20 {
		t.Errorf("limits %d and %d", impl.MaxPlayers, impl.MaxEvening)
	}
}

// party returns the evening of n players with these rounds.
func party(n int64, rounds lists) evening { return evening{Players: n, Rounds: rounds} }

// timesOf returns the table of n players with 1 for each of the pairs, which are written as two digits
// each.
func timesOf(n int64, pairs ...string) lists {
	table := blankTable(n)
	for _, pair := range strings.Fields(strings.Join(pairs, " ")) {
		x, y := strings.IndexByte("0123456789abcdef", pair[0]), strings.IndexByte("0123456789abcdef", pair[1])
		table[x][y]++
		table[y][x]++
	}
	return table
}

func blankTable(n int64) lists {
	table := lists{}
	for range n {
		table = append(table, make(list, n))
	}
	return table
}

// toldEvenings are evenings, and what chapter 6 tells of them.
var toldEvenings = []struct {
	e             evening
	partners      string
	first, second string // the opponents of both kinds
	out           lists
	schedule      string
	whist, triple bool
}{
	{party(4, lists{{0, 1, 2, 3}}), "01 23", "02 13", "03 12", lists{{}}, "4:0-1,2-3", false, false},
	{party(4, lists{{2, 0, 3, 1}}), "02 13", "23 01", "12 03", lists{{}}, "4:0-2,1-3", false, false},
	{party(4, lists{{}}), "", "", "", lists{{0, 1, 2, 3}}, "4:", false, false},
	{party(4, lists{{}, {3, 0, 1, 2}, {}}), "03 12", "13 02", "23 01", lists{{0, 1, 2, 3}, {}, {0, 1, 2, 3}}, "4:;0-3,1-2;", false, false},
	{party(4, lists{{0, 1, 2, 3}, {1, 0, 2, 3}}), "01 23 01 23", "02 13 12 03", "03 12 13 02", lists{{}, {}}, "4:0-1,2-3;0-1,2-3", false, false},
	{
		party(4, lists{{3, 0, 1, 2}, {3, 1, 2, 0}, {3, 2, 0, 1}}), "03 12 13 02 23 01", "13 02 23 01 03 12", "23 01 03 12 13 02",
		lists{{}, {}, {}}, "4:0-3,1-2;0-2,1-3;0-1,2-3", true, true,
	},
	{
		party(4, lists{{0, 1, 2, 3}, {0, 2, 1, 3}, {0, 3, 1, 2}}), "01 23 02 13 03 12", "02 13 01 23 01 23", "03 12 03 12 02 13",
		lists{{}, {}, {}}, "4:0-1,2-3;0-2,1-3;0-3,1-2", true, false,
	},
	{
		party(4, lists{{0, 1, 2, 3}, {0, 2, 1, 3}, {0, 1, 3, 2}}), "01 23 02 13 01 23", "02 13 01 23 03 12", "03 12 03 12 02 13",
		lists{{}, {}, {}}, "4:0-1,2-3;0-2,1-3;0-1,2-3", false, false,
	},
	{party(5, lists{{4, 2, 0, 1}}), "24 01", "04 12", "14 02", lists{{3}}, "5:0-1,2-4", false, false},
	{
		party(5, lists{{0, 1, 2, 4}, {1, 2, 3, 0}, {2, 3, 4, 1}, {3, 4, 0, 2}, {4, 0, 1, 3}}), "01 24 12 03 23 14 34 02 04 13",
		"02 14 13 02 24 13 03 24 14 03", "04 12 01 23 12 34 23 04 34 01", lists{{3}, {4}, {0}, {1}, {2}},
		"5:0-1,2-4;0-3,1-2;1-4,2-3;0-2,3-4;0-4,1-3", true, false,
	},
	{party(6, lists{{5, 0, 4, 1}, {2, 3, 4, 5}}), "05 14 23 45", "45 01 24 35", "15 04 25 34", lists{{2, 3}, {0, 1}}, "6:0-5,1-4;2-3,4-5", false, false},
	{party(7, lists{{6, 2, 5, 1}}), "26 15", "56 12", "16 25", lists{{0, 3, 4}}, "7:1-5,2-6", false, false},
	{party(8, lists{{7, 0, 2, 5}}), "07 25", "27 05", "57 02", lists{{1, 3, 4, 6}}, "8:0-7,2-5", false, false},
	{
		party(9, lists{{8, 0, 3, 5, 1, 2, 7, 6}, {0, 4, 8, 1, 2, 6, 3, 7}}), "08 35 12 67 04 18 26 37", "38 05 17 26 08 14 23 67",
		"58 03 16 27 01 48 27 36", lists{{4}, {5}}, "9:0-8,1-2,3-5,6-7;0-4,1-8,2-6,3-7", false, false,
	},
	{
		party(14, lists{{13, 0, 12, 1, 11, 2, 10, 3, 9, 4, 8, 5}}), "d0 c1 b2 a3 94 85", "dc 01 ba 23 98 45", "d1 0c b3 2a 95 48",
		lists{{6, 7}}, "14:0-13,1-12,2-11,3-10,4-9,5-8", false, false,
	},
}

func TestToldEvenings(t *testing.T) {
	for _, c := range toldEvenings {
		n := c.e.Players
		checkResults(t, isEvening(c.e), true)
		checkResults(t, partnersOf(c.e), timesOf(n, c.partners), 0)
		checkResults(t, opponentsIn(c.e, 0), timesOf(n, c.first, c.second), 0)
		checkResults(t, opponentsIn(c.e, 1), timesOf(n, c.first), 0)
		checkResults(t, opponentsIn(c.e, 2), timesOf(n, c.second), 0)
		for i, out := range c.out {
			checkResults(t, sittingOut(c.e, int64(i)), out, 0)
		}
		checkResults(t, isWhist(c.e), c.whist, 0)
		checkResults(t, isTriple(c.e), c.triple, 0)
		checkResults(t, partnerSchedule(c.e), parsed(t, c.schedule), 0)
	}
}

// fullRound returns the numbers from first on, count of them, in the order of the players at tables.
func fullRound(first int64, count int64) list {
	round := list{}
	for x := range count {
		round = append(round, first+x)
	}
	return round
}

// idle returns an evening of n players with k rounds without tables.
func idle(n int64, k int) evening { return party(n, make(lists, k)) }

// noPlayers are numbers of players that no evening has.
var noPlayers = list{math.MinInt64, math.MinInt64 + 4, -4, -1, 0, 1, 2, 3, 17, 18, 20, 1 << 32, 1<<32 + 4, math.MaxInt64 - 3, math.MaxInt64}

// wrongEvenings are no evenings, each for another reason.
func wrongEvenings() []evening {
	out := []evening{{Players: 4, Rounds: make(lists, 21)}, idle(16, 21), idle(9, 1000), party(16, slices.Repeat(lists{fullRound(0, 16)}, 21))}
	for _, n := range noPlayers {
		out = append(out, evening{Players: n}, party(n, lists{{}}), party(n, lists{{0, 1, 2, 3}}), party(n, lists{fullRound(0, 16)}))
	}
	out = append(out, party(17, lists{fullRound(1, 16)}))
	wrong := lists{
		{0}, {0, 1}, {0, 1, 2}, {0, 1, 2, 3, 4}, {0, 1, 2, 3, 4, 5}, {0, 1, 2, 3, 4, 5, 6}, fullRound(0, 9), // not four for each table
		{0, 0, 1, 2}, {0, 1, 0, 2}, {0, 1, 2, 0}, {1, 2, 2, 0}, {1, 2, 3, 3}, {0, 0, 0, 0}, // twice at a table
		{0, 1, 2, 3, 4, 5, 6, 0}, {0, 1, 2, 3, 3, 5, 6, 4}, {0, 1, 2, 3, 0, 1, 2, 3}, {0, 1, 2, 3, 4, 5, 6, 7, 4, 8}, // twice in a round
		{-1, 0, 1, 2}, {0, -1, 1, 2}, {0, 1, 2, -1}, {0, 1, 2, math.MinInt64}, {math.MaxInt64, 0, 1, 2}, {0, 1, 1 << 32, 2}, // out of range
		{9, 0, 1, 2}, {0, 9, 1, 2}, {0, 1, 2, 9}, {0, 1, 2, 3, 4, 5, 6, 9}, {0, 1, 2, 10}, {0, 1, 2, 16}, {0, 1, 2, 1<<32 + 3},
		fullRound(0, 12), fullRound(0, 20), slices.Repeat(list{0, 1, 2, 3}, 30),
	}
	for _, round := range wrong {
		for _, k := range []int{1, 3, 20} {
			for _, i := range []int{0, k / 2, k - 1} {
				e := idle(9, k)
				for r := range e.Rounds {
					e.Rounds[r] = list{7, 8, 0, 1}
				}
				e.Rounds[i] = round
				out = append(out, e)
			}
		}
	}
	for n := int64(4); n <= 16; n++ {
		whole := n - n%4
		out = append(out, party(n, lists{append(fullRound(0, whole-1), n)}), party(n, lists{append(fullRound(0, whole-1), -1)}))
		out = append(out, party(n, lists{fullRound(0, whole+4)}), party(n, lists{append(fullRound(0, whole), 0, 1, 2, 3)}))
		out = append(out, party(n, lists{fullRound(0, whole-1)}), party(n, lists{append(fullRound(0, whole-1), 0)}))
	}
	return out
}

func TestWrongEvenings(t *testing.T) {
	for _, e := range wrongEvenings() {
		checkResults(t, isEvening(e), false)
		for _, own := range callsOfEvening(e) {
			checkCode(t, own, impl.ErrInvalid)
		}
	}
}

func TestIsEvening(t *testing.T) {
	for n := int64(4); n <= 16; n++ {
		for _, k := range []int{0, 1, 19, 20} {
			checkResults(t, isEvening(idle(n, k)), true)
			e := idle(n, k)
			for i := range e.Rounds {
				e.Rounds[i] = fullRound(n%4, n-n%4)
			}
			checkResults(t, isEvening(e), true)
			slices.Reverse(e.Rounds)
			for _, round := range e.Rounds {
				slices.Reverse(round)
			}
			checkResults(t, isEvening(e), true)
			checkResults(t, isEvening(party(n, append(e.Rounds, lists{}...))), true)
		}
		checkResults(t, isEvening(evening{Players: n}), true)
		checkResults(t, isEvening(party(n, lists{{n - 1, n - 2, 0, 1}, {}, {3, 1, 2, 0}})), true)
	}
	checkResults(t, isEvening(evening{}), false)
}

// Evenings in which nobody plays, of all numbers of players and of rounds at their limits.
func TestEveningsWithoutTables(t *testing.T) {
	for n := int64(4); n <= 16; n++ {
		for _, k := range []int{0, 1, 2, int(n) - 1, int(n), 19, 20} {
			e := idle(n, k)
			checkResults(t, partnersOf(e), blankTable(n), 0)
			for kind := range int64(3) {
				checkResults(t, opponentsIn(e, kind), blankTable(n), 0)
			}
			for i := range int64(k) {
				checkResults(t, sittingOut(e, i), fullRound(0, n), 0)
			}
			checkCode(t, sittingOut(e, int64(k)), impl.ErrRange)
			checkResults(t, isWhist(e), false, 0)
			checkResults(t, isTriple(e), false, 0)
			checkResults(t, renumberPlayers(e, mixedOrder(n)), e, 0)
			checkOr(t, partnerSchedule(e), many(min(n, 14), k), n <= 14, impl.ErrLimit)
		}
	}
}

func TestKindsOfOpponents(t *testing.T) {
	for _, e := range []evening{idle(4, 0), idle(16, 20), party(4, lists{{3, 0, 1, 2}}), party(9, lists{fullRound(0, 8), {5, 6, 7, 8}})} {
		for _, kind := range (list{math.MinInt64, math.MinInt64 + 1, -2, -1, 3, 4, 1 << 32, 1<<32 + 1, math.MaxInt64 - 1, math.MaxInt64}) {
			checkCode(t, opponentsIn(e, kind), impl.ErrRange)
		}
	}
}

func TestSittingOutOfNoRound(t *testing.T) {
	for n := int64(4); n <= 16; n++ {
		for _, k := range []int{0, 1, 2, 20} {
			e := idle(n, k)
			for i := range e.Rounds {
				e.Rounds[i] = fullRound(int64(i)%(n-3), 4)
			}
			end := int64(k)
			for _, i := range (list{math.MinInt64, math.MinInt64 + 1, -20, -2, -1, end, end + 1, 21, 1 << 32, 1<<32 + end - 1, math.MaxInt64 - 1, math.MaxInt64}) {
				checkCode(t, sittingOut(e, i), impl.ErrRange)
			}
			for i := range end {
				checkResults(t, sittingOut(e, i), append(fullRound(0, i%(n-3)), fullRound(i%(n-3)+4, n-4-i%(n-3))...), 0)
			}
		}
	}
	checkResults(t, sittingOut(party(16, lists{fullRound(0, 16)}), 0), list{}, 0)
	checkResults(t, sittingOut(party(15, lists{fullRound(2, 12)}), 0), list{0, 1, 14}, 0)
}

func TestMadeFrom(t *testing.T) {
	checkResults(t, madeFrom(4, list{3, 0, 1, 2}), party(4, lists{{3, 0, 1, 2}, {3, 1, 2, 0}, {3, 2, 0, 1}}), 0)
	checkResults(t, madeFrom(4, list{2, 1, 3, 0}), party(4, lists{{2, 1, 3, 0}, {0, 2, 3, 1}, {1, 0, 3, 2}}), 0)
	checkResults(t, madeFrom(5, list{4, 2, 0, 1}), party(5, lists{{4, 2, 0, 1}, {0, 3, 1, 2}, {1, 4, 2, 3}, {2, 0, 3, 4}, {3, 1, 4, 0}}), 0)
	checkResults(t, madeFrom(8, list{0, 1, 2, 4, 3, 6, 5, 7}), party(8, lists{
		{0, 1, 2, 4, 3, 6, 5, 7}, {1, 2, 3, 5, 4, 0, 6, 7}, {2, 3, 4, 6, 5, 1, 0, 7}, {3, 4, 5, 0, 6, 2, 1, 7},
		{4, 5, 6, 1, 0, 3, 2, 7}, {5, 6, 0, 2, 1, 4, 3, 7}, {6, 0, 1, 3, 2, 5, 4, 7},
	}), 0)
	checkResults(t, madeFrom(9, list{8, 1, 2, 4, 3, 6, 5, 7}), party(9, lists{
		{8, 1, 2, 4, 3, 6, 5, 7}, {0, 2, 3, 5, 4, 7, 6, 8}, {1, 3, 4, 6, 5, 8, 7, 0}, {2, 4, 5, 7, 6, 0, 8, 1}, {3, 5, 6, 8, 7, 1, 0, 2},
		{4, 6, 7, 0, 8, 2, 1, 3}, {5, 7, 8, 1, 0, 3, 2, 4}, {6, 8, 0, 2, 1, 4, 3, 5}, {7, 0, 1, 3, 2, 5, 4, 6},
	}), 0)
}

func TestMadeFromNoBase(t *testing.T) {
	for _, n := range slices.Concat(noPlayers, list{6, 7, 10, 11, 14, 15}) {
		whole := max(0, min(n, 20))
		for _, base := range []list{nil, {0}, {0, 1, 2, 3}, fullRound(0, whole), fullRound(0, whole-whole%4), fullRound(0, max(0, whole-1))} {
			checkCode(t, madeFrom(n, base), impl.ErrRange)
		}
	}
	for _, n := range (list{4, 5, 8, 9, 12, 13, 16}) {
		whole := n - n%4
		for _, count := range (list{0, 1, 3, 4, 5, 8, 9, 12, 13, 16, 17}) {
			checkOr(t, madeFrom(n, fullRound(0, count)), madeAsTold(n, fullRound(0, count)), count == whole, impl.ErrRange)
		}
		checkCode(t, madeFrom(n, fullRound(1, whole-1)), impl.ErrRange)
		checkCode(t, madeFrom(n, nil), impl.ErrRange)
		for i := range whole {
			for _, x := range (list{math.MinInt64, -n, -1, n, n + 1, 16, 1 << 32, math.MaxInt64}) {
				base := fullRound(0, whole)
				base[i] = x
				checkCode(t, madeFrom(n, base), impl.ErrRange)
			}
			base := fullRound(0, whole)
			base[i] = base[(i+1)%whole]
			checkCode(t, madeFrom(n, base), impl.ErrRange)
			base[i] = base[(i+whole-1)%whole]
			checkCode(t, madeFrom(n, base), impl.ErrRange)
		}
	}
}

func TestFirstBase(t *testing.T) {
	checkResults(t, firstBase(4), list{0, 1, 2, 3}, 0)
	checkResults(t, firstBase(5), list{0, 1, 2, 4}, 0)
	checkResults(t, firstBase(8), list{0, 1, 2, 4, 3, 6, 5, 7}, 0)
	checkCode(t, firstBase(9), impl.ErrNotFound)
	for n := int64(-20); n <= 40; n++ {
		if n != 4 && n != 5 && n != 8 && n != 9 {
			checkCode(t, firstBase(n), impl.ErrRange)
		}
	}
	for _, n := range (list{math.MinInt64, math.MinInt64 + 1, 1<<32 + 4, 1<<32 + 8, math.MaxInt64 - 1, math.MaxInt64}) {
		checkCode(t, firstBase(n), impl.ErrRange)
	}
}

// Evenings of more players than a schedule has teams are no error to anything else.
func TestPartnerScheduleOfManyPlayers(t *testing.T) {
	for n := int64(15); n <= 16; n++ {
		for _, e := range []evening{idle(n, 0), idle(n, 20), party(n, lists{{0, 1, 2, 3}}), party(n, lists{fullRound(n%4, n-n%4)})} {
			checkCode(t, partnerSchedule(e), impl.ErrLimit)
			checkResults(t, renumberPlayers(e, fullRound(0, n)), e, 0)
		}
		checkCode(t, partnerSchedule(idle(n, 21)), impl.ErrInvalid)
		checkCode(t, partnerSchedule(party(n, lists{{0, 1, 2, n}})), impl.ErrInvalid)
	}
	checkResults(t, partnerSchedule(party(14, lists{{12, 13, 1, 0}})), parsed(t, "14:0-1,12-13"), 0)
	full := party(13, slices.Repeat(lists{fullRound(1, 12)}, 20))
	checkResults(t, partnerSchedule(full), parsed(t, "13:"+strings.Repeat(";1-2,3-4,5-6,7-8,9-10,11-12", 20)[1:]), 0)
}

func TestRenumberPlayers(t *testing.T) {
	checkResults(t, renumberPlayers(party(4, lists{{3, 0, 1, 2}, {}}), list{1, 0, 2, 3}), party(4, lists{{3, 1, 0, 2}, {}}), 0)
	checkResults(t, renumberPlayers(party(5, lists{{4, 2, 0, 1}, {0, 1, 2, 3}}), list{1, 2, 3, 4, 0}), party(5, lists{{0, 3, 1, 2}, {1, 2, 3, 4}}), 0)
	checkResults(t, renumberPlayers(party(8, lists{{4, 2, 0, 1, 7, 6, 5, 3}}), list{7, 6, 5, 4, 0, 1, 2, 3}), party(8, lists{{0, 5, 7, 6, 3, 2, 1, 4}}), 0)
	for n := int64(4); n <= 16; n++ {
		e := party(n, lists{fullRound(n%4, n-n%4), {}})
		checkResults(t, renumberPlayers(e, fullRound(0, n)), e, 0)
		for _, p := range []list{nil, {0}, fullRound(0, 3), fullRound(0, n-1), fullRound(0, n+1), fullRound(1, n), fullRound(-1, n), make(list, n), fullRound(0, 20)} {
			checkCode(t, renumberPlayers(e, p), impl.ErrRange)
			checkCode(t, renumberPlayers(idle(n, 0), p), impl.ErrRange)
		}
		for i := range n {
			for _, x := range (list{math.MinInt64, -1, (i + 1) % n, n, n + 1, 1 << 32, math.MaxInt64}) {
				p := fullRound(0, n)
				p[i] = x
				checkCode(t, renumberPlayers(e, p), impl.ErrRange)
			}
		}
	}
}
