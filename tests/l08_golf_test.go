package tests

import (
	"math"
	"slices"
	"testing"

	"loop.example/g01379/impl"
)

func TestConstantsOfGolfs(t *testing.T) {
	if impl.MaxGolfers != 25 || impl.MaxMornings != 12 {
		t.Errorf("limits %d and %d", impl.MaxGolfers, impl.MaxMornings)
	}
}

// golfing returns the golf with these rounds.
func golfing(n int64, g int64, rounds ...list) golf { return golf{Players: n, Size: g, Rounds: rounds} }

// mornings returns the golf of n players in groups of g with k equal rounds.
func mornings(n int64, g int64, k int) golf {
	return golfing(n, g, slices.Repeat(lists{fullRound(0, n)}, k)...)
}

// sizesOf returns the sizes of the groups that n players can be in.
func sizesOf(n int64) list {
	sizes := list{}
	for g := int64(2); g <= n; g++ {
		if n%g == 0 {
			sizes = append(sizes, g)
		}
	}
	return sizes
}

// grid3 is the grid of 3.
func grid3() golf {
	return golfing(9, 3, list{0, 3, 6, 1, 4, 7, 2, 5, 8}, list{0, 4, 8, 1, 5, 6, 2, 3, 7}, list{0, 5, 7, 1, 3, 8, 2, 4, 6}, list{0, 1, 2, 3, 4, 5, 6, 7, 8})
}

// toldGolfs are golfs, and what chapter 8 tells of them.
var toldGolfs = []struct {
	x            golf
	met          string // the meetings
	social, full bool
	tidy         lists // for each round
	left         lists // for each player
	next         list  // none if there is a code
	code         int64
}{
	{golfing(2, 2), "", true, false, lists{}, lists{{1}, {0}}, list{0, 1}, 0},
	{golfing(2, 2, list{1, 0}), "01", true, true, lists{{0, 1}}, lists{{}, {}}, nil, impl.ErrNotFound},
	{golfing(2, 2, list{1, 0}, list{0, 1}), "01 01", false, false, lists{{0, 1}, {0, 1}}, lists{{}, {}}, nil, impl.ErrState},
	{golfing(3, 3), "", true, false, lists{}, lists{{1, 2}, {0, 2}, {0, 1}}, list{0, 1, 2}, 0},
	{golfing(3, 3, list{2, 0, 1}), "01 02 12", true, true, lists{{0, 1, 2}}, lists{{}, {}, {}}, nil, impl.ErrNotFound},
	{golfing(4, 2), "", true, false, lists{}, lists{{1, 2, 3}, {0, 2, 3}, {0, 1, 3}, {0, 1, 2}}, list{0, 1, 2, 3}, 0},
	// Not tidy in its groups, not among them, and neither.
	{golfing(4, 2, list{0, 2, 3, 1}), "02 13", true, false, lists{{0, 2, 1, 3}}, lists{{1, 3}, {0, 2}, {1, 3}, {0, 2}}, list{0, 1, 2, 3}, 0},
	{golfing(4, 2, list{2, 3, 0, 1}), "01 23", true, false, lists{{0, 1, 2, 3}}, lists{{2, 3}, {2, 3}, {0, 1}, {0, 1}}, list{0, 2, 1, 3}, 0},
	{golfing(4, 2, list{3, 1, 2, 0}), "13 02", true, false, lists{{0, 2, 1, 3}}, lists{{1, 3}, {0, 2}, {1, 3}, {0, 2}}, list{0, 1, 2, 3}, 0},
	{golfing(4, 2, list{0, 1, 2, 3}, list{2, 0, 3, 1}), "01 23 02 13", true, false, lists{{0, 1, 2, 3}, {0, 2, 1, 3}}, lists{{3}, {2}, {1}, {0}}, list{0, 3, 1, 2}, 0},
	{
		golfing(4, 2, list{3, 0, 1, 2}, list{0, 1, 2, 3}, list{2, 0, 3, 1}), "03 12 01 23 02 13", true, true,
		lists{{0, 3, 1, 2}, {0, 1, 2, 3}, {0, 2, 1, 3}}, lists{{}, {}, {}, {}}, nil, impl.ErrNotFound,
	},
	{golfing(4, 2, list{0, 1, 2, 3}, list{3, 2, 1, 0}), "01 23 01 23", false, false, lists{{0, 1, 2, 3}, {0, 1, 2, 3}}, lists{{2, 3}, {2, 3}, {0, 1}, {0, 1}}, nil, impl.ErrState},
	{golfing(4, 4, list{2, 1, 3, 0}), "01 02 03 12 13 23", true, true, lists{{0, 1, 2, 3}}, lists{{}, {}, {}, {}}, nil, impl.ErrNotFound},
	{golfing(4, 4), "", true, false, lists{}, lists{{1, 2, 3}, {0, 2, 3}, {0, 1, 3}, {0, 1, 2}}, list{0, 1, 2, 3}, 0},
	// Only 0 and 1 meet twice.
	{
		golfing(6, 2, list{0, 1, 2, 3, 4, 5}, list{2, 4, 1, 0, 5, 3}), "01 23 45 24 01 35", false, false, lists{{0, 1, 2, 3, 4, 5}, {0, 1, 2, 4, 3, 5}},
		lists{{2, 3, 4, 5}, {2, 3, 4, 5}, {0, 1, 5}, {0, 1, 4}, {0, 1, 3}, {0, 1, 2}}, nil, impl.ErrState,
	},
	// With 0, 2 and 1, 3 the players 4 and 5 are left, who have met.
	{
		golfing(6, 2, list{5, 4, 3, 2, 1, 0}), "01 23 45", true, false, lists{{0, 1, 2, 3, 4, 5}},
		lists{{2, 3, 4, 5}, {2, 3, 4, 5}, {0, 1, 4, 5}, {0, 1, 4, 5}, {0, 1, 2, 3}, {0, 1, 2, 3}}, list{0, 2, 1, 4, 3, 5}, 0,
	},
	// The players who have not met are three and three.
	{
		golfing(6, 2, list{0, 3, 1, 4, 2, 5}, list{0, 4, 1, 5, 2, 3}, list{0, 5, 1, 3, 2, 4}), "03 14 25 04 15 23 05 13 24", true, false,
		lists{{0, 3, 1, 4, 2, 5}, {0, 4, 1, 5, 2, 3}, {0, 5, 1, 3, 2, 4}}, lists{{1, 2}, {0, 2}, {0, 1}, {4, 5}, {3, 5}, {3, 4}}, nil, impl.ErrNotFound,
	},
	// 0 has met all others, and 4 has not.
	{
		golfing(6, 2, list{0, 1, 2, 3, 4, 5}, list{0, 2, 1, 3, 4, 5}, list{0, 3, 1, 2, 4, 5}, list{0, 4, 1, 2, 3, 5}, list{0, 5, 1, 2, 3, 4}),
		"01 23 45 02 13 45 03 12 45 04 12 35 05 12 34", false, false,
		lists{{0, 1, 2, 3, 4, 5}, {0, 2, 1, 3, 4, 5}, {0, 3, 1, 2, 4, 5}, {0, 4, 1, 2, 3, 5}, {0, 5, 1, 2, 3, 4}},
		lists{{}, {4, 5}, {4, 5}, {}, {1, 2}, {1, 2}}, nil, impl.ErrState,
	},
	{golfing(6, 3, list{5, 4, 3, 2, 1, 0}), "34 35 45 01 02 12", true, false, lists{{0, 1, 2, 3, 4, 5}}, lists{{3, 4, 5}, {3, 4, 5}, {3, 4, 5}, {0, 1, 2}, {0, 1, 2}, {0, 1, 2}}, nil, impl.ErrNotFound},
	{
		golfing(8, 4, list{7, 3, 1, 5, 0, 2, 6, 4}), "13 15 17 35 37 57 02 04 06 24 26 46", true, false, lists{{0, 2, 4, 6, 1, 3, 5, 7}},
		lists{{1, 3, 5, 7}, {0, 2, 4, 6}, {1, 3, 5, 7}, {0, 2, 4, 6}, {1, 3, 5, 7}, {0, 2, 4, 6}, {1, 3, 5, 7}, {0, 2, 4, 6}}, nil, impl.ErrNotFound,
	},
	{
		golfing(9, 3, list{8, 5, 2, 7, 4, 1, 6, 3, 0}), "25 28 58 14 17 47 03 06 36", true, false, lists{{0, 3, 6, 1, 4, 7, 2, 5, 8}},
		lists{{1, 2, 4, 5, 7, 8}, {0, 2, 3, 5, 6, 8}, {0, 1, 3, 4, 6, 7}, {1, 2, 4, 5, 7, 8}, {0, 2, 3, 5, 6, 8}, {0, 1, 3, 4, 6, 7}, {1, 2, 4, 5, 7, 8}, {0, 2, 3, 5, 6, 8}, {0, 1, 3, 4, 6, 7}},
		list{0, 1, 2, 3, 4, 5, 6, 7, 8}, 0,
	},
	{
		grid3(), "03 06 36 14 17 47 25 28 58 04 08 48 15 16 56 23 27 37 05 07 57 13 18 38 24 26 46 01 02 12 34 35 45 67 68 78", true, true,
		grid3().Rounds, lists{{}, {}, {}, {}, {}, {}, {}, {}, {}}, nil, impl.ErrNotFound,
	},
}

func TestToldGolfs(t *testing.T) {
	for _, c := range toldGolfs {
		table := timesOf(c.x.Players, c.met)
		checkResults(t, isGolf(c.x), true)
		checkResults(t, golfMeetings(c.x), table, 0)
		checkResults(t, isSocial(c.x), c.social, 0)
		checkResults(t, isFull(c.x), c.full, 0)
		for i, tidy := range c.tidy {
			checkResults(t, tidyRound(c.x, int64(i)), tidy, 0)
		}
		for a, left := range c.left {
			checkResults(t, notMet(c.x, int64(a)), left, 0)
		}
		checkOr(t, nextGolfRound(c.x), c.next, c.code == 0, c.code)
	}
}

// noGolfers are numbers of players that no golf has.
var noGolfers = list{math.MinInt64, math.MinInt64 + 4, -25, -4, -2, -1, 0, 1, 26, 27, 28, 1 << 32, 1<<32 + 4, math.MaxInt64 - 1, math.MaxInt64}

// noSizes are sizes that no golf has, whatever its players.
var noSizes = list{math.MinInt64, math.MinInt64 + 2, -25, -4, -3, -2, -1, 0, 1, 26, 28, 1 << 32, 1<<32 + 2, math.MaxInt64 - 1, math.MaxInt64}

// wrongRounds are rounds that a golf of 4 players does not have.
var wrongRounds = lists{
	nil, {}, {0}, {0, 1}, {0, 1, 2}, {3, 2, 1}, {0, 1, 2, 3, 4}, {0, 1, 2, 3, 0}, {0, 1, 2, 3, 3, 2}, {0, 1, 2, 3, 0, 1, 2, 3}, // too short or too long
	{0, 1, 2, 2}, {0, 0, 2, 3}, {3, 1, 0, 3}, {1, 1, 1, 1}, {0, 2, 0, 2}, // a player twice, and another one missing
	{0, 1, 2, -1}, {-1, 1, 2, 3}, {0, math.MinInt64, 2, 3}, {-1, 0, 1, 2}, // below 0
	{0, 1, 2, 4}, {4, 1, 2, 3}, {1, 2, 3, 4}, {0, 1, 5, 3}, {0, 25, 2, 3}, {0, 1, 1<<32 + 2, 3}, {1 << 32, 1, 2, 3}, {0, 1, 2, math.MaxInt64}, // beyond the last
}

// wrongGolfs are no golfs, each for another reason.
func wrongGolfs() []golf {
	out := []golf{{}, mornings(2, 2, 13), mornings(25, 5, 13), mornings(16, 4, 13), mornings(17, 17, 13), golfing(4, 2, make(lists, 13)...), mornings(4, 2, 1000)}
	for _, n := range noGolfers {
		for _, g := range (list{-2, -1, 0, 1, 2, 3, 4, 7, 13, 14, 26, n}) {
			out = append(out, golfing(n, g), golfing(n, g, list{}), golfing(n, g, list{0, 1, 2, 3}), golfing(n, g, fullRound(0, max(0, min(n, 30)))))
		}
	}
	for n := int64(2); n <= 25; n++ {
		for _, g := range append(fullRound(-1, 40), noSizes...) {
			if !slices.Contains(sizesOf(n), g) {
				out = append(out, golfing(n, g), golfing(n, g, fullRound(0, n)), golfing(n, g, fullRound(0, max(0, min(g, 30)))))
			}
		}
		for _, g := range sizesOf(n) {
			out = append(out, golfing(n, g, fullRound(0, n-1)), golfing(n, g, fullRound(1, n)), golfing(n, g, fullRound(0, n+1)), golfing(n, g, append(fullRound(0, n-1), 0)))
			out = append(out, golfing(n, g, fullRound(0, n), append(fullRound(1, n-1), -1)), golfing(n, g, append(fullRound(0, n), fullRound(0, g)...)))
		}
	}
	for _, wrong := range wrongRounds {
		for _, k := range []int{1, 3, 12} {
			for _, i := range []int{0, k / 2, k - 1} {
				for _, g := range (list{2, 4}) {
					x := mornings(4, g, k)
					x.Rounds[i] = wrong
					out = append(out, x)
				}
			}
		}
	}
	return out
}

func TestWrongGolfs(t *testing.T) {
	for _, x := range wrongGolfs() {
		checkResults(t, isGolf(x), false)
		for _, own := range callsOfGolf(x) {
			checkCode(t, own, impl.ErrInvalid)
		}
	}
	for _, x := range []golf{golfing(4, 2, make(list, 10000000)), golfing(4, 2, make(lists, 10000000)...)} {
		if impl.IsGolf(x) {
			t.Errorf("IsGolf of much = true")
		}
	}
}

func TestIsGolf(t *testing.T) {
	for n := int64(2); n <= 25; n++ {
		for _, g := range sizesOf(n) {
			for _, k := range []int{0, 1, 2, 11, 12} {
				x := mornings(n, g, k)
				checkResults(t, isGolf(x), true)
				for i := range x.Rounds {
					x.Rounds[i] = slices.Clone(x.Rounds[i])
					slices.Reverse(x.Rounds[i])
				}
				checkResults(t, isGolf(x), true)
			}
			checkResults(t, isGolf(mornings(n, g, 13)), false)
			checkResults(t, isGolf(golfing(n, g, mixedOrder(n), fullRound(0, n), mixedOrder(n))), true)
		}
	}
}

// Of all short lists of players only rounds are taken for rounds.
func TestIsGolfOfAllRounds(t *testing.T) {
	for length := range 6 {
		for _, round := range listsOver(length, -1, 4) {
			for n := int64(2); n <= 4; n++ {
				for g := int64(1); g <= 5; g++ {
					x := golfing(n, g, fullRound(0, n), round)
					if got := impl.IsGolf(x); got != golfAsTold(x) {
						t.Fatalf("IsGolf(%v) = %v", x, got)
					}
				}
			}
		}
	}
}

// listsOver returns all lists of this length with numbers from the least one to the greatest one.
func listsOver(length int, least int64, greatest int64) lists {
	out := lists{{}}
	for range length {
		var longer lists
		for _, begin := range out {
			for x := least; x <= greatest; x++ {
				longer = append(longer, append(slices.Clone(begin), x))
			}
		}
		out = longer
	}
	return out
}

// Golfs without rounds of all numbers of players and sizes.
func TestGolfsWithoutRounds(t *testing.T) {
	for n := int64(2); n <= 25; n++ {
		for _, g := range sizesOf(n) {
			x := golf{Players: n, Size: g}
			checkResults(t, golfMeetings(x), blankTable(n), 0)
			checkResults(t, isSocial(x), true, 0)
			checkResults(t, isFull(x), false, 0)
			checkOr(t, nextGolfRound(x), fullRound(0, n), n <= 16, impl.ErrLimit)
			for a := range n {
				checkResults(t, notMet(x, a), append(fullRound(0, a), fullRound(a+1, n-a-1)...), 0)
				checkCode(t, groupOf(x, 0, a), impl.ErrRange)
			}
			checkCode(t, tidyRound(x, 0), impl.ErrRange)
		}
	}
}

// Rounds and players that there are not.
func TestRangesOfGolfs(t *testing.T) {
	for n := int64(2); n <= 25; n++ {
		for _, k := range []int{0, 1, 2, 11, 12} {
			x := mornings(n, n, k)
			end := int64(k)
			noRounds := list{math.MinInt64, math.MinInt64 + 1, -12, -2, -1, end, end + 1, 13, 1 << 32, 1<<32 + 1, math.MaxInt64 - 1, math.MaxInt64}
			noPlayers := list{math.MinInt64, math.MinInt64 + 1, -n, -2, -1, n, n + 1, 26, 1 << 32, 1<<32 + 1, math.MaxInt64 - 1, math.MaxInt64}
			for _, i := range noRounds {
				checkCode(t, tidyRound(x, i), impl.ErrRange)
				checkCode(t, groupOf(x, i, 0), impl.ErrRange)
				checkCode(t, groupOf(x, i, n-1), impl.ErrRange)
				checkCode(t, groupOf(x, i, -1), impl.ErrRange)
			}
			for _, a := range noPlayers {
				checkCode(t, notMet(x, a), impl.ErrRange)
				checkCode(t, groupOf(x, 0, a), impl.ErrRange)
				checkCode(t, groupOf(x, end-1, a), impl.ErrRange)
			}
			for i := range end {
				checkResults(t, tidyRound(x, i), fullRound(0, n), 0)
				checkResults(t, groupOf(x, i, 0), fullRound(0, n), 0)
				checkResults(t, groupOf(x, i, n-1), fullRound(0, n), 0)
			}
		}
	}
}

func TestTidyRound(t *testing.T) {
	for _, c := range []struct {
		g           int64
		round, want list
	}{
		{2, list{0, 1}, list{0, 1}}, {2, list{1, 0}, list{0, 1}}, {5, list{4, 2, 0, 1, 3}, list{0, 1, 2, 3, 4}},
		{3, list{0, 4, 5, 1, 2, 3}, list{0, 4, 5, 1, 2, 3}}, {3, list{1, 2, 3, 0, 4, 5}, list{0, 4, 5, 1, 2, 3}},
		{3, list{5, 0, 4, 3, 1, 2}, list{0, 4, 5, 1, 2, 3}}, {3, list{3, 2, 1, 5, 4, 0}, list{0, 4, 5, 1, 2, 3}},
		{2, list{0, 5, 1, 4, 2, 3}, list{0, 5, 1, 4, 2, 3}}, {2, list{3, 2, 5, 0, 4, 1}, list{0, 5, 1, 4, 2, 3}}, {2, list{5, 4, 3, 2, 1, 0}, list{0, 1, 2, 3, 4, 5}},
		// Numbers of two digits come behind those of one.
		{4, list{11, 2, 9, 10, 3, 1, 8, 7, 6, 0, 4, 5}, list{0, 4, 5, 6, 1, 3, 7, 8, 2, 9, 10, 11}},
		{
			5, list{24, 19, 14, 9, 4, 23, 18, 13, 8, 3, 22, 17, 12, 7, 2, 21, 16, 11, 6, 1, 20, 15, 10, 5, 0},
			list{0, 5, 10, 15, 20, 1, 6, 11, 16, 21, 2, 7, 12, 17, 22, 3, 8, 13, 18, 23, 4, 9, 14, 19, 24},
		},
	} {
		n := int64(len(c.round))
		checkResults(t, tidyRound(golfing(n, c.g, c.round), 0), c.want, 0)
		checkResults(t, tidyRound(golfing(n, c.g, fullRound(0, n), c.round, mixedOrder(n)), 1), c.want, 0)
		checkResults(t, tidyRound(golfing(n, c.g, c.want), 0), c.want, 0)
	}
}

func TestGroupOf(t *testing.T) {
	x := golfing(6, 3, list{0, 1, 2, 3, 4, 5}, list{5, 0, 4, 3, 1, 2}, list{3, 2, 1, 5, 4, 0})
	for a, want := range (lists{{0, 4, 5}, {1, 2, 3}, {1, 2, 3}, {1, 2, 3}, {0, 4, 5}, {0, 4, 5}}) {
		checkResults(t, groupOf(x, 1, int64(a)), want, 0)
		checkResults(t, groupOf(x, 2, int64(a)), want, 0)
		checkResults(t, groupOf(x, 0, int64(a)), fullRound(int64(a/3*3), 3), 0)
	}
	pairs := golfing(8, 2, list{7, 0, 6, 1, 5, 2, 4, 3})
	for a := range int64(8) {
		checkResults(t, groupOf(pairs, 0, a), list{min(a, 7-a), max(a, 7-a)}, 0)
	}
	great := golfing(24, 12, slices.Concat(fullRound(12, 12), fullRound(0, 12)))
	for a := range int64(24) {
		checkResults(t, groupOf(great, 0, a), fullRound(a/12*12, 12), 0)
	}
}

func TestGolfBound(t *testing.T) {
	for _, c := range []struct{ n, g, want int64 }{
		{2, 2, 1}, {3, 2, 2}, {3, 3, 1}, {4, 2, 3}, {4, 3, 1}, {4, 4, 1}, {5, 3, 2}, {6, 3, 2}, {7, 3, 3}, {8, 4, 2}, {9, 3, 4}, {10, 4, 3}, {10, 5, 2}, {11, 5, 2},
		{25, 5, 6}, {26, 5, 6}, {28, 4, 9}, {32, 4, 10}, {1000, 2, 999}, {1000, 3, 499}, {1000, 4, 333}, {1000, 500, 2}, {1000, 501, 1}, {1000, 999, 1}, {1000, 1000, 1},
		{999, 2, 998}, {999, 999, 1}, {999, 500, 2}, {998, 500, 1},
	} {
		checkResults(t, golfBound(c.n, c.g), c.want, 0)
	}
	for _, n := range append(list{1001, 1002, 2000}, noGolfers...) {
		for _, g := range (list{math.MinInt64, -2, -1, 0, 1, 2, 3, 500, 1000, 1001, n - 1, n, math.MaxInt64}) {
			if n < 2 || n > 1000 {
				checkCode(t, golfBound(n, g), impl.ErrRange)
			}
		}
	}
	for n := int64(2); n <= 1000; n++ {
		for _, g := range (list{math.MinInt64, -n, -2, -1, 0, 1, n + 1, n + 2, 1001, 1 << 32, 1<<32 + 2, math.MaxInt64}) {
			checkCode(t, golfBound(n, g), impl.ErrRange)
		}
		for g := int64(2); g <= n; g++ {
			bound, code := impl.GolfBound(n, g)
			if code != impl.ErrNone || bound*(g-1) > n-1 || (bound+1)*(g-1) <= n-1 {
				t.Fatalf("GolfBound(%d, %d) = %d, %d", n, g, bound, code)
			}
		}
	}
}

// paired returns the golf of an even n in groups of 2 with the first k rounds of the circle of n.
func paired(n int64, k int64) golf {
	x := golf{Players: n, Size: 2}
	for r := range k {
		round := list{n - 1, r}
		for i := int64(1); i < n/2; i++ {
			round = append(round, (r+i)%(n-1), (r-i+n-1)%(n-1))
		}
		x.Rounds = append(x.Rounds, round)
	}
	return x
}

// The greatest number of players, the greatest number of rounds, and the order of the errors.
func TestNextGolfRoundLimits(t *testing.T) {
	for _, x := range []golf{golfing(16, 2), golfing(16, 4), golfing(16, 8), golfing(16, 16)} {
		checkResults(t, nextGolfRound(x), fullRound(0, 16), 0)
	}
	checkResults(t, nextGolfRound(mornings(16, 2, 1)), list{0, 2, 1, 3, 4, 6, 5, 7, 8, 10, 9, 11, 12, 14, 13, 15}, 0)
	checkResults(t, nextGolfRound(mornings(16, 4, 1)), list{0, 4, 8, 12, 1, 5, 9, 13, 2, 6, 10, 14, 3, 7, 11, 15}, 0)
	checkCode(t, nextGolfRound(mornings(16, 8, 1)), impl.ErrNotFound)
	checkCode(t, nextGolfRound(mornings(16, 16, 1)), impl.ErrNotFound)
	for n := int64(17); n <= 25; n++ {
		for _, g := range sizesOf(n) {
			for k := range 13 {
				checkCode(t, nextGolfRound(mornings(n, g, k)), impl.ErrLimit)
			}
			checkCode(t, nextGolfRound(mornings(n, g, 13)), impl.ErrInvalid)
		}
	}
	checkCode(t, nextGolfRound(paired(18, 12)), impl.ErrLimit)
	// Of 14 and 16 players in pairs there would be a round behind the twelfth one.
	checkResults(t, nextGolfRound(paired(14, 11)), nextAsTold(paired(14, 11)), 0)
	checkResults(t, nextGolfRound(paired(16, 11)), nextAsTold(paired(16, 11)), 0)
	for _, x := range []golf{paired(14, 12), paired(16, 12)} {
		if nextAsTold(x) == nil {
			t.Errorf("%v has no next round in any case", x)
		}
		checkResults(t, isSocial(x), true, 0)
		checkCode(t, nextGolfRound(x), impl.ErrNotFound)
	}
	for n := int64(2); n <= 16; n++ {
		for _, g := range sizesOf(n) {
			for k := 2; k <= 12; k++ {
				checkCode(t, nextGolfRound(mornings(n, g, k)), impl.ErrState)
			}
			checkCode(t, nextGolfRound(mornings(n, g, 13)), impl.ErrInvalid)
		}
	}
}

func TestFirstGolf(t *testing.T) {
	four := lists{{0, 1, 2, 3}, {0, 2, 1, 3}, {0, 3, 1, 2}}
	six := lists{{0, 1, 2, 3, 4, 5}, {0, 2, 1, 4, 3, 5}, {0, 3, 1, 5, 2, 4}, {0, 4, 1, 3, 2, 5}, {0, 5, 1, 2, 3, 4}}
	eight := lists{
		{0, 1, 2, 3, 4, 5, 6, 7}, {0, 2, 1, 3, 4, 6, 5, 7}, {0, 3, 1, 2, 4, 7, 5, 6}, {0, 4, 1, 5, 2, 6, 3, 7},
		{0, 5, 1, 4, 2, 7, 3, 6}, {0, 6, 1, 7, 2, 4, 3, 5}, {0, 7, 1, 6, 2, 5, 3, 4},
	}
	nine := lists{{0, 1, 2, 3, 4, 5, 6, 7, 8}, {0, 3, 6, 1, 4, 7, 2, 5, 8}, {0, 4, 8, 1, 5, 6, 2, 3, 7}, {0, 5, 7, 1, 3, 8, 2, 4, 6}}
	longest := map[[2]int64]lists{{4, 2}: four, {6, 2}: six, {8, 2}: eight, {9, 3}: nine}
	for n := int64(2); n <= 9; n++ {
		for _, g := range sizesOf(n) {
			rounds := longest[[2]int64{n, g}]
			if rounds == nil { // one round alone
				rounds = lists{fullRound(0, n)}
			}
			for k := range int64(8) {
				checkOr(t, firstGolf(n, g, k), golfing(n, g, rounds[:min(k, int64(len(rounds)))]...), k <= int64(len(rounds)), impl.ErrNotFound)
			}
		}
	}
}

func TestFirstGolfErrors(t *testing.T) {
	noFirst := append(list{10, 12, 16, 25}, noGolfers...)
	noRounds := list{math.MinInt64, math.MinInt64 + 1, -7, -2, -1, 8, 9, 12, 1 << 32, 1<<32 + 1, math.MaxInt64 - 1, math.MaxInt64}
	for _, n := range noFirst {
		for _, g := range (list{-2, 0, 1, 2, 5, 13, n}) {
			for _, k := range (list{-1, 0, 1, 7, 8}) {
				checkCode(t, firstGolf(n, g, k), impl.ErrRange)
			}
		}
	}
	for n := int64(2); n <= 9; n++ {
		for _, g := range append(fullRound(-1, 20), noSizes...) {
			if slices.Contains(sizesOf(n), g) {
				continue
			}
			for _, k := range (list{-1, 0, 1, 2, 7, 8}) {
				checkCode(t, firstGolf(n, g, k), impl.ErrRange)
			}
		}
		for _, g := range sizesOf(n) {
			for _, k := range noRounds {
				checkCode(t, firstGolf(n, g, k), impl.ErrRange)
			}
		}
	}
}

func TestGridOf(t *testing.T) {
	checkResults(t, gridOf(2), golfing(4, 2, list{0, 2, 1, 3}, list{0, 3, 1, 2}, list{0, 1, 2, 3}), 0)
	checkResults(t, gridOf(3), grid3(), 0)
	five, code := impl.GridOf(5)
	if code != impl.ErrNone || five.Players != 25 || five.Size != 5 || len(five.Rounds) != 6 {
		t.Fatalf("GridOf(5) = %v, %d", five, code)
	}
	for i, want := range map[int]list{
		0: {0, 5, 10, 15, 20, 1, 6, 11, 16, 21, 2, 7, 12, 17, 22, 3, 8, 13, 18, 23, 4, 9, 14, 19, 24},
		2: {0, 7, 14, 16, 23, 1, 8, 10, 17, 24, 2, 9, 11, 18, 20, 3, 5, 12, 19, 21, 4, 6, 13, 15, 22},
		4: {0, 9, 13, 17, 21, 1, 5, 14, 18, 22, 2, 6, 10, 19, 23, 3, 7, 11, 15, 24, 4, 8, 12, 16, 20},
		5: fullRound(0, 25),
	} {
		if !slices.Equal(five.Rounds[i], want) {
			t.Errorf("GridOf(5) has the round %v, want %v", five.Rounds[i], want)
		}
	}
	for k := int64(-30); k <= 30; k++ {
		if k != 2 && k != 3 && k != 5 {
			checkCode(t, gridOf(k), impl.ErrRange)
		}
	}
	for _, k := range (list{math.MinInt64, math.MinInt64 + 2, 1<<32 + 2, 1<<32 + 3, 1<<32 + 5, math.MaxInt64 - 1, math.MaxInt64}) {
		checkCode(t, gridOf(k), impl.ErrRange)
	}
}
