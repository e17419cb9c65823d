package tests

import (
	"math"
	"slices"
	"testing"

	"loop.example/g01379/impl"
)

func TestConstantsOfMovements(t *testing.T) {
	if impl.MaxPairs != 14 || impl.MaxSets != 14 || impl.MaxRoundsMoved != 14 {
		t.Errorf("limits %d, %d and %d", impl.MaxPairs, impl.MaxSets, impl.MaxRoundsMoved)
	}
}

// moved returns the movement with these rounds.
func moved(pairs int64, sets int64, rounds ...seats) movement {
	return movement{Pairs: pairs, Sets: sets, Rounds: rounds}
}

// resting returns the movement of so many rounds without seats.
func resting(pairs int64, sets int64, rounds int) movement {
	return moved(pairs, sets, make([]seats, rounds)...)
}

// fullSeats returns a round with as many seats as there can be.
func fullSeats(pairs int64, sets int64) seats {
	out := seats{}
	for i := range min(pairs/2, sets) {
		out = append(out, seat{pairs - 1 - 2*i, pairs - 2 - 2*i, sets - 1 - i})
	}
	return out
}

// The Mitchell movement of 3 tables, that of 4, and the Howell movement of strong7.
func mitchell3() movement {
	return moved(6, 3, seats{{0, 3, 0}, {1, 4, 1}, {2, 5, 2}}, seats{{0, 5, 1}, {1, 3, 2}, {2, 4, 0}}, seats{{0, 4, 2}, {1, 5, 0}, {2, 3, 1}})
}

func mitchell4() movement {
	return moved(8, 4, seats{{0, 4, 0}, {1, 5, 1}, {2, 6, 2}, {3, 7, 3}}, seats{{0, 7, 1}, {1, 4, 2}, {2, 5, 3}, {3, 6, 0}}, seats{{0, 5, 2}, {1, 6, 3}, {2, 7, 0}, {3, 4, 1}})
}

func howell7() movement {
	return moved(
		8, 7, seats{{7, 0, 0}, {1, 3, 4}, {2, 6, 1}, {4, 5, 2}}, seats{{7, 1, 1}, {2, 4, 5}, {3, 0, 2}, {5, 6, 3}},
		seats{{7, 2, 2}, {3, 5, 6}, {4, 1, 3}, {6, 0, 4}}, seats{{7, 3, 3}, {4, 6, 0}, {5, 2, 4}, {0, 1, 5}}, seats{{7, 4, 4}, {5, 0, 1}, {6, 3, 5}, {1, 2, 6}},
		seats{{7, 5, 5}, {6, 1, 2}, {0, 4, 6}, {2, 3, 0}}, seats{{7, 6, 6}, {0, 2, 3}, {1, 5, 0}, {3, 4, 1}},
	)
}

// toldMovements are movements, and what chapter 7 tells of them.
var toldMovements = []struct {
	v              movement
	boards         lists // for each pair
	opponents      lists
	outs           list
	plays          list
	fair, complete bool
	comparisons    lists // none if a set is played twice by a pair
	schedule       string
}{
	{moved(2, 1), lists{{}, {}}, lists{{}, {}}, list{0, 0}, list{0}, true, false, lists{{0, 0}, {0, 0}}, ""},
	{moved(2, 1, seats{}), lists{{-1}, {-1}}, lists{{-1}, {-1}}, list{1, 1}, list{0}, true, false, lists{{0, 0}, {0, 0}}, "2:"},
	{moved(2, 1, seats{{0, 1, 0}}), lists{{0}, {0}}, lists{{1}, {0}}, list{0, 0}, list{1}, true, true, lists{{0, -1}, {-1, 0}}, "2:0-1"},
	{moved(2, 1, seats{}, seats{{1, 0, 0}}), lists{{-1, 0}, {-1, 0}}, lists{{-1, 1}, {-1, 0}}, list{1, 1}, list{1}, true, true, lists{{0, -1}, {-1, 0}}, "2:;0-1"},
	{moved(2, 2, seats{{0, 1, 1}}), lists{{1}, {1}}, lists{{1}, {0}}, list{0, 0}, list{0, 1}, true, false, lists{{0, -1}, {-1, 0}}, "2:0-1"},
	// The pairs meet twice.
	{moved(2, 2, seats{{0, 1, 0}}, seats{{0, 1, 1}}), lists{{0, 1}, {0, 1}}, lists{{1, 1}, {0, 0}}, list{0, 0}, list{1, 1}, false, false, lists{{0, -2}, {-2, 0}}, "2:0-1;0-1"},
	{moved(2, 2, seats{{0, 1, 0}}, seats{{1, 0, 1}}), lists{{0, 1}, {0, 1}}, lists{{1, 1}, {0, 0}}, list{0, 0}, list{1, 1}, false, false, lists{{0, -2}, {-2, 0}}, "2:0-1;0-1"},
	// The pairs meet twice, and play the set twice.
	{moved(2, 1, seats{{0, 1, 0}}, seats{{1, 0, 0}}), lists{{0, 0}, {0, 0}}, lists{{1, 1}, {0, 0}}, list{0, 0}, list{2}, false, false, nil, "2:0-1;0-1"},
	// Only the pair 0, which sits north and south, or the pair 2, which sits east and west, plays the set twice.
	{moved(3, 1, seats{{0, 1, 0}}, seats{{0, 2, 0}}), lists{{0, 0}, {0, -1}, {-1, 0}}, lists{{1, 2}, {0, -1}, {-1, 0}}, list{0, 1, 1}, list{2}, false, false, nil, "3:0-1;0-2"},
	{moved(3, 2, seats{{0, 2, 1}}, seats{}, seats{{1, 2, 1}}), lists{{1, -1, -1}, {-1, -1, 1}, {1, -1, 1}}, lists{{2, -1, -1}, {-1, -1, 2}, {0, -1, 1}}, list{2, 2, 1}, list{0, 2}, false, false, nil, "3:0-2;;1-2"},
	// The same in different directions.
	{moved(3, 1, seats{{0, 1, 0}}, seats{{2, 0, 0}}), lists{{0, 0}, {0, -1}, {-1, 0}}, lists{{1, 2}, {0, -1}, {-1, 0}}, list{0, 1, 1}, list{2}, false, false, nil, "3:0-1;0-2"},
	{
		moved(3, 3, seats{{0, 1, 0}}, seats{{1, 2, 1}}, seats{{2, 0, 2}}), lists{{0, -1, 2}, {0, 1, -1}, {-1, 1, 2}}, lists{{1, -1, 2}, {0, 2, -1}, {-1, 1, 0}},
		list{1, 1, 1}, list{1, 1, 1}, true, false, lists{{0, -1, -1}, {-1, 0, -1}, {-1, -1, 0}}, "3:0-1;1-2;0-2",
	},
	// One set for pairs in the same direction, and in different ones.
	{
		moved(4, 1, seats{{0, 1, 0}}, seats{{2, 3, 0}}), lists{{0, -1}, {0, -1}, {-1, 0}, {-1, 0}}, lists{{1, -1}, {0, -1}, {-1, 3}, {-1, 2}},
		list{1, 1, 1, 1}, list{2}, true, true, lists{{0, -1, 1, -1}, {-1, 0, -1, 1}, {1, -1, 0, -1}, {-1, 1, -1, 0}}, "4:0-1;2-3",
	},
	// Pairs that share no set.
	{
		moved(4, 2, seats{{2, 3, 1}, {0, 1, 0}}), lists{{0}, {0}, {1}, {1}}, lists{{1}, {0}, {3}, {2}},
		list{0, 0, 0, 0}, list{1, 1}, true, false, lists{{0, -1, 0, 0}, {-1, 0, 0, 0}, {0, 0, 0, -1}, {0, 0, -1, 0}}, "4:0-1,2-3",
	},
	// Each pair plays each set once, but all of them meet twice: neither fair nor complete.
	{
		moved(4, 2, seats{{0, 1, 0}, {2, 3, 1}}, seats{{2, 3, 0}, {1, 0, 1}}), lists{{0, 1}, {0, 1}, {1, 0}, {1, 0}}, lists{{1, 1}, {0, 0}, {3, 3}, {2, 2}},
		list{0, 0, 0, 0}, list{2, 2}, false, false, lists{{0, -2, 0, 0}, {-2, 0, 0, 0}, {0, 0, 0, -2}, {0, 0, -2, 0}}, "4:0-1,2-3;0-1,2-3",
	},
	// The pair 2 plays each set, but the pair 4 one of them twice; without the last round nobody does.
	{
		moved(5, 3, seats{{4, 0, 2}, {1, 3, 0}}, seats{{3, 4, 1}, {2, 0, 0}}, seats{{2, 1, 1}}, seats{{2, 4, 2}}),
		lists{{2, 0, -1, -1}, {0, -1, 1, -1}, {-1, 0, 1, 2}, {0, 1, -1, -1}, {2, 1, -1, 2}}, lists{{4, 2, -1, -1}, {3, -1, 2, -1}, {-1, 0, 1, 4}, {1, 4, -1, -1}, {0, 3, -1, 2}},
		list{2, 2, 1, 2, 1}, list{2, 2, 2}, false, false, nil, "5:0-4,1-3;0-2,3-4;1-2;2-4",
	},
	{
		moved(5, 3, seats{{4, 0, 2}, {1, 3, 0}}, seats{{3, 4, 1}, {2, 0, 0}}, seats{{2, 1, 1}}),
		lists{{2, 0, -1}, {0, -1, 1}, {-1, 0, 1}, {0, 1, -1}, {2, 1, -1}}, lists{{4, 2, -1}, {3, -1, 2}, {-1, 0, 1}, {1, 4, -1}, {0, 3, -1}},
		list{1, 1, 1, 1, 1}, list{2, 2, 1}, true, false,
		lists{{0, -1, -1, 1, -1}, {-1, 0, 0, -2, 1}, {-1, 0, 0, 0, -1}, {1, -2, 0, 0, -1}, {-1, 1, -1, -1, 0}}, "5:0-4,1-3;0-2,3-4;1-2",
	},
	{
		mitchell3(), lists{{0, 1, 2}, {1, 2, 0}, {2, 0, 1}, {0, 2, 1}, {1, 0, 2}, {2, 1, 0}}, lists{{3, 5, 4}, {4, 3, 5}, {5, 4, 3}, {0, 1, 2}, {1, 2, 0}, {2, 0, 1}},
		list{0, 0, 0, 0, 0, 0}, list{3, 3, 3}, true, true,
		lists{{0, 3, 3, -3, -3, -3}, {3, 0, 3, -3, -3, -3}, {3, 3, 0, -3, -3, -3}, {-3, -3, -3, 0, 3, 3}, {-3, -3, -3, 3, 0, 3}, {-3, -3, -3, 3, 3, 0}},
		"6:0-3,1-4,2-5;0-5,1-3,2-4;0-4,1-5,2-3",
	},
	{
		moved(4, 2, seats{{0, 2, 0}, {1, 3, 1}}), lists{{0}, {1}, {0}, {1}}, lists{{2}, {3}, {0}, {1}}, list{0, 0, 0, 0}, list{1, 1}, true, false,
		lists{{0, 0, -1, 0}, {0, 0, 0, -1}, {-1, 0, 0, 0}, {0, -1, 0, 0}}, "4:0-2,1-3",
	},
}

func TestToldMovements(t *testing.T) {
	for _, c := range toldMovements {
		checkResults(t, isMovement(c.v), true)
		for p := range c.v.Pairs {
			checkResults(t, boardsOf(c.v, p), c.boards[p], 0)
			checkResults(t, opponentsAt(c.v, p), c.opponents[p], 0)
		}
		checkResults(t, sitOuts(c.v), c.outs, 0)
		checkResults(t, playsOf(c.v), c.plays, 0)
		checkResults(t, isFair(c.v), c.fair, 0)
		checkResults(t, isComplete(c.v), c.complete, 0)
		checkOr(t, comparisonsOf(c.v), c.comparisons, c.comparisons != nil, impl.ErrState)
		s := impl.Schedule{Teams: c.v.Pairs}
		if c.schedule != "" {
			s = parsed(t, c.schedule)
		}
		checkResults(t, scheduleOfMovement(c.v), s, 0)
	}
}

// noPairCounts and noSetCounts are numbers of pairs and of sets that no movement has.
var (
	noPairCounts = list{math.MinInt64, math.MinInt64 + 2, -14, -2, -1, 0, 1, 15, 16, 1 << 32, 1<<32 + 2, math.MaxInt64 - 1, math.MaxInt64}
	noSetCounts  = list{math.MinInt64, math.MinInt64 + 1, -14, -2, -1, 0, 15, 16, 1 << 32, 1<<32 + 1, math.MaxInt64 - 1, math.MaxInt64}
)

// wrongSeats are rounds that a movement of 6 pairs and 4 sets does not have.
var wrongSeats = []seats{
	{{0, 0, 0}}, {{5, 5, 3}}, {{2, 4, 1}, {3, 3, 2}}, // a pair against itself
	{{0, 1, 0}, {0, 2, 1}}, {{0, 1, 0}, {2, 0, 1}}, {{0, 1, 0}, {1, 2, 1}}, {{0, 1, 0}, {2, 1, 1}}, // a pair in two seats
	{{0, 1, 0}, {0, 1, 1}}, {{0, 1, 0}, {1, 0, 1}}, {{0, 1, 0}, {2, 3, 1}, {4, 0, 2}}, {{4, 5, 3}, {2, 3, 1}, {1, 5, 0}},
	{{0, 1, 0}, {2, 3, 0}}, {{0, 1, 3}, {2, 3, 3}}, {{0, 1, 0}, {2, 3, 1}, {4, 5, 0}}, {{0, 1, 2}, {2, 3, 1}, {4, 5, 1}}, // a set in two seats
	{{0, 1, 0}, {0, 1, 0}}, {{0, 1, 0}, {2, 3, 1}, {4, 5, 2}, {0, 1, 3}}, // too many of them
	{{-1, 0, 0}}, {{0, -1, 0}}, {{0, 1, -1}}, {{math.MinInt64, 1, 2}}, {{0, math.MinInt64, 1}}, {{0, 1, math.MinInt64}}, // below 0
	{{6, 0, 0}}, {{0, 6, 0}}, {{0, 1, 4}}, {{0, 1, 5}}, {{13, 0, 0}}, {{0, 14, 0}}, {{0, 1, 14}}, {{0, 1, 1 << 32}}, // beyond the last
	{{1 << 32, 1, 0}}, {{0, 1<<32 + 1, 0}}, {{math.MaxInt64, 1, 0}}, {{0, math.MaxInt64, 0}}, {{0, 1, math.MaxInt64}},
	{{2, 3, 0}, {4, 5, 1}, {0, 6, 2}}, {{2, 3, 0}, {4, 5, 1}, {0, -1, 2}}, {{2, 3, 0}, {4, 5, 1}, {0, 1, 4}}, {{-1, -1, -1}}, {{6, 6, 4}},
}

// wrongMovements are no movements, each for another reason.
func wrongMovements() []movement {
	out := []movement{{}, resting(2, 1, 15), resting(14, 14, 15), resting(6, 3, 100), moved(14, 14, slices.Repeat([]seats{{{0, 1, 0}}}, 15)...)}
	for _, n := range noPairCounts {
		out = append(out, moved(n, 1), moved(n, 14, seats{}), moved(n, 3, seats{{0, 1, 0}}), moved(n, 7, fullSeats(14, 7)))
	}
	for _, n := range noSetCounts {
		out = append(out, moved(2, n), moved(14, n, seats{}), moved(6, n, seats{{0, 1, 0}}), moved(14, n, fullSeats(14, 7)))
	}
	for _, wrong := range wrongSeats {
		for _, k := range []int{1, 3, 14} {
			for _, i := range []int{0, k / 2, k - 1} {
				v := resting(6, 4, k)
				for r := range v.Rounds {
					v.Rounds[r] = seats{{0, 5, 3}, {2, 1, 0}}
				}
				v.Rounds[i] = wrong
				out = append(out, v)
			}
		}
	}
	for n := int64(2); n <= 14; n++ {
		out = append(out, moved(n, 14, seats{{n, 0, 0}}), moved(n, 14, seats{{0, n, 0}}), moved(n, 14, append(fullSeats(n, 14), seat{0, n, 0})))
		out = append(out, moved(14, n, seats{{0, 1, n}}), moved(14, n, append(fullSeats(14, n)[1:], seat{12, 13, n})))
		out = append(out, moved(n, n, append(fullSeats(n, n), seat{n - 1, 0, 0})), moved(n, 1, seats{{0, 1, 1}}), moved(n, 1, seats{{0, 1, 0}, {1, 0, 0}}))
	}
	return out
}

func TestWrongMovements(t *testing.T) {
	for _, v := range wrongMovements() {
		checkResults(t, isMovement(v), false)
		for _, own := range callsOfMovement(v) {
			checkCode(t, own, impl.ErrInvalid)
		}
	}
	for _, v := range []movement{resting(14, 14, 1000000), moved(14, 14, slices.Repeat(seats{{0, 1, 0}}, 1000000))} {
		if impl.IsMovement(v) {
			t.Errorf("IsMovement of %d rounds = true", len(v.Rounds))
		}
	}
}

func TestIsMovement(t *testing.T) {
	for pairs := int64(2); pairs <= 14; pairs++ {
		for sets := int64(1); sets <= 14; sets++ {
			for _, k := range []int{0, 1, 13, 14} {
				checkResults(t, isMovement(resting(pairs, sets, k)), true)
				v := resting(pairs, sets, k)
				for i := range v.Rounds {
					v.Rounds[i] = fullSeats(pairs, sets)
				}
				checkResults(t, isMovement(v), true)
				checkResults(t, isMovement(moved(pairs, sets, append(v.Rounds, make([]seats, 15-k)...)...)), false)
			}
			checkResults(t, isMovement(moved(pairs, sets, seats{{0, 1, 0}}, seats{{1, 0, sets - 1}}, seats{{pairs - 1, pairs - 2, 0}})), true)
		}
	}
	checkResults(t, isMovement(moved(4, 2, seats{{0, 1, 0}, {2, 3, 1}}, seats{{3, 0, 0}, {1, 2, 1}})), true)
	checkResults(t, isMovement(moved(3, 2, seats{{0, 1, 0}}, seats{{0, 1, 0}}, seats{{0, 1, 0}})), true)
}

// Of all short lists of seats only rounds are taken for rounds.
func TestIsMovementOfAllSeats(t *testing.T) {
	var all seats
	for x := int64(-1); x <= 4; x++ {
		for y := int64(-1); y <= 4; y++ {
			for set := int64(-1); set <= 2; set++ {
				all = append(all, seat{x, y, set})
			}
		}
	}
	check := func(round seats) {
		for pairs := int64(2); pairs <= 4; pairs++ {
			v := moved(pairs, 2, round)
			if got := impl.IsMovement(v); got != movementAsTold(v) {
				t.Fatalf("IsMovement(%v) = %v", v, got)
			}
		}
	}
	for i, s := range all {
		check(seats{s})
		for _, other := range all[:i+1] {
			check(seats{s, other})
		}
	}
}

func TestMitchellOf(t *testing.T) {
	checkResults(t, mitchellOf(2), moved(4, 2, seats{{0, 2, 0}, {1, 3, 1}}), 0)
	checkResults(t, mitchellOf(3), mitchell3(), 0)
	checkResults(t, mitchellOf(4), mitchell4(), 0)
	for _, tables := range (list{math.MinInt64, math.MinInt64 + 3, -7, -3, -2, -1, 0, 1, 8, 9, 14, 1<<32 + 3, math.MaxInt64 - 1, math.MaxInt64}) {
		checkCode(t, mitchellOf(tables), impl.ErrRange)
	}
	// The greatest even and odd numbers of tables: before the skip and after it, and the last rounds.
	six, code := impl.MitchellOf(6)
	if code != impl.ErrNone || len(six.Rounds) != 5 {
		t.Fatalf("MitchellOf(6) = %v, %d", six, code)
	}
	for i, want := range map[int]seats{
		2: {{0, 10, 2}, {1, 11, 3}, {2, 6, 4}, {3, 7, 5}, {4, 8, 0}, {5, 9, 1}}, 3: {{0, 8, 3}, {1, 9, 4}, {2, 10, 5}, {3, 11, 0}, {4, 6, 1}, {5, 7, 2}},
		4: {{0, 7, 4}, {1, 8, 5}, {2, 9, 0}, {3, 10, 1}, {4, 11, 2}, {5, 6, 3}},
	} {
		if show(six.Rounds[i]) != show(want) {
			t.Errorf("MitchellOf(6) has the round %v, want %v", six.Rounds[i], want)
		}
	}
	seven, code := impl.MitchellOf(7)
	if code != impl.ErrNone || len(seven.Rounds) != 7 || show(seven.Rounds[6]) != show(seats{{0, 8, 6}, {1, 9, 0}, {2, 10, 1}, {3, 11, 2}, {4, 12, 3}, {5, 13, 4}, {6, 7, 5}}) {
		t.Errorf("MitchellOf(7) = %v, %d", seven, code)
	}
}

func TestHowellOf(t *testing.T) {
	checkResults(t, howellOf(7, strong7, list{3, 6, 5}), howell7(), 0)
	patterned, code := impl.HowellOf(7, patterned7, list{2, 4, 1})
	if code != impl.ErrNone || show(patterned.Rounds[:2]) != show([]seats{{{7, 0, 0}, {1, 6, 5}, {2, 5, 3}, {3, 4, 6}}, {{7, 1, 1}, {2, 0, 6}, {3, 6, 4}, {4, 5, 0}}}) {
		t.Errorf("HowellOf(7, %v) = %v, %d", patterned7, patterned, code)
	}
	last, code := impl.HowellOf(13, lists{{1, 2}, {3, 6}, {4, 11}, {5, 9}, {7, 12}, {8, 10}}, list{10, 4, 11, 12, 7, 8})
	if code != impl.ErrNone || last.Pairs != 14 || last.Sets != 13 || len(last.Rounds) != 13 {
		t.Fatalf("HowellOf(13) = %v, %d", last, code)
	}
	if show(last.Rounds[12]) != show(seats{{13, 12, 12}, {0, 1, 2}, {2, 5, 8}, {3, 10, 1}, {4, 8, 0}, {6, 11, 5}, {7, 9, 4}}) {
		t.Errorf("HowellOf(13) has the last round %v", last.Rounds[12])
	}
}

func TestHowellOfErrors(t *testing.T) {
	none := lists{{1, 2}, {3, 4}, {5, 6}}
	for _, adder := range (lists{{1, 2, 3}, {3, 6, 6}, {5, 6, 3}, {3, 6, 4}, {6, 6, 6}, {4, 6, 5}}) {
		checkCode(t, howellOf(7, strong7, adder), impl.ErrState)
		checkCode(t, howellOf(7, none, adder), impl.ErrState)
		checkCode(t, howellOf(7, lists{{1, 3}, {2, 6}, {5, 4}}, adder), impl.ErrState)
		checkCode(t, howellOf(7, lists{{1, 3}, {2, 6}, {4, 7}}, adder), impl.ErrRange)
		checkCode(t, howellOf(7, lists{{1, 3}, {2, 6}}, adder), impl.ErrRange)
		checkCode(t, howellOf(7, lists{{1, 3}, {2, 6}, {4, 5}, {4, 5}}, adder), impl.ErrRange)
	}
	for _, adder := range (lists{nil, {}, {3}, {3, 6}, {3, 6, 5, 1}, {3, 6, 0}, {0, 6, 5}, {3, 7, 5}, {3, 0, 5}, {-4, 6, 5}, {3, 6, math.MaxInt64}, {math.MinInt64, 6, 5}}) {
		checkCode(t, howellOf(7, strong7, adder), impl.ErrRange)
		checkCode(t, howellOf(7, none, adder), impl.ErrRange)
	}
	for _, wrong := range noPairs {
		for _, pairs := range []lists{{{1, 3}, wrong, {4, 5}}, {wrong, {2, 6}, {4, 5}}, {{1, 3}, {2, 6}, wrong}} {
			checkCode(t, howellOf(7, pairs, list{3, 6, 5}), impl.ErrRange)
			checkCode(t, howellOf(7, pairs, list{3, 6}), impl.ErrRange)
		}
	}
	for _, c := range noStarters {
		checkCode(t, howellOf(c.m, c.pairs, slices.Repeat(list{1}, len(c.pairs))), impl.ErrState)
		checkCode(t, howellOf(c.m, c.pairs, slices.Repeat(list{c.m}, len(c.pairs)+1)), impl.ErrRange)
	}
	for _, m := range noModuli {
		checkCode(t, howellOf(m, strong7, list{3, 6, 5}), impl.ErrRange)
		checkCode(t, howellOf(m, none, list{3, 6, 5}), impl.ErrRange)
		checkCode(t, howellOf(m, nil, nil), impl.ErrRange)
	}
	checkCode(t, howellOf(7, nil, nil), impl.ErrState)
	checkCode(t, howellOf(9, strong7, list{3, 6, 5}), impl.ErrState)
	checkCode(t, howellOf(5, strong7, list{3, 4, 2}), impl.ErrRange)
	checkCode(t, howellOf(5, lists{{1, 4}, {2, 3}}, list{1, 2}), impl.ErrState)
	checkCode(t, howellOf(3, lists{{1, 2}}, list{1}), impl.ErrState)
	checkCode(t, howellOf(3, lists{{1, 2}}, list{2}), impl.ErrState)
	checkCode(t, howellOf(3, lists{{1, 2}}, list{3}), impl.ErrRange)
}

// Pairs and rounds that there are not.
func TestRangesOfMovements(t *testing.T) {
	for pairs := int64(2); pairs <= 14; pairs++ {
		for _, k := range []int{0, 1, 13, 14} {
			v := resting(pairs, 14, k)
			if k > 0 {
				v.Rounds[k-1] = fullSeats(pairs, 14)
			}
			for _, p := range (list{math.MinInt64, math.MinInt64 + 1, -pairs, -2, -1, pairs, pairs + 1, 15, 1 << 32, 1<<32 + 1, math.MaxInt64 - 1, math.MaxInt64}) {
				checkCode(t, boardsOf(v, p), impl.ErrRange)
				checkCode(t, opponentsAt(v, p), impl.ErrRange)
				checkCode(t, takePair(v, p), impl.ErrRange)
			}
			for _, i := range (list{math.MinInt64, math.MinInt64 + 1, -14, -2, -1, int64(k), int64(k) + 1, 15, 1 << 32, 1<<32 + 1, math.MaxInt64 - 1, math.MaxInt64}) {
				checkCode(t, arrowSwitch(v, i), impl.ErrRange)
			}
			checkResults(t, boardsOf(v, pairs-1), boardsAsTold(v, pairs-1), 0)
			checkResults(t, opponentsAt(v, pairs-1), opponentsAsTold(v, pairs-1), 0)
			if k > 0 {
				checkResults(t, arrowSwitch(v, int64(k)-1), switchedAsTold(v, k-1), 0)
			}
		}
	}
}

func TestTakePair(t *testing.T) {
	for _, c := range []struct {
		v    movement
		p    int64
		want movement
	}{
		{mitchell3(), 0, moved(5, 3, seats{{0, 3, 1}, {1, 4, 2}}, seats{{0, 2, 2}, {1, 3, 0}}, seats{{0, 4, 0}, {1, 2, 1}})},
		{mitchell3(), 2, moved(5, 3, seats{{0, 2, 0}, {1, 3, 1}}, seats{{0, 4, 1}, {1, 2, 2}}, seats{{0, 3, 2}, {1, 4, 0}})},
		{mitchell3(), 3, moved(5, 3, seats{{1, 3, 1}, {2, 4, 2}}, seats{{0, 4, 1}, {2, 3, 0}}, seats{{0, 3, 2}, {1, 4, 0}})},
		{mitchell3(), 5, moved(5, 3, seats{{0, 3, 0}, {1, 4, 1}}, seats{{1, 3, 2}, {2, 4, 0}}, seats{{0, 4, 2}, {2, 3, 1}})},
		{moved(3, 1), 0, moved(2, 1)}, {moved(3, 1), 2, moved(2, 1)}, {moved(14, 14), 13, moved(13, 14)},
		{moved(3, 2, seats{{0, 2, 1}}, seats{}), 0, moved(2, 2, seats{}, seats{})},
		{moved(3, 2, seats{{0, 2, 1}}, seats{}), 1, moved(2, 2, seats{{0, 1, 1}}, seats{})},
		{moved(3, 2, seats{{2, 0, 1}}, seats{}), 1, moved(2, 2, seats{{1, 0, 1}}, seats{})},
		{moved(3, 2, seats{{0, 2, 1}}, seats{}), 2, moved(2, 2, seats{}, seats{})},
		{moved(3, 3, seats{{0, 1, 0}}, seats{{1, 2, 1}}, seats{{2, 0, 2}}), 1, moved(2, 3, seats{}, seats{}, seats{{1, 0, 2}})},
	} {
		checkResults(t, takePair(c.v, c.p), c.want, 0)
	}
	// Of two pairs none can be taken out, but others are out of range first.
	for _, v := range []movement{moved(2, 1), moved(2, 14, seats{{0, 1, 13}}), resting(2, 1, 14), moved(2, 1, seats{{0, 1, 0}}, seats{{1, 0, 0}})} {
		checkCode(t, takePair(v, 0), impl.ErrState)
		checkCode(t, takePair(v, 1), impl.ErrState)
		checkCode(t, takePair(v, 2), impl.ErrRange)
		checkCode(t, takePair(v, -1), impl.ErrRange)
	}
	checkCode(t, takePair(moved(2, 0), 0), impl.ErrInvalid)
	checkCode(t, takePair(resting(2, 1, 15), 2), impl.ErrInvalid)
}

func TestArrowSwitch(t *testing.T) {
	checkResults(t, arrowSwitch(moved(2, 1, seats{{0, 1, 0}}), 0), moved(2, 1, seats{{1, 0, 0}}), 0)
	checkResults(t, arrowSwitch(moved(2, 1, seats{}, seats{{0, 1, 0}}), 0), moved(2, 1, seats{}, seats{{0, 1, 0}}), 0)
	checkResults(t, arrowSwitch(moved(2, 1, seats{}, seats{{0, 1, 0}}), 1), moved(2, 1, seats{}, seats{{1, 0, 0}}), 0)
	want := mitchell3()
	want.Rounds[2] = seats{{4, 0, 2}, {5, 1, 0}, {3, 2, 1}}
	checkResults(t, arrowSwitch(mitchell3(), 2), want, 0)
	// Pairs that sat in the same direction with all three sets do so with one of them now.
	checkResults(t, comparisonsOf(want), lists{
		{0, -1, -1, 1, -3, 1}, {-1, 0, -1, 1, 1, -3}, {-1, -1, 0, -3, 1, 1},
		{1, 1, -3, 0, -1, -1}, {-3, 1, 1, -1, 0, -1}, {1, -3, 1, -1, -1, 0},
	}, 0)
}
