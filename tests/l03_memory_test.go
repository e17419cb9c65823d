package tests

import "testing"

// roomyPairs returns the same pairs, and spare capacity behind them and their list that is not empty.
func roomyPairs(pairs lists) lists {
	var out lists
	for _, p := range pairs {
		out = append(out, roomyList(p...))
	}
	out = append(out, roomyList(1, 2), roomyList(3, 4))
	return out[:len(pairs):len(out)]
}

// Arguments are not changed, nor what is behind them, and results share no memory with them.
func TestMemoryOfStarters(t *testing.T) {
	everyStarter(func(m int64, pairs lists) {
		if m > 11 {
			return
		}
		given, others := roomyPairs(pairs), roomyPairs(pairs)
		checkMemory(t, isStarter(m, given), given)
		for _, own := range callsOfStarter(m, given) {
			checkMemory(t, own, given)
		}
		for x := int64(1); x < m; x++ {
			checkMemory(t, multipleOf(m, given, x), given)
		}
		checkMemory(t, areOrthogonal(m, given, others), given, others)
		adder := roomyList(rests(m)[:len(pairs)]...)
		checkMemory(t, isAdder(m, given, adder), given, adder)
	})
}

func TestMemoryOfStarterLists(t *testing.T) {
	for _, m := range moduli {
		checkMemory(t, patternedStarter(m))
		checkMemory(t, countStarters(m))
		checkMemory(t, firstStrong(m))
		checkMemory(t, starterList(m))
	}
	given, adder := roomyPairs(strong7), roomyList(3, 6, 5)
	checkMemory(t, isAdder(7, given, adder), given, adder)
}

// Errors leave the arguments alone, too.
func TestMemoryBesideErrorsOfStarters(t *testing.T) {
	none, wrong := roomyPairs(lists{{3, 1}, {2, 6}, {4, 5}}), roomyPairs(lists{{1, 3}, {2, 6}, {4, 7}})
	adder := roomyList(3, 6, 0)
	for _, pairs := range []lists{none, wrong} {
		checkMemory(t, isStarter(7, pairs), pairs)
		for _, own := range callsOfStarter(7, pairs) {
			checkMemory(t, own, pairs)
		}
		checkMemory(t, isAdder(7, pairs, adder), pairs, adder)
		checkMemory(t, multipleOf(7, pairs, 6), pairs)
	}
	checkMemory(t, areOrthogonal(7, none, wrong), none, wrong)
}
