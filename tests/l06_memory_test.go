package tests

import "testing"

// roomyEvening returns the same evening, and spare capacity behind its rounds and their list that is not
// empty.
func roomyEvening(e evening) evening { return party(e.Players, roomyLists(e.Rounds)) }

// checkMemoryOfEvening checks all functions that take an evening.
func checkMemoryOfEvening(t *testing.T, e evening) {
	t.Helper()
	given := roomyEvening(e)
	checkMemory(t, isEvening(given), given)
	for _, own := range callsOfEvening(given) {
		checkMemory(t, own, given)
	}
	p := roomyList(mixedOrder(max(0, min(e.Players, 20)))...)
	checkMemory(t, renumberPlayers(given, p), given, p)
	wrong := roomyList(0, 1, 1, 3)
	checkMemory(t, renumberPlayers(given, wrong), given, wrong)
}

// Arguments are not changed, nor what is behind them, and results share no memory with them.
func TestMemoryOfEvenings(t *testing.T) {
	d := dice(13)
	for n := int64(4); n <= 16; n += 3 {
		for _, k := range (list{0, 1, 3, 20}) {
			checkMemoryOfEvening(t, d.evening(n, k))
		}
	}
	for _, e := range whistEvenings() {
		checkMemoryOfEvening(t, e)
	}
	for _, e := range []evening{idle(4, 21), party(3, lists{{0, 1, 2}}), party(9, lists{{0, 1, 2, 3}, {0, 1, 2, 9}}), party(9, lists{{0, 1, 2, 3, 4}}), party(9, lists{{8, 8, 1, 2}})} {
		checkMemoryOfEvening(t, e)
	}
}

// Rounds that are the same memory make no rounds that are.
func TestMemoryOfRoundsGivenTwice(t *testing.T) {
	round := roomyList(3, 0, 1, 2)
	e := party(5, lists{round, round, round[:0]})
	p := list{4, 3, 2, 1, 0}
	checkResults(t, renumberPlayers(e, p), party(5, lists{{1, 4, 3, 2}, {1, 4, 3, 2}, {}}), 0)
	checkApart(t, "RenumberPlayers", append(renumberPlayers(e, p).run(), round, p)...)
	checkApart(t, "SittingOut", append(sittingOut(e, 2).run(), round)...)
	checkApart(t, "OpponentsIn", append(opponentsIn(e, 0).run(), round)...)
	// A list of players may be that of a round, too.
	same := roomyList(3, 0, 1, 2)
	own := party(4, lists{same})
	checkMemory(t, renumberPlayers(own, same), own)
	checkResults(t, renumberPlayers(own, same), party(4, lists{{2, 3, 0, 1}}), 0)
}

func TestMemoryOfBases(t *testing.T) {
	for n := int64(3); n <= 17; n++ {
		for _, count := range (list{n - n%4, n, n + 1}) {
			base := roomyList(mixedOrder(count)...)
			checkMemory(t, madeFrom(n, base), base)
		}
		checkMemory(t, firstBase(n))
	}
	twice := roomyList(0, 1, 1, 3)
	checkMemory(t, madeFrom(4, twice), twice)
}
