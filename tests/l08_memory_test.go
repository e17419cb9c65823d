package tests

import "testing"

// roomyGolf returns the same golf, and spare capacity behind its rounds and their list that is not empty.
func roomyGolf(x golf) golf { return golfing(x.Players, x.Size, roomyLists(x.Rounds)...) }

// checkMemoryOfGolf checks all functions that take a golf.
func checkMemoryOfGolf(t *testing.T, x golf) {
	t.Helper()
	given := roomyGolf(x)
	checkMemory(t, isGolf(given), given)
	for _, own := range callsOfGolf(given) {
		checkMemory(t, own, given)
	}
}

// Arguments are not changed, nor what is behind them, and results share no memory with them.
func TestMemoryOfGolfs(t *testing.T) {
	d := dice(21)
	for n := int64(2); n <= 25; n += 4 {
		for _, g := range sizesOf(n) {
			for _, k := range (list{0, 1, 3, 12}) {
				checkMemoryOfGolf(t, d.golf(n, g, k))
			}
		}
	}
	for _, x := range fullGolfs() {
		checkMemoryOfGolf(t, x)
		checkMemoryOfGolf(t, d.mixedGolf(x))
		checkMemoryOfGolf(t, golfing(x.Players, x.Size, x.Rounds[1:]...))
	}
	for _, c := range toldGolfs {
		checkMemoryOfGolf(t, c.x)
	}
}

func TestMemoryBesideErrorsOfGolfs(t *testing.T) {
	for _, wrong := range wrongRounds {
		checkMemoryOfGolf(t, golfing(4, 2, list{3, 1, 2, 0}, wrong))
	}
	checkMemoryOfGolf(t, mornings(4, 2, 13))
	checkMemoryOfGolf(t, golfing(1, 1, list{0}))
	checkMemoryOfGolf(t, golfing(26, 2, fullRound(0, 26)))
	checkMemoryOfGolf(t, golfing(4, 0, list{3, 1, 2, 0}))
	checkMemoryOfGolf(t, golfing(4, 3, list{3, 1, 2, 0}))
}

// Rounds that are the same memory make no rounds that are.
func TestMemoryOfMorningsGivenTwice(t *testing.T) {
	round := roomyList(3, 1, 2, 0)
	x := golfing(4, 2, round, round)
	checkResults(t, tidyRound(x, 0), list{0, 2, 1, 3}, 0)
	checkResults(t, groupOf(x, 1, 3), list{1, 3}, 0)
	for _, own := range callsOfGolf(x) {
		checkMemory(t, own, golfing(4, 2, round))
	}
}

func TestMemoryOfMadeGolfs(t *testing.T) {
	for k := int64(1); k <= 7; k++ {
		checkMemory(t, gridOf(k))
		checkMemory(t, golfBound(k, 2))
	}
	for n := int64(1); n <= 10; n++ {
		for g := int64(1); g <= n; g++ {
			for k := int64(-1); k <= 8; k++ {
				checkMemory(t, firstGolf(n, g, k))
			}
		}
	}
}
