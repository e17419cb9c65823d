package tests

import (
	"testing"

	"loop.example/g01379/impl"
)

// checkMemoryOfResults checks all functions that take a schedule and results.
func checkMemoryOfResults(t *testing.T, s impl.Schedule, x lists) {
	t.Helper()
	given, numbers := roomy(s), roomyLists(x)
	checkMemory(t, areResults(given, numbers), given, numbers)
	for _, own := range callsOfResults(given, numbers) {
		checkMemory(t, own, given, numbers)
	}
	for _, own := range callsWithNoTeams(given, numbers)[:5] {
		checkMemory(t, own, given, numbers)
	}
}

// Arguments are not changed, nor what is behind them, and results share no memory with them.
func TestMemoryOfResults(t *testing.T) {
	d := dice(35)
	for n := int64(2); n <= 14; n += 3 {
		for _, k := range (list{0, 1, 2, 5, 20}) {
			s := d.schedule(n, k)
			for _, i := range (list{0, k / 2, k}) {
				checkMemoryOfResults(t, s, d.outcomes(s, int(i)))
			}
		}
	}
	for _, c := range toldResults {
		checkMemoryOfResults(t, parsed(t, c.text), played(c.results))
	}
}

// Errors leave the arguments alone, too.
func TestMemoryBesideErrorsOfResults(t *testing.T) {
	for _, s := range []impl.Schedule{four(), parsed(t, "3:0-1;1-2")} {
		for _, x := range wrongResults(s) {
			checkMemoryOfResults(t, s, x)
		}
	}
	for _, s := range []impl.Schedule{many(4, 41), {Teams: 15}, {Teams: 3, Rounds: []round{{1, 1, 0}}}} {
		checkMemoryOfResults(t, s, lists{{1}, {2}})
	}
}

// Rows that are the same memory, or parts of one list, are looked at as rows of their own.
func TestMemoryOfTheSameResults(t *testing.T) {
	s, row := parsed(t, "4:0-3,1-2;0-2,1-3;0-1,2-3"), roomyList(1, 0)
	x := lists{row, row, row}
	checkResults(t, pointsOf(s, x), list{6, 2, 2, 2}, 0)
	numbers := roomyList(1, 1, 1, 0, 2, 0)
	parts := lists{numbers[:2], numbers[2:4], numbers[4:]}
	checkResults(t, pointsOf(s, parts), list{4, 5, 1, 2}, 0)
	for _, own := range callsOfResults(s, x) {
		checkMemory(t, own, s, row)
	}
	for _, own := range callsOfResults(s, parts) {
		checkMemory(t, own, s, numbers)
	}
}
