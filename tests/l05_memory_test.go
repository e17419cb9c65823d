package tests

import (
	"testing"

	"loop.example/g01379/impl"
)

// roomyLists returns the same lists, and spare capacity behind them and their list that is not empty.
func roomyLists(v lists) lists {
	var out lists
	for _, own := range v {
		out = append(out, roomyList(own...))
	}
	out = append(out, roomyList(1, 0), roomyList(-1))
	return out[:len(v):len(out)]
}

// checkMemoryOfVenues checks all functions that take a schedule and venues.
func checkMemoryOfVenues(t *testing.T, s impl.Schedule, v lists) {
	t.Helper()
	given, venues := roomy(s), roomyLists(v)
	checkMemory(t, areVenues(given, venues), given, venues)
	for _, own := range callsOfVenues(given, venues) {
		checkMemory(t, own, given, venues)
	}
	checkMemory(t, patternOf(given, venues, s.Teams), given, venues)
	checkMemory(t, areOpposite(given, venues, 1, 1), given, venues)
	for i := range int64(len(s.Rounds)) + 1 {
		checkMemory(t, exchangeGame(given, venues, i, 0), given, venues)
	}
}

// Arguments are not changed, nor what is behind them, and results share no memory with them.
func TestMemoryOfVenues(t *testing.T) {
	d := dice(8)
	for n := int64(2); n <= 14; n += 3 {
		for _, k := range []int64{0, 1, 2, 5, 20, 21} {
			s := d.schedule(n, k)
			checkMemoryOfVenues(t, s, d.venues(s))
			checkMemoryOfVenues(t, s, freeOnes(s)) // mostly an error
			given := roomy(s)
			checkMemory(t, firstVenues(given), given)
			checkMemory(t, fewestBreaks(given), given)
			few := roomy(d.withGames(s, 9))
			checkMemory(t, fewestBreaks(few), few)
		}
	}
}

func TestMemoryBesideErrorsOfVenues(t *testing.T) {
	for _, v := range withoutForm(three()) {
		checkMemoryOfVenues(t, three(), v)
	}
	for _, c := range notVenues {
		checkMemoryOfVenues(t, parsed(t, c.schedule), c.venues)
	}
	for _, s := range []impl.Schedule{many(4, 41), {Teams: 15}, {Teams: 3, Rounds: []round{{1, 1, 0}}}} {
		checkMemoryOfVenues(t, s, freeOnes(s))
		given := roomy(s)
		checkMemory(t, firstVenues(given), given)
		checkMemory(t, fewestBreaks(given), given)
	}
}

// Venues that are the same memory in all rounds make none that are.
func TestMemoryOfVenuesGivenTwice(t *testing.T) {
	s, row := parsed(t, "3:0-1;0-1;0-1"), roomyList(1, 0, -1)
	v := lists{row, row, row}
	checkResults(t, exchangeGame(s, v, 1, 0), lists{{1, 0, -1}, {0, 1, -1}, {1, 0, -1}}, 0)
	checkApart(t, "ExchangeGame", append(exchangeGame(s, v, 1, 0).run(), row)...)
	checkApart(t, "DoubleSchedule", append(doubleSchedule(s, v).run(), row)...)
	checkMemory(t, exchangeGame(s, v, 1, 0), s)
	checkMemory(t, doubleSchedule(s, v), s)
}

func TestMemoryOfCircleVenues(t *testing.T) {
	for n := int64(1); n <= 15; n++ {
		checkMemory(t, circleVenues(n))
	}
}

func TestMemoryOfPatterns(t *testing.T) {
	for _, patterns := range []lists{
		{{0}, {1}}, {{0}, {0}}, {{0, 0, 1}, {1, 1, 0}, {0, 1, 0}, {1, 0, 1}}, {{0, 0, 1}, {0, 0, 1}, {1, 1, 0}, {1, 1, 0}},
		{{0, 0, 1, 0, 1}, {1, 1, 0, 1, 0}, {0, 1, 0, 0, 1}, {1, 0, 1, 1, 0}, {0, 1, 0, 1, 0}, {1, 0, 1, 0, 1}}, {{0}, {2}}, {{0}, {1}, {0}},
	} {
		given := roomyLists(patterns)
		checkMemory(t, scheduleFor(given), given)
	}
}
