package tests

import (
	"testing"

	"loop.example/g01379/impl"
)

// roomySquare returns the same square, and spare capacity behind its rows and their list that is not
// empty.
func roomySquare(x square) square {
	var rows lists
	for _, row := range x.Cells {
		rows = append(rows, roomyList(row...))
	}
	rows = append(rows, roomyList(-1, 17), roomyList(30))
	return square{Side: x.Side, Cells: rows[:len(x.Cells):len(rows)]}
}

// checkMemoryOfSquare checks all functions that take a square.
func checkMemoryOfSquare(t *testing.T, x square) {
	t.Helper()
	given := roomySquare(x)
	checkMemory(t, isSquare(given), given)
	for _, own := range callsOfSquare(given) {
		checkMemory(t, own, given)
	}
	checkMemory(t, cellOf(given, 9, -9), given)
	p := roomyList(mixedOrder(int64(len(x.Cells)) + 1)...)
	checkMemory(t, renumberSquare(given, p), given, p)
	wrong := roomyList(0, 1, 1)
	checkMemory(t, renumberSquare(given, wrong), given, wrong)
}

// Arguments are not changed, nor what is behind them, and results share no memory with them.
func TestMemoryOfSquares(t *testing.T) {
	everySquare(func(x square, d *dice) {
		if x.Side <= 7 || d.below(4) == 0 {
			checkMemoryOfSquare(t, x)
		}
	})
	for _, x := range wrongSquares(t) {
		checkMemoryOfSquare(t, x)
	}
}

// Rows that are the same memory make no rows that are.
func TestMemoryOfRowsGivenTwice(t *testing.T) {
	row := roomyList(1, -1, -1)
	x := square{Side: 3, Cells: lists{row, row, row}}
	checkResults(t, transposeSquare(x), drawn(t, "3:0-1,0-1,0-1;.,.,.;.,.,."), 0)
	checkResults(t, renumberSquare(x, list{3, 1, 2, 0}), drawn(t, "3:1-3,.,.;1-3,.,.;1-3,.,."), 0)
	checkApart(t, "TransposeSquare", append(transposeSquare(x).run(), row)...)
	checkApart(t, "RenumberSquare", append(renumberSquare(x, list{3, 1, 2, 0}).run(), row)...)
}

func TestMemoryOfSquaresOfSchedules(t *testing.T) {
	for _, x := range roomSquares() {
		rows, columns := roomy(scheduleAsTold(t, x)), roomy(scheduleAsTold(t, turnedAsTold(x)))
		checkMemory(t, squareOfSchedules(rows, columns), rows, columns)
		checkMemory(t, squareOfSchedules(rows, rows), rows) // mostly an error
	}
	empty := roomy(many(14, 13))
	checkMemory(t, squareOfSchedules(empty, empty), empty)
	for _, s := range []impl.Schedule{roomy(three()), roomy(many(4, 41)), roomy(many(6, 4))} {
		checkMemory(t, squareOfSchedules(s, empty), s, empty)
		checkMemory(t, squareOfSchedules(empty, s), s, empty)
	}
}

func TestMemoryOfSquaresOfStarters(t *testing.T) {
	for _, c := range []struct {
		m     int64
		pairs lists
		adder list
	}{
		{7, strong7, list{3, 6, 5}}, {7, patterned7, list{2, 4, 1}}, {7, strong7, list{1, 2, 3}}, {7, strong7, list{0, 2, 3}},
		{7, lists{{1, 2}, {3, 4}, {5, 6}}, list{3, 6, 5}}, {8, strong7, list{3, 6, 5}}, {3, lists{{1, 2}}, list{1}},
		{13, lists{{1, 2}, {3, 6}, {4, 11}, {5, 9}, {7, 12}, {8, 10}}, list{1, 4, 7, 3, 2, 9}},
	} {
		given, adder := roomyPairs(c.pairs), roomyList(c.adder...)
		checkMemory(t, squareOfStarter(c.m, given, adder), given, adder)
	}
}

func TestMemoryOfSquaresOfTexts(t *testing.T) {
	for _, x := range roomSquares() {
		checkMemory(t, parseSquare(textOfSquare(x)))
	}
	checkMemory(t, parseSquare("3:.,.,.;.,.,.;.,.,"))
}
