package tests

import (
	"slices"
	"testing"

	"loop.example/g01379/impl"
)

// checkMemoryOfRobin checks all functions of chapter 9 that take a schedule.
func checkMemoryOfRobin(t *testing.T, s impl.Schedule) {
	t.Helper()
	given := roomy(s)
	for _, own := range callsOfRobin(given) {
		checkMemory(t, own, given)
	}
}

// checkMemoryOfRows checks all functions that take rows.
func checkMemoryOfRows(t *testing.T, n int64, rows lists) {
	t.Helper()
	given := roomyLists(rows)
	for _, own := range callsOfRows(n, given) {
		checkMemory(t, own, given)
	}
}

// checkMemoryOfNumbers checks all functions that take a list.
func checkMemoryOfNumbers(t *testing.T, numbers list) {
	t.Helper()
	given := roomyList(numbers...)
	for _, own := range callsOfNumbers(given) {
		checkMemory(t, own, given)
	}
	for _, n := range (list{2, 4, 8, int64(len(numbers)), int64(len(numbers)) + 1}) {
		checkMemory(t, digitRobin(n, given), given)
	}
}

// Arguments are not changed, nor what is behind them, and results share no memory with them.
func TestMemoryOfCarry(t *testing.T) {
	d := dice(25)
	for n := int64(2); n <= 14; n++ {
		s, _ := impl.CircleOf(n)
		checkMemoryOfRobin(t, s)
		if n%2 == 0 {
			checkMemoryOfRobin(t, d.mixedRobin(s))
		}
	}
	for _, c := range toldRobins {
		checkMemoryOfRobin(t, parsed(t, c.text))
	}
	for _, n := range (list{2, 4, 8}) {
		checkMemoryOfNumbers(t, fullRound(1, n-1))
		order := d.shuffled(n - 1)
		for k := range order {
			order[k]++
		}
		checkMemoryOfNumbers(t, order)
	}
}

func TestMemoryOfRows(t *testing.T) {
	d := dice(26)
	for n := int64(1); n <= 14; n++ {
		rows := d.mixedRows(zigzagRows(n))
		for _, given := range []lists{rows, turnedLists(rows), d.exchanged(rows), d.overwritten(rows), rows[1:], append(slices.Clone(rows), rows[0])} {
			checkMemoryOfRows(t, n, given)
		}
		checkMemoryOfNumbers(t, zigzagRows(n)[0])
		checkMemoryOfNumbers(t, d.shuffled(n))
		checkMemory(t, zigzagOf(n))
		checkMemory(t, countStepSequences(n))
		checkMemory(t, firstDigitOrder(n))
	}
}

// Rows that are the same memory are looked at as rows of their own.
func TestMemoryOfTheSameRow(t *testing.T) {
	row := roomyList(0, 1)
	for _, own := range callsOfRows(2, lists{row, row}) {
		checkMemory(t, own, lists{row})
	}
	numbers := roomyList(0, 1, 1, 0)
	rows := lists{numbers[:2], numbers[2:]}
	checkResults(t, isRowComplete(2, rows), true, 0)
	for _, own := range callsOfRows(2, rows) {
		checkMemory(t, own, numbers)
	}
}

// Errors leave the arguments alone, too.
func TestMemoryBesideErrorsOfCarry(t *testing.T) {
	for _, s := range slices.Concat(wrongSchedules()[:1], wrongSchedules()[3:], noEvenRobins()[:40]) {
		checkMemoryOfRobin(t, s)
	}
	for _, numbers := range noWholeLists() {
		checkMemoryOfNumbers(t, numbers)
	}
	for _, rows := range []lists{nil, {nil}, {{0}, nil}, {{0, 1}, {1, 2}}, {{0, 1}, {1, -1}}, {{0, 1, 0}, {1, 0, 1}}, {{0, 1}, {0, 1}}} {
		checkMemoryOfRows(t, 2, rows)
		checkMemoryOfRows(t, 15, rows)
	}
}
