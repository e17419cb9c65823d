package tests

import "loop.example/g01379/impl"

// The functions of chapter 9 as calls.

func carryMatrix(s impl.Schedule) call {
	return call{"CarryMatrix(" + show(s) + ")", func() []any { return results(impl.CarryMatrix(s)) }}
}

func carryCost(s impl.Schedule) call {
	return call{"CarryCost(" + show(s) + ")", func() []any { return results(impl.CarryCost(s)) }}
}

func isCarryBalanced(s impl.Schedule) call {
	return call{"IsCarryBalanced(" + show(s) + ")", func() []any { return results(impl.IsCarryBalanced(s)) }}
}

func bestOrder(s impl.Schedule) call {
	return call{"BestOrder(" + show(s) + ")", func() []any {
		order, cost, code := impl.BestOrder(s)
		return []any{order, cost, code}
	}}
}

func digitRobin(n int64, order list) call {
	return call{"DigitRobin(" + show(n) + ", " + show(order) + ")", func() []any { return results(impl.DigitRobin(n, order)) }}
}

func firstDigitOrder(n int64) call {
	return call{"FirstDigitOrder(" + show(n) + ")", func() []any { return results(impl.FirstDigitOrder(n)) }}
}

func isSquareOf(n int64, rows lists) call {
	return call{"IsSquareOf(" + show(n) + ", " + show(rows) + ")", func() []any { return results(impl.IsSquareOf(n, rows)) }}
}

func isRowComplete(n int64, rows lists) call {
	return call{"IsRowComplete(" + show(n) + ", " + show(rows) + ")", func() []any { return results(impl.IsRowComplete(n, rows)) }}
}

func isStepSequence(numbers list) call {
	return call{"IsStepSequence(" + show(numbers) + ")", func() []any { return results(impl.IsStepSequence(numbers)) }}
}

func zigzagOf(n int64) call {
	return call{"ZigzagOf(" + show(n) + ")", func() []any { return results(impl.ZigzagOf(n)) }}
}

func countStepSequences(n int64) call {
	return call{"CountStepSequences(" + show(n) + ")", func() []any { return results(impl.CountStepSequences(n)) }}
}

func squareOfList(numbers list) call {
	return call{"SquareOfList(" + show(numbers) + ")", func() []any { return results(impl.SquareOfList(numbers)) }}
}

// callsOfRobin are all functions of the chapter that take a schedule.
func callsOfRobin(s impl.Schedule) []call {
	return []call{carryMatrix(s), carryCost(s), isCarryBalanced(s), bestOrder(s)}
}

// callsOfRows are all functions that take rows.
func callsOfRows(n int64, rows lists) []call {
	return []call{isSquareOf(n, rows), isRowComplete(n, rows)}
}

// callsOfNumbers are all functions that take a list alone.
func callsOfNumbers(numbers list) []call {
	return []call{isStepSequence(numbers), squareOfList(numbers)}
}
