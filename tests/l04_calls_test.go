package tests

import "loop.example/g01379/impl"

// The functions of chapter 4 as calls.

func isSquare(x impl.Square) call {
	return call{"IsSquare(" + show(x) + ")", func() []any { return []any{impl.IsSquare(x)} }}
}

func isRoomSquare(x impl.Square) call {
	return call{"IsRoomSquare(" + show(x) + ")", func() []any { return results(impl.IsRoomSquare(x)) }}
}

func cellOf(x impl.Square, i int64, j int64) call {
	return call{"CellOf(" + show(x) + ", " + show(i) + ", " + show(j) + ")", func() []any {
		low, high, code := impl.CellOf(x, i, j)
		return []any{low, high, code}
	}}
}

func rowsOf(x impl.Square) call {
	return call{"RowsOf(" + show(x) + ")", func() []any { return results(impl.RowsOf(x)) }}
}

func columnsOf(x impl.Square) call {
	return call{"ColumnsOf(" + show(x) + ")", func() []any { return results(impl.ColumnsOf(x)) }}
}

func squareOfSchedules(s impl.Schedule, x impl.Schedule) call {
	return call{"SquareOfSchedules(" + show(s) + ", " + show(x) + ")", func() []any { return results(impl.SquareOfSchedules(s, x)) }}
}

func squareOfStarter(m int64, pairs lists, adder list) call {
	return call{"SquareOfStarter(" + show(m) + ", " + show(pairs) + ", " + show(adder) + ")", func() []any { return results(impl.SquareOfStarter(m, pairs, adder)) }}
}

func isStandard(x impl.Square) call {
	return call{"IsStandard(" + show(x) + ")", func() []any { return results(impl.IsStandard(x)) }}
}

func standardForm(x impl.Square) call {
	return call{"StandardForm(" + show(x) + ")", func() []any { return results(impl.StandardForm(x)) }}
}

func isSkewSquare(x impl.Square) call {
	return call{"IsSkewSquare(" + show(x) + ")", func() []any { return results(impl.IsSkewSquare(x)) }}
}

func transposeSquare(x impl.Square) call {
	return call{"TransposeSquare(" + show(x) + ")", func() []any { return results(impl.TransposeSquare(x)) }}
}

func renumberSquare(x impl.Square, p []int64) call {
	return call{"RenumberSquare(" + show(x) + ", " + show(p) + ")", func() []any { return results(impl.RenumberSquare(x, p)) }}
}

func squareText(x impl.Square) call {
	return call{"SquareText(" + show(x) + ")", func() []any { return results(impl.SquareText(x)) }}
}

func parseSquare(text string) call {
	return call{"ParseSquare(" + show(text) + ")", func() []any { return results(impl.ParseSquare(text)) }}
}

// callsOfSquare are all functions that take one square, all but IsSquare, which returns no code; their
// other arguments are right for the side, if there can be such arguments.
func callsOfSquare(x impl.Square) []call {
	var p list
	if 1 <= x.Side && x.Side <= 15 {
		p = mixedOrder(x.Side + 1)
	}
	return []call{
		isRoomSquare(x), cellOf(x, 0, 0), rowsOf(x), columnsOf(x), isStandard(x), standardForm(x), isSkewSquare(x),
		transposeSquare(x), renumberSquare(x, p), squareText(x),
	}
}
