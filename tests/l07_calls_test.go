package tests

import (
	"math"

	"loop.example/g01379/impl"
)

// The functions of chapter 7 as calls.

type (
	movement = impl.Movement
	seat     = impl.Seat
	seats    = []impl.Seat
)

func isMovement(v movement) call {
	return call{"IsMovement(" + show(v) + ")", func() []any { return []any{impl.IsMovement(v)} }}
}

func mitchellOf(tables int64) call {
	return call{"MitchellOf(" + show(tables) + ")", func() []any { return results(impl.MitchellOf(tables)) }}
}

func howellOf(m int64, pairs lists, adder list) call {
	return call{"HowellOf(" + show(m) + ", " + show(pairs) + ", " + show(adder) + ")", func() []any { return results(impl.HowellOf(m, pairs, adder)) }}
}

func boardsOf(v movement, p int64) call {
	return call{"BoardsOf(" + show(v) + ", " + show(p) + ")", func() []any { return results(impl.BoardsOf(v, p)) }}
}

func opponentsAt(v movement, p int64) call {
	return call{"OpponentsAt(" + show(v) + ", " + show(p) + ")", func() []any { return results(impl.OpponentsAt(v, p)) }}
}

func sitOuts(v movement) call {
	return call{"SitOuts(" + show(v) + ")", func() []any { return results(impl.SitOuts(v)) }}
}

func isFair(v movement) call {
	return call{"IsFair(" + show(v) + ")", func() []any { return results(impl.IsFair(v)) }}
}

func isComplete(v movement) call {
	return call{"IsComplete(" + show(v) + ")", func() []any { return results(impl.IsComplete(v)) }}
}

func playsOf(v movement) call {
	return call{"PlaysOf(" + show(v) + ")", func() []any { return results(impl.PlaysOf(v)) }}
}

func comparisonsOf(v movement) call {
	return call{"ComparisonsOf(" + show(v) + ")", func() []any { return results(impl.ComparisonsOf(v)) }}
}

func takePair(v movement, p int64) call {
	return call{"TakePair(" + show(v) + ", " + show(p) + ")", func() []any { return results(impl.TakePair(v, p)) }}
}

func arrowSwitch(v movement, i int64) call {
	return call{"ArrowSwitch(" + show(v) + ", " + show(i) + ")", func() []any { return results(impl.ArrowSwitch(v, i)) }}
}

func scheduleOfMovement(v movement) call {
	return call{"ScheduleOfMovement(" + show(v) + ")", func() []any { return results(impl.ScheduleOfMovement(v)) }}
}

// callsOfMovement are all functions that take a movement, and return a code, with pairs and rounds that
// there are and others that there are not: of a movement that is none nothing else is looked at.
func callsOfMovement(v movement) []call {
	out := []call{sitOuts(v), isFair(v), isComplete(v), playsOf(v), comparisonsOf(v), scheduleOfMovement(v)}
	for _, number := range (list{math.MinInt64, -1, 0, 1, 2, 13, 14, math.MaxInt64}) {
		out = append(out, boardsOf(v, number), opponentsAt(v, number), takePair(v, number), arrowSwitch(v, number))
	}
	return out
}
