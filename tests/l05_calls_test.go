package tests

import "loop.example/g01379/impl"

// The functions of chapter 5 as calls.

func areVenues(s impl.Schedule, v lists) call {
	return call{"AreVenues(" + show(s) + ", " + show(v) + ")", func() []any { return results(impl.AreVenues(s, v)) }}
}

func firstVenues(s impl.Schedule) call {
	return call{"FirstVenues(" + show(s) + ")", func() []any { return results(impl.FirstVenues(s)) }}
}

func patternOf(s impl.Schedule, v lists, a int64) call {
	return call{"PatternOf(" + show(s) + ", " + show(v) + ", " + show(a) + ")", func() []any { return results(impl.PatternOf(s, v, a)) }}
}

func breaksOf(s impl.Schedule, v lists) call {
	return call{"BreaksOf(" + show(s) + ", " + show(v) + ")", func() []any { return results(impl.BreaksOf(s, v)) }}
}

func fewestBreaks(s impl.Schedule) call {
	return call{"FewestBreaks(" + show(s) + ")", func() []any { return results(impl.FewestBreaks(s)) }}
}

func homesOf(s impl.Schedule, v lists) call {
	return call{"HomesOf(" + show(s) + ", " + show(v) + ")", func() []any { return results(impl.HomesOf(s, v)) }}
}

func areBalanced(s impl.Schedule, v lists) call {
	return call{"AreBalanced(" + show(s) + ", " + show(v) + ")", func() []any { return results(impl.AreBalanced(s, v)) }}
}

func exchangeGame(s impl.Schedule, v lists, i int64, a int64) call {
	return call{"ExchangeGame(" + show(s) + ", " + show(v) + ", " + show(i) + ", " + show(a) + ")", func() []any { return results(impl.ExchangeGame(s, v, i, a)) }}
}

func circleVenues(n int64) call {
	return call{"CircleVenues(" + show(n) + ")", func() []any { return results(impl.CircleVenues(n)) }}
}

func doubleSchedule(s impl.Schedule, v lists) call {
	return call{"DoubleSchedule(" + show(s) + ", " + show(v) + ")", func() []any {
		double, venues, code := impl.DoubleSchedule(s, v)
		return []any{double, venues, code}
	}}
}

func areOpposite(s impl.Schedule, v lists, a int64, b int64) call {
	return call{"AreOpposite(" + show(s) + ", " + show(v) + ", " + show(a) + ", " + show(b) + ")", func() []any { return results(impl.AreOpposite(s, v, a, b)) }}
}

func scheduleFor(patterns lists) call {
	return call{"ScheduleFor(" + show(patterns) + ")", func() []any { return results(impl.ScheduleFor(patterns)) }}
}

// callsOfVenues are all functions that take a schedule and venues of it, all but AreVenues, to which
// wrong ones are no error; their other arguments are right if the schedule is one, but that it may have
// no round.
func callsOfVenues(s impl.Schedule, v lists) []call {
	out := []call{patternOf(s, v, 0), breaksOf(s, v), homesOf(s, v), areBalanced(s, v), doubleSchedule(s, v), areOpposite(s, v, 1, 0)}
	if len(s.Rounds) > 0 {
		out = append(out, exchangeGame(s, v, 0, 1))
	}
	return out
}

// callsWithNoNumbers are the functions of venues with a number that is none of a team, or of a round,
// or with the same team twice.
func callsWithNoNumbers(s impl.Schedule, v lists) []call {
	last, end := s.Teams, int64(len(s.Rounds))
	var out []call
	for _, a := range (list{-1 << 63, -1, last, last + 1, 14, 1 << 32, 1<<63 - 1}) {
		out = append(out, patternOf(s, v, a), exchangeGame(s, v, 0, a), areOpposite(s, v, a, 0), areOpposite(s, v, 1, a), areOpposite(s, v, a, a))
	}
	for _, i := range (list{-1 << 63, -1, end, end + 1, 40, 1 << 32, 1<<63 - 1}) {
		out = append(out, exchangeGame(s, v, i, 0), exchangeGame(s, v, i, 1), exchangeGame(s, v, i, last))
	}
	return append(out, areOpposite(s, v, 0, 0), areOpposite(s, v, 1, 1))
}
