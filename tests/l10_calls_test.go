package tests

import "loop.example/g01379/impl"

// The functions of chapter 10 as calls.

func areResults(s impl.Schedule, x lists) call {
	return call{"AreResults(" + show(s) + ", " + show(x) + ")", func() []any { return results(impl.AreResults(s, x)) }}
}

func pointsOf(s impl.Schedule, x lists) call {
	return call{"PointsOf(" + show(s) + ", " + show(x) + ")", func() []any { return results(impl.PointsOf(s, x)) }}
}

func secondNumbers(s impl.Schedule, x lists) call {
	return call{"SecondNumbers(" + show(s) + ", " + show(x) + ")", func() []any { return results(impl.SecondNumbers(s, x)) }}
}

func thirdNumbers(s impl.Schedule, x lists) call {
	return call{"ThirdNumbers(" + show(s) + ", " + show(x) + ")", func() []any { return results(impl.ThirdNumbers(s, x)) }}
}

func rankingOf(s impl.Schedule, x lists) call {
	return call{"RankingOf(" + show(s) + ", " + show(x) + ")", func() []any { return results(impl.RankingOf(s, x)) }}
}

func pointsBetween(s impl.Schedule, x lists, a int64, b int64) call {
	return call{"PointsBetween(" + show(s) + ", " + show(x) + ", " + show(a) + ", " + show(b) + ")", func() []any {
		first, second, code := impl.PointsBetween(s, x, a, b)
		return []any{first, second, code}
	}}
}

func pointsByRound(s impl.Schedule, x lists, a int64) call {
	return call{"PointsByRound(" + show(s) + ", " + show(x) + ", " + show(a) + ")", func() []any { return results(impl.PointsByRound(s, x, a)) }}
}

func nextRound(s impl.Schedule, x lists) call {
	return call{"NextRound(" + show(s) + ", " + show(x) + ")", func() []any { return results(impl.NextRound(s, x)) }}
}

func canBeFirst(s impl.Schedule, x lists, a int64) call {
	return call{"CanBeFirst(" + show(s) + ", " + show(x) + ", " + show(a) + ")", func() []any { return results(impl.CanBeFirst(s, x, a)) }}
}

func firstTeams(s impl.Schedule, x lists) call {
	return call{"FirstTeams(" + show(s) + ", " + show(x) + ")", func() []any { return results(impl.FirstTeams(s, x)) }}
}

// callsOfResults are all functions of the chapter but AreResults, to which wrong results are no error;
// their other arguments are right if the schedule is one.
func callsOfResults(s impl.Schedule, x lists) []call {
	return []call{
		pointsOf(s, x), secondNumbers(s, x), thirdNumbers(s, x), rankingOf(s, x), pointsBetween(s, x, 1, 0), pointsByRound(s, x, 0),
		nextRound(s, x), canBeFirst(s, x, 1), firstTeams(s, x),
	}
}

// callsWithNoTeams are the functions of results with a number that is none of a team, or with the same
// team twice.
func callsWithNoTeams(s impl.Schedule, x lists) []call {
	var out []call
	for _, a := range (list{-1 << 63, -1, s.Teams, s.Teams + 1, 14, 1 << 32, 1<<63 - 1}) {
		out = append(out, pointsBetween(s, x, a, 0), pointsBetween(s, x, 1, a), pointsBetween(s, x, a, a), pointsByRound(s, x, a), canBeFirst(s, x, a))
	}
	return append(out, pointsBetween(s, x, 0, 0), pointsBetween(s, x, 1, 1))
}
