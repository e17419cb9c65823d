package tests

import (
	"math"

	"loop.example/g01379/impl"
)

// The functions of chapter 8 as calls.

type golf = impl.Golf

func isGolf(x golf) call {
	return call{"IsGolf(" + show(x) + ")", func() []any { return []any{impl.IsGolf(x)} }}
}

func golfMeetings(x golf) call {
	return call{"GolfMeetings(" + show(x) + ")", func() []any { return results(impl.GolfMeetings(x)) }}
}

func isSocial(x golf) call {
	return call{"IsSocial(" + show(x) + ")", func() []any { return results(impl.IsSocial(x)) }}
}

func isFull(x golf) call {
	return call{"IsFull(" + show(x) + ")", func() []any { return results(impl.IsFull(x)) }}
}

func golfBound(n int64, g int64) call {
	return call{"GolfBound(" + show(n) + ", " + show(g) + ")", func() []any { return results(impl.GolfBound(n, g)) }}
}

func tidyRound(x golf, i int64) call {
	return call{"TidyRound(" + show(x) + ", " + show(i) + ")", func() []any { return results(impl.TidyRound(x, i)) }}
}

func groupOf(x golf, i int64, a int64) call {
	return call{"GroupOf(" + show(x) + ", " + show(i) + ", " + show(a) + ")", func() []any { return results(impl.GroupOf(x, i, a)) }}
}

func notMet(x golf, a int64) call {
	return call{"NotMet(" + show(x) + ", " + show(a) + ")", func() []any { return results(impl.NotMet(x, a)) }}
}

func nextGolfRound(x golf) call {
	return call{"NextGolfRound(" + show(x) + ")", func() []any { return results(impl.NextGolfRound(x)) }}
}

func firstGolf(n int64, g int64, k int64) call {
	return call{"FirstGolf(" + show(n) + ", " + show(g) + ", " + show(k) + ")", func() []any { return results(impl.FirstGolf(n, g, k)) }}
}

func gridOf(k int64) call {
	return call{"GridOf(" + show(k) + ")", func() []any { return results(impl.GridOf(k)) }}
}

// callsOfGolf are all functions that take a golf, and return a code, with rounds and players that there
// are and others that there are not: of a golf that is none nothing else is looked at.
func callsOfGolf(x golf) []call {
	out := []call{golfMeetings(x), isSocial(x), isFull(x), nextGolfRound(x)}
	for _, number := range (list{math.MinInt64, -1, 0, 1, 3, 12, 24, 25, math.MaxInt64}) {
		out = append(out, tidyRound(x, number), notMet(x, number), groupOf(x, number, 0), groupOf(x, 0, number), groupOf(x, number, number))
	}
	return out
}
