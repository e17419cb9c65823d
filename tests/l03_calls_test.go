package tests

import "loop.example/g01379/impl"

// The functions of chapter 3 as calls.

func isStarter(m int64, pairs lists) call {
	return call{"IsStarter(" + show(m) + ", " + show(pairs) + ")", func() []any { return []any{impl.IsStarter(m, pairs)} }}
}

func patternedStarter(m int64) call {
	return call{"PatternedStarter(" + show(m) + ")", func() []any { return results(impl.PatternedStarter(m)) }}
}

func sumsOf(m int64, pairs lists) call {
	return call{"SumsOf(" + show(m) + ", " + show(pairs) + ")", func() []any { return results(impl.SumsOf(m, pairs)) }}
}

func isStrong(m int64, pairs lists) call {
	return call{"IsStrong(" + show(m) + ", " + show(pairs) + ")", func() []any { return results(impl.IsStrong(m, pairs)) }}
}

func isSkew(m int64, pairs lists) call {
	return call{"IsSkew(" + show(m) + ", " + show(pairs) + ")", func() []any { return results(impl.IsSkew(m, pairs)) }}
}

func isAdder(m int64, pairs lists, adder list) call {
	return call{"IsAdder(" + show(m) + ", " + show(pairs) + ", " + show(adder) + ")", func() []any { return results(impl.IsAdder(m, pairs, adder)) }}
}

func firstAdder(m int64, pairs lists) call {
	return call{"FirstAdder(" + show(m) + ", " + show(pairs) + ")", func() []any { return results(impl.FirstAdder(m, pairs)) }}
}

func strongAdder(m int64, pairs lists) call {
	return call{"StrongAdder(" + show(m) + ", " + show(pairs) + ")", func() []any { return results(impl.StrongAdder(m, pairs)) }}
}

func countStarters(m int64) call {
	return call{"CountStarters(" + show(m) + ")", func() []any {
		all, strong, skew, code := impl.CountStarters(m)
		return []any{all, strong, skew, code}
	}}
}

func firstStrong(m int64) call {
	return call{"FirstStrong(" + show(m) + ")", func() []any { return results(impl.FirstStrong(m)) }}
}

func starterList(m int64) call {
	return call{"StarterList(" + show(m) + ")", func() []any { return results(impl.StarterList(m)) }}
}

func areOrthogonal(m int64, pairs lists, others lists) call {
	return call{"AreOrthogonal(" + show(m) + ", " + show(pairs) + ", " + show(others) + ")", func() []any { return results(impl.AreOrthogonal(m, pairs, others)) }}
}

func multipleOf(m int64, pairs lists, t int64) call {
	return call{"MultipleOf(" + show(m) + ", " + show(pairs) + ", " + show(t) + ")", func() []any { return results(impl.MultipleOf(m, pairs, t)) }}
}

func scheduleOfStarter(m int64, pairs lists) call {
	return call{"ScheduleOfStarter(" + show(m) + ", " + show(pairs) + ")", func() []any { return results(impl.ScheduleOfStarter(m, pairs)) }}
}

// callsOfStarter are all functions that take one starter and nothing else but its modulus, or what is
// right for them whatever the starter is.
func callsOfStarter(m int64, pairs lists) []call {
	ones := make(list, len(pairs))
	for i := range ones {
		ones[i] = 1
	}
	return []call{
		sumsOf(m, pairs), isStrong(m, pairs), isSkew(m, pairs), isAdder(m, pairs, ones), firstAdder(m, pairs),
		strongAdder(m, pairs), areOrthogonal(m, pairs, pairs), multipleOf(m, pairs, 1), scheduleOfStarter(m, pairs),
	}
}
