package tests

import "loop.example/g01379/impl"

// The functions of chapter 2 as calls.

func componentsOf(n int64, r impl.Round, q impl.Round) call {
	return call{"ComponentsOf(" + show(n) + ", " + show(r) + ", " + show(q) + ")", func() []any { return results(impl.ComponentsOf(n, r, q)) }}
}

func typeOfRounds(n int64, r impl.Round, q impl.Round) call {
	return call{"TypeOfRounds(" + show(n) + ", " + show(r) + ", " + show(q) + ")", func() []any { return results(impl.TypeOfRounds(n, r, q)) }}
}

func chainFrom(n int64, r impl.Round, q impl.Round, a int64) call {
	return call{"ChainFrom(" + show(n) + ", " + show(r) + ", " + show(q) + ", " + show(a) + ")", func() []any { return results(impl.ChainFrom(n, r, q, a)) }}
}

func isPerfect(s impl.Schedule) call {
	return call{"IsPerfect(" + show(s) + ")", func() []any { return results(impl.IsPerfect(s)) }}
}

func typesOf(s impl.Schedule) call {
	return call{"TypesOf(" + show(s) + ")", func() []any { return results(impl.TypesOf(s)) }}
}

func findRenumbering(s impl.Schedule, x impl.Schedule) call {
	return call{"FindRenumbering(" + show(s) + ", " + show(x) + ")", func() []any { return results(impl.FindRenumbering(s, x)) }}
}

func countAutomorphisms(s impl.Schedule) call {
	return call{"CountAutomorphisms(" + show(s) + ")", func() []any { return results(impl.CountAutomorphisms(s)) }}
}

func completeSchedule(s impl.Schedule) call {
	return call{"CompleteSchedule(" + show(s) + ")", func() []any { return results(impl.CompleteSchedule(s)) }}
}

func countRobins(n int64) call {
	return call{"CountRobins(" + show(n) + ")", func() []any { return results(impl.CountRobins(n)) }}
}
