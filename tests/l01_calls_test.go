package tests

import "loop.example/g01379/impl"

// The functions of chapter 1 as calls.

func isRound(n int64, r impl.Round) call {
	return call{"IsRound(" + show(n) + ", " + show(r) + ")", func() []any { return []any{impl.IsRound(n, r)} }}
}

func isSchedule(s impl.Schedule) call {
	return call{"IsSchedule(" + show(s) + ")", func() []any { return []any{impl.IsSchedule(s)} }}
}

func roundOf(n int64, pairs [][]int64) call {
	return call{"RoundOf(" + show(n) + ", " + show(pairs) + ")", func() []any { return results(impl.RoundOf(n, pairs)) }}
}

func pairsOf(n int64, r impl.Round) call {
	return call{"PairsOf(" + show(n) + ", " + show(r) + ")", func() []any { return results(impl.PairsOf(n, r)) }}
}

func addRound(s impl.Schedule, r impl.Round) call {
	return call{"AddRound(" + show(s) + ", " + show(r) + ")", func() []any { return results(impl.AddRound(s, r)) }}
}

func dropRound(s impl.Schedule, i int64) call {
	return call{"DropRound(" + show(s) + ", " + show(i) + ")", func() []any { return results(impl.DropRound(s, i)) }}
}

func meetingsOf(s impl.Schedule) call {
	return call{"MeetingsOf(" + show(s) + ")", func() []any { return results(impl.MeetingsOf(s)) }}
}

func roundsBetween(s impl.Schedule, a int64, b int64) call {
	return call{"RoundsBetween(" + show(s) + ", " + show(a) + ", " + show(b) + ")", func() []any { return results(impl.RoundsBetween(s, a, b)) }}
}

func opponentsOf(s impl.Schedule, a int64) call {
	return call{"OpponentsOf(" + show(s) + ", " + show(a) + ")", func() []any { return results(impl.OpponentsOf(s, a)) }}
}

func freeTeams(s impl.Schedule, i int64) call {
	return call{"FreeTeams(" + show(s) + ", " + show(i) + ")", func() []any { return results(impl.FreeTeams(s, i)) }}
}

func isRoundRobin(s impl.Schedule) call {
	return call{"IsRoundRobin(" + show(s) + ")", func() []any { return results(impl.IsRoundRobin(s)) }}
}

func circleOf(n int64) call {
	return call{"CircleOf(" + show(n) + ")", func() []any { return results(impl.CircleOf(n)) }}
}

func renumberTeams(s impl.Schedule, p []int64) call {
	return call{"RenumberTeams(" + show(s) + ", " + show(p) + ")", func() []any { return results(impl.RenumberTeams(s, p)) }}
}

func reorderRounds(s impl.Schedule, q []int64) call {
	return call{"ReorderRounds(" + show(s) + ", " + show(q) + ")", func() []any { return results(impl.ReorderRounds(s, q)) }}
}

func joinSchedules(s impl.Schedule, x impl.Schedule) call {
	return call{"JoinSchedules(" + show(s) + ", " + show(x) + ")", func() []any { return results(impl.JoinSchedules(s, x)) }}
}

func missingPairs(s impl.Schedule) call {
	return call{"MissingPairs(" + show(s) + ")", func() []any { return results(impl.MissingPairs(s)) }}
}

func scheduleText(s impl.Schedule) call {
	return call{"ScheduleText(" + show(s) + ")", func() []any { return results(impl.ScheduleText(s)) }}
}

func parseSchedule(text string) call {
	return call{"ParseSchedule(" + show(text) + ")", func() []any { return results(impl.ParseSchedule(text)) }}
}
