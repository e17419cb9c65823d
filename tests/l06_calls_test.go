package tests

import "loop.example/g01379/impl"

// The functions of chapter 6 as calls.

type evening = impl.Evening

func isEvening(e evening) call {
	return call{"IsEvening(" + show(e) + ")", func() []any { return []any{impl.IsEvening(e)} }}
}

func partnersOf(e evening) call {
	return call{"PartnersOf(" + show(e) + ")", func() []any { return results(impl.PartnersOf(e)) }}
}

func opponentsIn(e evening, kind int64) call {
	return call{"OpponentsIn(" + show(e) + ", " + show(kind) + ")", func() []any { return results(impl.OpponentsIn(e, kind)) }}
}

func sittingOut(e evening, i int64) call {
	return call{"SittingOut(" + show(e) + ", " + show(i) + ")", func() []any { return results(impl.SittingOut(e, i)) }}
}

func isWhist(e evening) call {
	return call{"IsWhist(" + show(e) + ")", func() []any { return results(impl.IsWhist(e)) }}
}

func isTriple(e evening) call {
	return call{"IsTriple(" + show(e) + ")", func() []any { return results(impl.IsTriple(e)) }}
}

func madeFrom(n int64, base list) call {
	return call{"MadeFrom(" + show(n) + ", " + show(base) + ")", func() []any { return results(impl.MadeFrom(n, base)) }}
}

func firstBase(n int64) call {
	return call{"FirstBase(" + show(n) + ")", func() []any { return results(impl.FirstBase(n)) }}
}

func partnerSchedule(e evening) call {
	return call{"PartnerSchedule(" + show(e) + ")", func() []any { return results(impl.PartnerSchedule(e)) }}
}

func renumberPlayers(e evening, p list) call {
	return call{"RenumberPlayers(" + show(e) + ", " + show(p) + ")", func() []any { return results(impl.RenumberPlayers(e, p)) }}
}

// callsOfEvening are all functions that take an evening, with other arguments that are wrong: of an
// evening that is none nothing else is looked at.
func callsOfEvening(e evening) []call {
	out := []call{partnersOf(e), isWhist(e), isTriple(e), partnerSchedule(e), renumberPlayers(e, nil), renumberPlayers(e, list{1, 1, 0})}
	for _, number := range (list{-1 << 63, -1, 0, 1, 2, 3, 20, 1<<63 - 1}) {
		out = append(out, opponentsIn(e, number), sittingOut(e, number))
	}
	return append(out, renumberPlayers(e, mixedOrder(max(0, min(e.Players, 20)))))
}
