package tests

import "loop.example/g01379/impl"

// The functions of chapter 11 as calls.

func newDesk() call {
	return call{"NewDesk()", func() []any { return []any{impl.NewDesk()} }}
}

func isDesk(d desk) call {
	return call{"IsDesk(" + show(d) + ")", func() []any { return []any{impl.IsDesk(d)} }}
}

func runLine(d desk, line string) call {
	return call{"RunLine(" + show(d) + ", " + show(line) + ")", func() []any {
		after, output := impl.RunLine(d, line)
		return []any{after, output}
	}}
}

func console(text string) call {
	return call{"Console(" + show(text) + ")", func() []any { return []any{impl.Console(text)} }}
}

func deskAfter(text string) call {
	return call{"DeskAfter(" + show(text) + ")", func() []any {
		after, fits := impl.DeskAfter(text)
		return []any{after, fits}
	}}
}
