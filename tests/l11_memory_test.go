package tests

import (
	"testing"

	"loop.example/g01379/impl"
)

// Arguments are not changed, nor what is behind them, and results share no memory with them.
func TestMemoryOfLines(t *testing.T) {
	everyTold(t, func(before desk, line string, after desk, output string) {
		given := desk{First: roomy(before.First), Second: roomy(before.Second)}
		for _, own := range []string{line, line + " ", " " + line, "fly", "", "keep", "swap", "room 7", "reset", "join", "next", "show", "drop 0", "renumber 0"} {
			checkMemory(t, runLine(given, own), given)
		}
		checkMemory(t, isDesk(given), given)
	})
}

// Errors leave the desk alone, too.
func TestMemoryBesideErrorsOfLines(t *testing.T) {
	for _, c := range refused {
		d := put(t, c.before)
		given := desk{First: roomy(d.First), Second: roomy(d.Second)}
		for _, line := range c.lines {
			checkMemory(t, runLine(given, line), given)
		}
	}
	for _, s := range wrongSchedules() {
		given := desk{First: roomy(s), Second: roomy(four())}
		checkMemory(t, runLine(given, "swap"), given)
		checkMemory(t, isDesk(given), given)
	}
}

// A desk whose schedules are the same memory, or parts of one list, is one with memory of its own behind
// each line.
func TestMemoryOfTheSameSchedules(t *testing.T) {
	s := roomy(four())
	rounds := append(roomy(four()).Rounds, four().Rounds...)
	parts := desk{First: impl.Schedule{Teams: 4, Rounds: rounds[:2]}, Second: impl.Schedule{Teams: 4, Rounds: rounds[2:4]}}
	for _, line := range []string{"show", "look", "swap", "keep", "join", "drop 1", "reset", "fly", "show ", "circle 15", "reorder 1 0 2", "reorder 1 0", "renumber 3 2 1 0", "complete", "next", "room 7", "square", "same"} {
		checkMemory(t, runLine(desk{First: s, Second: s}, line), s)
		checkMemory(t, runLine(parts, line), rounds)
	}
}

// Desks are new ones each time.
func TestMemoryOfDesks(t *testing.T) {
	checkMemory(t, newDesk())
	for _, text := range []string{"", "\n", "show", "keep", "swap\nkeep\n", "circle 5\nkeep\njoin", "room 7", "fly", "drop 0\ndrop 0\ndrop 0\nkeep", "reset"} {
		checkMemory(t, deskAfter(text))
		checkMemory(t, console(text))
	}
}
