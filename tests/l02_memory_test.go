package tests

import (
	"testing"

	"loop.example/g01379/impl"
)

// Arguments are not changed, nor what is behind them, and results share no memory with them.
func TestMemoryOfFactors(t *testing.T) {
	for _, s := range []impl.Schedule{roomy(three()), roomy(four()), roomy(many(5, 2)), roomy(impl.Schedule{Teams: 4}), four()} {
		other := roomy(s)
		checkMemory(t, isPerfect(s), s)
		checkMemory(t, typesOf(s), s)
		checkMemory(t, findRenumbering(s, other), s, other)
		checkMemory(t, findRenumbering(s, s), s)
		checkMemory(t, countAutomorphisms(s), s)
		checkMemory(t, completeSchedule(s), s)
		for i := range s.Rounds {
			checkMemory(t, componentsOf(s.Teams, s.Rounds[i], s.Rounds[0]), s)
			checkMemory(t, typeOfRounds(s.Teams, s.Rounds[i], s.Rounds[0]), s)
			checkMemory(t, chainFrom(s.Teams, s.Rounds[i], s.Rounds[0], 1), s)
		}
	}
}

// A completed schedule is new memory even if nothing was missing, and its rounds are not put into
// the spare capacity of the given ones.
func TestMemoryOfCompletions(t *testing.T) {
	for _, text := range []string{"2:0-1", "4:0-2,1-3", "6:0-5,1-4,2-3", "6:0-3,1-4,2-5;0-4,1-5,2-3;0-5,1-3,2-4", "8:0-7,1-6,2-5,3-4"} {
		s := roomy(parsed(t, text))
		checkMemory(t, completeSchedule(s), s)
	}
	checkMemory(t, countRobins(6))
}

// Errors leave the arguments alone, too.
func TestMemoryBesideErrorsOfFactors(t *testing.T) {
	wrong, wide, odd := roomy(many(4, 41)), roomy(many(9, 2)), roomy(three())
	for _, s := range []impl.Schedule{wrong, wide, odd} {
		checkMemory(t, isPerfect(s), s)
		checkMemory(t, typesOf(s), s)
		other := roomy(s)
		checkMemory(t, findRenumbering(s, other), s, other)
		checkMemory(t, countAutomorphisms(s), s)
		checkMemory(t, completeSchedule(s), s)
	}
	other := roomy(parsed(t, "3:0-1;;0-2;1-2"))
	checkMemory(t, findRenumbering(odd, other), odd, other)
}
