package tests

import (
	"testing"

	"loop.example/g01379/impl"
)

// roomy returns a schedule with the same rounds, and spare capacity behind them that is not empty.
func roomy(s impl.Schedule) impl.Schedule {
	rounds := append([]round{}, s.Rounds...)
	for i := range int64(3) {
		rounds = append(rounds, round{i, 50, 60})
	}
	return impl.Schedule{Teams: s.Teams, Rounds: rounds[:len(s.Rounds):len(rounds)]}
}

// roomyList returns a list with the same numbers, and spare capacity behind them that is not empty.
func roomyList(x ...int64) list {
	numbers := append(append(list{}, x...), 70, 80, 90)
	return numbers[:len(x):len(numbers)]
}

// Arguments are not changed, nor what is behind them, and results share no memory with them.
func TestMemoryOfSchedules(t *testing.T) {
	for _, s := range []impl.Schedule{roomy(three()), roomy(many(3, 1)), roomy(impl.Schedule{Teams: 3}), three()} {
		other, p := roomy(many(3, 2)), roomyList(2, 0, 1)
		checkMemory(t, isSchedule(s), s)
		checkMemory(t, addRound(s, round{2, 1, 0}), s)
		checkMemory(t, meetingsOf(s), s)
		checkMemory(t, roundsBetween(s, 0, 1), s)
		checkMemory(t, opponentsOf(s, 1), s)
		checkMemory(t, isRoundRobin(s), s)
		checkMemory(t, renumberTeams(s, p), s, p)
		checkMemory(t, joinSchedules(s, other), s, other)
		checkMemory(t, joinSchedules(other, s), s, other)
		checkMemory(t, joinSchedules(s, s), s)
		checkMemory(t, missingPairs(s), s)
		checkMemory(t, scheduleText(s), s)
		q := roomyList(mixedOrder(int64(len(s.Rounds)))...)
		checkMemory(t, reorderRounds(s, q), s, q)
		for i := range int64(len(s.Rounds)) {
			checkMemory(t, dropRound(s, i), s)
			checkMemory(t, freeTeams(s, i), s)
		}
	}
}

func TestMemoryOfRounds(t *testing.T) {
	pairs := lists{roomyList(3, 0), roomyList(1, 4), roomyList(2, 2)}[:2:3]
	checkMemory(t, roundOf(5, pairs), pairs)
	checkMemory(t, pairsOf(5, round{3, 4, 2, 0, 1}))
	checkMemory(t, pairsOf(14, round{13, 12, 11, 10, 9, 8, 7, 6, 5, 4, 3, 2, 1, 0}))
	checkMemory(t, meetingsOf(four()))
	checkMemory(t, missingPairs(many(14, 2)))
	checkMemory(t, circleOf(14))
	checkMemory(t, parseSchedule("4:0-3,1-2;0-2,1-3"))
}

// Errors leave the arguments alone, too.
func TestMemoryBesideErrors(t *testing.T) {
	s, full, p := roomy(three()), roomy(many(3, 40)), roomyList(0, 1, 1)
	pairs := lists{roomyList(0, 1), roomyList(1, 2), roomyList(3, 3)}[:2:3]
	checkMemory(t, roundOf(3, pairs), pairs)
	checkMemory(t, addRound(full, round{1, 0, 2}), full)
	checkMemory(t, addRound(s, round{}), s)
	checkMemory(t, dropRound(s, 9), s)
	checkMemory(t, renumberTeams(s, p), s, p)
	checkMemory(t, reorderRounds(s, p), s, p)
	checkMemory(t, joinSchedules(full, s), full, s)
}
