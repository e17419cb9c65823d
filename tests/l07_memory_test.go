package tests

import "testing"

// roomySeats returns the same seats, and spare capacity behind them that is not empty.
func roomySeats(round seats) seats {
	out := append(append(seats{}, round...), seat{70, 80, 90}, seat{0, 1, 0})
	return out[:len(round):len(out)]
}

// roomyMovement returns the same movement, and spare capacity behind its rounds and their list that is not
// empty.
func roomyMovement(v movement) movement {
	var rounds []seats
	for _, round := range v.Rounds {
		rounds = append(rounds, roomySeats(round))
	}
	rounds = append(rounds, roomySeats(seats{{0, 1, 0}}), roomySeats(nil))
	return moved(v.Pairs, v.Sets, rounds[:len(v.Rounds):len(rounds)]...)
}

// checkMemoryOfMovement checks all functions that take a movement.
func checkMemoryOfMovement(t *testing.T, v movement) {
	t.Helper()
	given := roomyMovement(v)
	checkMemory(t, isMovement(given), given)
	for _, own := range callsOfMovement(given) {
		checkMemory(t, own, given)
	}
}

// Arguments are not changed, nor what is behind them, and results share no memory with them.
func TestMemoryOfMovements(t *testing.T) {
	d := dice(15)
	for pairs := int64(2); pairs <= 14; pairs += 3 {
		for _, rounds := range (list{0, 1, 3, 14}) {
			checkMemoryOfMovement(t, d.movement(pairs, 1+d.below(14), rounds))
		}
	}
	for _, v := range fairMovements() {
		checkMemoryOfMovement(t, v)
	}
	for _, c := range toldMovements {
		checkMemoryOfMovement(t, c.v)
	}
}

func TestMemoryBesideErrorsOfMovements(t *testing.T) {
	for _, wrong := range wrongSeats {
		checkMemoryOfMovement(t, moved(6, 4, seats{{0, 5, 3}}, wrong))
	}
	checkMemoryOfMovement(t, resting(6, 4, 15))
	checkMemoryOfMovement(t, moved(1, 4, seats{{0, 0, 3}}))
	checkMemoryOfMovement(t, moved(6, 0, seats{{0, 1, 0}}))
}

// Rounds that are the same memory make no rounds that are.
func TestMemoryOfSeatsGivenTwice(t *testing.T) {
	round := roomySeats(seats{{0, 1, 0}, {3, 2, 1}})
	v := moved(4, 2, round, round, round[:1], round[:0])
	checkResults(t, arrowSwitch(v, 1), moved(4, 2, seats{{0, 1, 0}, {3, 2, 1}}, seats{{1, 0, 0}, {2, 3, 1}}, seats{{0, 1, 0}}, seats{}), 0)
	checkResults(t, takePair(v, 0), moved(3, 2, seats{{2, 1, 1}}, seats{{2, 1, 1}}, seats{}, seats{}), 0)
	checkResults(t, takePair(v, 3), moved(3, 2, seats{{0, 1, 0}}, seats{{0, 1, 0}}, seats{{0, 1, 0}}, seats{}), 0)
	for i := range int64(4) {
		checkApart(t, "ArrowSwitch", append(arrowSwitch(v, i).run(), round)...)
		checkApart(t, "TakePair", append(takePair(v, i).run(), round)...)
	}
	for _, own := range callsOfMovement(v) {
		checkMemory(t, own, moved(4, 2, round))
	}
}

func TestMemoryOfKinds(t *testing.T) {
	for tables := int64(1); tables <= 8; tables++ {
		checkMemory(t, mitchellOf(tables))
	}
	for _, adder := range (lists{{3, 6, 5}, {3, 6, 4}, {3, 6, 7}, {3, 6}}) {
		for _, pairs := range []lists{strong7, patterned7, {{1, 2}, {3, 4}, {5, 6}}, {{1, 3}, {2, 6}, {4, 7}}} {
			given, numbers := roomyPairs(pairs), roomyList(adder...)
			checkMemory(t, howellOf(7, given, numbers), given, numbers)
		}
	}
	pairs := roomyPairs(lists{{1, 12}, {2, 11}, {3, 10}, {4, 9}, {5, 8}, {6, 7}})
	adder := roomyList(3, 5, 9, 1, 6, 2)
	checkMemory(t, howellOf(13, pairs, adder), pairs, adder)
}
