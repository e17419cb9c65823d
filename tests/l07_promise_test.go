package tests

import (
	"slices"
	"sync"
	"testing"

	"loop.example/g01379/impl"
)

// movementAsTold tells by the words of the document whether v is a movement.
func movementAsTold(v movement) bool {
	if v.Pairs < 2 || v.Pairs > 14 || v.Sets < 1 || v.Sets > 14 || len(v.Rounds) > 14 {
		return false
	}
	for _, round := range v.Rounds {
		pairs, sets := map[int64]int{}, map[int64]int{}
		for _, s := range round {
			pairs[s[0]]++
			pairs[s[1]]++
			sets[s[2]]++
		}
		for p, times := range pairs {
			if p < 0 || p >= v.Pairs || times > 1 {
				return false
			}
		}
		for set, times := range sets {
			if set < 0 || set >= v.Sets || times > 1 {
				return false
			}
		}
	}
	return true
}

// seatOf returns the seat of a pair in a round, and whether it has one.
func seatOf(round seats, p int64) (seat, bool) {
	i := slices.IndexFunc(round, func(s seat) bool { return s[0] == p || s[1] == p })
	if i < 0 {
		return seat{}, false
	}
	return round[i], true
}

// boardsAsTold and opponentsAsTold return what a pair plays, and against which pairs.
func boardsAsTold(v movement, p int64) list {
	out := list{}
	for _, round := range v.Rounds {
		set := int64(-1)
		if s, sits := seatOf(round, p); sits {
			set = s[2]
		}
		out = append(out, set)
	}
	return out
}

func opponentsAsTold(v movement, p int64) list {
	out := list{}
	for _, round := range v.Rounds {
		other := int64(-1)
		if s, sits := seatOf(round, p); sits {
			other = s[0] + s[1] - p
		}
		out = append(out, other)
	}
	return out
}

// timesOfNumber returns how often a list has a number.
func timesOfNumber(numbers list, number int64) int64 {
	var times int64
	for _, own := range numbers {
		if own == number {
			times++
		}
	}
	return times
}

// outsAsTold returns in how many rounds each pair sits out.
func outsAsTold(v movement) list {
	out := list{}
	for p := range v.Pairs {
		out = append(out, timesOfNumber(boardsAsTold(v, p), -1))
	}
	return out
}

// setsInOneRound reports whether each pair plays each set in at most one round, and whether it is in just
// one.
func setsInOneRound(v movement) (atMost bool, just bool) {
	atMost, just = true, true
	for p := range v.Pairs {
		for set := range v.Sets {
			times := timesOfNumber(boardsAsTold(v, p), set)
			atMost, just = atMost && times <= 1, just && times == 1
		}
	}
	return atMost, just
}

// meetOnce reports whether every two pairs sit against each other in at most one round.
func meetOnce(v movement) bool {
	for p := range v.Pairs {
		for q := range v.Pairs {
			if timesOfNumber(opponentsAsTold(v, p), q) > 1 {
				return false
			}
		}
	}
	return true
}

func fairAsTold(v movement) bool {
	atMost, _ := setsInOneRound(v)
	return atMost && meetOnce(v)
}

func completeAsTold(v movement) bool {
	_, just := setsInOneRound(v)
	return just && meetOnce(v)
}

// playsAsTold returns how many seats have each set.
func playsAsTold(v movement) list {
	out := make(list, v.Sets)
	for _, s := range slices.Concat(v.Rounds...) {
		out[s[2]]++
	}
	return out
}

// placeWith returns where a pair sits when it plays a set, 0 for north and south, 1 for east and west, and
// -1 if it does not play it.
func placeWith(v movement, p int64, set int64) int {
	for _, s := range slices.Concat(v.Rounds...) {
		if s[2] == set && (s[0] == p || s[1] == p) {
			return slices.Index(s[:2], p)
		}
	}
	return -1
}

// comparisonsAsTold returns the comparisons of all pairs.
func comparisonsAsTold(v movement) lists {
	table := blankTable(v.Pairs)
	for p := range v.Pairs {
		for q := range v.Pairs {
			for set := range v.Sets {
				x, y := placeWith(v, p, set), placeWith(v, q, set)
				switch {
				case p == q || x < 0 || y < 0:
				case x == y:
					table[p][q]++
				default:
					table[p][q]--
				}
			}
		}
	}
	return table
}

// takenAsTold returns v without a pair.
func takenAsTold(v movement, p int64) movement {
	left := slices.DeleteFunc(fullRound(0, v.Pairs), func(q int64) bool { return q == p })
	out := resting(v.Pairs-1, v.Sets, len(v.Rounds))
	for i, round := range v.Rounds {
		for _, s := range round {
			x, y := slices.Index(left, s[0]), slices.Index(left, s[1])
			if x >= 0 && y >= 0 {
				out.Rounds[i] = append(out.Rounds[i], seat{int64(x), int64(y), s[2]})
			}
		}
	}
	return out
}

// copyOfMovement returns a movement that shares no memory with v.
func copyOfMovement(v movement) movement {
	out := resting(v.Pairs, v.Sets, len(v.Rounds))
	for i, round := range v.Rounds {
		out.Rounds[i] = append(seats{}, round...)
	}
	return out
}

// switchedAsTold returns v with the pairs of the seats of a round exchanged.
func switchedAsTold(v movement, i int) movement {
	out := copyOfMovement(v)
	for k := range out.Rounds[i] {
		own := &out.Rounds[i][k]
		own[0], own[1] = own[1], own[0]
	}
	return out
}

// scheduleOfMovedAsTold returns the schedule of a movement.
func scheduleOfMovedAsTold(v movement) impl.Schedule {
	s := impl.Schedule{Teams: v.Pairs, Rounds: make([]round, len(v.Rounds))}
	for p := range v.Pairs {
		for i, other := range opponentsAsTold(v, p) {
			s.Rounds[i][p] = other
			if other < 0 {
				s.Rounds[i][p] = p
			}
		}
	}
	return s
}

// mitchellAsTold moves the pairs that sit east and west up by one table after each round, by two at the
// skip, and the sets down by one table.
func mitchellAsTold(tables int64) movement {
	v := movement{Pairs: 2 * tables, Sets: tables}
	guests, sets := fullRound(tables, tables), fullRound(0, tables)
	up := func() { guests = append(list{guests[tables-1]}, guests[:tables-1]...) }
	rounds := map[int64]int64{2: 1, 3: 3, 4: 3, 5: 5, 6: 5, 7: 7}[tables]
	for r := range rounds {
		if tables%2 == 0 && 2*r == tables {
			up()
		}
		var round seats
		for i := range tables {
			round = append(round, seat{i, guests[i], sets[i]})
		}
		v.Rounds = append(v.Rounds, round)
		up()
		sets = append(sets[1:], sets[0])
	}
	return v
}

// howellAsTold adds 1 to all numbers, modulo m, after each round, but to that of the pair m.
func howellAsTold(m int64, pairs lists, adder list) movement {
	v := movement{Pairs: m + 1, Sets: m}
	round := seats{{m, 0, 0}}
	for i, p := range pairs {
		round = append(round, seat{p[0], p[1], m - adder[i]})
	}
	for range m {
		v.Rounds = append(v.Rounds, slices.Clone(round))
		for k, s := range round {
			for place, number := range s {
				if number != m {
					round[k][place] = (number + 1) % m
				}
			}
		}
	}
	return v
}

// movement returns some movement, in whose rounds there are mostly seats.
func (d *dice) movement(pairs int64, sets int64, rounds int64) movement {
	v := resting(pairs, sets, int(rounds))
	for i := range v.Rounds {
		p, boards := d.shuffled(pairs), d.shuffled(sets)
		for k := range min(pairs/2, sets) {
			if d.below(3) > 0 {
				v.Rounds[i] = append(v.Rounds[i], seat{p[2*k], p[2*k+1], boards[k]})
			}
		}
		if i > 0 && d.below(8) == 0 {
			v.Rounds[i] = slices.Clone(v.Rounds[d.below(int64(i))])
		}
	}
	return v
}

// fairMovements are Mitchell and Howell movements.
func fairMovements() []movement {
	var out []movement
	for tables := int64(2); tables <= 7; tables++ {
		out = append(out, mitchellAsTold(tables))
	}
	out = append(out, howellAsTold(7, strong7, list{3, 6, 5}), howellAsTold(7, patterned7, list{5, 3, 6}))
	out = append(out, howellAsTold(9, lists{{1, 2}, {3, 7}, {4, 6}, {5, 8}}, list{1, 7, 2, 8}))
	out = append(out, howellAsTold(11, lists{{1, 2}, {3, 6}, {4, 8}, {5, 10}, {7, 9}}, list{1, 3, 4, 5, 9}))
	return append(out, howellAsTold(13, lists{{1, 12}, {2, 11}, {3, 10}, {4, 9}, {5, 8}, {6, 7}}, list{3, 5, 9, 1, 6, 2}))
}

// nearlyFair returns movements made from a fair one: with a round taken out, doubled, or without a seat,
// with two pairs, or two sets, of a round exchanged, and with a pair taken out.
func nearlyFair(v movement, d *dice) []movement {
	out := []movement{takenAsTold(v, 0), takenAsTold(v, v.Pairs-1), takenAsTold(v, d.below(v.Pairs))}
	if v.Sets < 14 {
		more := copyOfMovement(v)
		more.Sets++
		out = append(out, more)
	}
	for i, round := range v.Rounds {
		dropped, again, less := copyOfMovement(v), copyOfMovement(v), copyOfMovement(v)
		dropped.Rounds = slices.Delete(dropped.Rounds, i, i+1)
		less.Rounds[i] = less.Rounds[i][1:]
		out = append(out, dropped, less, switchedAsTold(v, i))
		if len(v.Rounds) < 14 {
			again.Rounds = append(again.Rounds, slices.Clone(round))
			out = append(out, again)
		}
		if v.Sets <= 7 && len(v.Rounds) < 14 { // the same pairs meet again, but with sets that nobody has played
			fresh := copyOfMovement(v)
			fresh.Sets *= 2
			fresh.Rounds = append(fresh.Rounds, slices.Clone(round))
			for k := range round {
				fresh.Rounds[len(v.Rounds)][k][2] += v.Sets
			}
			out = append(out, fresh)
		}
		for place := range 3 {
			other := copyOfMovement(v)
			k := 1 + d.below(int64(len(round))-1)
			x, y := &other.Rounds[i][0], &other.Rounds[i][k]
			x[place], y[place] = y[place], x[place]
			out = append(out, other)
		}
	}
	return out
}

// everyMovement goes through movements of all kinds.
func everyMovement(check func(v movement, d *dice)) {
	d := dice(14)
	for pairs := int64(2); pairs <= 14; pairs++ {
		for _, sets := range (list{1, 2, 5, 14}) {
			for _, rounds := range (list{0, 1, 2, 3, 14}) {
				check(d.movement(pairs, sets, rounds), &d)
			}
		}
	}
	for _, v := range fairMovements() {
		check(v, &d)
		for _, near := range nearlyFair(v, &d) {
			check(near, &d)
		}
	}
	for _, c := range toldMovements {
		check(c.v, &d)
	}
}

// All functions of movements answer by the words of the document.
func TestAllMovements(t *testing.T) {
	kinds := map[string]int{}
	everyMovement(func(v movement, d *dice) {
		fair, complete := fairAsTold(v), completeAsTold(v)
		atMost, _ := setsInOneRound(v)
		for kind, is := range map[string]bool{
			"complete": complete, "only fair": fair && !complete, "sets twice": !atMost && meetOnce(v), "pairs twice": atMost && !meetOnce(v), "both": !atMost && !meetOnce(v),
		} {
			if is {
				kinds[kind]++
			}
		}
		checkResults(t, isMovement(v), movementAsTold(v))
		checkResults(t, isMovement(v), true)
		for p := range v.Pairs {
			checkResults(t, boardsOf(v, p), boardsAsTold(v, p), 0)
			checkResults(t, opponentsAt(v, p), opponentsAsTold(v, p), 0)
			checkOr(t, takePair(v, p), takenAsTold(v, p), v.Pairs > 2, impl.ErrState)
		}
		checkResults(t, sitOuts(v), outsAsTold(v), 0)
		checkResults(t, isFair(v), fair, 0)
		checkResults(t, isComplete(v), complete, 0)
		checkResults(t, playsOf(v), playsAsTold(v), 0)
		checkOr(t, comparisonsOf(v), comparisonsAsTold(v), atMost, impl.ErrState)
		for i := range v.Rounds {
			checkResults(t, arrowSwitch(v, int64(i)), switchedAsTold(v, i), 0)
		}
		checkResults(t, scheduleOfMovement(v), scheduleOfMovedAsTold(v), 0)
	})
	for kind, least := range map[string]int{"complete": 30, "only fair": 100, "sets twice": 50, "pairs twice": 30, "both": 100} {
		if kinds[kind] < least {
			t.Errorf("movements: %v", kinds)
		}
	}
}

// Promise 7: Mitchell movements are fair, and those of odd numbers of tables are complete.
func TestPromise7Mitchell(t *testing.T) {
	for tables := int64(2); tables <= 7; tables++ {
		v, code := impl.MitchellOf(tables)
		checkResults(t, mitchellOf(tables), mitchellAsTold(tables), 0)
		if code != impl.ErrNone || !movementAsTold(v) || !fairAsTold(v) || completeAsTold(v) != (tables%2 == 1) {
			t.Fatalf("MitchellOf(%d) = %v, %d", tables, v, code)
		}
		checkResults(t, isMovement(v), true)
		checkResults(t, isFair(v), true, 0)
		checkResults(t, isComplete(v), tables%2 == 1, 0)
		checkResults(t, sitOuts(v), make(list, 2*tables), 0)
		for p := range v.Pairs {
			opponents, _ := impl.OpponentsAt(v, p)
			for _, other := range opponents {
				if (p < tables) == (other < tables) {
					t.Errorf("MitchellOf(%d): %d against %d", tables, p, other)
				}
			}
		}
	}
}

// howells goes through all starters that have adders, with all of their adders for small moduli, and some
// of them for great ones.
func howells(check func(m int64, pairs lists, adder list)) {
	everyStarter(func(m int64, pairs lists) {
		adders := addersFor(m, pairs, nil)
		step := 1
		if m > 9 {
			step = len(adders)/3 + 1
		}
		for k := 0; k < len(adders); k += step {
			check(m, pairs, adders[k])
		}
		if strong, code := impl.StrongAdder(m, pairs); code == impl.ErrNone {
			check(m, pairs, strong)
		}
		if first, code := impl.FirstAdder(m, pairs); code == impl.ErrNone {
			check(m, pairs, first)
		}
	})
}

// Promises 7 and 17: Howell movements are fair and complete, and make round robins, which are those of
// their starters.
func TestPromises7And17Howell(t *testing.T) {
	times := map[int64]int{}
	howells(func(m int64, pairs lists, adder list) {
		times[m]++
		v, code := impl.HowellOf(m, pairs, adder)
		checkResults(t, howellOf(m, pairs, adder), howellAsTold(m, pairs, adder), 0)
		if code != impl.ErrNone || !movementAsTold(v) || !fairAsTold(v) || !completeAsTold(v) {
			t.Fatalf("HowellOf(%d, %v, %v) = %v, %d", m, pairs, adder, v, code)
		}
		checkResults(t, isMovement(v), true)
		checkResults(t, isFair(v), true, 0)
		checkResults(t, isComplete(v), true, 0)
		checkResults(t, sitOuts(v), make(list, m+1), 0)
		s, code := impl.ScheduleOfMovement(v)
		if code != impl.ErrNone {
			t.Fatalf("ScheduleOfMovement(%v): code %d", v, code)
		}
		checkResults(t, isRoundRobin(s), true, 0)
		checkResults(t, scheduleOfStarter(m, pairs), s, 0)
		for a := range m + 1 {
			for b := range a {
				checkMeeting(t, m, pairs, s, a, b)
			}
		}
	})
	for _, m := range (list{7, 9, 11, 13}) {
		if times[m] < 3 {
			t.Errorf("%d Howell movements modulo %d", times[m], m)
		}
	}
}

// Of all lists of numbers only adders make Howell movements.
func TestHowellOfAllLists(t *testing.T) {
	for _, m := range (list{3, 5, 7}) {
		for _, pairs := range startersAsTold(m) {
			for _, steps := range listsOfPairs(2, 1, m-1) {
				adder := slices.Concat(steps...)[:len(pairs)]
				checkOr(t, howellOf(m, pairs, adder), howellAsTold(m, pairs, adder), adderAsTold(m, pairs, adder), impl.ErrState)
			}
		}
	}
	for _, pairs := range allPairings(rests(7)) {
		checkOr(t, howellOf(7, pairs, list{3, 6, 5}), howellAsTold(7, pairs, list{3, 6, 5}), starterAsTold(7, pairs) && adderAsTold(7, pairs, list{3, 6, 5}), impl.ErrState)
	}
}

// Promise 7: arrows switched twice are the same, and switched once change directions alone.
func TestPromise7Arrows(t *testing.T) {
	everyMovement(func(v movement, d *dice) {
		for i := range int64(len(v.Rounds)) {
			once, code := impl.ArrowSwitch(v, i)
			if code != impl.ErrNone {
				t.Fatalf("ArrowSwitch(%v, %d): code %d", v, i, code)
			}
			checkResults(t, arrowSwitch(once, i), v, 0)
			if len(v.Rounds[i]) > 0 && show(once) == show(v) {
				t.Errorf("ArrowSwitch(%v, %d) is the same", v, i)
			}
			checkResults(t, isFair(once), fairAsTold(v), 0)
			checkResults(t, isComplete(once), completeAsTold(v), 0)
			checkResults(t, scheduleOfMovement(once), scheduleOfMovedAsTold(v), 0)
			checkResults(t, playsOf(once), playsAsTold(v), 0)
			p := d.below(v.Pairs)
			checkResults(t, boardsOf(once, p), boardsAsTold(v, p), 0)
			checkResults(t, opponentsAt(once, p), opponentsAsTold(v, p), 0)
		}
	})
}

// Guarantee: plays of sets are half of those of pairs, set by set, and all together.
func TestPlaysAreHalf(t *testing.T) {
	everyMovement(func(v movement, d *dice) {
		plays, code := impl.PlaysOf(v)
		outs, other := impl.SitOuts(v)
		if code != impl.ErrNone || other != impl.ErrNone {
			t.Fatalf("PlaysOf and SitOuts(%v): codes %d and %d", v, code, other)
		}
		ofPairs := make(list, v.Sets)
		var sum, all int64
		for p := range v.Pairs {
			boards, _ := impl.BoardsOf(v, p)
			for _, set := range boards {
				if set >= 0 {
					ofPairs[set]++
				}
			}
			sum += int64(len(v.Rounds)) - outs[p]
		}
		for set, times := range plays {
			if 2*times != ofPairs[set] {
				t.Errorf("PlaysOf(%v): the set %d is played %d times, by pairs %d times", v, set, times, ofPairs[set])
			}
			all += 2 * times
		}
		if all != sum {
			t.Errorf("PlaysOf and SitOuts(%v): %d and %d", v, all, sum)
		}
	})
}

// Comparisons are mutual, and those of pairs that play each set are as odd as the number of the sets.
func TestComparisonsAreMutual(t *testing.T) {
	everyMovement(func(v movement, d *dice) {
		table, code := impl.ComparisonsOf(v)
		if code != impl.ErrNone {
			return
		}
		for p, row := range table {
			for q, own := range row {
				if own != table[q][p] || p == q && own != 0 || own < -v.Sets || own > v.Sets {
					t.Errorf("ComparisonsOf(%v) = %v", v, table)
				}
				if p != q && completeAsTold(v) && (own+v.Sets)%2 != 0 {
					t.Errorf("ComparisonsOf(%v) = %v", v, table)
				}
			}
		}
	})
}

// Movements with one pair less stay fair, and keep the sets and opponents of all others.
func TestTakenPairs(t *testing.T) {
	for _, v := range fairMovements() {
		for p := range v.Pairs {
			less, code := impl.TakePair(v, p)
			if code != impl.ErrNone || less.Pairs != v.Pairs-1 || less.Sets != v.Sets || !movementAsTold(less) || !fairAsTold(less) {
				t.Fatalf("TakePair(%v, %d) = %v, %d", v, p, less, code)
			}
			opponents := opponentsAsTold(v, p)
			for q := range less.Pairs {
				old := q
				if q >= p {
					old++
				}
				boards := boardsAsTold(v, old)
				for i, other := range opponents {
					if other == old {
						boards[i] = -1
					}
				}
				checkResults(t, boardsOf(less, q), boards, 0)
			}
		}
	}
}

// Calls at the same time do not disturb each other.
func TestMovementsAtTheSameTime(t *testing.T) {
	v := howell7()
	calls := append(callsOfMovement(v), mitchellOf(6), howellOf(7, strong7, list{3, 6, 5}), isMovement(v))
	want := make([]string, len(calls))
	for i, own := range calls {
		want[i] = show(own.run())
	}
	var all sync.WaitGroup
	for range 8 {
		for i, own := range calls {
			all.Go(func() {
				if got := show(own.run()); got != want[i] {
					t.Errorf("%s = %s, want %s", own.name, got, want[i])
				}
			})
		}
	}
	all.Wait()
}
