package tests

import (
	"slices"
	"testing"

	"loop.example/g01379/impl"
)

// givesAsTold returns in how many rounds a gives to b, counted for each team that meets them so.
func givesAsTold(s impl.Schedule, a int64, b int64) int64 {
	var times int64
	for i, r := range s.Rounds {
		next := s.Rounds[(i+1)%len(s.Rounds)]
		for c := range s.Teams {
			if r[c] == a && next[c] == b {
				times++
			}
		}
	}
	return times
}

// carryAsTold returns the carry over matrix of a round robin.
func carryAsTold(s impl.Schedule) lists {
	table := blankTable(s.Teams)
	for a := range s.Teams {
		for b := range s.Teams {
			table[a][b] = givesAsTold(s, a, b)
		}
	}
	return table
}

func costAsTold(s impl.Schedule) int64 {
	var sum int64
	for _, times := range slices.Concat(carryAsTold(s)...) {
		sum += times * times
	}
	return sum
}

func carryBalancedAsTold(s impl.Schedule) bool {
	for a, row := range carryAsTold(s) {
		for b, times := range row {
			if a != b && times != 1 {
				return false
			}
		}
	}
	return true
}

// robinAsTold reports whether a schedule of an even number of teams is a round robin.
func robinAsTold(s impl.Schedule) bool {
	for a := range s.Teams {
		for b := range s.Teams {
			if a != b && len(roundsOfTwo(s, a, b)) != 1 {
				return false
			}
		}
	}
	return s.Teams%2 == 0 && int64(len(s.Rounds)) == s.Teams-1
}

// reordered returns s with its rounds in another order.
func reordered(s impl.Schedule, order list) impl.Schedule {
	out := impl.Schedule{Teams: s.Teams}
	for _, i := range order {
		out.Rounds = append(out.Rounds, s.Rounds[i])
	}
	return out
}

// bestAsTold returns the first one of all orders of rounds, 0 first, with the least cost, and this.
func bestAsTold(s impl.Schedule) (list, int64) {
	var best list
	var least int64
	k := int64(len(s.Rounds))
	for order := range arrangements(k, k) {
		if order[0] != 0 {
			break
		}
		if cost := costAsTold(reordered(s, order)); best == nil || cost < least {
			best, least = slices.Clone(order), cost
		}
	}
	return best, least
}

// withChain returns the round robin in which the teams that the rounds i and j join with a have exchanged
// their opponents in these.
func withChain(s impl.Schedule, i int64, j int64, a int64) impl.Schedule {
	out := reordered(s, fullRound(0, int64(len(s.Rounds))))
	for b := a; ; {
		c := s.Rounds[i][b]
		for _, team := range (list{b, c}) {
			out.Rounds[i][team], out.Rounds[j][team] = s.Rounds[j][team], s.Rounds[i][team]
		}
		if b = s.Rounds[j][c]; b == a {
			return out
		}
	}
}

// mixedRobin returns a round robin made from another one: some teams have exchanged their opponents of
// two rounds, and all teams and rounds are in some order.
func (d *dice) mixedRobin(s impl.Schedule) impl.Schedule {
	n, k := s.Teams, int64(len(s.Rounds))
	for range d.below(6) {
		s = withChain(s, d.below(k), d.below(k), d.below(n))
	}
	p, mixed := d.shuffled(n), impl.Schedule{Teams: n, Rounds: make([]round, k)}
	for place, i := range d.shuffled(k) {
		for a := range n {
			mixed.Rounds[place][p[a]] = p[s.Rounds[i][a]]
		}
	}
	return mixed
}

// digitRobinAsTold returns the digit round robin of n for an order, by the digits of numbers.
func digitRobinAsTold(n int64, order list) impl.Schedule {
	s := impl.Schedule{Teams: n}
	for _, number := range order {
		var r round
		for a := range n {
			for b := range n {
				told := true
				for place := int64(1); place < n; place *= 2 {
					differ := a/place%2 != b/place%2
					told = told && differ == (number/place%2 == 1)
				}
				if told {
					r[a] = b
				}
			}
		}
		s.Rounds = append(s.Rounds, r)
	}
	return s
}

// everyEvenRobin goes through round robins of even numbers of teams of all kinds.
func everyEvenRobin(check func(s impl.Schedule, d *dice)) {
	d := dice(22)
	for n := int64(2); n <= 6; n += 2 {
		for i, s := range robinsInOrder(n, wholeRounds(n), nil) {
			if n < 6 || i%5 == 0 {
				check(s, &d)
			}
		}
	}
	for _, order := range (lists{{1, 2, 3, 4, 5, 6, 7}, {1, 2, 4, 3, 6, 7, 5}, {5, 7, 6, 3, 4, 2, 1}}) {
		s := digitRobinAsTold(8, order)
		check(s, &d)
		for range 20 {
			check(d.mixedRobin(s), &d)
			check(reordered(s, d.shuffled(7)), &d)
		}
	}
	for _, m := range (list{7, 9, 11, 13}) {
		for i, pairs := range startersAsTold(m) {
			if i%9 != 0 {
				continue
			}
			s, _ := impl.ScheduleOfStarter(m, pairs)
			check(s, &d)
			for range 4 {
				check(d.mixedRobin(s), &d)
			}
		}
	}
	for n := int64(2); n <= 14; n += 2 {
		s, _ := impl.CircleOf(n)
		check(s, &d)
		check(d.mixedRobin(s), &d)
	}
	for _, c := range toldRobins {
		s, _ := impl.ParseSchedule(c.text)
		check(s, &d)
	}
}

// All functions of round robins answer by the words of the document.
func TestAllEvenRobins(t *testing.T) {
	kinds := map[string]int{}
	everyEvenRobin(func(s impl.Schedule, d *dice) {
		if !robinAsTold(s) {
			t.Fatalf("%v is no round robin", s)
		}
		cost, balanced := costAsTold(s), carryBalancedAsTold(s)
		checkResults(t, carryMatrix(s), carryAsTold(s), 0)
		checkResults(t, carryCost(s), cost, 0)
		checkResults(t, isCarryBalanced(s), balanced, 0)
		switch {
		case s.Teams > 8:
			kinds["more teams"]++
			checkCode(t, bestOrder(s), impl.ErrLimit)
			return
		case s.Teams == 8 && balanced:
			kinds["balanced"]++
		case s.Teams == 8:
			kinds["not balanced"]++
		}
		best, least := bestAsTold(s)
		checkResults(t, bestOrder(s), best, least, 0)
		switch {
		case s.Teams == 8 && least == cost && slices.IsSorted(best):
			kinds["best as it is"]++
		case s.Teams == 8 && least == 56:
			kinds["can be balanced"]++
		case s.Teams == 8:
			kinds["cannot be balanced"]++
		}
	})
	for _, kind := range []string{"more teams", "balanced", "not balanced", "best as it is", "can be balanced", "cannot be balanced"} {
		if kinds[kind] < 3 {
			t.Errorf("round robins: %v", kinds)
		}
	}
}

// Guarantee: carry over matrices have rows and columns with the sum n - 1. With more than one round no
// team gives to itself, and just the balanced ones have the cost n (n - 1).
func TestSumsOfCarry(t *testing.T) {
	everyEvenRobin(func(s impl.Schedule, d *dice) {
		table, code := impl.CarryMatrix(s)
		if code != impl.ErrNone || int64(len(table)) != s.Teams {
			t.Fatalf("CarryMatrix(%v) = %v, %d", s, table, code)
		}
		for _, rows := range []lists{table, turnedLists(table)} {
			for a, row := range rows {
				var sum int64
				for _, times := range row {
					sum += times
				}
				if sum != s.Teams-1 || s.Teams > 2 && row[a] != 0 {
					t.Errorf("CarryMatrix(%v) = %v", s, table)
				}
			}
		}
		cost, _ := impl.CarryCost(s)
		balanced, _ := impl.IsCarryBalanced(s)
		fewest := s.Teams * (s.Teams - 1)
		if cost < fewest || balanced != (cost == fewest && s.Teams > 2) {
			t.Errorf("%v has the cost %d, and balanced is %v", s, cost, balanced)
		}
	})
}

// The round 0 is next to the last one: rounds that begin elsewhere give the same. Backwards giving is
// taking.
func TestCarryOfTurnedRounds(t *testing.T) {
	everyEvenRobin(func(s impl.Schedule, d *dice) {
		k := int64(len(s.Rounds))
		table, _ := impl.CarryMatrix(s)
		first := d.below(k)
		turned := reordered(s, append(fullRound(first, k-first), fullRound(0, first)...))
		checkResults(t, carryMatrix(turned), table, 0)
		slices.Reverse(turned.Rounds)
		checkResults(t, carryMatrix(turned), turnedLists(table), 0)
	})
}

// Promise 9: best orders have no more cost than the schedule itself, nor than its rounds in another order.
func TestPromise9BestOrders(t *testing.T) {
	less := 0
	everyEvenRobin(func(s impl.Schedule, d *dice) {
		order, least, code := impl.BestOrder(s)
		if s.Teams > 8 {
			return
		}
		k := int64(len(s.Rounds))
		own, _ := impl.CarryCost(s)
		if code != impl.ErrNone || int64(len(order)) != k || order[0] != 0 || least > own {
			t.Fatalf("BestOrder(%v) = %v, %d, %d", s, order, least, code)
		}
		if least < own {
			less++
		}
		best, code := impl.ReorderRounds(s, order)
		if code != impl.ErrNone {
			t.Fatalf("BestOrder(%v) = %v", s, order)
		}
		checkResults(t, carryCost(best), least, 0)
		checkResults(t, bestOrder(best), fullRound(0, k), least, 0)
		for range 5 {
			other := reordered(s, d.shuffled(k))
			if cost, _ := impl.CarryCost(other); cost < least {
				t.Errorf("BestOrder(%v) = %v, %d, and %v has the cost %d", s, order, least, other, cost)
			}
			_, again, _ := impl.BestOrder(other)
			if again != least {
				t.Errorf("BestOrder(%v) has the cost %d, with rounds reordered %d", s, least, again)
			}
		}
	})
	if less < 40 {
		t.Errorf("%d schedules are not in a best order", less)
	}
}

// digitOrders returns all orders of digit round robins of n, lexicographically ascending.
func digitOrders(n int64) lists {
	orders := allLists(n - 1)
	for _, order := range orders {
		for k := range order {
			order[k]++
		}
	}
	return orders
}

// Guarantee: digit round robins are round robins; they have their opponents as told.
func TestAllDigitRobins(t *testing.T) {
	for _, n := range (list{2, 4, 8}) {
		for i, order := range digitOrders(n) {
			if n == 8 && i%11 != 0 {
				continue
			}
			s := digitRobinAsTold(n, order)
			if !robinAsTold(s) {
				t.Fatalf("%v is no round robin", s)
			}
			checkResults(t, digitRobin(n, order), s, 0)
			checkResults(t, isRoundRobin(s), true, 0)
			checkResults(t, carryMatrix(s), carryAsTold(s), 0)
			checkResults(t, isCarryBalanced(s), carryBalancedAsTold(s), 0)
		}
	}
}

// First digit orders by all orders, the lesser ones first.
func TestFirstDigitOrderOfAll(t *testing.T) {
	for _, n := range (list{2, 4, 8}) {
		var want list
		for _, order := range digitOrders(n) {
			if carryBalancedAsTold(digitRobinAsTold(n, order)) {
				want = order
				break
			}
		}
		checkOr(t, firstDigitOrder(n), want, want != nil, impl.ErrNotFound)
	}
}

// squareAsTold reports whether each row and each column has each number once.
func squareAsTold(n int64, rows lists) bool {
	for i := range n {
		for x := range n {
			inRow, inColumn := 0, 0
			for k := range n {
				if rows[i][k] == x {
					inRow++
				}
				if rows[k][i] == x {
					inColumn++
				}
			}
			if inRow != 1 || inColumn != 1 {
				return false
			}
		}
	}
	return true
}

// completeRowsAsTold reports whether every two different numbers stand beside each other, in this order,
// in just one row.
func completeRowsAsTold(n int64, rows lists) bool {
	for x := range n {
		for y := range n {
			with := 0
			for _, row := range rows {
				if place := slices.Index(row, x); place+1 < len(row) && row[place+1] == y {
					with++
				}
			}
			if x != y && with != 1 {
				return false
			}
		}
	}
	return true
}

// checkRows fails if the answers for lists that are as told are not right, and reports what they are.
func checkRows(t *testing.T, n int64, rows lists) (square bool, complete bool) {
	t.Helper()
	square = squareAsTold(n, rows)
	complete = square && completeRowsAsTold(n, rows)
	code := int64(impl.ErrNone)
	if !square {
		code = impl.ErrNotFound
	}
	if got, none := impl.IsSquareOf(n, rows); got != square || none != impl.ErrNone {
		t.Fatalf("IsSquareOf(%d, %v) = %v, %d", n, rows, got, none)
	}
	if got, other := impl.IsRowComplete(n, rows); got != complete || other != code {
		t.Fatalf("IsRowComplete(%d, %v) = %v, %d", n, rows, got, other)
	}
	return square, complete
}

// All rows of few numbers, and all of four whose rows have each number once.
func TestAllFewRows(t *testing.T) {
	counts := map[string]int{}
	check := func(n int64, rows lists) {
		square, complete := checkRows(t, n, rows)
		if square {
			counts["squares of "+show(n)]++
		}
		if complete {
			counts["complete of "+show(n)]++
		}
	}
	for n := int64(1); n <= 3; n++ {
		for _, numbers := range listsOver(int(n*n), 0, n-1) {
			check(n, slices.Collect(slices.Chunk(numbers, int(n))))
		}
	}
	four := allLists(4)
	for places := range int64(24 * 24 * 24 * 24) {
		check(4, lists{four[places%24], four[places/24%24], four[places/24/24%24], four[places/24/24/24]})
	}
	for kind, want := range map[string]int{"squares of 1": 1, "squares of 2": 2, "squares of 3": 12, "squares of 4": 576, "complete of 1": 1, "complete of 2": 2, "complete of 3": 0} {
		if counts[kind] != want {
			t.Errorf("%d %s", counts[kind], kind)
		}
	}
	if counts["complete of 4"] < 24 {
		t.Errorf("rows: %v", counts)
	}
}

// Lists of two numbers of which some are beyond the last one, or below 0.
func TestAllRowsOfTwo(t *testing.T) {
	for _, numbers := range listsOver(4, -1, 2) {
		rows := lists{numbers[:2], numbers[2:]}
		if slices.Min(numbers) < 0 || slices.Max(numbers) > 1 {
			for _, own := range callsOfRows(2, rows) {
				checkCode(t, own, impl.ErrRange)
			}
			continue
		}
		checkRows(t, 2, rows)
	}
}

// mixedRows returns a square with its numbers renumbered, and its rows in some order.
func (d *dice) mixedRows(rows lists) lists {
	p, out := d.shuffled(int64(len(rows))), lists{}
	for _, i := range d.shuffled(int64(len(rows))) {
		row := list{}
		for _, x := range rows[i] {
			row = append(row, p[x])
		}
		out = append(out, row)
	}
	return out
}

// Squares of all sizes, with columns in some order, and with numbers exchanged in a row, in a column, or
// somewhere.
func TestMixedRows(t *testing.T) {
	d, kinds := dice(23), map[string]int{}
	for n := int64(1); n <= 14; n++ {
		for range 30 {
			rows := d.mixedRows(zigzagRows(n))
			square, complete := checkRows(t, n, rows)
			if !square || complete != (n == 1 || n%2 == 0) {
				t.Fatalf("%v is not as it was made", rows)
			}
			columns := turnedLists(d.mixedRows(turnedLists(rows)))
			for _, given := range []lists{columns, turnedLists(rows), d.exchanged(rows), turnedLists(d.exchanged(turnedLists(rows))), d.overwritten(rows), d.overwritten(columns)} {
				square, complete := checkRows(t, n, given)
				switch {
				case !square:
					kinds["none"]++
				case !complete:
					kinds["square"]++
				default:
					kinds["complete"]++
				}
			}
		}
	}
	for _, kind := range []string{"none", "square", "complete"} {
		if kinds[kind] < 50 {
			t.Errorf("rows: %v", kinds)
		}
	}
}

// zigzagRows returns the square in whose rows the numbers go to and fro.
func zigzagRows(n int64) lists {
	rows := lists{}
	for i := range n {
		row := list{}
		for k := range n {
			x := i + k/2
			if k%2 == 1 {
				x = i + n - 1 - k/2
			}
			row = append(row, x%n)
		}
		rows = append(rows, row)
	}
	return rows
}

// exchanged returns rows with two numbers of one row exchanged, and overwritten those with one put in the
// place of another one.
func (d *dice) exchanged(rows lists) lists {
	out, n := copyOfLists(rows), int64(len(rows))
	row, k, l := out[d.below(n)], d.below(n), d.below(n)
	row[k], row[l] = row[l], row[k]
	return out
}

func (d *dice) overwritten(rows lists) lists {
	out, n := copyOfLists(rows), int64(len(rows))
	out[d.below(n)][d.below(n)] = d.below(n)
	return out
}

// stepsAsTold reports whether all steps of a list are different.
func stepsAsTold(numbers list) bool {
	steps := list{}
	for k := 1; k < len(numbers); k++ {
		step := numbers[k] - numbers[k-1]
		if step < 0 {
			step += int64(len(numbers))
		}
		if slices.Contains(steps, step) {
			return false
		}
		steps = append(steps, step)
	}
	return true
}

// squareOfListAsTold returns the square of a list.
func squareOfListAsTold(numbers list) lists {
	n, rows := int64(len(numbers)), lists{}
	for i := range n {
		row := list{}
		for k := range n {
			row = append(row, (i+numbers[k])%n)
		}
		rows = append(rows, row)
	}
	return rows
}

// everyWholeList goes through lists of the numbers 0 to n - 1, each once: all of up to 7, those of 8 that
// begin with 0, and some of more, of which some are zigzags taken times a number and moved.
func everyWholeList(check func(numbers list)) {
	for n := int64(1); n <= 8; n++ {
		for _, numbers := range allLists(n) {
			if n < 8 || numbers[0] == 0 {
				check(numbers)
			}
		}
	}
	d := dice(24)
	for n := int64(8); n <= 14; n++ {
		for times := int64(1); times < n; times++ {
			check(d.shuffled(n))
			numbers, moved := list{}, d.below(n)
			for _, x := range zigzagRows(n)[0] {
				numbers = append(numbers, (x*times+moved)%n)
			}
			if !shareDivisor(times, n) {
				check(numbers)
			}
		}
	}
}

// Promise 9: squares of step sequences are row complete, and those of other lists are not.
func TestPromise9Squares(t *testing.T) {
	sequences := map[int]int{}
	everyWholeList(func(numbers list) {
		n, steps := int64(len(numbers)), stepsAsTold(numbers)
		checkResults(t, isStepSequence(numbers), steps, 0)
		checkResults(t, squareOfList(numbers), squareOfListAsTold(numbers), 0)
		rows, _ := impl.SquareOfList(numbers)
		if square, code := impl.IsSquareOf(n, rows); !square || code != impl.ErrNone {
			t.Errorf("SquareOfList(%v) = %v", numbers, rows)
		}
		if complete, code := impl.IsRowComplete(n, rows); complete != steps || code != impl.ErrNone {
			t.Errorf("SquareOfList(%v) = %v: row complete is %v", numbers, rows, complete)
		}
		if steps {
			sequences[len(numbers)]++
		}
	})
	for n := 1; n <= 14; n++ {
		if even := n == 1 || n%2 == 0; even != (sequences[n] > 0) {
			t.Errorf("%d step sequences of %d", sequences[n], n)
		}
	}
}

// Zigzags are step sequences for an even n, and have all numbers.
func TestAllZigzags(t *testing.T) {
	for n := int64(1); n <= 14; n++ {
		numbers := zigzagRows(n)[0]
		checkResults(t, zigzagOf(n), numbers, 0)
		checkResults(t, isStepSequence(numbers), n == 1 || n%2 == 0, 0)
		checkResults(t, isRowComplete(n, zigzagRows(n)), n == 1 || n%2 == 0, 0)
	}
}

// Step sequences are counted by all lists that begin with 0.
func TestCountsOfAllSteps(t *testing.T) {
	for n := int64(1); n <= 8; n++ {
		var count int64
		for _, numbers := range allLists(n) {
			if numbers[0] == 0 && stepsAsTold(numbers) {
				count++
			}
		}
		checkResults(t, countStepSequences(n), count, 0)
	}
}
