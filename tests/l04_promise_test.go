package tests

import (
	"slices"
	"testing"

	"loop.example/g01379/impl"
)

// timesIn returns how often a team is in cells.
func timesIn(cells list, team int64) int {
	times := 0
	for _, number := range cells {
		if number != -1 && (number/14 == team || number%14 == team) {
			times++
		}
	}
	return times
}

// turnedAsTold returns the square with rows and columns exchanged.
func turnedAsTold(x square) square {
	y := copyOfSquare(x)
	for i := range x.Side {
		for j := range x.Side {
			y.Cells[j][i] = x.Cells[i][j]
		}
	}
	return y
}

// roomAsTold tells by the words of the document whether a square is a Room square.
func roomAsTold(x square) bool {
	columns := turnedAsTold(x).Cells
	for team := range x.Side + 1 {
		for i := range x.Side {
			if timesIn(x.Cells[i], team) != 1 || timesIn(columns[i], team) != 1 {
				return false
			}
		}
	}
	seen := map[int64]int{}
	for _, number := range slices.Concat(x.Cells...) {
		seen[number]++
	}
	for b := range x.Side + 1 {
		for a := range b {
			if seen[14*a+b] != 1 {
				return false
			}
		}
	}
	return true
}

func standardAsTold(x square) bool {
	for i := range x.Side {
		if x.Cells[i][i] != 14*i+x.Side {
			return false
		}
	}
	return roomAsTold(x)
}

func skewSquareAsTold(x square) bool {
	for i := range x.Side {
		for j := range x.Side {
			if i != j && (x.Cells[i][j] == -1) == (x.Cells[j][i] == -1) {
				return false
			}
		}
	}
	return standardAsTold(x)
}

// linesAsTold returns the schedule of the rows of a square, and whether no team is twice in one.
func linesAsTold(x square) (impl.Schedule, bool) {
	s := many(x.Side+1, int(x.Side))
	for i, row := range x.Cells {
		for team := range s.Teams {
			if timesIn(row, team) > 1 {
				return impl.Schedule{}, false
			}
		}
		for _, number := range row {
			if number != -1 {
				s.Rounds[i][number/14], s.Rounds[i][number%14] = number%14, number/14
			}
		}
	}
	return s, true
}

// scheduleAsTold returns the schedule of the rows of a square in which no team is twice in one.
func scheduleAsTold(t *testing.T, x square) impl.Schedule {
	t.Helper()
	s, ok := linesAsTold(x)
	if !ok {
		t.Fatalf("a team is twice in a row of %v", x)
	}
	return s
}

// renumberedAsTold returns a square with p(a) in the place of each team a.
func renumberedAsTold(x square, p list) square {
	y := copyOfSquare(x)
	for i, row := range x.Cells {
		for j, number := range row {
			if number != -1 {
				a, b := p[number/14], p[number%14]
				y.Cells[i][j] = 14*min(a, b) + max(a, b)
			}
		}
	}
	return y
}

// reorderedAsTold returns the square whose cell i, j is the cell of the row rows(i) and the column
// columns(j).
func reorderedAsTold(x square, rows list, columns list) square {
	y := copyOfSquare(x)
	for i, row := range rows {
		for j, column := range columns {
			y.Cells[i][j] = x.Cells[row][column]
		}
	}
	return y
}

// squareOfStarterAsTold returns the square of a starter and an adder for it, cell by cell.
func squareOfStarterAsTold(m int64, pairs lists, adder list) square {
	x := blank(m)
	for row := range m {
		for column := range m {
			if row == column {
				x.Cells[row][column] = 14*row + m
			}
			for k, p := range pairs {
				if (column+adder[k])%m == row {
					a, b := (p[0]+row)%m, (p[1]+row)%m
					x.Cells[row][column] = 14*min(a, b) + max(a, b)
				}
			}
		}
	}
	return x
}

// addersFor returns all adders that begin with the given numbers, for a starter, lexicographically
// ascending.
func addersFor(m int64, pairs lists, begin list) lists {
	if len(begin) == len(pairs) {
		return lists{slices.Clone(begin)}
	}
	var made list
	for i, a := range begin {
		made = append(made, (pairs[i][0]+a)%m, (pairs[i][1]+a)%m)
	}
	var out lists
	p := pairs[len(begin)]
	for a := int64(1); a < m; a++ {
		x, y := (p[0]+a)%m, (p[1]+a)%m
		if x != 0 && y != 0 && !slices.Contains(begin, a) && !slices.Contains(made, x) && !slices.Contains(made, y) {
			out = append(out, addersFor(m, pairs, append(slices.Clone(begin), a))...)
		}
	}
	return out
}

// roomSquares are the one of the side 1, and some of the squares of starters and adders of each side.
func roomSquares() []square {
	out := []square{{Side: 1, Cells: lists{{1}}}}
	for _, m := range moduli {
		for i, pairs := range startersAsTold(m) {
			if m == 11 && i%4 > 0 || m == 13 && i%19 > 0 {
				continue
			}
			adders := addersFor(m, pairs, nil)
			for k := 0; k < len(adders); k += len(adders)/3 + 1 {
				out = append(out, squareOfStarterAsTold(m, pairs, adders[k]))
			}
		}
	}
	return out
}

// square returns some square of the side m, in which about so many of eight cells are not empty.
func (d *dice) square(m int64, full int64) square {
	x := blank(m)
	for i := range m {
		for j := range m {
			if d.below(8) < full {
				p := d.shuffled(m + 1)
				x.Cells[i][j] = 14*min(p[0], p[1]) + max(p[0], p[1])
			}
		}
	}
	return x
}

// everySquare runs a check on squares of all sides: on some of all kinds, on Room squares, reordered
// and renumbered ones among them, and on squares that are nearly Room squares.
func everySquare(check func(x square, d *dice)) {
	d := dice(4)
	for m := int64(1); m <= 13; m += 2 {
		for full := range int64(9) {
			for range 6 {
				check(d.square(m, full), &d)
			}
		}
	}
	for _, x := range roomSquares() {
		check(x, &d)
		check(turnedAsTold(x), &d)
		check(renumberedAsTold(x, d.shuffled(x.Side+1)), &d)
		check(renumberedAsTold(x, append(d.shuffled(x.Side), x.Side)), &d)
		mixed := reorderedAsTold(x, d.shuffled(x.Side), d.shuffled(x.Side))
		check(mixed, &d)
		for _, whole := range []square{x, mixed} {
			i, j, k := d.below(x.Side), d.below(x.Side), d.below(x.Side)
			near := copyOfSquare(whole)
			near.Cells[i][j], near.Cells[i][k] = near.Cells[i][k], near.Cells[i][j]
			check(near, &d)
			check(turnedAsTold(near), &d)
			check(changed(whole, int(i), int(j), d.square(1, 4).Cells[0][0]), &d)
		}
	}
}

// checkOr fails if a call does not return a value, or the code if there is none.
func checkOr(t *testing.T, c call, want any, ok bool, code int64) {
	t.Helper()
	if ok {
		checkResults(t, c, want, 0)
	} else {
		checkCode(t, c, code)
	}
}

// All tests of squares answer by the words of the document.
func TestAllSquares(t *testing.T) {
	kinds := map[string]int{}
	everySquare(func(x square, d *dice) {
		room, standard, skew := roomAsTold(x), standardAsTold(x), skewSquareAsTold(x)
		for kind, is := range map[string]bool{"room": room, "no room": !room, "standard": standard, "not": room && !standard, "skew": skew, "straight": standard && !skew} {
			if is {
				kinds[kind]++
			}
		}
		checkResults(t, isSquare(x), true)
		checkResults(t, isRoomSquare(x), room, 0)
		checkResults(t, isStandard(x), standard, 0)
		checkResults(t, isSkewSquare(x), skew, 0)
		rows, okRows := linesAsTold(x)
		checkOr(t, rowsOf(x), rows, okRows, impl.ErrState)
		columns, okColumns := linesAsTold(turnedAsTold(x))
		checkOr(t, columnsOf(x), columns, okColumns, impl.ErrState)
		for i := range x.Side {
			for j := range x.Side {
				number := x.Cells[i][j]
				if number == -1 {
					checkCode(t, cellOf(x, i, j), impl.ErrNotFound)
				} else {
					checkResults(t, cellOf(x, i, j), number/14, number%14, 0)
				}
			}
		}
	})
	for _, kind := range []string{"room", "no room", "standard", "not", "skew", "straight"} {
		if kinds[kind] < 10 {
			t.Errorf("%d squares of the kind %s", kinds[kind], kind)
		}
	}
}

// Exchanged rows and columns, and renumbered teams, go back.
func TestSquaresThatGoBack(t *testing.T) {
	everySquare(func(x square, d *dice) {
		turned := turnedAsTold(x)
		checkResults(t, transposeSquare(x), turned, 0)
		checkResults(t, transposeSquare(turned), x, 0)
		p := d.shuffled(x.Side + 1)
		back := make(list, len(p))
		for a, b := range p {
			back[b] = int64(a)
		}
		other := renumberedAsTold(x, p)
		checkResults(t, renumberSquare(x, p), other, 0)
		checkResults(t, renumberSquare(other, back), x, 0)
		checkResults(t, isRoomSquare(other), roomAsTold(x), 0)
	})
}

// Promise 4: rows and columns of Room squares are round robins, and the square of both is the same again.
func TestPromise4Robins(t *testing.T) {
	rooms := 0
	everySquare(func(x square, d *dice) {
		room, code := impl.IsRoomSquare(x)
		if !room || code != impl.ErrNone {
			return
		}
		rooms++
		rows, code := impl.RowsOf(x)
		columns, other := impl.ColumnsOf(x)
		if code != impl.ErrNone || other != impl.ErrNone {
			t.Fatalf("rows and columns of %v: codes %d and %d", x, code, other)
		}
		for _, s := range []impl.Schedule{rows, columns} {
			if s.Teams != x.Side+1 || int64(len(s.Rounds)) != x.Side {
				t.Errorf("a schedule of %v is %v", x, s)
			}
			checkResults(t, isRoundRobin(s), true, 0)
			checkResults(t, missingPairs(s), lists{}, 0)
		}
		checkResults(t, squareOfSchedules(rows, columns), x, 0)
	})
	if rooms < 100 {
		t.Errorf("%d Room squares", rooms)
	}
}

// Promise 4: standard forms are standard, and there is just one for all orders of rows and columns.
func TestPromise4StandardForms(t *testing.T) {
	forms := 0
	everySquare(func(x square, d *dice) {
		if !roomAsTold(x) {
			checkCode(t, standardForm(x), impl.ErrState)
			return
		}
		forms++
		form, code := impl.StandardForm(x)
		if code != impl.ErrNone || !standardAsTold(form) {
			t.Errorf("StandardForm(%v) = %v, %d", x, form, code)
		}
		checkResults(t, isStandard(form), true, 0)
		checkResults(t, standardForm(form), form, 0)
		if standardAsTold(x) {
			checkResults(t, standardForm(x), x, 0)
		}
		mixed := reorderedAsTold(x, d.shuffled(x.Side), d.shuffled(x.Side))
		checkResults(t, standardForm(mixed), form, 0)
		// Each row of the form has the cells of a row of the square.
		rows := map[string]bool{}
		for _, row := range x.Cells {
			rows[show(slices.Sorted(slices.Values(row)))] = true
		}
		for _, row := range form.Cells {
			if !rows[show(slices.Sorted(slices.Values(row)))] {
				t.Errorf("StandardForm(%v) has the row %v", x, row)
			}
		}
	})
	if forms < 100 {
		t.Errorf("%d standard forms", forms)
	}
}

// Promise 12: squares of starters with adders are standard Room squares.
func TestPromise12(t *testing.T) {
	squares := map[int64]int{}
	everyStarter(func(m int64, pairs lists) {
		adders := addersFor(m, pairs, nil)
		step := 1
		if m > 9 {
			step = len(adders)/4 + 1
		}
		for k := 0; k < len(adders); k += step {
			squares[m]++
			checkStarterSquare(t, m, pairs, adders[k])
		}
		if first, code := impl.FirstAdder(m, pairs); code == impl.ErrNone {
			checkStarterSquare(t, m, pairs, first)
		}
		if strong, code := impl.StrongAdder(m, pairs); code == impl.ErrNone {
			checkStarterSquare(t, m, pairs, strong)
		}
	})
	for _, m := range (list{7, 9, 11, 13}) {
		if squares[m] == 0 {
			t.Errorf("no square of a starter modulo %d", m)
		}
	}
}

// checkStarterSquare fails if the square of a starter and an adder is not as told, no standard Room
// square, or has other rows than the schedule of the starter.
func checkStarterSquare(t *testing.T, m int64, pairs lists, adder list) {
	t.Helper()
	x := squareOfStarterAsTold(m, pairs, adder)
	checkResults(t, squareOfStarter(m, pairs, adder), x, 0)
	if !standardAsTold(x) {
		t.Errorf("SquareOfStarter(%d, %v, %v) is %v", m, pairs, adder, x)
	}
	checkResults(t, isRoomSquare(x), true, 0)
	checkResults(t, isStandard(x), true, 0)
	checkResults(t, isSkewSquare(x), skewSquareAsTold(x), 0)
	checkResults(t, standardForm(x), x, 0)
	rows, _ := impl.ScheduleOfStarter(m, pairs)
	checkResults(t, rowsOf(x), rows, 0)
}

// Lists of numbers make a square just if they are an adder for the starter.
func TestSquaresOfAllLists(t *testing.T) {
	for _, pairs := range startersAsTold(7) {
		adders := addersFor(7, pairs, nil)
		for x := range int64(216) {
			adder := list{x/36 + 1, x/6%6 + 1, x%6 + 1}
			is := slices.ContainsFunc(adders, func(own list) bool { return slices.Equal(own, adder) })
			checkOr(t, squareOfStarter(7, pairs, adder), squareOfStarterAsTold(7, pairs, adder), is, impl.ErrState)
		}
	}
}

// commonAsTold returns the square of two schedules, and whether no two rounds have more than one pair
// in common.
func commonAsTold(s impl.Schedule, other impl.Schedule) (square, bool) {
	x := blank(s.Teams - 1)
	for i, r := range s.Rounds {
		for j, q := range other.Rounds {
			for b := range s.Teams {
				for a := range b {
					if r[a] == b && q[a] == b {
						if x.Cells[i][j] != -1 {
							return square{}, false
						}
						x.Cells[i][j] = 14*a + b
					}
				}
			}
		}
	}
	return x, true
}

func TestSquaresOfSomeSchedules(t *testing.T) {
	d := dice(5)
	made := 0
	for n := int64(2); n <= 14; n += 2 {
		for k := range 300 {
			s, other := d.schedule(n, n-1), d.schedule(n, n-1)
			if k%2 == 0 {
				s, other = thinned(s, &d), thinned(other, &d)
			}
			want, ok := commonAsTold(s, other)
			checkOr(t, squareOfSchedules(s, other), want, ok, impl.ErrState)
			if ok {
				made++
			}
		}
	}
	if made < 200 || made > 2000 {
		t.Errorf("%d of 2100 two schedules make a square", made)
	}
}

// thinned returns a schedule in which some meetings of another one are left out.
func thinned(s impl.Schedule, d *dice) impl.Schedule {
	for i := range s.Rounds {
		for a := range s.Teams {
			if b := s.Rounds[i][a]; d.below(3) == 0 {
				s.Rounds[i][a], s.Rounds[i][b] = a, b
			}
		}
	}
	return s
}
