package tests

import (
	"math"
	"slices"
	"testing"

	"loop.example/g01379/impl"
)

type square = impl.Square

// room7 is the square of the starter strong7 and its strong adder, repeats3 a square whose rows and
// columns have each team once, but the same pairs again and again.
const (
	room7 = "7:0-7,2-6,4-5,.,1-3,.,.;.,1-7,0-3,5-6,.,2-4,.;.,.,2-7,1-4,0-6,.,3-5;4-6,.,.,3-7,2-5,0-1,.;" +
		".,0-5,.,.,4-7,3-6,1-2;2-3,.,1-6,.,.,5-7,0-4;1-5,3-4,.,0-2,.,.,6-7"
	repeats3 = "3:0-1,2-3,.;.,0-1,2-3;2-3,.,0-1"
)

// drawn returns the square with a text, by the test's own reading.
func drawn(t *testing.T, text string) square {
	t.Helper()
	x, ok := squareOfText(text)
	if !ok {
		t.Fatalf("no square has the text %q", text)
	}
	return x
}

// changed returns the square with another number in a cell.
func changed(x square, i int, j int, number int64) square {
	y := copyOfSquare(x)
	y.Cells[i][j] = number
	return y
}

// copyOfSquare returns the same square in other memory.
func copyOfSquare(x square) square {
	y := square{Side: x.Side}
	for _, row := range x.Cells {
		y.Cells = append(y.Cells, slices.Clone(row))
	}
	return y
}

// blank returns a square with the side m and empty cells, or something like it if m is no side.
func blank(m int64) square { return blankCells(m, int(m), int(m)) }

// blankCells returns something with the side m, and rows of empty cells.
func blankCells(m int64, rows int, columns int) square {
	x := square{Side: m}
	for range rows {
		x.Cells = append(x.Cells, slices.Repeat(list{-1}, columns))
	}
	return x
}

// noSides are no sides of squares: even ones, and those beyond the limits.
var noSides = list{math.MinInt64, math.MinInt64 + 1, -3, -1, 0, 2, 4, 6, 12, 14, 15, 16, 17, 1<<32 + 1, math.MaxInt64 - 1, math.MaxInt64}

// wrongSquares are none, each for another reason.
func wrongSquares(t *testing.T) []square {
	var out []square
	for _, m := range noSides {
		out = append(out, square{Side: m}, square{Side: m, Cells: lists{{-1}}}, square{Side: m, Cells: lists{{1}}})
		if 0 < m && m < 20 {
			out = append(out, blank(m))
		}
	}
	for _, m := range (list{1, 3, 7, 13}) {
		k := int(m)
		out = append(out, square{Side: m}, blankCells(m, k, 0), blankCells(m, k-1, k), blankCells(m, k+1, k), blankCells(m, k, k-1), blankCells(m, k, k+1))
		short, long, none := blank(m), blank(m), blank(m)
		short.Cells[k-1] = short.Cells[k-1][1:]
		long.Cells[k/2] = append(long.Cells[k/2], -1)
		none.Cells[0] = nil
		out = append(out, short, long, none)
		for _, number := range (list{math.MinInt64, -197, -15, -14, -13, -2, 0, 14, 15, 30, m + 1, 14*m + m, 14*(m-1) + m + 1, 14 * m, 195, 196, math.MaxInt64}) {
			out = append(out, changed(blank(m), 0, 0, number), changed(blank(m), k-1, k-1, number), changed(blank(m), k/2, k-1, number))
		}
	}
	// A square of a greater side has the same cells.
	small := drawn(t, repeats3)
	small.Side = 5
	return append(out, blankCells(3, 1, 9), small, changed(drawn(t, room7), 3, 4, 17*14), changed(drawn(t, room7), 6, 0, 8))
}

func TestWrongSquares(t *testing.T) {
	for _, x := range wrongSquares(t) {
		checkResults(t, isSquare(x), false)
		for _, own := range callsOfSquare(x) {
			checkCode(t, own, impl.ErrInvalid)
		}
		// It comes before other arguments that are wrong.
		checkCode(t, cellOf(x, -1, 99), impl.ErrInvalid)
		checkCode(t, renumberSquare(x, nil), impl.ErrInvalid)
		checkCode(t, renumberSquare(x, list{0, 0}), impl.ErrInvalid)
	}
}

// All numbers are tried as a cell.
func TestIsSquareOfCells(t *testing.T) {
	for m := int64(1); m <= 13; m += 2 {
		checkResults(t, isSquare(blank(m)), true)
		right := list{-1}
		for b := range m + 1 {
			for a := range b {
				right = append(right, 14*a+b)
			}
		}
		for number := int64(-250); number <= 250; number++ {
			for _, at := range []int64{0, m / 2, m - 1} {
				x := changed(blank(m), int(at), int(m-1-at), number)
				if got := impl.IsSquare(x); got != slices.Contains(right, number) {
					t.Errorf("IsSquare with the side %d and a cell %d = %v", m, number, got)
				}
			}
		}
	}
}

func TestToldSquares(t *testing.T) {
	whole := drawn(t, room7)
	reversed := copyOfSquare(whole)
	slices.Reverse(reversed.Cells)
	turnedRow := copyOfSquare(whole)
	turnedRow.Cells[2] = append(turnedRow.Cells[2][1:], turnedRow.Cells[2][0])
	nine := squareOfStarterAsTold(9, lists{{1, 3}, {2, 5}, {4, 8}, {6, 7}}, list{1, 5, 4, 8})
	for _, c := range []struct {
		x                    square
		room, standard, skew bool
	}{
		{drawn(t, "1:0-1"), true, true, true},
		{drawn(t, "1:."), false, false, false},
		{blank(3), false, false, false},
		{blank(13), false, false, false},
		{drawn(t, repeats3), false, false, false},
		{drawn(t, "3:0-3,1-2,.;.,1-3,0-2;0-1,.,2-3"), false, false, false}, // columns with a team twice
		{drawn(t, "3:0-3,.,0-1;1-2,1-3,.;.,0-2,2-3"), false, false, false}, // rows with a team twice
		{drawn(t, "3:0-3,.,.;1-2,1-3,.;0-1,0-2,2-3"), false, false, false}, // each pair once
		{whole, true, true, true},
		{reversed, true, false, false},
		{turnedAsTold(reversed), true, false, false},
		{turnedAsTold(whole), true, true, true},
		{turnedRow, false, false, false},
		{turnedAsTold(turnedRow), false, false, false},
		{renumberedAsTold(whole, list{1, 0, 2, 3, 4, 5, 6, 7}), true, false, false},
		{renumberedAsTold(whole, list{0, 1, 2, 3, 4, 5, 7, 6}), true, false, false},
		{changed(whole, 0, 1, -1), false, false, false},
		{changed(whole, 0, 3, 14*1+2), false, false, false},
		{changed(whole, 0, 0, -1), false, false, false},
		{changed(whole, 5, 2, 14*1+3), false, false, false},
		{nine, true, true, false},
		{turnedAsTold(nine), true, true, false},
	} {
		checkResults(t, isSquare(c.x), true)
		checkResults(t, isRoomSquare(c.x), c.room, 0)
		checkResults(t, isStandard(c.x), c.standard, 0)
		checkResults(t, isSkewSquare(c.x), c.skew, 0)
		switch {
		case !c.room:
			checkCode(t, standardForm(c.x), impl.ErrState)
		case c.standard:
			checkResults(t, standardForm(c.x), c.x, 0)
		}
	}
}

func TestCellOf(t *testing.T) {
	x := drawn(t, room7)
	checkResults(t, cellOf(x, 0, 0), 0, 7, 0)
	checkResults(t, cellOf(x, 0, 4), 1, 3, 0)
	checkResults(t, cellOf(x, 4, 1), 0, 5, 0)
	checkResults(t, cellOf(x, 6, 6), 6, 7, 0)
	checkResults(t, cellOf(x, 6, 3), 0, 2, 0)
	checkResults(t, cellOf(drawn(t, "1:0-1"), 0, 0), 0, 1, 0)
	checkResults(t, cellOf(changed(blank(13), 12, 0, 14*12+13), 12, 0), 12, 13, 0)
	checkResults(t, cellOf(changed(blank(13), 0, 12, 13), 0, 12), 0, 13, 0)
	checkCode(t, cellOf(x, 4, 0), impl.ErrNotFound)
	checkCode(t, cellOf(x, 3, 6), impl.ErrNotFound)
	checkCode(t, cellOf(drawn(t, "1:."), 0, 0), impl.ErrNotFound)
	for _, wrong := range (list{math.MinInt64, -7, -1, 7, 8, 14, 1 << 32, math.MaxInt64}) {
		for _, right := range (list{0, 3, 6}) {
			for _, y := range []square{x, blank(7)} {
				checkCode(t, cellOf(y, wrong, right), impl.ErrRange)
				checkCode(t, cellOf(y, right, wrong), impl.ErrRange)
				checkCode(t, cellOf(y, wrong, wrong), impl.ErrRange)
			}
		}
	}
	checkCode(t, cellOf(drawn(t, "1:0-1"), 0, 1), impl.ErrRange)
	checkCode(t, cellOf(drawn(t, "1:0-1"), 1, 0), impl.ErrRange)
}

func TestRowsAndColumns(t *testing.T) {
	for _, c := range []struct {
		square, rows, columns string // an empty text if there is none
	}{
		{"1:0-1", "2:0-1", "2:0-1"},
		{"1:.", "2:", "2:"},
		{"3:.,.,.;.,.,.;.,.,.", "4:;;", "4:;;"},
		{repeats3, "4:0-1,2-3;0-1,2-3;0-1,2-3", "4:0-1,2-3;0-1,2-3;0-1,2-3"},
		{"3:0-1,.,.;2-3,.,.;.,.,1-3", "4:0-1;2-3;1-3", "4:0-1,2-3;;1-3"},
		{"3:0-1,.,.;1-3,.,.;.,.,1-3", "4:0-1;1-3;1-3", ""},
		{"3:0-1,.,.;.,.,.;0-1,.,.", "4:0-1;;0-1", ""},
		{"3:.,.,0-2;.,.,.;.,.,1-2", "4:0-2;;1-2", ""},
		{"3:0-1,.,0-3;.,2-3,.;.,.,.", "", "4:0-1;2-3;0-3"},
		{"3:.,.,.;.,.,.;.,2-3,2-3", "", "4:;2-3;2-3"},
		{"3:0-1,0-2,0-3;.,.,.;.,.,.", "", "4:0-1;0-2;0-3"},
		{"3:0-1,0-1,.;0-1,.,.;.,.,.", "", ""},
		{
			room7,
			"8:0-7,1-3,2-6,4-5;0-3,1-7,2-4,5-6;0-6,1-4,2-7,3-5;0-1,2-5,3-7,4-6;0-5,1-2,3-6,4-7;0-4,1-6,2-3,5-7;0-2,1-5,3-4,6-7",
			"8:0-7,1-5,2-3,4-6;0-5,1-7,2-6,3-4;0-3,1-6,2-7,4-5;0-2,1-4,3-7,5-6;0-6,1-3,2-5,4-7;0-1,2-4,3-6,5-7;0-4,1-2,3-5,6-7",
		},
	} {
		x := drawn(t, c.square)
		checkLines(t, rowsOf(x), c.rows)
		checkLines(t, columnsOf(x), c.columns)
		checkLines(t, rowsOf(turnedAsTold(x)), c.columns)
	}
}

// checkLines fails if a call does not return the schedule with a text, or ErrState for an empty one.
func checkLines(t *testing.T, c call, text string) {
	t.Helper()
	if text == "" {
		checkCode(t, c, impl.ErrState)
	} else {
		checkResults(t, c, parsed(t, text), 0)
	}
}

func TestSquareOfSchedules(t *testing.T) {
	for _, c := range []struct{ rows, columns, square string }{
		{"2:0-1", "2:0-1", "1:0-1"},
		{"2:0-1", "2:", "1:."},
		{"2:", "2:", "1:."},
		{"4:;;", "4:;;", "3:.,.,.;.,.,.;.,.,."},
		{"4:0-1,2-3;0-2,1-3;0-3,1-2", "4:0-1;0-2;0-3", "3:0-1,.,.;.,0-2,.;.,.,0-3"},
		{"4:0-1,2-3;0-2;", "4:0-2;0-1;1-3", "3:.,0-1,.;0-2,.,.;.,.,."},
		{"4:0-1;0-1;0-1", "4:0-1,2-3;0-1,2-3;2-3", "3:0-1,0-1,.;0-1,0-1,.;0-1,0-1,."},
		// A team with the same opponents, or free, in both rounds makes no pair more.
		{"4:0-1;2-3;0-2", "4:2-3;0-1;1-3", "3:.,0-1,.;2-3,.,.;.,.,."},
	} {
		checkResults(t, squareOfSchedules(parsed(t, c.rows), parsed(t, c.columns)), drawn(t, c.square), 0)
		checkResults(t, squareOfSchedules(parsed(t, c.columns), parsed(t, c.rows)), turnedAsTold(drawn(t, c.square)), 0)
	}
	whole := drawn(t, room7)
	rows, columns := scheduleAsTold(t, whole), scheduleAsTold(t, turnedAsTold(whole))
	checkResults(t, squareOfSchedules(rows, columns), whole, 0)
	checkResults(t, squareOfSchedules(columns, rows), turnedAsTold(whole), 0)
	checkResults(t, squareOfSchedules(many(14, 13), many(14, 13)), blank(13), 0)
}

func TestSquareOfSchedulesErrors(t *testing.T) {
	circle := four()
	checkCode(t, squareOfSchedules(circle, circle), impl.ErrState)
	checkCode(t, squareOfSchedules(parsed(t, "4:;;0-1,2-3"), parsed(t, "4:;0-1,2-3;")), impl.ErrState)
	checkCode(t, squareOfSchedules(parsed(t, "6:0-5,1-4,2-3;;;;"), parsed(t, "6:;0-5,2-3;;;")), impl.ErrState)
	checkCode(t, squareOfSchedules(parsed(t, "6:0-5,1-4,2-3;;;;"), parsed(t, "6:;;;;0-5,1-4,2-3")), impl.ErrState)
	for _, wrong := range wrongSchedules() {
		for _, s := range []impl.Schedule{circle, three(), many(4, 3), many(5, 2), wrong} {
			checkCode(t, squareOfSchedules(wrong, s), impl.ErrInvalid)
			checkCode(t, squareOfSchedules(s, wrong), impl.ErrInvalid)
		}
	}
	for n := int64(2); n <= 14; n++ {
		for k := range 15 {
			for other := int64(2); other <= 14; other++ {
				told := n%2 == 0 && other == n && int64(k) == n-1
				checkNumbers(t, many(n, k), many(other, int(other-1)), told)
				checkNumbers(t, many(other, int(other-1)), many(n, k), told)
				checkNumbers(t, many(n, k), many(other, k), told)
			}
		}
	}
	// The numbers of teams and rounds are checked first.
	for _, k := range []int{0, 1, 2, 4, 5, 40} {
		twice := many(4, k)
		for i := range twice.Rounds {
			twice.Rounds[i] = circle.Rounds[0]
		}
		checkCode(t, squareOfSchedules(twice, circle), impl.ErrRange)
		checkCode(t, squareOfSchedules(circle, twice), impl.ErrRange)
		checkCode(t, squareOfSchedules(twice, twice), impl.ErrRange)
	}
	five, _ := impl.CircleOf(5)
	checkCode(t, squareOfSchedules(five, five), impl.ErrRange)
}

// checkNumbers fails if schedules without meetings do not make an empty square, where their numbers are
// as told, or ErrRange.
func checkNumbers(t *testing.T, s impl.Schedule, x impl.Schedule, told bool) {
	t.Helper()
	if told {
		checkResults(t, squareOfSchedules(s, x), blank(s.Teams-1), 0)
	} else {
		checkCode(t, squareOfSchedules(s, x), impl.ErrRange)
	}
}

func TestSquareOfStarter(t *testing.T) {
	checkResults(t, squareOfStarter(7, strong7, list{3, 6, 5}), drawn(t, room7), 0)
	x, code := impl.SquareOfStarter(7, patterned7, list{2, 4, 1})
	first := drawn(t, "7:0-7,.,.,2-5,.,1-6,3-4;.,.,.,.,.,.,.;.,.,.,.,.,.,.;.,.,.,.,.,.,.;.,.,.,.,.,.,.;.,.,.,.,.,.,.;.,.,.,.,.,.,.").Cells[0]
	if code != impl.ErrNone || !slices.Equal(x.Cells[0], first) {
		t.Errorf("SquareOfStarter(7, %v) = %v, %d", patterned7, x, code)
	}
}

func TestSquareOfStarterErrors(t *testing.T) {
	none := lists{{1, 2}, {3, 4}, {5, 6}}
	for _, adder := range (lists{{1, 2, 3}, {3, 6, 6}, {5, 6, 3}, {3, 6, 4}, {6, 6, 6}, {4, 6, 5}}) {
		checkCode(t, squareOfStarter(7, strong7, adder), impl.ErrState)
		checkCode(t, squareOfStarter(7, none, adder), impl.ErrInvalid)
		checkCode(t, squareOfStarter(7, lists{{1, 3}, {2, 6}, {5, 4}}, adder), impl.ErrInvalid)
		checkCode(t, squareOfStarter(7, lists{{1, 3}, {2, 6}, {4, 7}}, adder), impl.ErrRange)
		checkCode(t, squareOfStarter(7, lists{{1, 3}, {2, 6}}, adder), impl.ErrRange)
	}
	for _, adder := range (lists{nil, {3}, {3, 6}, {3, 6, 5, 1}, {3, 6, 0}, {0, 6, 5}, {3, 7, 5}, {-4, 6, 5}, {3, 6, math.MaxInt64}, {math.MinInt64, 6, 5}}) {
		checkCode(t, squareOfStarter(7, strong7, adder), impl.ErrRange)
		checkCode(t, squareOfStarter(7, none, adder), impl.ErrRange)
	}
	for _, wrong := range noPairs {
		checkCode(t, squareOfStarter(7, lists{{1, 3}, wrong, {4, 5}}, list{3, 6, 5}), impl.ErrRange)
	}
	for _, c := range noStarters {
		checkCode(t, squareOfStarter(c.m, c.pairs, slices.Repeat(list{1}, len(c.pairs))), impl.ErrInvalid)
	}
	for _, m := range noModuli {
		checkCode(t, squareOfStarter(m, strong7, list{3, 6, 5}), impl.ErrRange)
		checkCode(t, squareOfStarter(m, nil, nil), impl.ErrRange)
	}
	checkCode(t, squareOfStarter(7, nil, nil), impl.ErrInvalid)
	checkCode(t, squareOfStarter(3, lists{{1, 2}}, list{1}), impl.ErrState)
	checkCode(t, squareOfStarter(3, lists{{1, 2}}, list{2}), impl.ErrState)
}

func TestTransposeSquare(t *testing.T) {
	checkResults(t, transposeSquare(drawn(t, "1:0-1")), drawn(t, "1:0-1"), 0)
	checkResults(t, transposeSquare(drawn(t, "1:.")), drawn(t, "1:."), 0)
	checkResults(t, transposeSquare(drawn(t, "3:0-1,0-2,0-3;.,1-2,1-3;2-3,.,0-1")), drawn(t, "3:0-1,.,2-3;0-2,1-2,.;0-3,1-3,0-1"), 0)
	checkResults(t, transposeSquare(blank(13)), blank(13), 0)
	checkResults(t, transposeSquare(changed(blank(13), 12, 0, 14*12+13)), changed(blank(13), 0, 12, 14*12+13), 0)
}

func TestRenumberSquare(t *testing.T) {
	x := drawn(t, "3:0-1,0-2,0-3;.,1-2,1-3;2-3,.,0-1")
	checkResults(t, renumberSquare(x, list{0, 1, 2, 3}), x, 0)
	checkResults(t, renumberSquare(x, list{3, 2, 1, 0}), drawn(t, "3:2-3,1-3,0-3;.,1-2,0-2;0-1,.,2-3"), 0)
	checkResults(t, renumberSquare(x, list{1, 2, 3, 0}), drawn(t, "3:1-2,1-3,0-1;.,2-3,0-2;0-3,.,1-2"), 0)
	checkResults(t, renumberSquare(drawn(t, "1:0-1"), list{1, 0}), drawn(t, "1:0-1"), 0)
	checkResults(t, renumberSquare(drawn(t, "1:."), list{1, 0}), drawn(t, "1:."), 0)
	for _, p := range []list{
		nil, {0, 1, 2}, {0, 1, 2, 3, 4}, {0, 1, 2, 2}, {1, 2, 3, 4}, {0, 1, 2, -1}, {0, 1, 2, 4}, {-1, 1, 2, 3}, {0, 0, 0, 0},
		{0, 1, 2, math.MaxInt64}, {math.MinInt64, 1, 2, 3}, {0, 1, 3, 3}, {0, 1, 2, 3, 3}, {0, 1, 2, 1 << 32},
	} {
		checkCode(t, renumberSquare(x, p), impl.ErrRange)
		checkCode(t, renumberSquare(blank(3), p), impl.ErrRange)
	}
	for _, p := range []list{nil, {0}, {1}, {0, 0}, {1, 1}, {0, 2}, {0, 1, 2}} {
		checkCode(t, renumberSquare(drawn(t, "1:0-1"), p), impl.ErrRange)
	}
	checkCode(t, renumberSquare(blank(13), mixedOrder(13)), impl.ErrRange)
	checkResults(t, renumberSquare(blank(13), mixedOrder(14)), blank(13), 0)
}
