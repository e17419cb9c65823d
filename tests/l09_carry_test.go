package tests

import (
	"math"
	"slices"
	"strings"
	"testing"

	"loop.example/g01379/impl"
)

// digitsOf returns the numbers that are written as one digit each.
func digitsOf(word string) list {
	numbers := list{}
	for _, digit := range word {
		numbers = append(numbers, int64(strings.IndexRune("0123456789abcdef", digit)))
	}
	return numbers
}

// rowsOfDigits returns the rows that are written as words of one digit for each number.
func rowsOfDigits(words string) lists {
	rows := lists{}
	for word := range strings.FieldsSeq(words) {
		rows = append(rows, digitsOf(word))
	}
	return rows
}

// toldRobins are round robins, and what chapter 9 tells of them.
var toldRobins = []struct {
	text     string
	matrix   string
	cost     int64
	balanced bool
	best     string
	least    int64
}{
	// With one round alone each team gives to itself.
	{"2:0-1", "10 01", 2, false, "0", 2},
	{"4:0-3,1-2;0-2,1-3;0-1,2-3", "0111 1011 1101 1110", 12, true, "012", 12},
	{"4:0-1,2-3;0-3,1-2;0-2,1-3", "0111 1011 1101 1110", 12, true, "012", 12},
	// Giving is not mutual: 0 gives to 2 three times, and 2 never to 0.
	{"6:0-5,1-4,2-3;0-2,1-5,3-4;0-4,1-3,2-5;0-1,2-4,3-5;0-3,1-2,4-5", "013001 001301 000131 300011 130001 111110", 60, false, "01234", 60},
	// The rounds of the circle of 8, and of digit round robins, in orders that are best ones and that are not.
	{
		"8:0-7,1-6,2-5,3-4;0-2,1-7,3-6,4-5;0-4,1-3,2-7,5-6;0-6,1-5,2-4,3-7;0-1,2-6,3-5,4-7;0-3,1-2,4-6,5-7;0-5,1-4,2-3,6-7",
		"01500001 00150001 00015001 00001501 00000151 50000011 15000001 11111110", 196, false, "0132564", 96,
	},
	{
		"8:0-1,2-3,4-5,6-7;0-2,1-3,4-6,5-7;0-4,1-5,2-6,3-7;0-3,1-2,4-7,5-6;0-6,1-7,2-4,3-5;0-7,1-6,2-5,3-4;0-5,1-4,2-7,3-6",
		"01111111 10111111 11011111 11101111 11110111 11111011 11111101 11111110", 56, true, "0123456", 56,
	},
	{
		"8:0-1,2-3,4-5,6-7;0-2,1-3,4-6,5-7;0-3,1-2,4-7,5-6;0-4,1-5,2-6,3-7;0-5,1-4,2-7,3-6;0-6,1-7,2-4,3-5;0-7,1-6,2-5,3-4",
		"03020011 30200011 02031100 20301100 00110302 00113020 11000203 11002030", 120, false, "0132564", 56,
	},
	{
		"8:0-7,1-6,2-5,3-4;0-6,1-7,2-4,3-5;0-5,1-4,2-7,3-6;0-4,1-5,2-6,3-7;0-3,1-2,4-7,5-6;0-2,1-3,4-6,5-7;0-1,2-3,4-5,6-7",
		"03020011 30200011 02031100 20301100 00110302 00113020 11000203 11002030", 120, false, "0125364", 56,
	},
	{
		"8:0-4,1-5,2-6,3-7;0-2,1-3,4-6,5-7;0-1,2-3,4-5,6-7;0-6,1-7,2-4,3-5;0-5,1-4,2-7,3-6;0-3,1-2,4-7,5-6;0-7,1-6,2-5,3-4",
		"00031021 00300112 03002110 30001201 10210003 01120030 21100300 12013000", 120, false, "0123564", 56,
	},
	{
		"8:0-3,1-2,4-7,5-6;0-5,1-4,2-7,3-6;0-7,1-6,2-5,3-4;0-1,2-3,4-5,6-7;0-2,1-3,4-6,5-7;0-6,1-7,2-4,3-5;0-4,1-5,2-6,3-7",
		"00211021 00120112 21002110 12001201 10210021 01120012 21102100 12011200", 88, false, "0125436", 56,
	},
}

func TestToldRobins(t *testing.T) {
	for _, c := range toldRobins {
		s := parsed(t, c.text)
		checkResults(t, carryMatrix(s), rowsOfDigits(c.matrix), 0)
		checkResults(t, carryCost(s), c.cost, 0)
		checkResults(t, isCarryBalanced(s), c.balanced, 0)
		checkResults(t, bestOrder(s), digitsOf(c.best), c.least, 0)
	}
}

// The circle of 14 is the greatest round robin that there is.
func TestCarryOfCircles(t *testing.T) {
	rows := "01b00000000001 001b0000000001 0001b000000001 00001b00000001 000001b0000001 0000001b000001 00000001b00001 000000001b0001"
	rows += " 0000000001b001 00000000001b01 000000000001b1 b0000000000011 1b000000000001 11111111111110"
	for n, want := range map[int64]int64{2: 2, 4: 12, 6: 60, 8: 196, 10: 468, 12: 924, 14: 1612} {
		s, _ := impl.CircleOf(n)
		checkResults(t, carryCost(s), want, 0)
		checkResults(t, isCarryBalanced(s), n == 4, 0)
		if n == 14 {
			checkResults(t, carryMatrix(s), rowsOfDigits(rows), 0)
		}
		if n > 8 {
			checkCode(t, bestOrder(s), impl.ErrLimit)
		}
	}
}

func TestCarryOfNoSchedules(t *testing.T) {
	wrong := wrongSchedules()
	for n := int64(2); n <= 14; n++ {
		s, _ := impl.CircleOf(n)
		for i := range s.Rounds {
			broken := impl.Schedule{Teams: n, Rounds: slices.Clone(s.Rounds)}
			broken.Rounds[i][0] = n
			wrong = append(wrong, broken)
		}
		wrong = append(wrong, impl.Schedule{Teams: n + 1, Rounds: s.Rounds}, impl.Schedule{Teams: n - 1, Rounds: s.Rounds})
	}
	for _, s := range wrong {
		for _, own := range callsOfRobin(s) {
			checkCode(t, own, impl.ErrInvalid)
		}
	}
}

// noEvenRobins are schedules that are no round robins of an even number of teams.
func noEvenRobins() []impl.Schedule {
	out := []impl.Schedule{three(), many(14, 40), many(2, 40)}
	for n := int64(2); n <= 14; n++ {
		s, _ := impl.CircleOf(n)
		count := len(s.Rounds)
		out = append(out, impl.Schedule{Teams: n}, many(n, 1), many(n, count), impl.Schedule{Teams: n, Rounds: s.Rounds[1:]}, impl.Schedule{Teams: n, Rounds: s.Rounds[:count-1]})
		out = append(out, impl.Schedule{Teams: n, Rounds: append(many(n, 1).Rounds, s.Rounds...)}, impl.Schedule{Teams: n, Rounds: slices.Concat(s.Rounds, s.Rounds)})
		if n%2 != 0 {
			out = append(out, s)
		}
		for i := range s.Rounds {
			out = append(out, impl.Schedule{Teams: n, Rounds: append(slices.Clone(s.Rounds), s.Rounds[i])}) // a round too many
			resting := impl.Schedule{Teams: n, Rounds: slices.Clone(s.Rounds)}
			resting.Rounds[i] = many(n, 1).Rounds[0]
			twice := impl.Schedule{Teams: n, Rounds: slices.Clone(s.Rounds)}
			twice.Rounds[i] = s.Rounds[(i+1)%count]
			out = append(out, resting)
			if n > 2 {
				out = append(out, twice)
			}
		}
	}
	return out
}

func TestCarryOfNoRobins(t *testing.T) {
	for _, s := range noEvenRobins() {
		checkResults(t, isSchedule(s), true)
		for _, own := range callsOfRobin(s) {
			checkCode(t, own, impl.ErrState)
		}
	}
	// One meeting too few, and one in another round.
	for _, text := range []string{
		"4:0-3,1-2;0-2,1-3;0-1", "4:0-3;0-2,1-3;0-1,2-3", "4:0-3,1-2;0-2,1-3;0-2,1-3", "4:0-3,1-2;0-2,1-3;0-1,2-3;", "4:;0-3,1-2;0-2,1-3;0-1,2-3",
		"4:0-3,1-2;0-2;0-1,2-3;1-3", "2:", "2:;0-1", "2:0-1;0-1", "3:0-1;0-2;1-2", "6:0-5,1-4,2-3;0-2,1-5,3-4;0-4,1-3,2-5;0-1,2-4,3-5;0-3,1-5,2-4",
	} {
		for _, own := range callsOfRobin(parsed(t, text)) {
			checkCode(t, own, impl.ErrState)
		}
	}
}

// A schedule that is none comes before one of too many rounds, and so does one that is no round robin.
func TestBestOrderErrors(t *testing.T) {
	for n := int64(9); n <= 14; n++ {
		s, _ := impl.CircleOf(n)
		checkCode(t, bestOrder(impl.Schedule{Teams: n, Rounds: s.Rounds[1:]}), impl.ErrState)
		checkCode(t, bestOrder(many(n, 41)), impl.ErrInvalid)
		if n%2 == 0 {
			checkCode(t, bestOrder(s), impl.ErrLimit)
		} else {
			checkCode(t, bestOrder(s), impl.ErrState)
		}
	}
	checkCode(t, bestOrder(many(4, 8)), impl.ErrState)
	checkCode(t, bestOrder(many(8, 8)), impl.ErrState)
}

func TestDigitRobin(t *testing.T) {
	for _, c := range []struct {
		n     int64
		order list
		text  string
	}{
		{2, list{1}, "2:0-1"}, {4, list{1, 2, 3}, "4:0-1,2-3;0-2,1-3;0-3,1-2"}, {4, list{2, 3, 1}, "4:0-2,1-3;0-3,1-2;0-1,2-3"},
		{8, list{1, 2, 4, 3, 6, 7, 5}, toldRobins[5].text}, {8, list{1, 2, 3, 4, 5, 6, 7}, toldRobins[6].text}, {8, list{7, 6, 5, 4, 3, 2, 1}, toldRobins[7].text},
		{8, list{4, 2, 1, 6, 5, 3, 7}, toldRobins[8].text}, {8, list{3, 5, 7, 1, 2, 6, 4}, toldRobins[9].text},
	} {
		checkResults(t, digitRobin(c.n, c.order), parsed(t, c.text), 0)
	}
}

// noDigits are numbers of which there are no digit round robins.
var noDigits = list{
	math.MinInt64, math.MinInt64 + 2, math.MinInt64 + 4, -8, -4, -2, -1, 0, 1, 3, 5, 6, 7, 9, 10, 12, 14, 15, 16, 32, 64,
	1 << 32, 1<<32 + 2, 1<<32 + 4, 1<<32 + 8, math.MaxInt64 - 1, math.MaxInt64,
}

func TestDigitRobinErrors(t *testing.T) {
	for _, n := range noDigits {
		for k := range int64(18) {
			checkCode(t, digitRobin(n, fullRound(1, k)), impl.ErrRange)
		}
		checkCode(t, digitRobin(n, list{n}), impl.ErrRange)
		checkCode(t, firstDigitOrder(n), impl.ErrRange)
	}
	for _, n := range (list{2, 4, 8}) {
		right := fullRound(1, n-1)
		wrong := lists{nil, {}, fullRound(0, n), fullRound(0, n-1), fullRound(1, n-2), fullRound(1, n), fullRound(2, n-1), make(list, 1000000)}
		wrong = append(wrong, append(slices.Clone(right), right[0]), append(slices.Clone(right), 0), slices.Concat(right, right), append(list{0}, right...))
		for k := range right {
			for _, x := range (list{math.MinInt64, math.MinInt64 + right[k], -1, -right[k], 0, n, n + 1, n + right[k], 1<<32 + right[k], math.MaxInt64}) {
				wrong = append(wrong, slices.Concat(right[:k], list{x}, right[k+1:]))
			}
			for _, x := range right {
				if x != right[k] {
					wrong = append(wrong, slices.Concat(right[:k], list{x}, right[k+1:])) // a number twice
				}
			}
		}
		for _, order := range wrong {
			if got, code := impl.DigitRobin(n, order); code != impl.ErrRange || !isZero(got) {
				t.Errorf("DigitRobin(%d, %.50v) = %v, %d", n, show(order), got, code)
			}
		}
	}
}

func TestFirstDigitOrder(t *testing.T) {
	checkCode(t, firstDigitOrder(2), impl.ErrNotFound)
	checkResults(t, firstDigitOrder(4), list{1, 2, 3}, 0)
	checkResults(t, firstDigitOrder(8), list{1, 2, 4, 3, 6, 7, 5}, 0)
}

// toldRows are squares, and whether they are row complete.
var toldRows = []struct {
	rows     string
	complete bool
}{
	{"0", true}, {"01 10", true}, {"10 01", true}, {"012 120 201", false}, {"021 102 210", false},
	// The same rows in another order, and the same columns.
	{"0312 1023 2130 3201", true}, {"3201 0312 1023 2130", true}, {"0231 1302 2013 3120", false},
	{"0123 1230 2301 3012", false}, {"3012 0123 1230 2301", false}, {"0132 1203 2310 3021", true},
	// The columns are those of a square that is row complete, and the rows are not.
	{"0123 3012 1230 2301", false},
	// 0 and 1 stand beside each other twice in this order, and twice in the other one.
	{"0123 1032 2301 3210", false},
	{"041325 152430 203541 314052 425103 530214", false}, {"051423 102534 213045 324150 435201 540312", true},
}

func TestToldRows(t *testing.T) {
	for _, c := range toldRows {
		rows := rowsOfDigits(c.rows)
		n := int64(len(rows))
		checkResults(t, isSquareOf(n, rows), true, 0)
		checkResults(t, isRowComplete(n, rows), c.complete, 0)
		checkResults(t, isSquareOf(n, turnedLists(rows)), true, 0)
	}
}

// Rows of right numbers that are no square: with columns that are not right, rows that are not, and neither.
func TestNoSquares(t *testing.T) {
	for _, words := range []string{
		"01 01", "10 10", "00 11", "11 00", "00 00", "01 11", "01 00", "012 012 012", "000 111 222", "012 120 210", "012 021 102", "012 102 201", "012 120 200",
		"012 110 201", "012 121 200", "0123 1032 2301 3201", "0123 1230 2301 3021", "0312 1023 2130 3210", "0012 1123 2230 3301",
	} {
		rows := rowsOfDigits(words)
		n := int64(len(rows))
		for _, given := range []lists{rows, turnedLists(rows)} {
			checkResults(t, isSquareOf(n, given), false, 0)
			checkCode(t, isRowComplete(n, given), impl.ErrNotFound)
		}
	}
}

// cyclic returns the square of n rows in which each number is the one before it and 1 together.
func cyclic(n int64) lists {
	rows := lists{}
	for i := range n {
		row := list{}
		for k := range n {
			row = append(row, (i+k)%n)
		}
		rows = append(rows, row)
	}
	return rows
}

func TestRangesOfSquares(t *testing.T) {
	for n := int64(1); n <= 14; n++ {
		rows := cyclic(n)
		checkResults(t, isSquareOf(n, rows), true, 0)
		checkResults(t, isRowComplete(n, rows), n <= 2, 0)
		wrong := []lists{nil, {}, rows[1:], rows[:n-1], append(slices.Clone(rows), rows[0]), append(slices.Clone(rows), nil), make(lists, n), slices.Concat(rows, rows)}
		for i := range rows {
			for _, row := range (lists{nil, rows[i][1:], rows[i][:n-1], append(slices.Clone(rows[i]), 0), slices.Concat(rows[i], rows[i])}) {
				wrong = append(wrong, withRow(rows, i, row))
			}
			for k := range n {
				for _, x := range (list{math.MinInt64, -1, n, n + 1, 1<<32 + rows[i][k], math.MaxInt64}) {
					wrong = append(wrong, withRow(rows, i, slices.Concat(rows[i][:k], list{x}, rows[i][k+1:])))
				}
			}
		}
		for _, given := range wrong {
			for _, own := range callsOfRows(n, given) {
				checkCode(t, own, impl.ErrRange)
			}
		}
	}
}

// withRow returns rows with another row i.
func withRow(rows lists, i int, row list) lists {
	out := slices.Clone(rows)
	out[i] = row
	return out
}

// noLengths are numbers of rows, or of the numbers of a list, that no square has.
var noLengths = list{math.MinInt64, math.MinInt64 + 1, math.MinInt64 + 2, -14, -2, -1, 0, 15, 16, 28, 1 << 32, 1<<32 + 1, 1<<32 + 2, math.MaxInt64 - 1, math.MaxInt64}

func TestLengthsOfSquares(t *testing.T) {
	for _, n := range noLengths {
		for _, rows := range []lists{nil, {}, {{}}, {{0}}, cyclic(2), cyclic(14), cyclic(15), cyclic(16), cyclic(28)} {
			for _, own := range callsOfRows(n, rows) {
				checkCode(t, own, impl.ErrRange)
			}
		}
		checkCode(t, zigzagOf(n), impl.ErrRange)
		checkCode(t, countStepSequences(n), impl.ErrRange)
	}
	for n := int64(1); n <= 14; n++ {
		for k := int64(1); k <= 16; k++ {
			if k != n {
				checkCode(t, isSquareOf(n, cyclic(k)), impl.ErrRange)
				checkCode(t, isRowComplete(n, cyclic(k)), impl.ErrRange)
			}
		}
	}
	for _, rows := range []lists{make(lists, 10000000), slices.Repeat(lists{make(list, 1000000)}, 14)} {
		for _, n := range (list{1, 14, int64(len(rows))}) {
			if yes, code := impl.IsSquareOf(n, rows); yes || code != impl.ErrRange {
				t.Errorf("IsSquareOf of much = %v, %d", yes, code)
			}
		}
	}
}

// Lists that are not as told come before lists that are no square.
func TestIsRowCompleteErrors(t *testing.T) {
	for _, rows := range []lists{{{0, 1}, {0, 2}}, {{0, 0}, {0, -1}}, {{2, 0}, {0, 0}}, {{0, 1}, {0}}, {{0, 1}, {0, 1, 0}}, {{0, 1}, {0, 1}, {0, 1}}, {{0, 1}}} {
		checkCode(t, isRowComplete(2, rows), impl.ErrRange)
	}
	checkCode(t, isRowComplete(2, lists{{0, 1}, {0, 1}}), impl.ErrNotFound)
	checkCode(t, isRowComplete(14, slices.Repeat(lists{fullRound(0, 14)}, 14)), impl.ErrNotFound)
	checkCode(t, isRowComplete(15, slices.Repeat(lists{fullRound(0, 15)}, 15)), impl.ErrRange)
}

func TestIsStepSequence(t *testing.T) {
	for _, c := range []struct {
		word string
		want bool
	}{
		// The step from the last number to the first one is none.
		{"0", true}, {"01", true}, {"10", true}, {"012", false}, {"021", false}, {"210", false}, {"0132", true}, {"0312", true}, {"3102", false}, {"2301", false},
		{"0123", false}, {"0213", false}, {"0231", false}, {"1203", true}, {"2130", true}, {"01423", false}, {"051423", true}, {"015243", true}, {"152304", false},
		{"041325", false}, {"314052", false}, {"07162534", true}, {"01734625", false}, {"0d1c2b3a495867", true}, {"d0c1b2a3948576", true}, {"0123456789abcd", false}, {"0c1b2a3948576", false},
	} {
		checkResults(t, isStepSequence(digitsOf(c.word)), c.want, 0)
	}
}

// noWholeLists are lists that do not have all numbers below their length.
func noWholeLists() lists {
	out := lists{nil, {}, {1}, {-1}, {math.MinInt64}, {math.MaxInt64}, {0, 0}, {1, 1}, {1, 2}, {0, 2}, {-1, 0}, {0, -1}, {0, 1, 3}, {0, 1, 1}, {3, 2, 1}, {0, 1<<32 + 1}, {1 << 32, 1}}
	for n := int64(1); n <= 14; n++ {
		for k := range n {
			for _, x := range (list{math.MinInt64, -1, (k + 1) % n, n, n + 1, math.MaxInt64}) {
				if x != k {
					out = append(out, append(append(fullRound(0, k), x), fullRound(k+1, n-k-1)...))
				}
			}
		}
		out = append(out, fullRound(1, n), append(fullRound(0, n), 0))
	}
	return append(out, fullRound(0, 15), fullRound(0, 16), mixedOrder(15), fullRound(0, 100), make(list, 15))
}

func TestNoWholeLists(t *testing.T) {
	for _, numbers := range noWholeLists() {
		for _, own := range callsOfNumbers(numbers) {
			checkCode(t, own, impl.ErrRange)
		}
	}
	much := fullRound(0, 1000000)
	if yes, code := impl.IsStepSequence(much); yes || code != impl.ErrRange {
		t.Errorf("IsStepSequence of much = %v, %d", yes, code)
	}
	if rows, code := impl.SquareOfList(much); len(rows) != 0 || code != impl.ErrRange {
		t.Errorf("SquareOfList of much: code %d", code)
	}
}

func TestZigzagOf(t *testing.T) {
	words := []string{"0", "01", "021", "0312", "04132", "051423", "0615243", "07162534", "081726354", "0918273645", "0a192837465", "0b1a29384756", "0c1b2a3948576", "0d1c2b3a495867"}
	for i, word := range words {
		checkResults(t, zigzagOf(int64(i)+1), digitsOf(word), 0)
	}
	checkCode(t, zigzagOf(0), impl.ErrRange)
	checkCode(t, zigzagOf(15), impl.ErrRange)
}

func TestCountStepSequences(t *testing.T) {
	for i, want := range (list{1, 1, 0, 2, 0, 4, 0, 24}) {
		checkResults(t, countStepSequences(int64(i)+1), want, 0)
	}
	for _, n := range (list{-1, 0, 9, 10, 14}) {
		checkCode(t, countStepSequences(n), impl.ErrRange)
	}
}

func TestSquareOfList(t *testing.T) {
	for word, rows := range map[string]string{
		"0": "0", "01": "01 10", "10": "10 01", "021": "021 102 210", "201": "201 012 120", "0312": "0312 1023 2130 3201", "2130": "2130 3201 0312 1023", "04132": "04132 10243 21304 32410 43021",
	} {
		checkResults(t, squareOfList(digitsOf(word)), rowsOfDigits(rows), 0)
	}
	for n := int64(1); n <= 14; n++ {
		checkResults(t, squareOfList(fullRound(0, n)), cyclic(n), 0)
	}
}
