package tests

import (
	"regexp"
	"slices"
	"strconv"
	"strings"
	"testing"

	"loop.example/g01379/impl"
)

var wordOfCell = regexp.MustCompile(`^(\.|(0|[1-9][0-9]?)-(0|[1-9][0-9]?))$`)

// squareOfText returns the square with a text, by the words of the document, and whether there is one.
func squareOfText(text string) (square, bool) {
	head, body, ok := strings.Cut(text, ":")
	side := slices.Index([]string{"1", "3", "5", "7", "9", "11", "13"}, head)
	if !ok || side < 0 {
		return square{}, false
	}
	x := square{Side: 2*int64(side) + 1}
	for _, part := range strings.Split(body, ";") {
		var row list
		for _, word := range strings.Split(part, ",") {
			number, ok := numberOfWord(word, x.Side)
			if !ok {
				return square{}, false
			}
			row = append(row, number)
		}
		x.Cells = append(x.Cells, row)
		if int64(len(row)) != x.Side {
			return square{}, false
		}
	}
	return x, int64(len(x.Cells)) == x.Side
}

// numberOfWord returns the number of a cell that a word tells, and whether a square of the side m can
// have it.
func numberOfWord(word string, m int64) (int64, bool) {
	if !wordOfCell.MatchString(word) {
		return 0, false
	}
	if word == "." {
		return -1, true
	}
	low, high, _ := strings.Cut(word, "-")
	a, _ := strconv.ParseInt(low, 10, 64)
	b, _ := strconv.ParseInt(high, 10, 64)
	return 14*a + b, a < b && b <= m
}

// textOfSquare returns the text of a square, by the words of the document.
func textOfSquare(x square) string {
	out := strconv.FormatInt(x.Side, 10)
	for i, row := range x.Cells {
		out += string(":;"[min(i, 1)])
		for j, number := range row {
			if j > 0 {
				out += ","
			}
			if number == -1 {
				out += "."
			} else {
				out += strconv.FormatInt(number/14, 10) + "-" + strconv.FormatInt(number%14, 10)
			}
		}
	}
	return out
}

// The chapter's guarantee: squares come back from their texts.
func TestSquaresFromTheirTexts(t *testing.T) {
	everySquare(func(x square, d *dice) {
		text := textOfSquare(x)
		checkResults(t, squareText(x), text, 0)
		checkResults(t, parseSquare(text), x, 0)
	})
}

func TestSquareText(t *testing.T) {
	pair := square{Side: 1, Cells: lists{{1}}}
	checkResults(t, squareText(pair), "1:0-1", 0)
	checkResults(t, parseSquare("1:0-1"), pair, 0)
	checkResults(t, squareText(blank(1)), "1:.", 0)
	checkResults(t, parseSquare("1:."), blank(1), 0)
	three := square{Side: 3, Cells: lists{{1, -1, 31}, {-1, 17, -1}, {-1, -1, -1}}}
	checkResults(t, squareText(three), "3:0-1,.,2-3;.,1-3,.;.,.,.", 0)
	checkResults(t, parseSquare("3:0-1,.,2-3;.,1-3,.;.,.,."), three, 0)
	row := "." + strings.Repeat(",.", 12)
	great := changed(changed(blank(13), 0, 0, 14*12+13), 12, 12, 14*9+10)
	text := "13:12-13" + row[1:] + strings.Repeat(";"+row, 11) + ";" + row[:24] + "9-10"
	checkResults(t, squareText(great), text, 0)
	checkResults(t, parseSquare(text), great, 0)
	checkResults(t, parseSquare(room7), drawn(t, room7), 0)
	checkResults(t, squareText(drawn(t, room7)), room7, 0)
}

func TestParseSquareErrors(t *testing.T) {
	blank3 := "3:.,.,.;.,.,.;.,.,."
	texts := []string{
		"", ":", ";", ".", "-", "1", "1:", "1;.", "1.", ":.", ":0-1", "0:", "0:.", "2:", "2:.,.;.,.", "-1:.", "+1:.", "01:.", "1 :.", " 1:.", "1: .", "1:. ", "1:.\n", "1:.\x00",
		"1:..", "1:.:", "1::.", "1:.;", "1:;.", "1:.,", "1:,.", "1:.,.", "1:.;.", "1:-", "1:-1", "1:0", "1:1", "1:-1-0", "1:0--1", "1:0-", "1:0-1-", "1:-0-1", "1:0-1-2",
		"1:1-0", "1:0-0", "1:1-1", "1:0-2", "1:1-2", "1:00-1", "1:0-01", "1:+0-1", "1:0-+1", "1: 0-1", "1:0 -1", "1:0- 1", "1:0-1 ", "1:0_0-1", "1:0-1_", "1:0x0-1", "1:0.0-1", "1:0,1", "1:0:1",
		"1:0-15", "1:0-16", "1:0-17", "1:a-b", "1:0-1a", "1:.0-1", "1:0-1.", "1:0-18446744073709551617", "1:18446744073709551616-1", "1:0-99999999999999999999", "1:-1--1", "1:0\u20131", "1:\uff10-1", "\uff11:.", "\xff1:.", "1:.\xff",
		"4:.", "14:.", "15:.", "one:.", "4294967297:.", "18446744073709551617:.", "99999999999999999999:.", "1,.", "1:.\r", "\ufeff1:.",
		"3:", "3:.", "3:.,.,.", "3:.,.,.;.,.,.", "3:;;", blank3 + ";", ";" + blank3, blank3 + ",", blank3 + ",.", blank3 + ";.", blank3 + ";.,.,.", "3:.,.,.;.,.,.;.,.",
		"3:.,.,.,.,.,.,.,.,.", "3:.;.;.;.;.;.;.;.;.", "3:.,.;.,.,.,.;.,.,.", "3:.,.,.,.;.,.;.,.,.", "3:.,.;.,.;.,.;.,.;.", "3:.,.,.;;.,.,.;.,.,.", "3:.,,.,.;.,.,.;.,.,.", "3:.,.,.:.,.,.;.,.,.",
		"3:.,.,.;.,.,.;.,.,3-4", "3:.,.,.;.,0-4,.;.,.,.", "3:.,.,.;.,3-2,.;.,.,.", "3:3-3,.,.;.,.,.;.,.,.", "3:0-03,.,.;.,.,.;.,.,.", "3:.,.,.;.,,.;.,.,.", "3:.,.,.;.,0-0,.;.,.,.",
		strings.Replace(room7, "7:", "5:", 1), strings.Replace(room7, "7:", "9:", 1), strings.Replace(room7, "6-7", "6-8", 1), strings.Replace(room7, "6-7", "7-6", 1), strings.ReplaceAll(room7, ";", ","), room7 + " ",
		"13:" + strings.Repeat(".,", 100000), "13:" + strings.Repeat(";", 100000), "1:" + strings.Repeat("0-1,", 100000) + "0-1", strings.Repeat("9", 100000) + ":.", strings.Repeat("0", 30) + "1:.", strings.Repeat(":", 100000),
	}
	great := textOfSquare(blank(13))
	texts = append(texts, strings.Replace(great, ".", "0-14", 1), strings.Replace(great, ".", "13-14", 1), strings.Replace(great, ".", "13-12", 1), strings.Replace(great, ".", "1-013", 1), great+",.", great+";", great[:len(great)-2])
	for _, text := range texts {
		if _, ok := squareOfText(text); ok {
			t.Errorf("a square has the text %q", text)
		}
		checkCode(t, parseSquare(text), impl.ErrSyntax)
	}
}

// TestParseSquareOfShortTexts tries all strings of at most six of these letters: just two are texts.
func TestParseSquareOfShortTexts(t *testing.T) {
	const letters, length = "013:-,;.", 6
	taken := 0
	var try func(text string)
	try = func(text string) {
		x, code := impl.ParseSquare(text)
		if code == impl.ErrNone {
			taken++
			checkText(t, text)
		} else if code != impl.ErrSyntax || x.Side != 0 || len(x.Cells) != 0 {
			t.Errorf("ParseSquare(%q) = %v, %d", text, x, code)
		}
		for i := 0; len(text) < length && i < len(letters); i++ {
			try(text + letters[i:i+1])
		}
	}
	try("")
	if taken != 2 {
		t.Errorf("%d short texts", taken)
	}
}

// TestParseSquareOfChangedTexts changes texts by one byte, or exchanges two that are side by side.
func TestParseSquareOfChangedTexts(t *testing.T) {
	const bytes = "0123456789:-,;.+_ \n"
	great := dice(6)
	for _, text := range []string{"1:0-1", "1:.", repeats3, "3:.,.,.;.,0-2,.;1-3,.,.", textOfSquare(great.square(5, 4)), room7, textOfSquare(great.square(11, 5)), textOfSquare(great.square(13, 4))} {
		for i := range text {
			for k := range bytes {
				checkText(t, text[:i]+bytes[k:k+1]+text[i+1:])
				checkText(t, text[:i]+bytes[k:k+1]+text[i:])
			}
			checkText(t, text[:i]+text[i+1:])
			checkText(t, text[:i])
			if i > 0 {
				checkText(t, text[:i-1]+text[i:i+1]+text[i-1:i]+text[i+1:])
			}
		}
	}
}

// checkText fails if a text is not read as the document tells.
func checkText(t *testing.T, text string) {
	t.Helper()
	want, ok := squareOfText(text)
	checkOr(t, parseSquare(text), want, ok, impl.ErrSyntax)
}
