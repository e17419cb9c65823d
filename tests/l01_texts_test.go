package tests

import (
	"strconv"
	"strings"
	"testing"

	"loop.example/g01379/impl"
)

func TestParseSchedule(t *testing.T) {
	checkResults(t, parseSchedule("4:0-3,1-2;0-2,1-3;0-1,2-3"), four(), 0)
	checkResults(t, parseSchedule("3:0-1;;0-1;1-2"), three(), 0)
	checkResults(t, parseSchedule("2:"), many(2, 1), 0)
	checkResults(t, parseSchedule("2:0-1"), impl.Schedule{Teams: 2, Rounds: []round{{1, 0}}}, 0)
	checkResults(t, parseSchedule("14:;"), many(14, 2), 0)
	checkResults(t, parseSchedule("13:"+strings.Repeat(";", 39)), many(13, 40), 0)
	s := impl.Schedule{Teams: 14, Rounds: []round{{13, 12, 11, 10, 9, 8, 7, 6, 5, 4, 3, 2, 1, 0}}}
	checkResults(t, parseSchedule("14:0-13,1-12,2-11,3-10,4-9,5-8,6-7"), s, 0)
}

func TestParseScheduleErrors(t *testing.T) {
	for _, text := range []string{
		"", ":", ";", "-", "4", "14", ":0-1", "0:", "1:", "15:", "15:0-1", "-4:", "+4:0-1", "04:0-1", "4.0:", "four:",
		"99999999999999999999:", "18446744073709551618:", "4294967298:0-1", "4;0-1", "4::", "4:0-1:", "4: ", " 4:", "4 :", "4:0-1 ", "4:0-1\n", "4:0-1\x00",
		"4:1-2,0-3", "4:3-0,1-2", "4:0-1,1-2", "4:0-1,0-1", "4:0-1,0-2", "4:0-1,2-1", "4:0-0", "4:0-4", "4:4-5", "4:0-1,2-4",
		"4:0-1,", "4:,0-1", "4:,", "4:0-1,,2-3", "4:0-1,;2-3", "4:-", "4:0-", "4:-1", "4:0", "4:01", "4:0--1", "4:-0-1", "4:0-1-2", "4:0-1-",
		"4:00-1", "4:0-01", "4:+0-1", "4:0-+1", "4:0_1", "4:0-1_", "1_0:", "4:0-1.2-3", "4:a-b", "4:0x0-1", "4:0-99999999999999999999", "4:0-18446744073709551617",
		"4:0-1;2-3;x", "4:0-1;1-0", "3:0-3", "２:", "2:０-1", "\xff2:", "2:0-1\xff", "2:0\u20131",
		"2:" + strings.Repeat(";", 40), "2:0-1" + strings.Repeat(";0-1", 40), "2:" + strings.Repeat(";", 100000),
		"14:" + strings.Repeat("0-1,", 100000) + "0-1", strings.Repeat("9", 100000) + ":", strings.Repeat("0", 30) + "2:0-1",
	} {
		checkCode(t, parseSchedule(text), impl.ErrSyntax)
	}
}

// TestParseScheduleOfShortTexts holds ParseSchedule, for all strings of at most six of these letters,
// against the set of all short texts, which is made from the words of the document.
func TestParseScheduleOfShortTexts(t *testing.T) {
	const letters, length = "0123:-,;", 6
	texts := shortTexts(length)
	var try func(text string)
	try = func(text string) {
		_, code := impl.ParseSchedule(text)
		if (code == impl.ErrNone) != texts[text] || code != impl.ErrNone && code != impl.ErrSyntax {
			t.Errorf("ParseSchedule(%q): code %d", text, code)
		}
		for i := 0; len(text) < length && i < len(letters); i++ {
			try(text + letters[i:i+1])
		}
	}
	try("")
}

// shortTexts returns the texts of schedules with at most so many bytes.
func shortTexts(length int) map[string]bool {
	texts := map[string]bool{}
	for n := 2; n <= 14; n++ {
		parts := []string{""}
		for a := range n {
			for b := a + 1; b < n; b++ {
				parts = append(parts, strconv.Itoa(a)+"-"+strconv.Itoa(b))
			}
		}
		var grow func(text string)
		grow = func(text string) {
			for _, p := range parts {
				if len(text+p) <= length {
					texts[text+p] = true
					grow(text + p + ";")
				}
			}
		}
		grow(strconv.Itoa(n) + ":")
	}
	return texts
}

// TestParseScheduleOfChangedTexts changes one byte of texts: what is taken then has the changed text.
func TestParseScheduleOfChangedTexts(t *testing.T) {
	const bytes = "0123456789:-,;+_ \n"
	for _, text := range []string{"4:0-3,1-2;0-2,1-3;0-1,2-3", "5:1-4;;0-4,1-3", "14:0-13,1-12,2-11;10-11"} {
		for i := range text {
			for k := range bytes {
				checkOwnText(t, text[:i]+bytes[k:k+1]+text[i+1:])
				checkOwnText(t, text[:i]+bytes[k:k+1]+text[i:])
			}
			checkOwnText(t, text[:i]+text[i+1:])
		}
	}
}

// checkOwnText fails if a text is taken, and is not that of the schedule.
func checkOwnText(t *testing.T, text string) {
	t.Helper()
	s, code := impl.ParseSchedule(text)
	if code == impl.ErrNone {
		checkResults(t, isSchedule(s), true)
		checkResults(t, scheduleText(s), text, 0)
		return
	}
	checkCode(t, parseSchedule(text), impl.ErrSyntax)
}
