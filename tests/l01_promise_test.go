package tests

import (
	"testing"

	"loop.example/g01379/impl"
)

// everySchedule runs a check on schedules of all numbers of teams, with 0 to 40 rounds.
func everySchedule(check func(s impl.Schedule, d *dice)) {
	d := dice(1)
	for n := int64(2); n <= 14; n++ {
		for _, k := range []int64{0, 1, 2, 3, 5, 8, 13, 39, 40} {
			check(d.schedule(n, k), &d)
		}
	}
}

// Promise 1: pairs make their rounds.
func TestPromise1Pairs(t *testing.T) {
	everySchedule(func(s impl.Schedule, d *dice) {
		for _, r := range s.Rounds {
			pairs, code := impl.PairsOf(s.Teams, r)
			if code != impl.ErrNone {
				t.Fatalf("PairsOf(%d, %v): code %d", s.Teams, r, code)
			}
			checkResults(t, roundOf(s.Teams, pairs), r, 0)
			var mixed lists
			for _, i := range d.shuffled(int64(len(pairs))) {
				k := d.below(2)
				mixed = append(mixed, list{pairs[i][k], pairs[i][1-k]})
			}
			checkResults(t, roundOf(s.Teams, mixed), r, 0)
			checkPairs(t, s.Teams, r, pairs)
		}
	})
}

// checkPairs fails if pairs are not those of a round, in order.
func checkPairs(t *testing.T, n int64, r round, pairs lists) {
	t.Helper()
	var want lists
	for a := range n {
		for b := a + 1; b < n; b++ {
			if r[a] == b {
				want = append(want, list{a, b})
			}
		}
	}
	if show(pairs) != show(want) {
		t.Errorf("PairsOf(%d, %v) = %v", n, r, pairs)
	}
}

// Promise 1: circles are round robins.
func TestPromise1Circles(t *testing.T) {
	for n := int64(2); n <= 14; n++ {
		s, code := impl.CircleOf(n)
		if code != impl.ErrNone || s.Teams != n {
			t.Fatalf("CircleOf(%d) = %v, %d", n, s, code)
		}
		checkResults(t, isRoundRobin(s), true, 0)
		checkResults(t, missingPairs(s), lists{}, 0)
		if want := n - 1 + n%2; int64(len(s.Rounds)) != want {
			t.Errorf("CircleOf(%d) has %d rounds", n, len(s.Rounds))
		}
		for i, r := range s.Rounds {
			checkCircleRound(t, n, int64(i), r)
		}
		for i := range s.Rounds {
			shorter, _ := impl.DropRound(s, int64(i))
			checkResults(t, isRoundRobin(shorter), false, 0)
			longer, _ := impl.AddRound(s, s.Rounds[i])
			checkResults(t, isRoundRobin(longer), false, 0)
			s.Rounds[i] = s.Rounds[(i+1)%len(s.Rounds)]
			checkResults(t, isRoundRobin(s), len(s.Rounds) == 1, 0)
			s, _ = impl.CircleOf(n)
		}
	}
}

// checkCircleRound holds a round of a circle against the words of the document, pair by pair.
func checkCircleRound(t *testing.T, n int64, i int64, r round) {
	t.Helper()
	m := n - 1 + n%2
	if !impl.IsRound(n, r) {
		t.Fatalf("CircleOf(%d): round %d is %v", n, i, r)
	}
	for a := range n {
		for b := range a {
			meet := a < m && a != i && b != i && (a+b)%m == 2*i%m || a == m && b == i
			if (r[a] == b) != meet {
				t.Errorf("CircleOf(%d): round %d is %v", n, i, r)
			}
		}
	}
}

// Promise 1: schedules come back from their texts.
func TestPromise1Texts(t *testing.T) {
	everySchedule(func(s impl.Schedule, d *dice) {
		text, code := impl.ScheduleText(s)
		if len(s.Rounds) == 0 {
			checkCode(t, scheduleText(s), impl.ErrState)
			return
		}
		if code != impl.ErrNone {
			t.Fatalf("ScheduleText(%v): code %d", s, code)
		}
		checkResults(t, parseSchedule(text), s, 0)
	})
}

// Guarantee of chapter 1: meetings are mutual, and all functions tell the same of them.
func TestMeetingsAreMutual(t *testing.T) {
	everySchedule(func(s impl.Schedule, d *dice) {
		table, code := impl.MeetingsOf(s)
		if code != impl.ErrNone || int64(len(table)) != s.Teams {
			t.Fatalf("MeetingsOf(%v) = %v, %d", s, table, code)
		}
		var missing lists
		for a := range s.Teams {
			for b := range s.Teams {
				if a == b {
					continue
				}
				rounds := roundsOfTwo(s, a, b)
				if table[a][b] != int64(len(rounds)) || table[a][a] != 0 || int64(len(table[a])) != s.Teams {
					t.Errorf("MeetingsOf(%v) = %v", s, table)
				}
				checkResults(t, roundsBetween(s, a, b), rounds, 0)
				if a < b && len(rounds) == 0 {
					missing = append(missing, list{a, b})
				}
			}
		}
		checkResults(t, missingPairs(s), missing, 0)
	})
}

// roundsOfTwo returns the rounds in which a and b meet, as the pairs of the rounds tell.
func roundsOfTwo(s impl.Schedule, a int64, b int64) list {
	var out list
	for i, r := range s.Rounds {
		pairs, _ := impl.PairsOf(s.Teams, r)
		for _, p := range pairs {
			if p[0] == min(a, b) && p[1] == max(a, b) {
				out = append(out, int64(i))
			}
		}
	}
	return out
}

// Each team is free or has an opponent whose opponent it is.
func TestOpponentsAndFreeTeams(t *testing.T) {
	everySchedule(func(s impl.Schedule, d *dice) {
		opponents := make(lists, s.Teams)
		for a := range s.Teams {
			opponents[a], _ = impl.OpponentsOf(s, a)
			if len(opponents[a]) != len(s.Rounds) {
				t.Fatalf("OpponentsOf(%v, %d) = %v", s, a, opponents[a])
			}
		}
		for i := range s.Rounds {
			var free list
			for a := range s.Teams {
				if b := opponents[a][i]; b == -1 {
					free = append(free, a)
				} else if opponents[b][i] != a || s.Rounds[i][a] != b {
					t.Errorf("OpponentsOf(%v, %d) = %v", s, a, opponents[a])
				}
			}
			checkResults(t, freeTeams(s, int64(i)), free, 0)
		}
	})
}

// Guarantee of chapter 1: renumbered teams go back; and p(a) and p(b) meet where a and b met.
func TestRenumberedTeamsGoBack(t *testing.T) {
	everySchedule(func(s impl.Schedule, d *dice) {
		p := d.shuffled(s.Teams)
		x, code := impl.RenumberTeams(s, p)
		if code != impl.ErrNone || !impl.IsSchedule(x) || len(x.Rounds) != len(s.Rounds) {
			t.Fatalf("RenumberTeams(%v, %v) = %v, %d", s, p, x, code)
		}
		for i, r := range s.Rounds {
			for a := range s.Teams {
				if x.Rounds[i][p[a]] != p[r[a]] {
					t.Errorf("RenumberTeams(%v, %v) = %v", s, p, x)
				}
			}
		}
		checkResults(t, renumberTeams(x, inverse(p)), s, 0)
	})
}

// inverse returns the list that leads back what p leads.
func inverse(p list) list {
	back := make(list, len(p))
	for a, b := range p {
		back[b] = int64(a)
	}
	return back
}

// Rounds that are reordered, dropped, added or joined are the same rounds.
func TestRoundsStayTheSame(t *testing.T) {
	everySchedule(func(s impl.Schedule, d *dice) {
		k := int64(len(s.Rounds))
		q := d.shuffled(k)
		x, _ := impl.ReorderRounds(s, q)
		checkResults(t, reorderRounds(x, inverse(q)), s, 0)
		for i := range q {
			if x.Rounds[i] != s.Rounds[q[i]] {
				t.Errorf("ReorderRounds(%v, %v) = %v", s, q, x)
			}
		}
		cut := d.below(k + 1)
		front := impl.Schedule{Teams: s.Teams, Rounds: s.Rounds[:cut]}
		back := impl.Schedule{Teams: s.Teams, Rounds: s.Rounds[cut:]}
		checkResults(t, joinSchedules(front, back), s, 0)
		if cut < k {
			shorter, _ := impl.DropRound(s, cut)
			next := impl.Schedule{Teams: s.Teams, Rounds: s.Rounds[cut+1:]}
			checkResults(t, joinSchedules(front, next), shorter, 0)
			longer, _ := impl.AddRound(front, s.Rounds[cut])
			checkResults(t, joinSchedules(longer, next), s, 0)
		}
	})
}
