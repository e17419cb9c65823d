package tests

import (
	"iter"
	"slices"
	"testing"

	"loop.example/g01379/impl"
)

// everyTwoRounds runs a check on two rounds of all numbers of teams: on all that there are of few
// teams, and on some of more.
func everyTwoRounds(check func(n int64, r round, q round)) {
	for n := int64(2); n <= 5; n++ {
		all := allRounds(n)
		for _, r := range all {
			for _, q := range all {
				check(n, r, q)
			}
		}
	}
	d := dice(2)
	for n := int64(6); n <= 14; n++ {
		for range 60 {
			check(n, d.round(n), d.round(n))
		}
		r := d.round(n)
		check(n, r, r)
		check(n, r, many(n, 1).Rounds[0])
		check(n, many(n, 1).Rounds[0], r)
	}
}

// allLists returns all lists of the numbers 0 to n - 1, each once, lexicographically ascending.
func allLists(n int64) lists {
	if n == 0 {
		return lists{{}}
	}
	shorter := allLists(n - 1)
	var out lists
	for first := range n {
		for _, rest := range shorter {
			p := list{first}
			for _, a := range rest {
				if a >= first {
					a++
				}
				p = append(p, a)
			}
			out = append(out, p)
		}
	}
	return out
}

// allRounds returns all rounds of n teams, lexicographically ascending.
func allRounds(n int64) []round {
	var out []round
	for _, p := range allLists(n) {
		var r round
		copy(r[:], p)
		if roundAsTold(n, r) {
			out = append(out, r)
		}
	}
	return out
}

// wholeRounds returns those in which no team is free.
func wholeRounds(n int64) []round {
	return slices.DeleteFunc(allRounds(n), func(r round) bool {
		for a := range n {
			if r[a] == a {
				return true
			}
		}
		return false
	})
}

// joinedAsTold reports for all two teams whether joins lead from the one to the other.
func joinedAsTold(n int64, r round, q round) [14][14]bool {
	var led [14][14]bool
	for a := range n {
		led[a][a], led[a][r[a]], led[a][q[a]] = true, true, true
	}
	for over := range n {
		for a := range n {
			for b := range n {
				led[a][b] = led[a][b] || led[a][over] && led[over][b]
			}
		}
	}
	return led
}

// numbersBelow ranges over the numbers 0 to n - 1.
func numbersBelow(n int64) iter.Seq[int64] {
	return func(yield func(int64) bool) {
		for a := int64(0); a < n && yield(a); a++ {
		}
	}
}

// Promise 2: components part the teams, and two teams are in one of them if joins lead between them.
func TestPromise2Components(t *testing.T) {
	everyTwoRounds(func(n int64, r round, q round) {
		led := joinedAsTold(n, r, q)
		var want lists
		var sizes list
		for a := range n {
			var own list
			for b := range n {
				if led[a][b] {
					own = append(own, b)
				}
			}
			if own[0] == a {
				want = append(want, own)
				sizes = append(sizes, int64(len(own)))
			}
		}
		slices.Sort(sizes)
		slices.Reverse(sizes)
		checkResults(t, componentsOf(n, r, q), want, 0)
		checkResults(t, typeOfRounds(n, r, q), sizes, 0)
		checkParts(t, n, r, q)
	})
}

// checkParts fails if a team is in no component, or in two.
func checkParts(t *testing.T, n int64, r round, q round) {
	t.Helper()
	components, _ := impl.ComponentsOf(n, r, q)
	teams := slices.Concat(components...)
	slices.Sort(teams)
	if !slices.Equal(teams, slices.Collect(numbersBelow(n))) {
		t.Errorf("ComponentsOf(%d, %v, %v) = %v", n, r, q, components)
	}
}

// Guarantee of chapter 2: chains stay in components. They go from opponent to opponent by turns, and
// end where they would come back, or where a team is free.
func TestChainsStayInComponents(t *testing.T) {
	everyTwoRounds(func(n int64, r round, q round) {
		led := joinedAsTold(n, r, q)
		for a := range n {
			chain, code := impl.ChainFrom(n, r, q, a)
			if code != impl.ErrNone || len(chain) == 0 || chain[0] != a {
				t.Fatalf("ChainFrom(%d, %v, %v, %d) = %v, %d", n, r, q, a, chain, code)
			}
			turns := [2]round{r, q}
			for i, b := range chain {
				if !led[a][b] || slices.Contains(chain[:i], b) || i > 0 && b != turns[(i-1)%2][chain[i-1]] {
					t.Errorf("ChainFrom(%d, %v, %v, %d) = %v", n, r, q, a, chain)
				}
			}
			last := len(chain) - 1
			if next := turns[last%2][chain[last]]; next != a && next != chain[last] {
				t.Errorf("ChainFrom(%d, %v, %v, %d) = %v", n, r, q, a, chain)
			}
		}
	})
}

// Types of schedules are those of their rounds, and perfect schedules have no other than n.
func TestTypesOfSchedules(t *testing.T) {
	everySchedule(func(s impl.Schedule, d *dice) {
		var want lists
		perfect := true
		for i := range s.Rounds {
			for j := i + 1; j < len(s.Rounds); j++ {
				sizes, _ := impl.TypeOfRounds(s.Teams, s.Rounds[i], s.Rounds[j])
				want = append(want, sizes)
				perfect = perfect && sizes[0] == s.Teams
			}
		}
		checkResults(t, typesOf(s), want, 0)
		checkResults(t, isPerfect(s), perfect, 0)
	})
}

// sameRounds reports whether two schedules have the same rounds, each as often.
func sameRounds(s impl.Schedule, x impl.Schedule) bool {
	order := func(r round, q round) int { return slices.Compare(r[:], q[:]) }
	return s.Teams == x.Teams && slices.Equal(slices.SortedFunc(slices.Values(s.Rounds), order), slices.SortedFunc(slices.Values(x.Rounds), order))
}

// leadingLists returns all renumberings that lead s to x, ascending.
func leadingLists(s impl.Schedule, x impl.Schedule) lists {
	var out lists
	for _, p := range allLists(s.Teams) {
		if led, code := impl.RenumberTeams(s, p); code == impl.ErrNone && sameRounds(led, x) {
			out = append(out, p)
		}
	}
	return out
}

// The least of all renumberings is found, and all are counted, for schedules of few teams.
func TestAllRenumberings(t *testing.T) {
	d := dice(3)
	for range 150 {
		n, k := 2+d.below(4), d.below(6)
		s, x := d.schedule(n, k), d.schedule(n, k)
		if d.below(2) == 0 {
			x, _ = impl.RenumberTeams(s, d.shuffled(n))
			x, _ = impl.ReorderRounds(x, d.shuffled(k))
		}
		all := leadingLists(s, x)
		if len(all) == 0 {
			checkCode(t, findRenumbering(s, x), impl.ErrNotFound)
		} else {
			checkResults(t, findRenumbering(s, x), all[0], 0)
		}
		checkResults(t, countAutomorphisms(s), int64(len(leadingLists(s, s))), 0)
	}
}

// Guarantee of chapter 2: renumberings lead schedules to each other; and as many renumberings lead
// alike schedules to themselves.
func TestRenumberingsLead(t *testing.T) {
	d := dice(4)
	for range 150 {
		n, k := 2+d.below(7), d.below(9)
		s, p := d.schedule(n, k), d.shuffled(n)
		x, _ := impl.RenumberTeams(s, p)
		x, _ = impl.ReorderRounds(x, d.shuffled(k))
		least, code := impl.FindRenumbering(s, x)
		led, _ := impl.RenumberTeams(s, least)
		if code != impl.ErrNone || !sameRounds(led, x) || slices.Compare(least, p) > 0 {
			t.Errorf("FindRenumbering(%v, %v) = %v, %d", s, x, least, code)
		}
		back, code := impl.FindRenumbering(x, s)
		led, _ = impl.RenumberTeams(x, back)
		if code != impl.ErrNone || !sameRounds(led, s) || slices.Compare(back, inverse(p)) > 0 {
			t.Errorf("FindRenumbering(%v, %v) = %v, %d", x, s, back, code)
		}
		count, _ := impl.CountAutomorphisms(s)
		checkResults(t, countAutomorphisms(x), count, 0)
		if count < 1 || 40320%count != 0 {
			t.Errorf("CountAutomorphisms(%v) = %d", s, count)
		}
	}
}

// completedAsTold completes s by trying all rounds of all, which ascend, one behind the other.
func completedAsTold(s impl.Schedule, all []round) (impl.Schedule, bool) {
	if robin, _ := impl.IsRoundRobin(s); robin {
		return s, true
	}
	for _, r := range all {
		longer, _ := impl.AddRound(s, r)
		if meetAgain(longer) {
			continue
		}
		if whole, ok := completedAsTold(longer, all); ok {
			return whole, true
		}
	}
	return impl.Schedule{}, false
}

// meetAgain reports whether two teams meet twice.
func meetAgain(s impl.Schedule) bool {
	table, _ := impl.MeetingsOf(s)
	return slices.ContainsFunc(table, func(row list) bool { return slices.Max(row) > 1 })
}

// checkCompleted fails if CompleteSchedule does not tell what trying all rounds does.
func checkCompleted(t *testing.T, s impl.Schedule, all []round) {
	t.Helper()
	want, ok := completedAsTold(s, all)
	if !ok {
		checkCode(t, completeSchedule(s), impl.ErrNotFound)
		return
	}
	checkResults(t, completeSchedule(s), want, 0)
	whole, _ := impl.CompleteSchedule(s)
	checkResults(t, isRoundRobin(whole), true, 0)
	if len(whole.Rounds) < len(s.Rounds) || !slices.Equal(whole.Rounds[:len(s.Rounds)], s.Rounds) {
		t.Errorf("CompleteSchedule(%v) = %v", s, whole)
	}
}

// Promise 2: completed schedules are round robins, the lexicographically first ones: of all schedules
// of up to 6 teams that can be asked for.
func TestPromise2AllCompletions(t *testing.T) {
	for n := int64(2); n <= 6; n += 2 {
		all := wholeRounds(n)
		open := []impl.Schedule{{Teams: n}}
		for len(open) > 0 {
			s := open[0]
			open = open[1:]
			checkCompleted(t, s, all)
			for _, r := range all {
				if longer, _ := impl.AddRound(s, r); !meetAgain(longer) {
					open = append(open, longer)
				}
			}
		}
	}
}

// Promise 2, for some schedules of 8 teams.
func TestPromise2SomeCompletions(t *testing.T) {
	d := dice(5)
	all := wholeRounds(8)
	lost := 0
	for range 150 {
		s := impl.Schedule{Teams: 8}
		for k := d.below(8); k > 0; k-- {
			for range 200 {
				longer, _ := impl.AddRound(s, all[d.below(int64(len(all)))])
				if !meetAgain(longer) {
					s = longer
					break
				}
			}
		}
		checkCompleted(t, s, all)
		if _, code := impl.CompleteSchedule(s); code == impl.ErrNotFound {
			lost++
		}
	}
	if lost == 0 {
		t.Error("no schedule of 8 teams without a way: more of them are needed")
	}
}

// The number of round robins is that of all sets of rounds that are one.
func TestAllRobins(t *testing.T) {
	for n := int64(2); n <= 6; n++ {
		all := allRounds(n)
		if n%2 == 0 {
			all = wholeRounds(n)
		}
		checkResults(t, countRobins(n), countSets(impl.Schedule{Teams: n}, all, n-1+n%2), 0)
	}
}

// countSets returns how many sets of so many more rounds make s a round robin.
func countSets(s impl.Schedule, all []round, more int64) int64 {
	if robin, _ := impl.IsRoundRobin(s); robin {
		return 1
	}
	var count int64
	for i, r := range all {
		if more == 0 {
			break
		}
		if longer, _ := impl.AddRound(s, r); !meetAgain(longer) {
			count += countSets(longer, all[i+1:], more-1)
		}
	}
	return count
}
