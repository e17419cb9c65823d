package tests

import (
	"slices"
	"testing"

	"loop.example/g01379/impl"
)

// venuesAsTold tells by the words of the document whether lists with the form of venues are those of s.
func venuesAsTold(s impl.Schedule, v lists) bool {
	for i, r := range s.Rounds {
		for a := range s.Teams {
			b := r[a]
			right := v[i][a] == -1
			if a != b {
				right = v[i][a] == 1 && v[i][b] == 0 || v[i][a] == 0 && v[i][b] == 1
			}
			if !right {
				return false
			}
		}
	}
	return true
}

func patternAsTold(v lists, a int64) list {
	out := list{}
	for _, row := range v {
		out = append(out, row[a])
	}
	return out
}

// countsAsTold returns the breaks, the rounds at home and the rounds away of a team.
func countsAsTold(v lists, a int64) (int64, int64, int64) {
	var breaks, homes, aways int64
	for i, row := range v {
		switch row[a] {
		case 1:
			homes++
		case 0:
			aways++
		}
		if i > 0 && row[a] != -1 && v[i-1][a] == row[a] {
			breaks++
		}
	}
	return breaks, homes, aways
}

func oppositeAsTold(v lists, a int64, b int64) bool {
	for _, row := range v {
		if !(row[a] == 1 && row[b] == 0 || row[a] == 0 && row[b] == 1 || row[a] == -1 && row[b] == -1) {
			return false
		}
	}
	return true
}

func copyOfLists(v lists) lists {
	out := lists{}
	for _, row := range v {
		out = append(out, slices.Clone(row))
	}
	return out
}

// gamesOf returns the games of a schedule, each one as its round, its lesser and its greater team.
func gamesOf(s impl.Schedule) lists {
	var out lists
	for i, r := range s.Rounds {
		for a := range s.Teams {
			if a < r[a] {
				out = append(out, list{int64(i), a, r[a]})
			}
		}
	}
	return out
}

// venuesBy returns the venues of s in which the lesser team of the game k plays at home just if home
// says so of k.
func venuesBy(s impl.Schedule, home func(k int) bool) lists {
	v := freeOnes(s)
	for k, g := range gamesOf(s) {
		i, a, b := g[0], g[1], g[2]
		if home(k) {
			v[i][a], v[i][b] = 1, 0
		} else {
			v[i][a], v[i][b] = 0, 1
		}
	}
	return v
}

// venues returns some venues of s.
func (d *dice) venues(s impl.Schedule) lists {
	return venuesBy(s, func(int) bool { return d.below(2) == 0 })
}

// sumOfBreaks returns the breaks of all teams together.
func sumOfBreaks(s impl.Schedule, v lists) int64 {
	var sum int64
	for a := range s.Teams {
		breaks, _, _ := countsAsTold(v, a)
		sum += breaks
	}
	return sum
}

// fewestAsTold returns the fewest breaks of all venues of s, of which there must not be too many.
func fewestAsTold(s impl.Schedule) int64 {
	fewest := int64(1 << 62)
	for bits := range 1 << len(gamesOf(s)) {
		fewest = min(fewest, sumOfBreaks(s, venuesBy(s, func(k int) bool { return bits>>k&1 == 1 })))
	}
	return fewest
}

// withGames returns a schedule in which some games of s are left out, so that not more than most are left.
func (d *dice) withGames(s impl.Schedule, most int) impl.Schedule {
	out := many(s.Teams, len(s.Rounds))
	games := gamesOf(s)
	for _, k := range d.shuffled(int64(len(games)))[:min(most, len(games))] {
		i, a, b := games[k][0], games[k][1], games[k][2]
		out.Rounds[i][a], out.Rounds[i][b] = b, a
	}
	return out
}

// checkVenues holds all functions of venues against the words of the document, for lists with the form
// of venues of s, which may be none.
func checkVenues(t *testing.T, s impl.Schedule, v lists) {
	t.Helper()
	are := venuesAsTold(s, v)
	checkResults(t, areVenues(s, v), are, 0)
	if !are {
		for _, own := range callsOfVenues(s, v) {
			checkCode(t, own, impl.ErrState)
		}
		return
	}
	breaks, homes, balanced := list{}, list{}, true
	for a := range s.Teams {
		own, home, away := countsAsTold(v, a)
		breaks, homes = append(breaks, own), append(homes, home)
		balanced = balanced && home-away <= 1 && away-home <= 1
		checkResults(t, patternOf(s, v, a), patternAsTold(v, a), 0)
		for b := range s.Teams {
			if a != b {
				checkResults(t, areOpposite(s, v, a, b), oppositeAsTold(v, a, b), 0)
			}
		}
	}
	checkResults(t, breaksOf(s, v), breaks, 0)
	checkResults(t, homesOf(s, v), homes, 0)
	checkResults(t, areBalanced(s, v), balanced, 0)
	checkExchanges(t, s, v)
	checkDouble(t, s, v)
}

// checkExchanges fails if a game is not exchanged, or is not the same again when it is exchanged twice.
func checkExchanges(t *testing.T, s impl.Schedule, v lists) {
	t.Helper()
	for i, r := range s.Rounds {
		for a := range s.Teams {
			b := r[a]
			if a == b {
				checkCode(t, exchangeGame(s, v, int64(i), a), impl.ErrState)
				continue
			}
			want := copyOfLists(v)
			want[i][a], want[i][b] = 1-v[i][a], 1-v[i][b]
			checkResults(t, exchangeGame(s, v, int64(i), a), want, 0)
			checkResults(t, areVenues(s, want), true, 0)
			checkResults(t, exchangeGame(s, want, int64(i), a), v, 0)
			checkResults(t, exchangeGame(s, want, int64(i), b), v, 0)
		}
	}
}

// checkDouble fails if a schedule is not doubled with its venues, or has too many rounds and is.
func checkDouble(t *testing.T, s impl.Schedule, v lists) {
	t.Helper()
	if len(s.Rounds) > 20 {
		checkCode(t, doubleSchedule(s, v), impl.ErrLimit)
		return
	}
	double := impl.Schedule{Teams: s.Teams, Rounds: slices.Concat(s.Rounds, s.Rounds)}
	both := slices.Concat(copyOfLists(v), copyOfLists(v))
	for _, row := range both[len(v):] {
		for a, number := range row {
			row[a] = map[int64]int64{-1: -1, 0: 1, 1: 0}[number]
		}
	}
	checkResults(t, doubleSchedule(s, v), double, both, 0)
	checkResults(t, areVenues(double, both), true, 0)
}

// All lists of the numbers -1, 0 and 1 are tried as venues of small schedules.
func TestAllVenues(t *testing.T) {
	for _, text := range []string{
		"2:0-1", "2:", "2:0-1;0-1", "2:0-1;;0-1", "2:0-1;0-1;0-1", "2:;0-1;", "3:0-1", "3:0-2;0-1", "3:1-2;1-2", "3:;0-2",
		"4:0-1,2-3", "4:0-3", "5:0-4,1-2", "6:0-1,2-5,3-4",
	} {
		s := parsed(t, text)
		count := len(s.Rounds) * int(s.Teams)
		all, found := 1, 0
		for range count {
			all *= 3
		}
		for x := range all {
			v := freeOnes(s)
			for k, rest := 0, x; k < count; k, rest = k+1, rest/3 {
				v[k/int(s.Teams)][k%int(s.Teams)] = int64(rest%3) - 1
			}
			if venuesAsTold(s, v) {
				found++
			}
			checkVenues(t, s, v)
		}
		if found != 1<<len(gamesOf(s)) {
			t.Errorf("%d venues of %s", found, text)
		}
	}
}

// Some venues of all kinds of schedules, and lists that are nearly venues, are tried.
func TestSomeVenues(t *testing.T) {
	everySchedule(func(s impl.Schedule, d *dice) {
		if len(s.Rounds) > 8 && s.Teams > 3 {
			return
		}
		v := d.venues(s)
		checkVenues(t, s, v)
		checkVenues(t, s, venuesBy(s, func(k int) bool { return k%2 == 0 }))
		if len(s.Rounds) == 0 {
			return
		}
		for range 5 {
			near := copyOfLists(v)
			near[d.below(int64(len(v)))][d.below(s.Teams)] = d.below(3) - 1
			checkResults(t, areVenues(s, near), venuesAsTold(s, near), 0)
		}
		i, a, b := d.below(int64(len(v))), d.below(s.Teams), d.below(s.Teams)
		near := copyOfLists(v)
		near[i][a], near[i][b] = near[i][b], near[i][a]
		checkResults(t, areVenues(s, near), venuesAsTold(s, near), 0)
	})
}

// Promise 5: first venues are venues, in which the lesser one of two opponents plays at home.
func TestPromise5FirstVenues(t *testing.T) {
	everySchedule(func(s impl.Schedule, d *dice) {
		v, code := impl.FirstVenues(s)
		if code != impl.ErrNone || len(v) != len(s.Rounds) || !venuesAsTold(s, v) {
			t.Fatalf("FirstVenues(%v) = %v, %d", s, v, code)
		}
		checkResults(t, areVenues(s, v), true, 0)
		checkResults(t, firstVenues(s), venuesBy(s, func(int) bool { return true }), 0)
	})
}

// checkFewest fails if the breaks of some venues of s are less than the fewest.
func checkFewest(t *testing.T, s impl.Schedule, v lists) {
	t.Helper()
	fewest, code := impl.FewestBreaks(s)
	breaks, other := impl.BreaksOf(s, v)
	if code != impl.ErrNone || other != impl.ErrNone {
		t.Fatalf("FewestBreaks and BreaksOf(%v, %v): codes %d and %d", s, v, code, other)
	}
	var sum int64
	for _, own := range breaks {
		sum += own
	}
	if sum < fewest || sum != sumOfBreaks(s, v) {
		t.Errorf("%d breaks of %v, %v, and the fewest are %d", sum, s, v, fewest)
	}
}

// Promise 5: breaks of venues are at least the fewest.
func TestPromise5Breaks(t *testing.T) {
	everySchedule(func(s impl.Schedule, d *dice) {
		for _, most := range []int{15, 14, 6} {
			own := d.withGames(s, most)
			for range 6 {
				checkFewest(t, own, d.venues(own))
			}
			first, _ := impl.FirstVenues(own)
			checkFewest(t, own, first)
		}
		if len(gamesOf(s)) > 15 {
			checkCode(t, fewestBreaks(s), impl.ErrLimit)
			checkCode(t, fewestBreaks(d.withGames(s, 16)), impl.ErrLimit)
		}
	})
}

// Some venues have the fewest breaks, as all of them tell.
func TestFewestOfAllVenues(t *testing.T) {
	seen := map[int64]bool{}
	check := func(s impl.Schedule) {
		want := fewestAsTold(s)
		seen[want] = true
		checkResults(t, fewestBreaks(s), want, 0)
	}
	everySchedule(func(s impl.Schedule, d *dice) {
		if len(s.Rounds) <= 13 {
			check(d.withGames(s, 7))
			check(d.withGames(s, 9))
		}
	})
	d := dice(6)
	for range 60 {
		n := 2 + d.below(5)
		check(d.withGames(d.schedule(n, 2+d.below(8)), 10))
	}
	// The rounds of a circle in any order.
	for n := int64(3); n <= 5; n++ {
		for range 12 {
			s, _ := impl.CircleOf(n)
			s, _ = impl.ReorderRounds(s, d.shuffled(int64(len(s.Rounds))))
			check(s)
		}
	}
	for _, s := range []impl.Schedule{d.withGames(d.schedule(6, 6), 15), d.withGames(d.schedule(14, 3), 15), playedBy(3, 15), d.withGames(d.schedule(4, 11), 15)} {
		check(s)
	}
	six, _ := impl.CircleOf(6)
	check(six)
	double, _ := impl.JoinSchedules(four(), four())
	check(double)
	again, _ := impl.ReorderRounds(double, list{0, 1, 2, 4, 3, 5})
	check(again)
	if len(seen) < 4 {
		t.Errorf("only %d numbers of fewest breaks", len(seen))
	}
}

// Promise 16: venues of circles are those of the document, venues of the circles, and have n - 2 breaks.
func TestPromise16Circles(t *testing.T) {
	for n := int64(2); n <= 14; n += 2 {
		m := n - 1
		s, _ := impl.CircleOf(n)
		want := freeOnes(s)
		for r := range m {
			want[r][m], want[r][r] = (r+1)%2, r%2
			for a := range m {
				for b := range m {
					for k := int64(1); k < n/2; k++ {
						if (r+k)%m == a && (b+k)%m == r && k%2 == 1 || (r+k)%m == b && (a+k)%m == r && k%2 == 0 {
							want[r][a], want[r][b] = 1, 0
						}
					}
				}
			}
		}
		checkResults(t, circleVenues(n), want, 0)
		checkResults(t, areVenues(s, want), true, 0)
		checkVenues(t, s, want)
		v, _ := impl.CircleVenues(n)
		breaks, code := impl.BreaksOf(s, v)
		var sum int64
		for _, own := range breaks {
			sum += own
		}
		if code != impl.ErrNone || sum != n-2 {
			t.Errorf("CircleVenues(%d) has %d breaks, code %d", n, sum, code)
		}
		if n <= 6 {
			checkResults(t, fewestBreaks(s), n-2, 0)
		}
	}
}

// robinsInOrder returns all round robins of an even n, lexicographically ascending by their rounds, which
// begin with the given ones.
func robinsInOrder(n int64, whole []round, begin []round) []impl.Schedule {
	if int64(len(begin)) == n-1 {
		return []impl.Schedule{{Teams: n, Rounds: slices.Clone(begin)}}
	}
	var out []impl.Schedule
	for _, r := range whole {
		again := slices.ContainsFunc(begin, func(q round) bool {
			for a := range n {
				if q[a] == r[a] {
					return true
				}
			}
			return false
		})
		if !again {
			out = append(out, robinsInOrder(n, whole, append(slices.Clone(begin), r))...)
		}
	}
	return out
}

// turnedLists returns the lists whose lists are those at the same places of others.
func turnedLists(x lists) lists {
	out := lists{}
	for i := range x[0] {
		row := list{}
		for _, own := range x {
			row = append(row, own[i])
		}
		out = append(out, row)
	}
	return out
}

// checkScheduleFor fails if patterns do not lead to the first one of all round robins in order that has
// venues with them, and reports whether there is one.
func checkScheduleFor(t *testing.T, all []impl.Schedule, patterns lists) bool {
	t.Helper()
	v := turnedLists(patterns)
	k := slices.IndexFunc(all, func(s impl.Schedule) bool { return venuesAsTold(s, v) })
	if k < 0 {
		checkCode(t, scheduleFor(patterns), impl.ErrNotFound)
		return false
	}
	checkResults(t, scheduleFor(patterns), all[k], 0)
	s, _ := impl.ScheduleFor(patterns)
	checkResults(t, isRoundRobin(s), true, 0)
	checkResults(t, areVenues(s, v), true, 0)
	for a, own := range patterns {
		checkResults(t, patternOf(s, v, int64(a)), own, 0)
	}
	return true
}

// Promise 16: round robins for patterns have venues with them, and are the first ones that have.
func TestPromise16AllPatterns(t *testing.T) {
	for n, want := range map[int64]int{2: 2, 4: 192} {
		all := robinsInOrder(n, wholeRounds(n), nil)
		found := 0
		for bits := range int64(1) << (n * (n - 1)) {
			patterns := patternsOf(n, int(n)-1)
			for k := range n * (n - 1) {
				patterns[k/(n-1)][k%(n-1)] = bits >> k & 1
			}
			if checkScheduleFor(t, all, patterns) {
				found++
			}
		}
		if found != want {
			t.Errorf("%d patterns of %d teams go with a round robin", found, n)
		}
	}
}

func TestPromise16SomePatterns(t *testing.T) {
	all := robinsInOrder(6, wholeRounds(6), nil)
	if len(all) != 720 {
		t.Fatalf("%d round robins of 6 teams", len(all))
	}
	d := dice(7)
	found, none := 0, 0
	for k := range 1500 {
		s := all[d.below(720)]
		patterns := turnedLists(d.venues(s))
		if k%3 == 1 {
			a, b, i := d.below(6), d.below(6), d.below(5)
			patterns[a][i], patterns[b][i] = patterns[b][i], patterns[a][i]
		}
		if k%3 == 2 {
			patterns[d.below(6)][d.below(5)] = d.below(2)
		}
		if checkScheduleFor(t, all, patterns) {
			found++
		} else {
			none++
		}
	}
	if found < 500 || none < 200 {
		t.Errorf("%d patterns of 6 teams go with a round robin, %d with none", found, none)
	}
	for _, n := range (list{2, 4, 6}) {
		v, _ := impl.CircleVenues(n)
		checkScheduleFor(t, robinsInOrder(n, wholeRounds(n), nil), turnedLists(v))
	}
}
