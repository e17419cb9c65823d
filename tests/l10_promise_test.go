package tests

import (
	"slices"
	"sync"
	"testing"

	"loop.example/g01379/impl"
)

// outcomes returns some results of the first k rounds of a schedule, of which some have many wins of
// the lesser teams, and some many draws.
func (d *dice) outcomes(s impl.Schedule, k int) lists {
	x, often, usual := lists{}, d.below(4), d.below(3)
	for _, r := range s.Rounds[:k] {
		row := list{}
		for a := range s.Teams {
			if a >= r[a] {
				continue
			}
			number := d.below(3)
			if d.below(4) < often {
				number = usual
			}
			row = append(row, number)
		}
		x = append(x, row)
	}
	return x
}

// resultsAsTold reports whether x are results of s.
func resultsAsTold(s impl.Schedule, x lists) bool {
	if len(x) > len(s.Rounds) {
		return false
	}
	games := gamesOf(s)
	for i, row := range x {
		pairs := 0
		for _, g := range games {
			if g[0] == int64(i) {
				pairs++
			}
		}
		if len(row) != pairs || slices.ContainsFunc(row, func(number int64) bool { return number != 0 && number != 1 && number != 2 }) {
			return false
		}
	}
	return true
}

// wonIn returns the points that a team has from the round i, in which it is not free.
func wonIn(s impl.Schedule, x lists, i int, a int64) int64 {
	var place int64
	b := s.Rounds[i][a]
	for c := range min(a, b) {
		if c < s.Rounds[i][c] {
			place++
		}
	}
	switch x[i][place] {
	case 0:
		return 1
	case 1:
		return map[bool]int64{true: 2}[a < b]
	}
	return map[bool]int64{true: 2}[a > b]
}

// opponentsPlayed ranges over the rounds played and the opponents of a team in them.
func opponentsPlayed(s impl.Schedule, x lists, a int64, look func(i int, b int64)) {
	for i := range x {
		if b := s.Rounds[i][a]; b != a {
			look(i, b)
		}
	}
}

// pointsAsTold, secondAsTold and thirdAsTold return the numbers of all teams.
func pointsAsTold(s impl.Schedule, x lists) list {
	out := make(list, s.Teams)
	for a := range s.Teams {
		opponentsPlayed(s, x, a, func(i int, b int64) { out[a] += wonIn(s, x, i, a) })
	}
	return out
}

func secondAsTold(s impl.Schedule, x lists) list {
	out, points := make(list, s.Teams), pointsAsTold(s, x)
	for a := range s.Teams {
		opponentsPlayed(s, x, a, func(i int, b int64) { out[a] += points[b] })
	}
	return out
}

func thirdAsTold(s impl.Schedule, x lists) list {
	out, points := make(list, s.Teams), pointsAsTold(s, x)
	for a := range s.Teams {
		opponentsPlayed(s, x, a, func(i int, b int64) {
			switch wonIn(s, x, i, a) {
			case 2:
				out[a] += points[b] + points[b]
			case 1:
				out[a] += points[b]
			}
		})
	}
	return out
}

// rankingAsTold puts each team behind all teams that are ranked before it.
func rankingAsTold(s impl.Schedule, x lists) list {
	points, second, third := pointsAsTold(s, x), secondAsTold(s, x), thirdAsTold(s, x)
	before := func(a int64, b int64) bool {
		switch {
		case points[a] != points[b]:
			return points[a] > points[b]
		case second[a] != second[b]:
			return second[a] > second[b]
		case third[a] != third[b]:
			return third[a] > third[b]
		}
		return a < b
	}
	ranking := make(list, s.Teams)
	for a := range s.Teams {
		place := 0
		for b := range s.Teams {
			if before(b, a) {
				place++
			}
		}
		ranking[place] = a
	}
	return ranking
}

// betweenAsTold returns the points that a has from the rounds played in which b is its opponent.
func betweenAsTold(s impl.Schedule, x lists, a int64, b int64) int64 {
	var points int64
	opponentsPlayed(s, x, a, func(i int, c int64) {
		if c == b {
			points += wonIn(s, x, i, a)
		}
	})
	return points
}

// fullOnes returns all rounds of n teams in which no team is free, and which agree with r on the teams
// that meet in it.
func fullOnes(n int64, r round) []round {
	a := int64(0)
	for a < n && r[a] != a {
		a++
	}
	if a == n {
		return []round{r}
	}
	var out []round
	for b := a + 1; b < n; b++ {
		if r[b] == b {
			next := r
			next[a], next[b] = b, a
			out = append(out, fullOnes(n, next)...)
		}
	}
	return out
}

// newRoundAsTold returns the next round of all those in which all teams meet, and whether there is one.
func newRoundAsTold(s impl.Schedule, x lists, full []round) (round, bool) {
	var met [14][14]bool
	for _, g := range gamesOf(s) {
		met[g[1]][g[2]], met[g[2]][g[1]] = true, true
	}
	ranking := rankingAsTold(s, x)
	places := inverse(ranking)
	var best round
	var bestTold list
	for _, r := range full {
		if slices.ContainsFunc(ranking, func(a int64) bool { return met[a][r[a]] }) {
			continue
		}
		var told list
		for _, a := range ranking {
			told = append(told, places[r[a]])
		}
		if bestTold == nil || slices.Compare(told, bestTold) < 0 {
			best, bestTold = r, told
		}
	}
	return best, bestTold != nil
}

// canBeFirstAsTold tries all results of the rounds that are left.
func canBeFirstAsTold(s impl.Schedule, x lists, a int64) bool {
	if len(x) == len(s.Rounds) {
		points := pointsAsTold(s, x)
		return slices.Max(points) == points[a]
	}
	pairs := 0
	for _, g := range gamesOf(s) {
		if g[0] == int64(len(x)) {
			pairs++
		}
	}
	for _, row := range listsOver(pairs, 0, 2) {
		if canBeFirstAsTold(s, append(slices.Clone(x), row), a) {
			return true
		}
	}
	return false
}

// canBeFirstByMoving gives both points of the meetings that are left to the lesser team, or to a, and then
// moves point by point from team to team until none has more than a, or this is in vain.
func canBeFirstByMoving(s impl.Schedule, x lists, a int64) bool {
	points := pointsAsTold(s, x)
	var has [14][14]int64 // has[b][c] are the points that b has from its open meetings with c
	for _, g := range gamesOf(s) {
		if b, c := g[1], g[2]; g[0] < int64(len(x)) {
			continue
		} else if b == a || c == a {
			points[a] += 2
		} else {
			has[b][c] += 2
			points[b] += 2
		}
	}
	for {
		b := slices.IndexFunc(points, func(own int64) bool { return own > points[a] })
		if b < 0 {
			return true
		}
		if !movePoint(points, &has, points[a], int64(b)) {
			return false
		}
	}
}

// movePoint takes a point from a team, over others, to one that has less than most, and reports whether
// this is possible.
func movePoint(points list, has *[14][14]int64, most int64, from int64) bool {
	over := map[int64]int64{from: from}
	for reached := (list{from}); len(reached) > 0; reached = reached[1:] {
		b := reached[0]
		if points[b] < most {
			points[b]++
			points[from]--
			for ; b != from; b = over[b] {
				has[over[b]][b]--
				has[b][over[b]]++
			}
			return true
		}
		for c := range int64(len(points)) {
			if _, seen := over[c]; !seen && has[b][c] > 0 {
				over[c] = b
				reached = append(reached, c)
			}
		}
	}
	return false
}

// everyResult goes through results of all kinds: all of some schedules, and some of many.
func everyResult(check func(s impl.Schedule, x lists, d *dice)) {
	d := dice(30)
	for _, text := range []string{"2:0-1;0-1", "2:;0-1", "3:1-2;0-2;0-1", "3:0-1;;0-1;1-2", "4:0-3,1-2;0-2,1-3", "4:0-1,2-3;0-2;1-2;0-3", "5:0-1;2-3;0-2;1-4"} {
		s, _ := impl.ParseSchedule(text)
		for k := range len(s.Rounds) + 1 {
			games := len(gamesOf(impl.Schedule{Teams: s.Teams, Rounds: s.Rounds[:k]}))
			for _, numbers := range listsOver(games, 0, 2) {
				check(s, inRounds(s, k, numbers), &d)
			}
		}
	}
	for n := int64(2); n <= 14; n++ {
		for _, k := range (list{0, 1, 2, 3, 5, 8, 40}) {
			for range 3 {
				s := d.schedule(n, k)
				for _, i := range (list{0, d.below(k + 1), k}) {
					check(s, d.outcomes(s, int(i)), &d)
				}
			}
		}
		s, _ := impl.CircleOf(n)
		for i := range s.Rounds {
			check(s, d.outcomes(s, i), &d)
			check(s, d.outcomes(s, i+1), &d)
		}
	}
}

// inRounds returns lists with the numbers, one for each pair of the first k rounds.
func inRounds(s impl.Schedule, k int, numbers list) lists {
	x := make(lists, k)
	for _, g := range gamesOf(impl.Schedule{Teams: s.Teams, Rounds: s.Rounds[:k]}) {
		x[g[0]] = append(x[g[0]], numbers[0])
		numbers = numbers[1:]
	}
	return x
}

// All functions of points and rankings answer by the words of the document.
func TestAllPoints(t *testing.T) {
	everyResult(func(s impl.Schedule, x lists, d *dice) {
		if !resultsAsTold(s, x) {
			t.Fatalf("%v are no results of %v", x, s)
		}
		checkResults(t, areResults(s, x), true, 0)
		checkResults(t, pointsOf(s, x), pointsAsTold(s, x), 0)
		checkResults(t, secondNumbers(s, x), secondAsTold(s, x), 0)
		checkResults(t, thirdNumbers(s, x), thirdAsTold(s, x), 0)
		checkResults(t, rankingOf(s, x), rankingAsTold(s, x), 0)
	})
}

// Rankings are decided by each of the numbers, against those that come after it.
func TestDecidedRankings(t *testing.T) {
	kinds := map[string]int{}
	everyResult(func(s impl.Schedule, x lists, d *dice) {
		points, second, third := pointsAsTold(s, x), secondAsTold(s, x), thirdAsTold(s, x)
		ranking, code := impl.RankingOf(s, x)
		if code != impl.ErrNone || int64(len(ranking)) != s.Teams {
			t.Fatalf("RankingOf(%v, %v) = %v, %d", s, x, ranking, code)
		}
		for k := 1; k < len(ranking); k++ {
			a, b := ranking[k-1], ranking[k]
			switch {
			case points[a] > points[b] && second[a] < second[b] && third[a] < third[b] && a > b:
				kinds["points"]++
			case points[a] == points[b] && second[a] > second[b] && third[a] < third[b] && a > b:
				kinds["second numbers"]++
			case points[a] == points[b] && second[a] == second[b] && third[a] > third[b] && a > b:
				kinds["third numbers"]++
			case points[a] == points[b] && second[a] == second[b] && third[a] == third[b] && a < b:
				kinds["own numbers"]++
			}
		}
	})
	for _, kind := range []string{"points", "second numbers", "third numbers", "own numbers"} {
		if kinds[kind] < 10 {
			t.Errorf("rankings: %v", kinds)
		}
	}
}

// Guarantee: rankings have all teams.
func TestRankingsHaveAllTeams(t *testing.T) {
	everyResult(func(s impl.Schedule, x lists, d *dice) {
		ranking, code := impl.RankingOf(s, x)
		slices.Sort(ranking)
		if code != impl.ErrNone || !slices.Equal(ranking, fullRound(0, s.Teams)) {
			t.Errorf("RankingOf(%v, %v) sorted = %v, %d", s, x, ranking, code)
		}
	})
}

// Promise 10: points of all teams are twice the meetings played.
func TestPromise10Points(t *testing.T) {
	everyResult(func(s impl.Schedule, x lists, d *dice) {
		points, code := impl.PointsOf(s, x)
		var sum, meetings int64
		for a, own := range points {
			sum += own
			for b := range int64(a) {
				rounds, _ := impl.RoundsBetween(impl.Schedule{Teams: s.Teams, Rounds: s.Rounds[:len(x)]}, int64(a), b)
				meetings += int64(len(rounds))
			}
		}
		if code != impl.ErrNone || sum != 2*meetings {
			t.Errorf("PointsOf(%v, %v) = %v, %d", s, x, points, code)
		}
	})
}

// Promise 14: points between two teams are twice the rounds in which they met. They are those of the
// document, and the same from both sides; those with all others are all points of a team.
func TestPromise14(t *testing.T) {
	everyResult(func(s impl.Schedule, x lists, d *dice) {
		points := make(list, s.Teams)
		for a := range s.Teams {
			for b := range s.Teams {
				if a == b {
					continue
				}
				first, second, code := impl.PointsBetween(s, x, a, b)
				other, own, _ := impl.PointsBetween(s, x, b, a)
				rounds, _ := impl.RoundsBetween(impl.Schedule{Teams: s.Teams, Rounds: s.Rounds[:len(x)]}, a, b)
				if code != impl.ErrNone || first+second != 2*int64(len(rounds)) || first != own || second != other {
					t.Fatalf("PointsBetween(%v, %v, %d, %d) = %d, %d, %d", s, x, a, b, first, second, code)
				}
				if first != betweenAsTold(s, x, a, b) || second != betweenAsTold(s, x, b, a) {
					t.Fatalf("PointsBetween(%v, %v, %d, %d) = %d, %d", s, x, a, b, first, second)
				}
				points[a] += first
			}
		}
		checkResults(t, pointsOf(s, x), points, 0)
	})
}

// Points by round are the points after so many rounds.
func TestAllPointsByRound(t *testing.T) {
	everyResult(func(s impl.Schedule, x lists, d *dice) {
		var rows lists
		for k := range len(x) + 1 {
			rows = append(rows, pointsAsTold(s, x[:k]))
		}
		for a, want := range turnedLists(rows) {
			checkResults(t, pointsByRound(s, x, int64(a)), want, 0)
		}
	})
}

// checkNextRound holds a next round against all rounds in which all teams meet, and returns of what kind it is.
func checkNextRound(t *testing.T, s impl.Schedule, x lists, full []round) string {
	t.Helper()
	want, found := newRoundAsTold(s, x, full)
	checkOr(t, nextRound(s, x), want, found, impl.ErrNotFound)
	ranking := rankingAsTold(s, x)
	place := slices.IndexFunc(ranking[1:], func(b int64) bool { return len(roundsOfTwo(s, ranking[0], b)) == 0 })
	switch {
	case !found && place < 0:
		return "none"
	case !found:
		return "none, but opponents"
	case len(gamesOf(s)) == 0:
		return "all are free"
	case want[ranking[0]] != ranking[1+place]:
		return "not the first opponent"
	case !slices.IsSorted(ranking):
		return "by places"
	}
	return "by numbers"
}

// Next rounds are found among all rounds in which all teams meet.
func TestAllNextRounds(t *testing.T) {
	kinds, full := map[string]int{}, map[int64][]round{}
	for n := int64(2); n <= 12; n += 2 {
		full[n] = fullOnes(n, many(n, 1).Rounds[0])
	}
	everyResult(func(s impl.Schedule, x lists, d *dice) {
		if s.Teams%2 != 0 {
			checkCode(t, nextRound(s, x), impl.ErrState)
		} else if s.Teams <= 12 {
			kinds[checkNextRound(t, s, x, full[s.Teams])]++
		}
	})
	d := dice(36)
	for n := int64(4); n <= 10; n += 2 {
		for range 150 {
			s := d.schedule(n, n/2+d.below(3*n/2))
			kinds[checkNextRound(t, s, d.outcomes(s, int(d.below(int64(len(s.Rounds)+1)))), full[n])]++
		}
	}
	for _, kind := range []string{"none", "none, but opponents", "all are free", "not the first opponent", "by places", "by numbers"} {
		if kinds[kind] < 20 {
			t.Errorf("next rounds: %v", kinds)
		}
	}
}

// The same of the greatest number of teams, for which there are many rounds in which all meet.
func TestNextRoundsOfFourteen(t *testing.T) {
	d, full := dice(31), fullOnes(14, many(14, 1).Rounds[0])
	whole, _ := impl.CircleOf(14)
	for _, s := range []impl.Schedule{d.schedule(14, 3), d.schedule(14, 8), d.schedule(14, 16), d.schedule(14, 25), {Teams: 14, Rounds: whole.Rounds[:7]}, {Teams: 14, Rounds: whole.Rounds[2:]}} {
		x := d.outcomes(s, int(d.below(int64(len(s.Rounds)+1))))
		checkNextRound(t, s, x, full)
	}
}

// Promise 10: next rounds repeat no meeting, of rounds played or not, and all teams meet in them.
func TestPromise10NextRounds(t *testing.T) {
	found := 0
	everyResult(func(s impl.Schedule, x lists, d *dice) {
		next, code := impl.NextRound(s, x)
		if code != impl.ErrNone {
			return
		}
		found++
		if !impl.IsRound(s.Teams, next) {
			t.Fatalf("NextRound(%v, %v) = %v", s, x, next)
		}
		for a := range s.Teams {
			if next[a] == a || len(roundsOfTwo(s, a, next[a])) > 0 {
				t.Errorf("NextRound(%v, %v) = %v", s, x, next)
			}
		}
	})
	if found < 200 {
		t.Errorf("%d next rounds", found)
	}
}

// A round robin without one of its rounds has this one as its next round, with any results.
func TestNextRoundsOfCircles(t *testing.T) {
	d := dice(32)
	for n := int64(2); n <= 14; n += 2 {
		whole, _ := impl.CircleOf(n)
		for i := range whole.Rounds {
			s, _ := impl.DropRound(whole, int64(i))
			for k := range len(s.Rounds) + 1 {
				if k%3 == 0 || k == len(s.Rounds) {
					checkResults(t, nextRound(s, d.outcomes(s, k)), whole.Rounds[i], 0)
				}
			}
		}
	}
}

// First teams by all results of the rounds that are left, as far as these are few, and by moving points.
func TestAllFirstTeams(t *testing.T) {
	kinds := map[string]int{}
	everyResult(func(s impl.Schedule, x lists, d *dice) {
		left := len(gamesOf(impl.Schedule{Teams: s.Teams, Rounds: s.Rounds[len(x):]}))
		var want list
		for a := range s.Teams {
			can := canBeFirstByMoving(s, x, a)
			if left <= 5 && can != canBeFirstAsTold(s, x, a) {
				t.Fatalf("%v, %v: %d can be first is not %v", s, x, a, can)
			}
			if s.Teams < 10 || d.below(4) == 0 {
				checkResults(t, canBeFirst(s, x, a), can, 0)
			}
			if can {
				want = append(want, a)
			}
			points := pointsAsTold(s, x)
			most := points[a] + 2*int64(len(gamesWith(s, len(x), a)))
			switch {
			case can && left > 5 && points[a] < slices.Max(points):
				kinds["later"]++
			case !can && most >= slices.Max(points):
				kinds["as the others meet"]++
			case !can:
				kinds["not any more"]++
			}
		}
		checkResults(t, firstTeams(s, x), want, 0)
	})
	for _, kind := range []string{"later", "as the others meet", "not any more"} {
		if kinds[kind] < 20 {
			t.Errorf("first teams: %v", kinds)
		}
	}
}

// gamesWith returns the games of a team from the round k on.
func gamesWith(s impl.Schedule, k int, a int64) lists {
	return slices.DeleteFunc(gamesOf(s), func(g list) bool { return g[0] < int64(k) || g[1] != a && g[2] != a })
}

// Teams in a race of few against each other, whose last meetings are all left: who has many points, and
// who meets whom, decides about sets of teams of all sizes.
func TestFirstTeamsOfRaces(t *testing.T) {
	d, sizes := dice(33), map[int]int{}
	for n := int64(4); n <= 14; n++ {
		for range 60 {
			s := d.race(n)
			x := d.outcomes(s, len(s.Rounds)-int(1+d.below(4)))
			var want list
			for a := range n {
				if canBeFirstByMoving(s, x, a) {
					want = append(want, a)
				}
			}
			sizes[len(want)]++
			checkResults(t, firstTeams(s, x), want, 0)
		}
	}
	for size := 1; size <= 6; size++ {
		if sizes[size] < 10 {
			t.Errorf("first teams: %v", sizes)
		}
	}
}

// race returns a schedule in whose last rounds few teams meet each other again and again.
func (d *dice) race(n int64) impl.Schedule {
	s, few := d.schedule(n, 2+d.below(8)), 3+d.below(n-2)
	for range 4 {
		r := many(n, 1).Rounds[0]
		p := d.shuffled(few)
		for i := int64(0); i+1 < few; i += 2 {
			r[p[i]], r[p[i+1]] = p[i+1], p[i]
		}
		s.Rounds = append(s.Rounds, r)
	}
	return s
}

// Guarantee: the teams with the most points can be first when all rounds are played, and no others.
func TestFirstWhenAllArePlayed(t *testing.T) {
	everyResult(func(s impl.Schedule, x lists, d *dice) {
		all := x
		if len(x) < len(s.Rounds) {
			all = d.outcomes(s, len(s.Rounds))
		}
		points, _ := impl.PointsOf(s, all)
		var want list
		for a, own := range points {
			if own == slices.Max(points) {
				want = append(want, int64(a))
			}
		}
		checkResults(t, firstTeams(s, all), want, 0)
		// The first one of the ranking so far can be first or not, but somebody can.
		if first, code := impl.FirstTeams(s, x); code != impl.ErrNone || len(first) == 0 {
			t.Errorf("FirstTeams(%v, %v) = %v, %d", s, x, first, code)
		}
	})
}

// Who is first in the end could be first all the time.
func TestFirstTeamsStayPossible(t *testing.T) {
	everyResult(func(s impl.Schedule, x lists, d *dice) {
		if len(x) < len(s.Rounds) || s.Teams > 10 {
			return
		}
		last, _ := impl.FirstTeams(s, x)
		for k := range x {
			before, _ := impl.FirstTeams(s, x[:k])
			for _, a := range last {
				if !slices.Contains(before, a) {
					t.Errorf("FirstTeams(%v, %v) = %v", s, x[:k], before)
				}
			}
		}
	})
}

// Lists of numbers are results or not by the words of the document.
func TestResultsAmongAllLists(t *testing.T) {
	for _, text := range []string{"2:0-1;0-1", "2:;0-1", "3:0-1;;1-2", "4:0-1,2-3;0-2"} {
		s, _ := impl.ParseSchedule(text)
		var rows lists
		for length := range 4 {
			rows = append(rows, listsOver(length, -1, 3)...)
		}
		check := func(x lists) {
			if got, code := impl.AreResults(s, x); code != impl.ErrNone || got != resultsAsTold(s, x) {
				t.Fatalf("AreResults(%v, %v) = %v, %d", s, x, got, code)
			}
			if _, code := impl.PointsOf(s, x); (code == impl.ErrNone) != resultsAsTold(s, x) {
				t.Fatalf("PointsOf(%v, %v): code %d", s, x, code)
			}
		}
		for _, row := range rows {
			check(lists{row})
			for _, other := range rows {
				check(lists{row, other})
			}
			check(lists{{0}, {1}, row})
			check(lists{nil, {1}, row})
			check(lists{{1}, nil, row})
		}
	}
}

// Sums that goroutines make are the same when many calls are made at the same time.
func TestResultsAtTheSameTime(t *testing.T) {
	d := dice(34)
	s := d.schedule(14, 20)
	x := d.outcomes(s, 15)
	calls := append(callsOfResults(s, x), areResults(s, x))
	want := make([]string, len(calls))
	for i, own := range calls {
		want[i] = show(own.run())
	}
	var all sync.WaitGroup
	for range 8 {
		for i, own := range calls {
			all.Go(func() {
				if got := show(own.run()); got != want[i] {
					t.Errorf("%s = %s, want %s", own.name, got, want[i])
				}
			})
		}
	}
	all.Wait()
}
