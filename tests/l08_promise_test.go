package tests

import (
	"iter"
	"slices"
	"testing"

	"loop.example/g01379/impl"
)

// golfAsTold reports whether x is a golf, by the words of the document.
func golfAsTold(x golf) bool {
	if x.Players < 2 || x.Players > 25 || x.Size < 2 || x.Players%x.Size != 0 || len(x.Rounds) > 12 {
		return false
	}
	for _, round := range x.Rounds {
		if int64(len(round)) != x.Players {
			return false
		}
		for a := range x.Players {
			if timesOfNumber(round, a) != 1 {
				return false
			}
		}
	}
	return true
}

// meetIn reports whether two players are in the same group of a round.
func meetIn(g int64, round list, a int64, b int64) bool {
	return a != b && int64(slices.Index(round, a))/g == int64(slices.Index(round, b))/g
}

// meetAsTold returns in how many rounds two players meet.
func meetAsTold(x golf, a int64, b int64) int64 {
	var times int64
	for _, round := range x.Rounds {
		if meetIn(x.Size, round, a, b) {
			times++
		}
	}
	return times
}

// meetingsAsTold returns in how many rounds each two players meet.
func meetingsAsTold(x golf) lists {
	table := blankTable(x.Players)
	for a := range x.Players {
		for b := range x.Players {
			table[a][b] = meetAsTold(x, a, b)
		}
	}
	return table
}

// mostMet and leastMet return how often the two players meet who do so most often, or least often.
func mostMet(x golf) int64 {
	var most int64
	for a := range x.Players {
		most = max(most, slices.Max(meetingsAsTold(x)[a]))
	}
	return most
}

func leastMet(x golf) int64 {
	least := int64(len(x.Rounds))
	for a, row := range meetingsAsTold(x) {
		for _, times := range row[:a] {
			least = min(least, times)
		}
	}
	return least
}

func socialAsTold(x golf) bool { return mostMet(x) <= 1 }

func fullAsTold(x golf) bool { return mostMet(x) == 1 && leastMet(x) == 1 }

// groupAsTold returns the group of a player in a round.
func groupAsTold(g int64, round list, a int64) list {
	return slices.DeleteFunc(fullRound(0, int64(len(round))), func(b int64) bool { return a != b && !meetIn(g, round, a, b) })
}

// tidyAsTold returns the tidy round with the groups of a round: each player brings its group, if none of
// the lesser ones has brought it.
func tidyAsTold(g int64, round list) list {
	out := list{}
	for a := range int64(len(round)) {
		if group := groupAsTold(g, round, a); group[0] == a {
			out = append(out, group...)
		}
	}
	return out
}

// isTidy reports whether the players of each group ascend, and the first ones of the groups.
func isTidy(g int64, round list) bool {
	for k := 1; k < len(round); k++ {
		if int64(k)%g != 0 && round[k] < round[k-1] || int64(k)%g == 0 && round[k] < round[k-int(g)] {
			return false
		}
	}
	return true
}

// leftAsTold returns whom a player meets in no round.
func leftAsTold(x golf, a int64) list {
	return slices.DeleteFunc(fullRound(0, x.Players), func(b int64) bool { return a == b || meetAsTold(x, a, b) > 0 })
}

// choices goes through all lists of so many of the numbers of a list, in its order.
func choices(numbers list, count int64) iter.Seq[list] {
	return func(yield func(list) bool) { choose(numbers, count, list{}, yield) }
}

func choose(numbers list, count int64, begin list, yield func(list) bool) bool {
	if count == 0 {
		return yield(begin)
	}
	for k, x := range numbers {
		if !choose(numbers[k+1:], count-1, append(slices.Clone(begin), x), yield) {
			return false
		}
	}
	return true
}

// groupings goes through all tidy rounds of the players who are left, in order, in which only good groups
// are.
func groupings(left list, g int64, good func(group list) bool) iter.Seq[list] {
	return func(yield func(list) bool) {
		if len(left) == 0 {
			yield(list{})
			return
		}
		for others := range choices(left[1:], g-1) {
			group := append(list{left[0]}, others...)
			if !good(group) {
				continue
			}
			rest := slices.DeleteFunc(slices.Clone(left), func(a int64) bool { return slices.Contains(group, a) })
			for round := range groupings(rest, g, good) {
				if !yield(append(slices.Clone(group), round...)) {
					return
				}
			}
		}
	}
}

// allTidy returns all tidy rounds of n players.
func allTidy(n int64, g int64) lists {
	return slices.Collect(groupings(fullRound(0, n), g, func(list) bool { return true }))
}

// nextAsTold returns the next round of a social golf, however many rounds and players it has, and nil if
// there is none.
func nextAsTold(x golf) list {
	met := meetingsAsTold(x)
	good := func(group list) bool {
		for k, a := range group {
			for _, b := range group[:k] {
				if met[a][b] > 0 {
					return false
				}
			}
		}
		return true
	}
	for round := range groupings(fullRound(0, x.Players), x.Size, good) {
		return round
	}
	return nil
}

// checkNext fails if NextGolfRound is not right for a golf.
func checkNext(t *testing.T, x golf) {
	t.Helper()
	switch {
	case x.Players > 16:
		checkCode(t, nextGolfRound(x), impl.ErrLimit)
		return
	case !socialAsTold(x):
		checkCode(t, nextGolfRound(x), impl.ErrState)
		return
	case len(x.Rounds) == 12:
		checkCode(t, nextGolfRound(x), impl.ErrNotFound)
		return
	}
	want := nextAsTold(x)
	checkOr(t, nextGolfRound(x), want, want != nil, impl.ErrNotFound)
	if want == nil {
		return
	}
	// Guarantee: next rounds keep golfs social.
	more := golfing(x.Players, x.Size, append(slices.Clone(x.Rounds), want)...)
	if !isTidy(x.Size, want) || !golfAsTold(more) || !socialAsTold(more) {
		t.Errorf("the next round of %v is %v", x, want)
	}
	checkResults(t, isGolf(more), true)
	checkResults(t, isSocial(more), true, 0)
	checkResults(t, tidyRound(more, int64(len(x.Rounds))), want, 0)
}

// mixedGolf returns x with its players renumbered, its rounds in some order, and their groups and the
// players of these, too.
func (d *dice) mixedGolf(x golf) golf {
	p, out := d.shuffled(x.Players), golf{Players: x.Players, Size: x.Size}
	for _, i := range d.shuffled(int64(len(x.Rounds))) {
		round := list{}
		for _, k := range d.shuffled(x.Players / x.Size) {
			for _, place := range d.shuffled(x.Size) {
				round = append(round, p[x.Rounds[i][k*x.Size+place]])
			}
		}
		out.Rounds = append(out.Rounds, round)
	}
	return out
}

// golf returns some golf, of whose rounds some may be tidy, and some may be equal.
func (d *dice) golf(n int64, g int64, k int64) golf {
	x := golf{Players: n, Size: g}
	for i := range k {
		round := d.shuffled(n)
		switch d.below(4) {
		case 0:
			round = tidyAsTold(g, round)
		case 1:
			round = slices.Clone(append(x.Rounds, round)[d.below(i+1)])
		}
		x.Rounds = append(x.Rounds, round)
	}
	return x
}

// gridAsTold returns the grid of k: players who stand on a line with each other are in a group.
func gridAsTold(k int64) golf {
	x := golf{Players: k * k, Size: k}
	for i := range k + 1 {
		onLine := func(a int64, b int64) bool {
			across, up := b/k-a/k, b%k-a%k
			if i == k {
				return across == 0
			}
			return (across*i-up)%k == 0
		}
		round := list{}
		for a := range k * k {
			if group := slices.DeleteFunc(fullRound(0, k*k), func(b int64) bool { return !onLine(a, b) }); group[0] == a {
				round = append(round, group...)
			}
		}
		x.Rounds = append(x.Rounds, round)
	}
	return x
}

// kirkman is a full golf of 15 players in groups of 3: from round to round 1 is added to the players 0 to
// 6 modulo 7, and to those from 7 to 13.
func kirkman() golf {
	x := golf{Players: 15, Size: 3}
	for i := range int64(7) {
		round := list{}
		for _, a := range (list{0, 1, 3, 2, 7, 9, 4, 12, 13, 5, 8, 11, 6, 10, 14}) {
			if a < 14 {
				a = a/7*7 + (a+i)%7
			}
			round = append(round, a)
		}
		x.Rounds = append(x.Rounds, round)
	}
	return x
}

// slanted returns a golf of g times as many groups, at least g, in two rounds: the groups of the second
// one go through those of the first one, a group further for each place.
func slanted(g int64, groups int64) golf {
	n, round := g*groups, list{}
	for k := range groups {
		for place := range g {
			round = append(round, (k+place)%groups*g+place)
		}
	}
	return golfing(n, g, fullRound(0, n), round)
}

// greedy returns the golf to which the next round is added as long as there is one.
func greedy(x golf) golf {
	for len(x.Rounds) < 12 {
		next := nextAsTold(x)
		if next == nil {
			break
		}
		x = golfing(x.Players, x.Size, append(slices.Clone(x.Rounds), next)...)
	}
	return x
}

// fullGolfs are full golfs.
func fullGolfs() []golf {
	out := []golf{gridAsTold(2), gridAsTold(3), gridAsTold(5), kirkman(), greedy(golfing(16, 4))}
	for n := int64(2); n <= 25; n++ {
		out = append(out, golfing(n, n, mixedOrder(n)))
		if n%2 == 0 && n <= 12 {
			out = append(out, paired(n, n-1))
		}
	}
	return out
}

// socialGolfs are social golfs that are not full.
func socialGolfs() []golf {
	var out []golf
	for n := int64(4); n <= 24; n += 2 {
		for _, k := range (list{1, 2, n - 3, n - 2, 11, 12}) {
			out = append(out, paired(n, min(k, n-2, 12)))
		}
	}
	for g := int64(2); g <= 5; g++ {
		for groups := g; g*groups <= 25; groups++ {
			if g*groups != 4 {
				out = append(out, slanted(g, groups))
			}
		}
	}
	for n := int64(4); n <= 16; n++ {
		for _, g := range sizesOf(n) {
			if x := greedy(golfing(n, g)); !fullAsTold(x) {
				out = append(out, x)
			}
		}
	}
	for _, x := range fullGolfs() {
		for k := range min(len(x.Rounds), 8) {
			out = append(out, golfing(x.Players, x.Size, x.Rounds[:k]...))
		}
	}
	return out
}

// nearlySocial returns golfs made from one with rounds in which some players meet twice.
func nearlySocial(x golf, d *dice) []golf {
	var out []golf
	n, g, k := x.Players, x.Size, int64(len(x.Rounds))
	for range 3 {
		twice := golfing(n, g, copyOfLists(x.Rounds)...)
		if k == 12 {
			twice.Rounds = twice.Rounds[1:]
		}
		twice.Rounds = append(twice.Rounds, tidyAsTold(g, x.Rounds[d.below(k)]))
		swapped := golfing(n, g, copyOfLists(x.Rounds)...)
		round, a, b := swapped.Rounds[d.below(k)], d.below(n), d.below(n)
		round[a], round[b] = round[b], round[a]
		out = append(out, twice, swapped)
	}
	return out
}

// everyGolf goes through golfs of all kinds.
func everyGolf(check func(x golf, d *dice)) {
	d := dice(16)
	for n := int64(2); n <= 25; n++ {
		for _, g := range sizesOf(n) {
			for _, k := range (list{0, 1, 2, 5, 12}) {
				check(d.golf(n, g, k), &d)
			}
		}
	}
	for _, x := range slices.Concat(fullGolfs(), socialGolfs()) {
		check(x, &d)
		check(d.mixedGolf(x), &d)
		if len(x.Rounds) > 0 {
			for _, near := range nearlySocial(x, &d) {
				check(near, &d)
			}
		}
	}
	for _, c := range toldGolfs {
		check(c.x, &d)
	}
}

// All functions of golfs answer by the words of the document.
func TestAllGolfs(t *testing.T) {
	kinds := map[string]int{}
	everyGolf(func(x golf, d *dice) {
		social, full := socialAsTold(x), fullAsTold(x)
		for kind, is := range map[string]bool{"full": full, "only social": social && !full, "not social": !social, "all met": !social && leastMet(x) > 0} {
			if is {
				kinds[kind]++
			}
		}
		if !golfAsTold(x) {
			t.Fatalf("%v is no golf", x)
		}
		checkResults(t, isGolf(x), true)
		checkResults(t, golfMeetings(x), meetingsAsTold(x), 0)
		checkResults(t, isSocial(x), social, 0)
		checkResults(t, isFull(x), full, 0)
		for i, round := range x.Rounds {
			if i < 3 || i == len(x.Rounds)-1 {
				checkRound(t, x, int64(i), round)
			}
		}
		for a := range x.Players {
			checkResults(t, notMet(x, a), leftAsTold(x, a), 0)
		}
		checkNext(t, x)
	})
	for kind, least := range map[string]int{"full": 60, "only social": 200, "not social": 200, "all met": 50} {
		if kinds[kind] < least {
			t.Errorf("golfs: %v", kinds)
		}
	}
}

// checkRound fails if the tidy round of a round is not right, or one of its groups.
func checkRound(t *testing.T, x golf, i int64, round list) {
	t.Helper()
	tidy := tidyAsTold(x.Size, round)
	if !isTidy(x.Size, tidy) {
		t.Errorf("%v is not tidy", tidy)
	}
	checkResults(t, tidyRound(x, i), tidy, 0)
	for a := range x.Players {
		checkResults(t, groupOf(x, i, a), groupAsTold(x.Size, round, a), 0)
	}
}

// Guarantee: meetings are mutual and as many as groups tell.
func TestMutualMeetings(t *testing.T) {
	everyGolf(func(x golf, d *dice) {
		table, code := impl.GolfMeetings(x)
		if code != impl.ErrNone || int64(len(table)) != x.Players {
			t.Fatalf("GolfMeetings(%v) = %v, %d", x, table, code)
		}
		for a, row := range table {
			var sum, left int64
			for b, times := range row {
				if times != table[b][a] {
					t.Errorf("%d and %d of %v do not meet each other", a, b, x)
				}
				sum += times
				if times == 0 && a != b {
					left++
				}
			}
			if row[a] != 0 || sum != (x.Size-1)*int64(len(x.Rounds)) {
				t.Errorf("GolfMeetings(%v) has the row %v for %d", x, row, a)
			}
			if others, code := impl.NotMet(x, int64(a)); int64(len(others)) != left || code != impl.ErrNone {
				t.Errorf("NotMet(%v, %d) = %v, %d", x, a, others, code)
			}
		}
	})
}

// Promise 8: social golfs have at most as many rounds as their bound, and golfs with more are not social.
func TestPromise8Bounds(t *testing.T) {
	atBound := 0
	everyGolf(func(x golf, d *dice) {
		social, code := impl.IsSocial(x)
		bound, other := impl.GolfBound(x.Players, x.Size)
		if code != impl.ErrNone || other != impl.ErrNone {
			t.Fatalf("IsSocial and GolfBound of %v: codes %d and %d", x, code, other)
		}
		rounds := int64(len(x.Rounds))
		if social && rounds > bound {
			t.Errorf("%v is social, with the bound %d", x, bound)
		}
		if social && rounds == bound {
			atBound++
		}
		if full, _ := impl.IsFull(x); full && (rounds != bound || !social) {
			t.Errorf("%v is full, with the bound %d", x, bound)
		}
	})
	if atBound < 50 {
		t.Errorf("%d golfs have as many rounds as their bound", atBound)
	}
	d := dice(17)
	for n := int64(2); n <= 25; n++ {
		for _, g := range sizesOf(n) {
			for k := (n-1)/(g-1) + 1; k <= 12; k++ {
				checkResults(t, isSocial(d.golf(n, g, k)), false, 0)
			}
		}
	}
}

// Promise 8: grids are full, and so are those with their players and rounds in another order.
func TestPromise8Grids(t *testing.T) {
	d := dice(18)
	for _, k := range (list{2, 3, 5}) {
		x, code := impl.GridOf(k)
		checkResults(t, gridOf(k), gridAsTold(k), 0)
		if code != impl.ErrNone || !golfAsTold(x) || !fullAsTold(x) {
			t.Fatalf("GridOf(%d) = %v, %d", k, x, code)
		}
		checkResults(t, isGolf(x), true)
		checkResults(t, golfBound(x.Players, x.Size), int64(len(x.Rounds)), 0)
		for i, round := range x.Rounds {
			checkResults(t, tidyRound(x, int64(i)), round, 0)
		}
		for range 4 {
			checkResults(t, isSocial(x), true, 0)
			checkResults(t, isFull(x), true, 0)
			for a := range x.Players {
				checkResults(t, notMet(x, a), list{}, 0)
			}
			part := golfing(x.Players, x.Size, x.Rounds[1:]...)
			checkResults(t, isSocial(part), true, 0)
			checkResults(t, isFull(part), false, 0)
			x = d.mixedGolf(x)
		}
	}
}

// Next rounds of few players by all lists of them, in order.
func TestNextOfFew(t *testing.T) {
	d := dice(19)
	for n := int64(2); n <= 7; n++ {
		for _, g := range sizesOf(n) {
			for x := golfing(n, g); ; {
				var want list
				for round := range arrangements(n, n) {
					if isTidy(g, round) && socialAsTold(golfing(n, g, append(slices.Clone(x.Rounds), round)...)) {
						want = slices.Clone(round)
						break
					}
				}
				checkOr(t, nextGolfRound(x), want, want != nil, impl.ErrNotFound)
				if want == nil {
					break
				}
				x = d.mixedGolf(golfing(n, g, append(slices.Clone(x.Rounds), want)...))
			}
		}
	}
}

// Next rounds of golfs that are made from each other, until there is none: the golfs are mixed, so that
// they come to different ends.
func TestNextOfMany(t *testing.T) {
	d, ends := dice(20), map[string]int{}
	for n := int64(8); n <= 16; n++ {
		for _, g := range sizesOf(n) {
			for range 12 {
				x := golfing(n, g)
				for len(x.Rounds) < 12 {
					checkNext(t, x)
					next := nextAsTold(x)
					if next == nil {
						break
					}
					x = d.mixedGolf(golfing(n, g, append(slices.Clone(x.Rounds), next)...))
				}
				checkNext(t, x)
				switch {
				case len(x.Rounds) == 12:
					ends["twelve rounds"]++
				case fullAsTold(x):
					ends["full"]++
				default:
					ends["no way"]++
				}
			}
		}
	}
	for _, end := range []string{"twelve rounds", "full", "no way"} {
		if ends[end] < 5 {
			t.Errorf("golfs end with: %v", ends)
		}
	}
}

// firstAsTold returns the first list of k rounds behind the given ones, of those that are open, and
// whether there is one.
func firstAsTold(g int64, open lists, begin lists, k int64) (lists, bool) {
	if k == 0 {
		return begin, true
	}
	for _, round := range open {
		var apart lists
		for _, other := range open {
			n := int64(len(round))
			if socialAsTold(golfing(n, g, round, other)) {
				apart = append(apart, other)
			}
		}
		if rounds, found := firstAsTold(g, apart, append(slices.Clone(begin), round), k-1); found {
			return rounds, true
		}
	}
	return nil, false
}

// First golfs by all lists of tidy rounds, in order, and what all promises tell of them.
func TestFirstGolfOfAll(t *testing.T) {
	for n := int64(2); n <= 8; n++ {
		for _, g := range sizesOf(n) {
			for k := range int64(8) {
				rounds, found := firstAsTold(g, allTidy(n, g), nil, k)
				checkOr(t, firstGolf(n, g, k), golfing(n, g, rounds...), found, impl.ErrNotFound)
			}
		}
	}
	for k := range int64(5) {
		rounds, found := firstAsTold(3, allTidy(9, 3), nil, k)
		checkOr(t, firstGolf(9, 3, k), golfing(9, 3, rounds...), found, impl.ErrNotFound)
	}
}

// Promise 8: first golfs are social, tidy, and not longer than their bound.
func TestPromise8FirstGolfs(t *testing.T) {
	for n := int64(2); n <= 9; n++ {
		for _, g := range sizesOf(n) {
			bound := (n - 1) / (g - 1)
			for k := range int64(8) {
				x, code := impl.FirstGolf(n, g, k)
				if k > bound {
					checkCode(t, firstGolf(n, g, k), impl.ErrNotFound)
				}
				if code != impl.ErrNone {
					continue
				}
				if x.Players != n || x.Size != g || int64(len(x.Rounds)) != k || !golfAsTold(x) || !socialAsTold(x) {
					t.Errorf("FirstGolf(%d, %d, %d) = %v", n, g, k, x)
				}
				checkResults(t, isGolf(x), true)
				checkResults(t, isSocial(x), true, 0)
				for _, round := range x.Rounds {
					if !isTidy(g, round) {
						t.Errorf("FirstGolf(%d, %d, %d) has the round %v", n, g, k, round)
					}
				}
			}
		}
	}
}
