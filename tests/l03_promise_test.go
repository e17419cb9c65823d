package tests

import (
	"slices"
	"testing"

	"loop.example/g01379/impl"
)

// moduli are all moduli of starters.
var moduli = list{3, 5, 7, 9, 11, 13}

// allPairings returns all ways to pair the given numbers, the lesser ones first.
func allPairings(numbers list) []lists {
	if len(numbers) == 0 {
		return []lists{{}}
	}
	var out []lists
	for i := 1; i < len(numbers); i++ {
		rest := slices.Delete(slices.Clone(numbers), i, i+1)[1:]
		for _, others := range allPairings(rest) {
			out = append(out, append(lists{{numbers[0], numbers[i]}}, others...))
		}
	}
	return out
}

// rests returns the numbers 1 to m - 1.
func rests(m int64) list {
	var out list
	for a := int64(1); a < m; a++ {
		out = append(out, a)
	}
	return out
}

// isEachOnce reports whether a list has each of the numbers 1 to m - 1 once, and nothing else.
func isEachOnce(m int64, numbers list) bool {
	return slices.Equal(slices.Sorted(slices.Values(numbers)), rests(m))
}

// starterAsTold tells by the words of the document whether pairs are a starter modulo m.
func starterAsTold(m int64, pairs lists) bool {
	var numbers, differences list
	for i, p := range pairs {
		if p[0] >= p[1] || i > 0 && p[0] <= pairs[i-1][0] {
			return false
		}
		numbers = append(numbers, p...)
		differences = append(differences, p[1]-p[0], p[0]-p[1]+m)
	}
	return isEachOnce(m, numbers) && isEachOnce(m, differences)
}

// startersAsTold returns all starters modulo m, in lexicographic order, number by number.
func startersAsTold(m int64) []lists {
	all := slices.DeleteFunc(allPairings(rests(m)), func(pairs lists) bool { return !starterAsTold(m, pairs) })
	slices.SortFunc(all, func(x lists, y lists) int { return slices.Compare(slices.Concat(x...), slices.Concat(y...)) })
	return all
}

// everyStarter runs a check on all starters of all moduli.
func everyStarter(check func(m int64, pairs lists)) {
	for _, m := range moduli {
		for _, pairs := range startersAsTold(m) {
			check(m, pairs)
		}
	}
}

// codeAsTold tells which code functions return for pairs alone.
func codeAsTold(m int64, pairs lists) int64 {
	for _, p := range pairs {
		if p[0] < 1 || p[0] >= m || p[1] < 1 || p[1] >= m || p[0] == p[1] {
			return impl.ErrRange
		}
	}
	if !starterAsTold(m, pairs) {
		return impl.ErrInvalid
	}
	return impl.ErrNone
}

// listsOfPairs returns all lists of so many pairs of numbers from least to greatest.
func listsOfPairs(count int, least int64, greatest int64) []lists {
	if count == 0 {
		return []lists{{}}
	}
	var out []lists
	for _, shorter := range listsOfPairs(count-1, least, greatest) {
		for x := least; x <= greatest; x++ {
			for y := least; y <= greatest; y++ {
				out = append(out, append(slices.Clone(shorter), list{x, y}))
			}
		}
	}
	return out
}

// Of all short lists of pairs only the starters are taken for starters, and all others get their code.
func TestStartersAmongAllLists(t *testing.T) {
	check := func(m int64, all []lists) {
		for _, pairs := range all {
			want := codeAsTold(m, pairs)
			if got := impl.IsStarter(m, pairs); got != (want == impl.ErrNone) {
				t.Fatalf("IsStarter(%d, %v) = %v", m, pairs, got)
			}
			if _, code := impl.SumsOf(m, pairs); code != want {
				t.Fatalf("SumsOf(%d, %v): code %d, want %d", m, pairs, code, want)
			}
		}
	}
	for count := range 3 {
		check(3, listsOfPairs(count, -1, 4))
		check(5, listsOfPairs(count, -1, 6))
		check(7, listsOfPairs(count, -1, 8))
	}
	check(5, listsOfPairs(3, 1, 4))
	check(7, listsOfPairs(3, 1, 6))
	for _, m := range moduli {
		check(m, allPairings(rests(m)))
	}
}

// sumsAsTold, strongAsTold and skewAsTold are what the document tells of a starter.
func sumsAsTold(m int64, pairs lists) list {
	var sums list
	for _, p := range pairs {
		sums = append(sums, (p[0]+p[1])%m)
	}
	return sums
}

func strongAsTold(m int64, pairs lists) bool {
	times := map[int64]int{}
	for _, sum := range sumsAsTold(m, pairs) {
		times[sum]++
	}
	return times[0] == 0 && len(times) == len(pairs)
}

func skewAsTold(m int64, pairs lists) bool {
	sums := sumsAsTold(m, pairs)
	for _, x := range sums {
		for _, y := range sums {
			if (x+y)%m == 0 {
				return false
			}
		}
	}
	return strongAsTold(m, pairs)
}

func TestSumsOfAllStarters(t *testing.T) {
	everyStarter(func(m int64, pairs lists) {
		checkResults(t, sumsOf(m, pairs), sumsAsTold(m, pairs), 0)
		checkResults(t, isStrong(m, pairs), strongAsTold(m, pairs), 0)
		checkResults(t, isSkew(m, pairs), skewAsTold(m, pairs), 0)
	})
}

// Lists and counts of starters are those of the pairings that are starters.
func TestAllStarters(t *testing.T) {
	for _, m := range moduli {
		var strong []lists
		skew := 0
		all := startersAsTold(m)
		for _, pairs := range all {
			if strongAsTold(m, pairs) {
				strong = append(strong, pairs)
			}
			if skewAsTold(m, pairs) {
				skew++
			}
		}
		checkResults(t, countStarters(m), len(all), len(strong), skew, 0)
		if m <= 9 {
			checkResults(t, starterList(m), all, 0)
		}
		if len(strong) > 0 {
			checkResults(t, firstStrong(m), strong[0], 0)
		} else {
			checkCode(t, firstStrong(m), impl.ErrNotFound)
		}
		patterned, code := impl.PatternedStarter(m)
		if code != impl.ErrNone || !starterAsTold(m, patterned) || slices.Max(sumsAsTold(m, patterned)) != 0 {
			t.Errorf("PatternedStarter(%d) = %v, %d", m, patterned, code)
		}
	}
}

// adderAsTold tells by the words of the document whether numbers in 1..m - 1, as many as pairs, are an
// adder for a starter.
func adderAsTold(m int64, pairs lists, adder list) bool {
	var made list
	for i, p := range pairs {
		made = append(made, (p[0]+adder[i])%m, (p[1]+adder[i])%m)
	}
	if !isEachOnce(m, made) {
		return false
	}
	for i, a := range adder {
		if slices.Contains(adder[:i], a) {
			return false
		}
	}
	return true
}

// firstListAsTold returns the first of the lists that begin with the given numbers, and have other
// ones in 1..m - 1 behind them, that is an adder, in lexicographic order, and nil if there is none.
func firstListAsTold(m int64, pairs lists, begin list) list {
	if len(begin) == len(pairs) {
		if adderAsTold(m, pairs, begin) {
			return slices.Clone(begin)
		}
		return nil
	}
	for a := int64(1); a < m; a++ {
		if !slices.Contains(begin, a) {
			if found := firstListAsTold(m, pairs, append(begin, a)); found != nil {
				return found
			}
		}
	}
	return nil
}

func TestAllAdders(t *testing.T) {
	for _, m := range (list{3, 5, 7, 9}) {
		for _, pairs := range startersAsTold(m) {
			var first list
			adder := slices.Repeat(list{1}, len(pairs))
			for at := 0; at >= 0; {
				right, code := impl.IsAdder(m, pairs, adder)
				if right != adderAsTold(m, pairs, adder) || code != impl.ErrNone {
					t.Fatalf("IsAdder(%d, %v, %v) = %v, %d", m, pairs, adder, right, code)
				}
				if right && first == nil {
					first = slices.Clone(adder)
				}
				for at = len(adder) - 1; at >= 0 && adder[at] == m-1; at-- {
					adder[at] = 1
				}
				if at >= 0 {
					adder[at]++
				}
			}
			checkFirstAdder(t, m, pairs, first)
		}
	}
}

// checkFirstAdder fails if FirstAdder returns another list, or no ErrNotFound if there is none.
func checkFirstAdder(t *testing.T, m int64, pairs lists, want list) {
	t.Helper()
	if want == nil {
		checkCode(t, firstAdder(m, pairs), impl.ErrNotFound)
	} else {
		checkResults(t, firstAdder(m, pairs), want, 0)
	}
}

func TestFirstAdders(t *testing.T) {
	for _, m := range (list{11, 13}) {
		for i, pairs := range startersAsTold(m) {
			if m == 11 || i%9 == 0 {
				checkFirstAdder(t, m, pairs, firstListAsTold(m, pairs, make(list, 0, m)))
			}
		}
	}
}

// Some lists are adders, and lists that differ from an adder by one number, or by two that are
// exchanged, mostly are none.
func TestNearlyAdders(t *testing.T) {
	d := dice(3)
	everyStarter(func(m int64, pairs lists) {
		adder, code := impl.FirstAdder(m, pairs)
		if code != impl.ErrNone {
			return
		}
		for range 20 {
			near := slices.Clone(adder)
			i, k := d.below(int64(len(near))), d.below(int64(len(near)))
			near[i], near[k] = near[k], near[i]
			if d.below(2) == 0 {
				near[i] = 1 + d.below(m-1)
			}
			checkResults(t, isAdder(m, pairs, near), adderAsTold(m, pairs, near), 0)
		}
	})
}

// Promise 3: multiples of starters are starters.
func TestPromise3Multiples(t *testing.T) {
	everyStarter(func(m int64, pairs lists) {
		for x := int64(-1); x <= 2*m; x++ {
			if x < 1 || x >= m || shareDivisor(m, x) {
				checkCode(t, multipleOf(m, pairs, x), impl.ErrRange)
				continue
			}
			multiple, code := impl.MultipleOf(m, pairs, x)
			if code != impl.ErrNone || !impl.IsStarter(m, multiple) || !starterAsTold(m, multiple) {
				t.Errorf("MultipleOf(%d, %v, %d) = %v, %d", m, pairs, x, multiple, code)
			}
			for _, p := range pairs {
				y, z := p[0]*x%m, p[1]*x%m
				if !slices.ContainsFunc(multiple, func(q list) bool { return q[0] == min(y, z) && q[1] == max(y, z) }) {
					t.Errorf("MultipleOf(%d, %v, %d) = %v without %d, %d", m, pairs, x, multiple, y, z)
				}
			}
			for back := int64(1); back < m; back++ {
				if back*x%m == 1 {
					checkResults(t, multipleOf(m, multiple, back), pairs, 0)
				}
			}
		}
		checkResults(t, multipleOf(m, pairs, 1), pairs, 0)
	})
}

// shareDivisor reports whether a number greater than 1 divides both.
func shareDivisor(a int64, b int64) bool {
	for x := int64(2); x <= a; x++ {
		if a%x == 0 && b%x == 0 {
			return true
		}
	}
	return false
}

// Promise 3, and the chapter's guarantee: strong starters have adders, and are orthogonal to their
// multiples by -1.
func TestPromise3Adders(t *testing.T) {
	strong := 0
	everyStarter(func(m int64, pairs lists) {
		if !strongAsTold(m, pairs) {
			checkCode(t, strongAdder(m, pairs), impl.ErrState)
			return
		}
		strong++
		adder, code := impl.StrongAdder(m, pairs)
		if code != impl.ErrNone || !adderAsTold(m, pairs, adder) {
			t.Errorf("StrongAdder(%d, %v) = %v, %d", m, pairs, adder, code)
		}
		for i, sum := range sumsAsTold(m, pairs) {
			if (sum+adder[i])%m != 0 {
				t.Errorf("StrongAdder(%d, %v) = %v", m, pairs, adder)
			}
		}
		checkResults(t, isAdder(m, pairs, adder), true, 0)
		first, code := impl.FirstAdder(m, pairs)
		if code != impl.ErrNone || slices.Compare(first, adder) > 0 {
			t.Errorf("FirstAdder(%d, %v) = %v, %d", m, pairs, first, code)
		}
		opposite, _ := impl.MultipleOf(m, pairs, m-1)
		checkResults(t, areOrthogonal(m, pairs, opposite), true, 0)
		checkResults(t, isStrong(m, opposite), true, 0)
	})
	if strong != 14 {
		t.Errorf("%d strong starters", strong)
	}
}

// orthogonalAsTold tells by the words of the document whether two starters modulo m are orthogonal.
func orthogonalAsTold(m int64, pairs lists, others lists) bool {
	seen := map[int64]bool{}
	for _, p := range pairs {
		for _, q := range others {
			for x := range m {
				y, z := (p[0]+x)%m, (p[1]+x)%m
				if y == q[0] && z == q[1] || y == q[1] && z == q[0] {
					if x == 0 || seen[x] {
						return false
					}
					seen[x] = true
				}
			}
		}
	}
	return len(seen) == len(pairs)
}

func TestOrthogonalStarters(t *testing.T) {
	for _, m := range moduli {
		all, times := startersAsTold(m), 0
		for i, pairs := range all {
			for k, others := range all {
				if m == 13 && (i+k)%3 > 0 {
					continue
				}
				want := orthogonalAsTold(m, pairs, others)
				if want {
					times++
				}
				if got, code := impl.AreOrthogonal(m, pairs, others); got != want || code != impl.ErrNone {
					t.Fatalf("AreOrthogonal(%d, %v, %v) = %v, %d", m, pairs, others, got, code)
				}
			}
		}
		if (times > 0) != (m > 5) {
			t.Errorf("%d orthogonal starters modulo %d", times, m)
		}
	}
}

// Promise 15: schedules of starters are round robins.
func TestPromise15(t *testing.T) {
	everyStarter(func(m int64, pairs lists) {
		s, code := impl.ScheduleOfStarter(m, pairs)
		if code != impl.ErrNone || s.Teams != m+1 || int64(len(s.Rounds)) != m || !impl.IsSchedule(s) {
			t.Fatalf("ScheduleOfStarter(%d, %v) = %v, %d", m, pairs, s, code)
		}
		checkResults(t, isRoundRobin(s), true, 0)
		for a := range m + 1 {
			for b := range a {
				checkMeeting(t, m, pairs, s, a, b)
			}
		}
	})
}

// checkMeeting fails if two teams do not meet just in the rounds that the document tells.
func checkMeeting(t *testing.T, m int64, pairs lists, s impl.Schedule, a int64, b int64) {
	t.Helper()
	var want list
	for r := range m {
		told := a == m && b == r
		for _, p := range pairs {
			x, y := (p[0]+r)%m, (p[1]+r)%m
			told = told || a == x && b == y || a == y && b == x
		}
		if told {
			want = append(want, r)
		}
	}
	got, code := impl.RoundsBetween(s, a, b)
	if !slices.Equal(got, want) || len(got) != 1 || code != impl.ErrNone {
		t.Errorf("ScheduleOfStarter(%d, %v): %d and %d meet in %v, want %v", m, pairs, a, b, got, want)
	}
}
