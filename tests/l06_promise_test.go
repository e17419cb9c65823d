package tests

import (
	"iter"
	"slices"
	"testing"

	"loop.example/g01379/impl"
)

// The kinds of the document, and partners.
const (
	bothKinds = iota
	firstKind
	secondKind
	asPartners
)

// relatedAsTold reports whether two players at different places of a table are related.
func relatedAsTold(kind int, place int, other int) bool {
	from, to := min(place, other), max(place, other)
	partners := from == 0 && to == 1 || from == 2 && to == 3
	first := from == 0 && to == 2 || from == 1 && to == 3
	return map[int]bool{asPartners: partners, firstKind: first, secondKind: !partners && !first, bothKinds: !partners}[kind]
}

// timesAsTold returns how often two players are related, by their places in the rounds.
func timesAsTold(e evening, kind int, x int64, y int64) int64 {
	var times int64
	for _, round := range e.Rounds {
		i, k := slices.Index(round, x), slices.Index(round, y)
		if x != y && i >= 0 && k >= 0 && i/4 == k/4 && relatedAsTold(kind, i%4, k%4) {
			times++
		}
	}
	return times
}

// tableAsTold returns how often each two players are related.
func tableAsTold(e evening, kind int) lists {
	table := blankTable(e.Players)
	for x := range e.Players {
		for y := range e.Players {
			table[x][y] = timesAsTold(e, kind, x, y)
		}
	}
	return table
}

// idleAsTold returns who sits out in a round.
func idleAsTold(e evening, i int64) list {
	return slices.DeleteFunc(fullRound(0, e.Players), func(x int64) bool { return slices.Contains(e.Rounds[i], x) })
}

// roundsAsTold reports whether e has the number of rounds of a whist evening of its players, and in each
// of them as many sit out.
func roundsAsTold(e evening) bool {
	rounds, out := map[int64]int64{0: e.Players - 1, 1: e.Players}[e.Players%4], e.Players%4
	if out > 1 || int64(len(e.Rounds)) != rounds {
		return false
	}
	for i := range rounds {
		if int64(len(idleAsTold(e, i))) != out {
			return false
		}
	}
	return true
}

// areAllAsTold reports whether each two different players are related so often.
func areAllAsTold(e evening, kind int, times int64) bool {
	for x := range e.Players {
		for y := range x {
			if timesAsTold(e, kind, x, y) != times {
				return false
			}
		}
	}
	return true
}

func whistAsTold(e evening) bool {
	return areAllAsTold(e, asPartners, 1) && areAllAsTold(e, bothKinds, 2) && roundsAsTold(e)
}

func tripleAsTold(e evening) bool { return whistAsTold(e) && areAllAsTold(e, firstKind, 1) }

// madeAsTold returns the evening made from a base round.
func madeAsTold(n int64, base list) evening {
	e, m := evening{Players: n}, map[int64]int64{0: n - 1, 1: n}[n%4]
	for i := range m {
		round := list{}
		for _, x := range base {
			if x == n-1 && n%4 == 0 {
				round = append(round, x)
			} else {
				round = append(round, (x+i)%m)
			}
		}
		e.Rounds = append(e.Rounds, round)
	}
	return e
}

// Base rounds of evenings that are whist, or nearly.
var (
	whistBases  = lists{{0, 1, 2, 4, 3, 6, 5, 7}, {0, 1, 2, 5, 3, 7, 8, 10, 4, 9, 6, 11}, {0, 1, 2, 6, 3, 9, 7, 15, 4, 14, 8, 11, 5, 13, 10, 12}}
	oddBases    = lists{{0, 1, 2, 4}, {0, 1, 2, 9, 3, 7, 10, 12, 5, 8, 6, 11}} // of 5 and 13 players
	tripleBases = lists{{3, 0, 1, 2}, {0, 1, 2, 4, 3, 6, 7, 5}, {0, 1, 2, 6, 3, 10, 7, 13, 4, 9, 11, 8, 5, 15, 14, 12}}
	// Each two are partners once, but not always opponents twice.
	wrongOpponents = map[int64]list{
		8: {0, 1, 2, 6, 3, 5, 4, 7}, 9: {0, 1, 2, 4, 3, 7, 5, 8}, 12: {0, 1, 2, 4, 3, 7, 5, 10, 6, 9, 8, 11},
		13: {0, 1, 2, 4, 3, 7, 5, 10, 6, 12, 8, 11}, 16: {0, 1, 2, 4, 3, 7, 5, 10, 6, 13, 8, 14, 9, 12, 11, 15},
	}
	// Each two are opponents twice, but not always partners once.
	wrongPartners = map[int64]list{
		9: {0, 1, 2, 4, 3, 5, 6, 7}, 12: {0, 1, 2, 4, 3, 5, 8, 10, 6, 9, 7, 11},
		13: {0, 1, 2, 4, 3, 5, 8, 9, 6, 10, 11, 12}, 16: {0, 1, 2, 3, 4, 5, 8, 11, 6, 9, 10, 14, 7, 15, 12, 13},
	}
)

// whistOfNine is a whist evening of 9 players, who are told by two digits of the base 3: in each round
// another two digits are added to theirs, each modulo 3.
func whistOfNine() evening {
	e := evening{Players: 9}
	for s := range int64(9) {
		round := list{}
		for _, x := range (list{3, 6, 2, 1, 4, 8, 5, 7}) {
			round = append(round, (x/3+s/3)%3*3+(x%3+s%3)%3)
		}
		e.Rounds = append(e.Rounds, round)
	}
	return e
}

// tripleEvenings are triple evenings of 4, 8 and 16 players.
func tripleEvenings() []evening {
	var out []evening
	for _, base := range tripleBases {
		out = append(out, madeAsTold(int64(len(base)), base))
	}
	return out
}

// whistEvenings are whist evenings of all numbers of players that can be, seven that are not triple
// first.
func whistEvenings() []evening {
	out := []evening{whistOfNine(), party(4, lists{{0, 1, 2, 3}, {0, 2, 1, 3}, {0, 3, 1, 2}})}
	for _, base := range whistBases {
		out = append(out, madeAsTold(int64(len(base)), base))
	}
	for _, base := range oddBases {
		out = append(out, madeAsTold(int64(len(base))+1, base))
	}
	return append(out, tripleEvenings()...)
}

// copyOfEvening returns an evening that shares no memory with e.
func copyOfEvening(e evening) evening { return party(e.Players, copyOfLists(e.Rounds)) }

// nearWhist returns evenings that are not whist, made from one that is.
func nearWhist(e evening) []evening {
	n, k := e.Players, len(e.Rounds)
	out := []evening{
		party(n, e.Rounds[1:]), party(n, e.Rounds[:k-1]), party(n, slices.Concat(lists{{}}, e.Rounds)), party(n, slices.Concat(e.Rounds, lists{{}})),
		party(n, slices.Concat(e.Rounds[1:], lists{{}})), party(n, slices.Concat(e.Rounds, lists{e.Rounds[0]})), party(n, slices.Concat(e.Rounds[1:], lists{e.Rounds[1]})),
	}
	for more := n + 1; more <= 16; more++ {
		out = append(out, party(more, e.Rounds))
	}
	for i, round := range e.Rounds {
		swapped, turned := copyOfEvening(e), copyOfEvening(e)
		swapped.Rounds[i][1], swapped.Rounds[i][2] = round[2], round[1]
		turned.Rounds[i][1], turned.Rounds[i][3] = round[3], round[1]
		out = append(out, swapped, turned)
		if len(round) > 4 { // the same tables in two rounds, and other opponents of the same partners
			split, other := copyOfEvening(e), copyOfEvening(e)
			split.Rounds[i] = split.Rounds[i][4:]
			split.Rounds = append(split.Rounds, round[:4])
			copy(other.Rounds[i][2:6], append(slices.Clone(round[4:6]), round[2:4]...))
			out = append(out, split, other)
		}
	}
	return out
}

// unfit returns evenings that have whist evenings' numbers of rounds and of players in each of them, but
// wrong partners or opponents.
func unfit() []evening {
	var out []evening
	for _, bases := range []map[int64]list{wrongOpponents, wrongPartners} {
		for n := int64(4); n <= 16; n++ {
			if base := bases[n]; base != nil {
				out = append(out, madeAsTold(n, base))
			}
		}
	}
	return out
}

// evening returns some evening of n players with k rounds.
func (d *dice) evening(n int64, k int64) evening {
	e := idle(n, int(k))
	for i := range e.Rounds {
		e.Rounds[i] = d.shuffled(n)[:4*d.below(n/4+1)]
		if i > 0 && d.below(5) == 0 {
			e.Rounds[i] = slices.Clone(e.Rounds[d.below(int64(i))])
		}
	}
	return e
}

// renumberedAsTold is an evening with p(x) for each x.
func renumberedEvening(e evening, p list) evening {
	out := copyOfEvening(e)
	for _, round := range out.Rounds {
		for k, x := range round {
			round[k] = p[x]
		}
	}
	return out
}

// everyEvening goes through evenings of all kinds.
func everyEvening(check func(e evening, d *dice)) {
	d := dice(9)
	for n := int64(4); n <= 16; n++ {
		for _, k := range (list{0, 1, 2, 3, n - 1, n, 19, 20}) {
			check(d.evening(n, k), &d)
		}
	}
	for _, e := range whistEvenings() {
		check(e, &d)
		for _, near := range nearWhist(e)[:min(20, len(nearWhist(e)))] {
			if len(near.Rounds) <= 20 {
				check(near, &d)
			}
		}
	}
	for _, e := range unfit() {
		check(e, &d)
	}
}

// All functions of evenings answer by the words of the document.
func TestAllEvenings(t *testing.T) {
	kinds := map[string]int{}
	everyEvening(func(e evening, d *dice) {
		whist, triple := whistAsTold(e), tripleAsTold(e)
		for kind, is := range map[string]bool{"whist": whist, "no whist": !whist, "triple": triple, "only whist": whist && !triple} {
			if is {
				kinds[kind]++
			}
		}
		checkResults(t, isEvening(e), true)
		checkResults(t, partnersOf(e), tableAsTold(e, asPartners), 0)
		for _, kind := range []int{bothKinds, firstKind, secondKind} {
			checkResults(t, opponentsIn(e, int64(kind)), tableAsTold(e, kind), 0)
		}
		for i := range int64(len(e.Rounds)) {
			checkResults(t, sittingOut(e, i), idleAsTold(e, i), 0)
		}
		checkResults(t, isWhist(e), whist, 0)
		checkResults(t, isTriple(e), triple, 0)
		p := d.shuffled(e.Players)
		checkResults(t, renumberPlayers(e, p), renumberedEvening(e, p), 0)
		checkPartnerSchedule(t, e)
	})
	if kinds["whist"] < 10 || kinds["no whist"] < 100 || kinds["triple"] < 3 || kinds["only whist"] < 7 {
		t.Errorf("evenings: %v", kinds)
	}
}

// checkPartnerSchedule fails if not just the partners of an evening meet in the rounds of its schedule.
func checkPartnerSchedule(t *testing.T, e evening) {
	t.Helper()
	if e.Players > 14 {
		checkCode(t, partnerSchedule(e), impl.ErrLimit)
		return
	}
	s, code := impl.PartnerSchedule(e)
	if code != impl.ErrNone || s.Teams != e.Players || len(s.Rounds) != len(e.Rounds) {
		t.Fatalf("PartnerSchedule(%v) = %v, %d", e, s, code)
	}
	checkResults(t, isSchedule(s), true)
	for i, round := range e.Rounds {
		alone := party(e.Players, lists{round})
		for x := range e.Players {
			for y := range e.Players {
				if met := s.Rounds[i][x] == y && x != y; met != (timesAsTold(alone, asPartners, x, y) == 1) {
					t.Errorf("PartnerSchedule(%v): %d and %d in the round %d", e, x, y, i)
				}
			}
		}
	}
	checkResults(t, meetingsOf(s), tableAsTold(e, asPartners), 0)
}

// Guarantee: partners and opponents are mutual, nobody is one of oneself, and the kinds of opponents
// make them all.
func TestMutualPartners(t *testing.T) {
	everyEvening(func(e evening, d *dice) {
		partners, code := impl.PartnersOf(e)
		both, other := impl.OpponentsIn(e, 0)
		first, _ := impl.OpponentsIn(e, 1)
		second, _ := impl.OpponentsIn(e, 2)
		if code != impl.ErrNone || other != impl.ErrNone {
			t.Fatalf("PartnersOf and OpponentsIn(%v): codes %d and %d", e, code, other)
		}
		for x := range e.Players {
			for y := range e.Players {
				if partners[x][y] != partners[y][x] || first[x][y] != first[y][x] || second[x][y] != second[y][x] || both[x][y] != first[x][y]+second[x][y] {
					t.Errorf("%d and %d of %v are not mutual", x, y, e)
				}
			}
			if partners[x][x] != 0 || both[x][x] != 0 {
				t.Errorf("%d of %v is its own partner or opponent", x, e)
			}
		}
	})
}

// Promise 6: whist evenings have round robins of partners.
func TestPromise6Robins(t *testing.T) {
	d := dice(10)
	for _, e := range whistEvenings() {
		for range 4 {
			if !whistAsTold(e) {
				t.Fatalf("%v is not whist", e)
			}
			checkResults(t, isWhist(e), true, 0)
			s, code := impl.PartnerSchedule(e)
			if e.Players > 14 {
				checkCode(t, partnerSchedule(e), impl.ErrLimit)
			} else if code != impl.ErrNone {
				t.Errorf("PartnerSchedule(%v): code %d", e, code)
			} else {
				checkResults(t, isRoundRobin(s), true, 0)
			}
			e = renumberedEvening(e, d.shuffled(e.Players))
			var mixed lists
			for _, i := range d.shuffled(int64(len(e.Rounds))) {
				mixed = append(mixed, e.Rounds[i])
			}
			e.Rounds = mixed
		}
	}
}

// Promise 6: an evening is whist only if it is in all its parts, however near to one it comes.
func TestPromise6NearWhist(t *testing.T) {
	for _, e := range whistEvenings() {
		for _, near := range nearWhist(e) {
			if len(near.Rounds) > 20 {
				checkCode(t, isWhist(near), impl.ErrInvalid)
				continue
			}
			if near.Players > 4 && whistAsTold(near) {
				t.Fatalf("%v is whist", near)
			}
			// Of four players all that partners are told of the opponents, so that others may be whist, too.
			checkResults(t, isWhist(near), whistAsTold(near), 0)
			checkResults(t, isTriple(near), tripleAsTold(near), 0)
		}
	}
	for _, e := range unfit() {
		if !roundsAsTold(e) || areAllAsTold(e, asPartners, 1) == areAllAsTold(e, bothKinds, 2) {
			t.Errorf("%v is wrong in another way", e)
		}
		checkResults(t, isWhist(e), false, 0)
		checkResults(t, isTriple(e), false, 0)
	}
}

// Evenings that are whist, but in which opponents are not those of the first kind once, and evenings in
// which they are, but which are not whist.
func TestTripleEvenings(t *testing.T) {
	for _, e := range tripleEvenings() {
		checkResults(t, isTriple(e), true, 0)
		for i := range e.Rounds {
			second := copyOfEvening(e)
			round := second.Rounds[i]
			round[2], round[3] = round[3], round[2]
			checkResults(t, isWhist(second), true, 0)
			checkResults(t, isTriple(second), false, 0)
			wrong := copyOfEvening(e)
			round = wrong.Rounds[i]
			round[1], round[3] = round[3], round[1]
			if !areAllAsTold(wrong, firstKind, 1) {
				t.Errorf("%v: other opponents of the first kind", wrong)
			}
			checkResults(t, isWhist(wrong), false, 0)
			checkResults(t, isTriple(wrong), false, 0)
		}
		checkResults(t, isTriple(party(e.Players, append(e.Rounds, list{}))), false, 0)
	}
	for _, e := range whistEvenings()[:7] {
		checkResults(t, isWhist(e), true, 0)
		checkResults(t, isTriple(e), false, 0)
	}
}

// arrangements goes through all lists of different numbers of 0 to n - 1 with this length, in
// lexicographic order.
func arrangements(n int64, length int64) iter.Seq[list] {
	return func(yield func(list) bool) { arrange(n, length, list{}, yield) }
}

func arrange(n int64, length int64, begin list, yield func(list) bool) bool {
	if int64(len(begin)) == length {
		return yield(begin)
	}
	for x := range n {
		if !slices.Contains(begin, x) && !arrange(n, length, append(begin, x), yield) {
			return false
		}
	}
	return true
}

// Promise 6: evenings are made from base rounds as told, and are whist if they are by the document.
func TestPromise6Bases(t *testing.T) {
	for n, want := range map[int64]int{4: 24, 5: 40} {
		found := 0
		for base := range arrangements(n, 4) {
			e := madeAsTold(n, base)
			checkResults(t, madeFrom(n, base), e, 0)
			checkResults(t, isEvening(e), true)
			checkResults(t, isWhist(e), whistAsTold(e), 0)
			checkResults(t, isTriple(e), tripleAsTold(e), 0)
			if whistAsTold(e) {
				found++
			}
		}
		if found != want {
			t.Errorf("%d base rounds of %d players make whist", found, n)
		}
	}
	d := dice(11)
	for _, n := range (list{8, 9, 12, 13, 16}) {
		for range 100 {
			base := d.shuffled(n)[:n-n%4]
			e := madeAsTold(n, base)
			checkResults(t, madeFrom(n, base), e, 0)
			checkResults(t, isEvening(e), true)
			checkResults(t, isWhist(e), whistAsTold(e), 0)
		}
	}
	for _, base := range slices.Concat(whistBases, tripleBases) {
		checkResults(t, madeFrom(int64(len(base)), base), madeAsTold(int64(len(base)), base), 0)
	}
	for _, base := range oddBases {
		checkResults(t, madeFrom(int64(len(base))+1, base), madeAsTold(int64(len(base))+1, base), 0)
	}
}

// Promise 6: evenings made from first base rounds are whist, and no base round before them makes one.
func TestPromise6FirstBases(t *testing.T) {
	for _, n := range (list{4, 5, 8, 9}) {
		var want list
		for base := range arrangements(n, n-n%4) {
			if !arePartnersAgain(n, base) && whistAsTold(madeAsTold(n, base)) {
				want = slices.Clone(base)
				break
			}
		}
		checkOr(t, firstBase(n), want, want != nil, impl.ErrNotFound)
		base, code := impl.FirstBase(n)
		if code != impl.ErrNone {
			continue
		}
		e, code := impl.MadeFrom(n, base)
		if code != impl.ErrNone || !whistAsTold(e) {
			t.Errorf("MadeFrom(%d, %v) = %v, %d", n, base, e, code)
		}
		checkResults(t, isWhist(e), true, 0)
		s, _ := impl.PartnerSchedule(e)
		checkResults(t, isRoundRobin(s), true, 0)
	}
}

// arePartnersAgain reports whether two players are partners in two rounds of the evening made from a base
// round: most base rounds are ruled out by that, and quickly.
func arePartnersAgain(n int64, base list) bool {
	var seen [9][9]bool
	for _, round := range madeAsTold(n, base).Rounds {
		for k := 0; k < len(round); k += 2 {
			x, y := min(round[k], round[k+1]), max(round[k], round[k+1])
			if seen[x][y] {
				return true
			}
			seen[x][y] = true
		}
	}
	return false
}

// Promise 13: renumbered evenings are whist if the evenings are, and are not if they are not.
func TestPromise13(t *testing.T) {
	d := dice(12)
	for _, e := range slices.Concat(whistEvenings(), unfit()) {
		whist, triple := whistAsTold(e), tripleAsTold(e)
		for range 8 {
			p := d.shuffled(e.Players)
			other, code := impl.RenumberPlayers(e, p)
			if code != impl.ErrNone {
				t.Fatalf("RenumberPlayers(%v, %v): code %d", e, p, code)
			}
			checkResults(t, renumberPlayers(e, p), renumberedEvening(e, p), 0)
			checkResults(t, isEvening(other), true)
			checkResults(t, isWhist(other), whist, 0)
			checkResults(t, isTriple(other), triple, 0)
			if whistAsTold(other) != whist {
				t.Errorf("RenumberPlayers(%v, %v) = %v", e, p, other)
			}
			checkResults(t, renumberPlayers(other, inverse(p)), e, 0)
		}
	}
	for p := range arrangements(4, 4) {
		e := madeAsTold(4, list{3, 0, 1, 2})
		checkResults(t, renumberPlayers(e, p), renumberedEvening(e, p), 0)
		checkResults(t, isTriple(renumberedEvening(e, p)), true, 0)
	}
}
