package impl

import (
	"iter"
	"strconv"
	"strings"
)

const (
	ErrNone = iota
	ErrInvalid
	ErrRange
	ErrLimit
	ErrNotFound
	ErrState
	ErrSyntax
)
const (
	MaxTeams  = 14
	MaxRounds = 40
)

// Round has for each team its opponent, or its own number if it is free, and 0 at all other places.
type Round [14]int64

// Schedule has rounds of the teams 0 to Teams - 1.
type Schedule struct {
	Teams  int64
	Rounds []Round
}

// IsRound reports whether r is a round of n teams, and n in 2..MaxTeams.
func IsRound(n int64, r Round) bool {
	if !isTeamCount(n) {
		return false
	}
	for a := range n {
		if !isBelow(r[a], n) {
			return false
		}
	}
	// The places of at least n go through unchanged, so that they are held against 0 here, too.
	back := r
	for a := range n {
		back[a] = r[r[a]]
	}
	return back == freeRound(n)
}

// IsSchedule reports whether s is a schedule.
func IsSchedule(s Schedule) bool {
	if !isTeamCount(s.Teams) || len(s.Rounds) > MaxRounds {
		return false
	}
	for r := range timesOfRounds(s.Rounds) {
		if !IsRound(s.Teams, r) {
			return false
		}
	}
	return true
}

// RoundOf returns the round of n teams in which the two different teams of each pair meet, and all
// other teams are free, for at most MaxTeams pairs, and ErrNone. Errors: ErrState if a team is in
// more than one pair.
func RoundOf(n int64, pairs [][]int64) (Round, int64) {
	if !isTeamCount(n) || !arePairs(n, pairs) {
		return Round{}, ErrRange
	}
	r := freeRound(n)
	for _, p := range pairs {
		a, b := p[0], p[1]
		if r[a] != a || r[b] != b {
			return Round{}, ErrState
		}
		r[a], r[b] = b, a
	}
	return r, ErrNone
}

// PairsOf returns the pairs of a round of n teams, as lists of two teams, in order, and ErrNone.
func PairsOf(n int64, r Round) ([][]int64, int64) {
	if !IsRound(n, r) {
		return nil, ErrRange
	}
	var pairs [][]int64
	for a, b := range pairsIn(n, r) {
		pairs = append(pairs, []int64{a, b})
	}
	return pairs, ErrNone
}

// AddRound returns s with a round of its teams behind its rounds, and ErrNone. Errors: ErrLimit if
// it has MaxRounds.
func AddRound(s Schedule, r Round) (Schedule, int64) {
	if !IsSchedule(s) {
		return Schedule{}, ErrInvalid
	}
	if !IsRound(s.Teams, r) {
		return Schedule{}, ErrRange
	}
	if len(s.Rounds) == MaxRounds {
		return Schedule{}, ErrLimit
	}
	return Schedule{s.Teams, joinRounds(s.Rounds, []Round{r})}, ErrNone
}

// DropRound returns s without the round i, and ErrNone.
func DropRound(s Schedule, i int64) (Schedule, int64) {
	if !IsSchedule(s) {
		return Schedule{}, ErrInvalid
	}
	if !hasRound(s, i) {
		return Schedule{}, ErrRange
	}
	return Schedule{s.Teams, joinRounds(s.Rounds[:i], s.Rounds[i+1:])}, ErrNone
}

// MeetingsOf returns n rows of n numbers: in how many rounds the teams of the row and of the column
// meet (0 for equal ones), and ErrNone.
func MeetingsOf(s Schedule) ([][]int64, int64) {
	if !IsSchedule(s) {
		return nil, ErrInvalid
	}
	return meetingTable(s), ErrNone
}

// RoundsBetween returns the rounds in which two different teams meet, ascending, and ErrNone.
func RoundsBetween(s Schedule, a int64, b int64) ([]int64, int64) {
	if !IsSchedule(s) {
		return nil, ErrInvalid
	}
	if !isBelow(a, s.Teams) || !isBelow(b, s.Teams) || a == b {
		return nil, ErrRange
	}
	var rounds []int64
	for i, r := range s.Rounds {
		if r[a] == b {
			rounds = append(rounds, int64(i))
		}
	}
	return rounds, ErrNone
}

// OpponentsOf returns, for each round, the opponent of a team, and -1 where it is free, and
// ErrNone.
func OpponentsOf(s Schedule, a int64) ([]int64, int64) {
	if !IsSchedule(s) {
		return nil, ErrInvalid
	}
	if !isBelow(a, s.Teams) {
		return nil, ErrRange
	}
	opponents := make([]int64, len(s.Rounds))
	for i, r := range s.Rounds {
		opponents[i] = r[a]
		if r[a] == a {
			opponents[i] = -1
		}
	}
	return opponents, ErrNone
}

// FreeTeams returns the teams that are free in the round i, ascending, and ErrNone.
func FreeTeams(s Schedule, i int64) ([]int64, int64) {
	if !IsSchedule(s) {
		return nil, ErrInvalid
	}
	if !hasRound(s, i) {
		return nil, ErrRange
	}
	var free []int64
	for a := range s.Teams {
		if s.Rounds[i][a] == a {
			free = append(free, a)
		}
	}
	return free, ErrNone
}

// IsRoundRobin reports whether s is a round robin, and returns ErrNone.
func IsRoundRobin(s Schedule) (bool, int64) {
	if !IsSchedule(s) {
		return false, ErrInvalid
	}
	if int64(len(s.Rounds)) != robinRounds(s.Teams) {
		return false, ErrNone
	}
	table := meetingTable(s)
	for a := range s.Teams {
		for b := range a {
			if table[a][b] != 1 {
				return false, ErrNone
			}
		}
	}
	return true, ErrNone
}

// CircleOf returns the circle of n, in 2..MaxTeams, and ErrNone.
//
// Example: that of 4 has the text "4:0-3,1-2;0-2,1-3;0-1,2-3".
func CircleOf(n int64) (Schedule, int64) {
	if !isTeamCount(n) {
		return Schedule{}, ErrRange
	}
	rounds := make([]Round, robinRounds(n))
	for i := range rounds {
		rounds[i] = circleRound(n, int64(i))
	}
	return Schedule{n, rounds}, ErrNone
}

// RenumberTeams returns s with its teams renumbered by p, and ErrNone.
func RenumberTeams(s Schedule, p []int64) (Schedule, int64) {
	if !IsSchedule(s) {
		return Schedule{}, ErrInvalid
	}
	if !isPermutation(p, s.Teams) {
		return Schedule{}, ErrRange
	}
	rounds := make([]Round, len(s.Rounds))
	for i, r := range s.Rounds {
		for a := range s.Teams {
			rounds[i][p[a]] = p[r[a]]
		}
	}
	return Schedule{s.Teams, rounds}, ErrNone
}

// ReorderRounds returns the schedule whose round i is the round q(i) of s, for a list q of the
// numbers of all rounds, each once, and ErrNone.
func ReorderRounds(s Schedule, q []int64) (Schedule, int64) {
	if !IsSchedule(s) {
		return Schedule{}, ErrInvalid
	}
	if !isPermutation(q, int64(len(s.Rounds))) {
		return Schedule{}, ErrRange
	}
	rounds := make([]Round, len(q))
	for i, k := range q {
		rounds[i] = s.Rounds[k]
	}
	return Schedule{s.Teams, rounds}, ErrNone
}

// JoinSchedules returns s with the rounds of t, of as many teams, behind its own, and ErrNone.
// Errors: ErrRange if they have not as many Teams; ErrLimit if there would be more than MaxRounds
// rounds.
func JoinSchedules(s Schedule, t Schedule) (Schedule, int64) {
	if !IsSchedule(s) || !IsSchedule(t) {
		return Schedule{}, ErrInvalid
	}
	if s.Teams != t.Teams {
		return Schedule{}, ErrRange
	}
	if len(s.Rounds)+len(t.Rounds) > MaxRounds {
		return Schedule{}, ErrLimit
	}
	return Schedule{s.Teams, joinRounds(s.Rounds, t.Rounds)}, ErrNone
}

// MissingPairs returns the pairs of teams that meet in no round, as lists of two teams, in
// lexicographic order, and ErrNone.
func MissingPairs(s Schedule) ([][]int64, int64) {
	if !IsSchedule(s) {
		return nil, ErrInvalid
	}
	table := meetingTable(s)
	var missing [][]int64
	for a := range s.Teams {
		for b := a + 1; b < s.Teams; b++ {
			if table[a][b] == 0 {
				missing = append(missing, []int64{a, b})
			}
		}
	}
	return missing, ErrNone
}

// ScheduleText returns the text of s, and ErrNone. Errors: ErrState if it has no rounds.
func ScheduleText(s Schedule) (string, int64) {
	if !IsSchedule(s) {
		return "", ErrInvalid
	}
	if len(s.Rounds) == 0 {
		return "", ErrState
	}
	parts := make([]string, len(s.Rounds))
	for i, r := range s.Rounds {
		parts[i] = roundText(s.Teams, r)
	}
	return strconv.FormatInt(s.Teams, 10) + ":" + strings.Join(parts, ";"), ErrNone
}

// ParseSchedule returns the schedule with a text, and ErrNone. Errors: ErrSyntax if there is none.
// (No other errors are returned.)
func ParseSchedule(text string) (Schedule, int64) {
	s := readSchedule(text)
	// Reading takes any text for that of a schedule: only if it is the schedule's own one, it was right.
	if own, code := ScheduleText(s); code != ErrNone || own != text {
		return Schedule{}, ErrSyntax
	}
	return s, ErrNone
}

// isTeamCount reports whether a schedule can have n teams.
func isTeamCount(n int64) bool { return 2 <= n && n <= MaxTeams }

// isBelow reports whether a is one of the numbers 0 to n - 1.
func isBelow(a int64, n int64) bool { return 0 <= a && a < n }

// hasRound reports whether i is the number of a round of s.
func hasRound(s Schedule, i int64) bool { return isBelow(i, int64(len(s.Rounds))) }

// robinRounds returns how many rounds a round robin of n teams has.
func robinRounds(n int64) int64 { return n - 1 + n%2 }

// freeRound returns the round of n teams in which all teams are free.
func freeRound(n int64) Round {
	var r Round
	for a := range n {
		r[a] = a
	}
	return r
}

// pairsIn ranges over the pairs of a round of n teams, in order.
func pairsIn(n int64, r Round) iter.Seq2[int64, int64] {
	return func(yield func(int64, int64) bool) {
		for a := range n {
			if a < r[a] && !yield(a, r[a]) {
				return
			}
		}
	}
}

// arePairs reports whether pairs are at most MaxTeams lists of two different ones of n teams.
func arePairs(n int64, pairs [][]int64) bool {
	if len(pairs) > MaxTeams {
		return false
	}
	for _, p := range pairs {
		if len(p) != 2 || !isBelow(p[0], n) || !isBelow(p[1], n) || p[0] == p[1] {
			return false
		}
	}
	return true
}

// isPermutation reports whether p has each of the numbers 0 to n - 1 once, and nothing else.
func isPermutation(p []int64, n int64) bool {
	if int64(len(p)) != n {
		return false
	}
	seen := make([]bool, n)
	for _, a := range p {
		if !isBelow(a, n) || seen[a] {
			return false
		}
		seen[a] = true
	}
	return true
}

// joinRounds returns a new list of the rounds of front, and of those of back behind them.
func joinRounds(front []Round, back []Round) []Round {
	rounds := make([]Round, 0, len(front)+len(back))
	rounds = append(rounds, front...)
	return append(rounds, back...)
}

// timesOfRounds returns how often each of the rounds is in the list.
func timesOfRounds(rounds []Round) map[Round]int64 {
	times := map[Round]int64{}
	for _, r := range rounds {
		times[r]++
	}
	return times
}

// meetingTable returns in how many rounds of a schedule each two teams meet.
func meetingTable(s Schedule) [][]int64 {
	table := make([][]int64, s.Teams)
	for a := range table {
		table[a] = make([]int64, s.Teams)
	}
	for r, times := range timesOfRounds(s.Rounds) {
		for a, b := range pairsIn(s.Teams, r) {
			table[a][b] += times
			table[b][a] += times
		}
	}
	return table
}

// circleRound returns the round i of the circle of n.
func circleRound(n int64, i int64) Round {
	var r Round
	m := robinRounds(n)
	for a := range m {
		r[a] = (2*i - a + m) % m
	}
	// The rule gives i itself as its opponent: for an even n it meets the team that the rule leaves out.
	if n%2 == 0 {
		r[i], r[n-1] = n-1, i
	}
	return r
}

// roundText returns what the text of a schedule of n teams has for a round.
func roundText(n int64, r Round) string {
	var parts []string
	for a, b := range pairsIn(n, r) {
		parts = append(parts, strconv.FormatInt(a, 10)+"-"+strconv.FormatInt(b, 10))
	}
	return strings.Join(parts, ",")
}

// readSchedule returns what a text tells, which need not be a schedule.
func readSchedule(text string) Schedule {
	head, body, _ := strings.Cut(text, ":")
	s := Schedule{Teams: readNumber(head)}
	// One part beyond the limit is enough to make no schedule of a long text.
	for _, part := range strings.SplitN(body, ";", MaxRounds+1) {
		s.Rounds = append(s.Rounds, readRound(s.Teams, part))
	}
	return s
}

// readRound returns what a part of a text tells of a round of n teams, which is none if it is wrong.
func readRound(n int64, part string) Round {
	var pairs [][]int64
	if part != "" {
		for _, word := range strings.SplitN(part, ",", MaxTeams+1) {
			first, second, _ := strings.Cut(word, "-")
			pairs = append(pairs, []int64{readNumber(first), readNumber(second)})
		}
	}
	r, _ := RoundOf(n, pairs)
	return r
}

// readNumber returns the number that a word is, and any number if it is none.
func readNumber(word string) int64 {
	number, _ := strconv.ParseInt(word, 10, 64)
	return number
}
