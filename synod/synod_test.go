package synod_test

import (
	"math"
	"slices"
	"testing"

	"strawloft/api"
	"strawloft/mix"
	"strawloft/synod"
)

// allVoters is the set of all sixteen voters.
const allVoters = 1<<16 - 1

// turn is an operation and the answer to it.
type turn struct {
	op  api.VoteOp
	ans api.VoteAns
}

func prepare(ballot int, to uint16, val int) api.VoteOp {
	return api.VoteOp{Kind: api.Prepare, Ballot: ballot, To: to, Val: val}
}

// accept is an operation with a value, which it must not use.
func accept(ballot int, to uint16) api.VoteOp {
	return api.VoteOp{Kind: api.Accept, Ballot: ballot, To: to, Val: -777}
}

func did(set uint16, val int) api.VoteAns {
	return api.VoteAns{Did: set, Val: val}
}

func no(err api.Errno) api.VoteAns {
	return api.VoteAns{Err: err}
}

// count is how many voters a set has.
func count(set uint16) int {
	n := 0
	for voter := range 16 {
		if set>>voter&1 == 1 {
			n++
		}
	}
	return n
}

// fact is something that a voter did: it promised a ballot or accepted it. Of a
// promise it says which ballot the voter had accepted last.
type fact struct {
	isPromise           bool
	voter, ballot, last int
}

// record is all that has happened so far: which ballots were prepared, with the
// value of the first time, which ones are fixed, and what the voters did.
type record struct {
	voters   int
	prepared map[int]int
	fixed    map[int]bool
	facts    []fact
}

// promise is the ballot of the last thing that a voter did.
func (r *record) promise(voter int) int {
	for _, f := range slices.Backward(r.facts) {
		if f.voter == voter {
			return f.ballot
		}
	}
	return 0
}

// last is the ballot that a voter accepted last.
func (r *record) last(voter int) int {
	for _, f := range slices.Backward(r.facts) {
		if f.voter == voter && !f.isPromise {
			return f.ballot
		}
	}
	return 0
}

// who is the set of the voters that ever promised or ever accepted a ballot.
func (r *record) who(ballot int, promised bool) uint16 {
	var set uint16
	for _, f := range r.facts {
		if f.ballot == ballot && f.isPromise == promised {
			set |= 1 << f.voter
		}
	}
	return set
}

// value is that of the highest ballot that any voter had accepted last as it
// promised this ballot, or else that of the first time it was prepared.
func (r *record) value(ballot int) int {
	highest := 0
	for _, f := range r.facts {
		if f.ballot == ballot && f.isPromise {
			highest = max(highest, f.last)
		}
	}
	if highest > 0 {
		return r.value(highest)
	}
	return r.prepared[ballot]
}

func (r *record) isMajority(set uint16) bool {
	return count(set) > r.voters-count(set)
}

func (r *record) prepare(op api.VoteOp) api.VoteAns {
	if r.fixed[op.Ballot] {
		return no(api.ErrHeld)
	}
	if _, ok := r.prepared[op.Ballot]; !ok {
		r.prepared[op.Ballot] = op.Val
	}
	var set uint16
	for voter := range r.voters {
		if op.To>>voter&1 == 1 && r.promise(voter) < op.Ballot {
			r.facts = append(r.facts, fact{true, voter, op.Ballot, r.last(voter)})
			set |= 1 << voter
		}
	}
	return did(set, r.value(op.Ballot))
}

func (r *record) accept(op api.VoteOp) api.VoteAns {
	if !r.isMajority(r.who(op.Ballot, true)) {
		return no(api.ErrShort)
	}
	r.fixed[op.Ballot] = true
	var set uint16
	for voter := range r.voters {
		if op.To>>voter&1 == 1 && r.promise(voter) <= op.Ballot {
			r.facts = append(r.facts, fact{false, voter, op.Ballot, 0})
			set |= 1 << voter
		}
	}
	return did(set, r.value(op.Ballot))
}

// slowPlay is Play by the chapter's words, from the record of all that happened.
func slowPlay(voters int, ops []api.VoteOp) ([]api.VoteAns, []int) {
	r := &record{voters: voters, prepared: map[int]int{}, fixed: map[int]bool{}}
	var answers []api.VoteAns
	for _, op := range ops {
		ans := no(api.ErrKind)
		if op.Ballot <= 0 || op.Ballot > 400 {
			ans = no(api.ErrRange)
		} else if op.Kind == api.Prepare {
			ans = r.prepare(op)
		} else if op.Kind == api.Accept {
			ans = r.accept(op)
		}
		answers = append(answers, ans)
	}
	var values []int
	for ballot := range 401 {
		if r.isMajority(r.who(ballot, false)) {
			values = append(values, r.value(ballot))
		}
	}
	return answers, values
}

// split is the operations and the answers of turns.
func split(turns []turn) ([]api.VoteOp, []api.VoteAns) {
	var ops []api.VoteOp
	var answers []api.VoteAns
	for _, t := range turns {
		ops, answers = append(ops, t.op), append(answers, t.ans)
	}
	return ops, answers
}

// firstDifference is the index of the first answer that differs, or -1.
func firstDifference(a, b []api.VoteAns) int {
	for i := range min(len(a), len(b)) {
		if a[i] != b[i] {
			return i
		}
	}
	if len(a) != len(b) {
		return min(len(a), len(b))
	}
	return -1
}

func checkPlay(t *testing.T, voters int, ops []api.VoteOp, answers []api.VoteAns, values []int) {
	t.Helper()
	got, chosen, err := synod.Play(voters, ops)
	if at := firstDifference(got, answers); at >= 0 || err != api.OK {
		t.Fatalf("Play(%d, %v): answers %v, %v; want %v (they differ at %d)", voters, ops, got, err, answers, at)
	}
	if !slices.Equal(chosen, values) {
		t.Fatalf("Play(%d, %v): chosen %v; want %v", voters, ops, chosen, values)
	}
}

func checkNoPlay(t *testing.T, voters int, ops []api.VoteOp) {
	t.Helper()
	answers, chosen, err := synod.Play(voters, ops)
	if len(answers) > 0 || len(chosen) > 0 || err != api.ErrRange {
		t.Fatalf("Play(%d, %d operations): %v, %v, %v; want nothing and ErrRange", voters, len(ops), answers, chosen, err)
	}
}

func checkTurns(t *testing.T, voters int, turns []turn, values []int) {
	t.Helper()
	ops, answers := split(turns)
	checkPlay(t, voters, ops, answers, values)
}

// majority is the first voters that are more than half of all, but only just.
func majority(voters int) uint16 {
	return 1<<(voters/2+1) - 1
}

// sparse is a few values that an operation's value may have.
var sparse = []int{0, 1, -1, 7, 8, math.MinInt, math.MaxInt}

// someOps is n operations that are alike in nothing, of ballots up to a highest
// one; one of several of them is wrong, if wrong is above 0.
func someOps(n, highest, wrong, seed int) []api.VoteOp {
	var ops []api.VoteOp
	for i := range n {
		draw := mix.Two(uint64(seed), uint64(i))
		op := api.VoteOp{Kind: int(draw%5)/3 + 1, To: uint16(draw >> 8), Val: int(draw>>24)%100 - 9}
		op.Ballot = int(draw>>33)%highest + 1
		if draw>>31&1 == 1 {
			// Ballots that rise now and then, so that some are promised and accepted.
			op.Ballot = min(highest, i*highest/n+1)
		}
		if draw>>30&1 == 1 {
			op.To |= uint16(draw >> 48)
		}
		if wrong > 0 && int(draw>>40)%wrong == 0 {
			op.Kind = int(draw>>50) % 6
			op.Ballot = []int{0, -1, 401, math.MinInt, math.MaxInt, op.Ballot}[draw>>58%6]
		}
		ops = append(ops, op)
	}
	return ops
}

// Promise N1: runs whose answers and values were computed apart from the program.
func TestRuns(t *testing.T) {
	checkTurns(t, 5, []turn{
		{prepare(1, 23, 90), did(23, 90)},
		{prepare(1, 29, 40), did(8, 90)},
		{accept(1, 31), did(31, 90)},
		{prepare(3, 5, 87), did(5, 90)},
		{prepare(3, 31, -5), did(26, 90)},
		{accept(4, 29), no(api.ErrShort)},
		{prepare(1, 31, 56), no(api.ErrHeld)},
		{accept(3, 23), did(23, 90)},
		{prepare(3, 31, 4), no(api.ErrHeld)},
		{prepare(1, 4, 64), no(api.ErrHeld)},
		{prepare(2, 18, 9), did(0, 9)},
		{prepare(2, 31, 60), did(0, 9)},
		{accept(2, 15), no(api.ErrShort)},
		{prepare(1, 15, -1), no(api.ErrHeld)},
	}, []int{90, 90})
	checkTurns(t, 4, []turn{
		{prepare(2, 15, 78), did(15, 78)},
		{accept(4, 14), no(api.ErrShort)},
		{accept(2, 14), did(14, 78)},
		{accept(3, 15), no(api.ErrShort)},
		{prepare(4, 13, 38), did(13, 78)},
		{accept(5, 7), no(api.ErrShort)},
		{prepare(1, 11, 68), did(0, 68)},
		{prepare(1, 11, 70), did(0, 68)},
		{prepare(1, 13, 87), did(0, 68)},
		{prepare(5, 14, 11), did(14, 78)},
		{accept(5, 15), did(15, 78)},
		{accept(3, 7), no(api.ErrShort)},
		{prepare(5, 15, 48), no(api.ErrHeld)},
		{accept(4, 7), did(0, 78)},
	}, []int{78, 78})
	checkTurns(t, 7, []turn{
		{accept(3, 90), no(api.ErrShort)},
		{prepare(4, 127, 71), did(127, 71)},
		{prepare(3, 32, 93), did(0, 93)},
		{accept(4, 101), did(101, 71)},
		{prepare(5, 43, 54), did(43, 71)},
		{accept(3, 61), no(api.ErrShort)},
		{prepare(6, 123, 4), did(123, 71)},
		{accept(1, 127), no(api.ErrShort)},
		{prepare(3, 127, 47), did(0, 93)},
		{accept(6, 47), did(47, 71)},
		{prepare(4, 109, 5), no(api.ErrHeld)},
		{accept(5, 95), did(0, 71)},
	}, []int{71, 71})
	checkTurns(t, 16, []turn{
		{prepare(2, 62855, 37), did(62855, 37)},
		{accept(2, 64511), did(64511, 37)},
		{accept(2, 64509), did(64509, 37)},
		{prepare(1, 65215, 35), did(0, 35)},
		{prepare(3, 63333, 34), did(63333, 37)},
		{accept(1, 64222), no(api.ErrShort)},
		{prepare(2, 57309, 2), no(api.ErrHeld)},
		{accept(3, 46591), did(46591, 37)},
		{prepare(3, 28542, 20), no(api.ErrHeld)},
		{prepare(1, 32765, 86), did(0, 35)},
	}, []int{37, 37})
}

// Promise N1: without operations there are no answers and no values.
func TestNoOps(t *testing.T) {
	for voters := 1; voters <= 16; voters++ {
		checkPlay(t, voters, nil, nil, nil)
		checkPlay(t, voters, []api.VoteOp{}, nil, nil)
	}
}

// Promise N1: a wrong number of voters is ErrRange, whatever the operations.
func TestWrongVoters(t *testing.T) {
	ops := []api.VoteOp{prepare(1, 3, 7), accept(1, 3)}
	for _, voters := range []int{0, -1, -2, -16, math.MinInt, math.MinInt + 1, 17, 18, 32, 64, 400, 1<<8 + 3, 1<<16 + 3, 1<<32 + 3, math.MaxInt} {
		checkNoPlay(t, voters, nil)
		checkNoPlay(t, voters, ops)
		checkNoPlay(t, voters, []api.VoteOp{{Kind: 9}})
		checkNoPlay(t, voters, make([]api.VoteOp, 401))
	}
	for voters := 1; voters <= 16; voters++ {
		answers, _, err := synod.Play(voters, ops)
		if len(answers) != 2 || err != api.OK {
			t.Fatalf("Play(%d, %v): %v, %v; want two answers", voters, ops, answers, err)
		}
	}
}

// Promise N1: up to MaxOps operations are performed, and more are ErrRange, even
// if all of them are wrong.
func TestManyOps(t *testing.T) {
	for voters := 1; voters <= 16; voters++ {
		for _, n := range []int{399, 400} {
			ops := make([]api.VoteOp, n)
			answers := slices.Repeat([]api.VoteAns{no(api.ErrRange)}, n)
			checkPlay(t, voters, ops, answers, nil)
			for i := range ops {
				ops[i] = prepare(i+1, allVoters, i)
				answers[i] = did(1<<voters-1, i)
			}
			checkPlay(t, voters, ops, answers, nil)
		}
		for _, n := range []int{401, 402, 800, 1 << 16, 1<<16 + 5} {
			checkNoPlay(t, voters, make([]api.VoteOp, n))
			checkNoPlay(t, voters, slices.Repeat([]api.VoteOp{prepare(1, 1, 1)}, n))
		}
	}
}

// wrongBallots is ballots that no operation may have.
func wrongBallots() []int {
	return []int{0, -1, -2, -400, math.MinInt, math.MinInt + 1, 401, 402, 1 << 16, 1<<16 + 1, 1<<32 + 1, 1<<40 + 1, math.MaxInt - 1, math.MaxInt}
}

// wrongKinds is kinds that no operation may have.
func wrongKinds() []int {
	return []int{0, 3, 4, -1, -2, 257, 258, 1<<16 + 1, 1<<32 + 1, 1<<32 + 2, math.MinInt, math.MinInt + 1, math.MaxInt}
}

// Promise N1: a wrong ballot is ErrRange, whatever the kind, and a wrong kind of
// a right ballot is ErrKind, whether the ballot is unknown, prepared or fixed.
func TestWrongOps(t *testing.T) {
	for _, kind := range append(wrongKinds(), api.Prepare, api.Accept) {
		for _, ballot := range wrongBallots() {
			checkTurns(t, 3, []turn{{api.VoteOp{Kind: kind, Ballot: ballot, To: 7, Val: 5}, no(api.ErrRange)}}, nil)
		}
	}
	for _, kind := range wrongKinds() {
		for _, ballot := range []int{1, 2, 399, 400} {
			wrong := turn{api.VoteOp{Kind: kind, Ballot: ballot, To: 7, Val: 5}, no(api.ErrKind)}
			checkTurns(t, 3, []turn{
				wrong, {accept(ballot, 7), no(api.ErrShort)}, wrong, {prepare(ballot, 3, 6), did(3, 6)}, wrong,
				{accept(ballot, 1), did(1, 6)}, wrong, {prepare(ballot, 7, 5), no(api.ErrHeld)}, wrong, {accept(ballot, 6), did(6, 6)}, wrong,
			}, []int{6})
		}
	}
}

// Promise N1: ballots from 1 to MaxOps can be prepared, accepted and chosen.
func TestEachBallot(t *testing.T) {
	for ballot := 1; ballot <= 400; ballot++ {
		for voters := 1; voters <= 16; voters++ {
			all := uint16(1<<voters - 1)
			checkTurns(t, voters, []turn{
				{prepare(ballot, allVoters, ballot-7), did(all, ballot-7)},
				{accept(ballot, allVoters), did(all, ballot-7)},
			}, []int{ballot - 7})
		}
	}
}

// Promises N1 to N3: an operation with an error changes nothing, wherever it is.
func TestErrorsChangeNothing(t *testing.T) {
	for seed := range 200 {
		voters := seed%16 + 1
		ops := someOps(40, 6, 5, seed)
		answers, values, _ := synod.Play(voters, ops)
		var rightOps []api.VoteOp
		var rightAnswers []api.VoteAns
		for i, ans := range answers {
			if ans.Err == api.OK {
				rightOps, rightAnswers = append(rightOps, ops[i]), append(rightAnswers, ans)
			}
		}
		checkPlay(t, voters, rightOps, rightAnswers, values)
	}
}

// Promise N1: a value is chosen only if more than half of all voters accepted it.
func TestMajorities(t *testing.T) {
	for voters := 1; voters <= 16; voters++ {
		all := uint16(1<<voters - 1)
		for n := range voters + 1 {
			for shift := range voters - n + 1 {
				set := uint16(1<<n-1) << shift
				var values []int
				if n > voters/2 {
					values = []int{7}
				}
				checkTurns(t, voters, []turn{{prepare(5, all, 7), did(all, 7)}, {accept(5, set), did(set, 7)}}, values)
			}
		}
	}
}

// Promise N1: a voter accepts a ballot at any time, and more than once, but it is
// one voter; those of several times are a majority together.
func TestAcceptedAtWhicheverTimes(t *testing.T) {
	checkTurns(t, 5, []turn{
		{prepare(1, 31, 7), did(31, 7)},
		{accept(1, 1), did(1, 7)},
		{accept(1, 1), did(1, 7)},
		{accept(1, 1), did(1, 7)},
		{accept(1, 5), did(5, 7)},
		{accept(1, 4), did(4, 7)},
	}, nil)
	checkTurns(t, 5, []turn{
		{prepare(1, 31, 7), did(31, 7)},
		{accept(1, 1), did(1, 7)},
		{accept(1, 16), did(16, 7)},
		{accept(1, 4), did(4, 7)},
	}, []int{7})
	// Voter 0 has accepted ballot 2 in the meantime; it did accept ballot 1 as well.
	checkTurns(t, 3, []turn{
		{prepare(1, 3, 7), did(3, 7)},
		{accept(1, 1), did(1, 7)},
		{prepare(2, 3, 8), did(3, 7)},
		{accept(2, 3), did(3, 7)},
		{accept(1, 7), did(4, 7)},
	}, []int{7, 7})
	// Voters of different ballots are no majority of either, with the same value too.
	checkTurns(t, 3, []turn{
		{prepare(1, 3, 7), did(3, 7)},
		{accept(1, 1), did(1, 7)},
		{prepare(2, 6, 7), did(6, 7)},
		{accept(2, 2), did(2, 7)},
	}, nil)
}

// Promise N1: each ballot whose value was chosen has its value among the chosen
// ones, even if all of them are.
func TestEachChosenBallot(t *testing.T) {
	for voters := 1; voters <= 16; voters++ {
		most := majority(voters)
		for _, val := range sparse {
			var turns []turn
			for ballot := 1; ballot <= 200; ballot++ {
				turns = append(turns, turn{prepare(2*ballot-1, most, val^(ballot-1)), did(most, val)}, turn{accept(2*ballot-1, most), did(most, val)})
			}
			checkTurns(t, voters, turns, slices.Repeat([]int{val}, 200))
			// From the highest ballot down only the first one is chosen.
			turns = []turn{{prepare(400, most, val), did(most, val)}, {accept(400, most), did(most, val)}}
			for ballot := 399; ballot > 201; ballot-- {
				turns = append(turns, turn{prepare(ballot, most, ballot), did(0, ballot)}, turn{accept(ballot, most), no(api.ErrShort)})
			}
			checkTurns(t, voters, turns, []int{val})
		}
	}
}

// eachRun calls a function with each list of n operations of the given ones,
// whose values are different. The list is the same memory each time.
func eachRun(n int, from []api.VoteOp, use func([]api.VoteOp)) {
	ops := make([]api.VoteOp, n)
	var fill func(i int)
	fill = func(i int) {
		if i == n {
			use(ops)
			return
		}
		for _, op := range from {
			op.Val = 10*i + 1
			ops[i] = op
			fill(i + 1)
		}
	}
	fill(0)
}

// smallOps is all operations of both kinds, of a few ballots and voters.
func smallOps(voters, ballots int) []api.VoteOp {
	var ops []api.VoteOp
	for ballot := 1; ballot <= ballots; ballot++ {
		for to := range 1 << voters {
			ops = append(ops, prepare(ballot, uint16(to), 0), accept(ballot, uint16(to)))
		}
	}
	return ops
}

// Promises N1 to N3: all short runs of few voters and ballots.
func TestShortRuns(t *testing.T) {
	for _, c := range []struct{ voters, ballots, n int }{{1, 2, 5}, {1, 3, 4}, {2, 2, 4}, {2, 3, 3}, {3, 1, 4}, {3, 2, 3}} {
		eachRun(c.n, smallOps(c.voters, c.ballots), func(ops []api.VoteOp) {
			answers, values := slowPlay(c.voters, ops)
			checkPlay(t, c.voters, ops, answers, values)
		})
	}
}

// Promises N1 to N3: longer runs, with and without wrong operations.
func TestLongRuns(t *testing.T) {
	chosen, adopted, several := 0, 0, 0
	for seed := range 1500 {
		voters := seed%16 + 1
		n := []int{5, 10, 20, 40, 80}[seed%5]
		ops := someOps(n, []int{2, 3, 5, 9, 20, 400}[seed%6], []int{0, 4, 9}[seed%3], seed)
		answers, values := slowPlay(voters, ops)
		checkPlay(t, voters, ops, answers, values)
		if len(values) > 0 {
			chosen++
		}
		if len(values) > 1 {
			several++
		}
		for i, ans := range answers {
			if ops[i].Kind == api.Prepare && ans.Did > 0 && ans.Val != ops[i].Val {
				adopted++
			}
		}
	}
	if chosen < 200 || several < 100 || adopted < 1000 {
		t.Fatalf("the runs show too little: %d choose, %d choose twice, %d promises have another value", chosen, several, adopted)
	}
}

// Promises N1 to N3: as long runs as there may be.
func TestLongestRuns(t *testing.T) {
	for seed := range 48 {
		voters := seed%16 + 1
		ops := someOps(400, []int{4, 40, 400}[seed/16], 30, seed+9000)
		answers, values := slowPlay(voters, ops)
		checkPlay(t, voters, ops, answers, values)
	}
}

// Promises N1 to N3: all chosen values are the same one, which is the value of
// some operation; every voter that accepts a higher ballot accepts that value.
func TestOneValue(t *testing.T) {
	for seed := range 2000 {
		voters := seed%16 + 1
		ops := someOps(60, []int{5, 12, 30}[seed%3], 0, seed+5000)
		answers, values, _ := synod.Play(voters, ops)
		if len(values) == 0 {
			continue
		}
		val := values[0]
		if slices.ContainsFunc(values, func(v int) bool { return v != val }) {
			t.Fatalf("Play(%d, %v): chosen %v, which differ", voters, ops, values)
		}
		if !slices.ContainsFunc(ops, func(op api.VoteOp) bool { return op.Kind == api.Prepare && op.Val == val }) {
			t.Fatalf("Play(%d, %v): chosen %v, which nobody wanted", voters, ops, values)
		}
		lowest := lowestChosen(voters, ops, answers)
		for i, ans := range answers {
			if ops[i].Kind == api.Accept && ans.Err == api.OK && ops[i].Ballot > lowest && ans.Val != val {
				t.Fatalf("Play(%d, %v): answer %d is %v, though %d is chosen", voters, ops, i, ans, val)
			}
		}
	}
}

// lowestChosen is the lowest ballot that a majority accepted, by the answers.
func lowestChosen(voters int, ops []api.VoteOp, answers []api.VoteAns) int {
	accepted := map[int]uint16{}
	lowest := 401
	for i, op := range ops {
		if op.Kind == api.Accept {
			accepted[op.Ballot] |= answers[i].Did
			if 2*count(accepted[op.Ballot]) > voters {
				lowest = min(lowest, op.Ballot)
			}
		}
	}
	return lowest
}

// Promise N1: the operations are performed in order: those that follow do not
// change an answer, and what was chosen stays chosen.
func TestBeginnings(t *testing.T) {
	for seed := range 60 {
		voters := seed%16 + 1
		ops := someOps(50, 8, 8, seed+700)
		answers, values, _ := synod.Play(voters, ops)
		before := 0
		for n := range len(ops) + 1 {
			got, chosen, err := synod.Play(voters, ops[:n])
			if firstDifference(got, answers[:n]) >= 0 || err != api.OK {
				t.Fatalf("Play(%d, %v): answers %v, %v; want %v", voters, ops[:n], got, err, answers[:n])
			}
			if len(chosen) < before || len(chosen) > len(values) {
				t.Fatalf("Play(%d, %v): chosen %v; before it were %d, in the end %v", voters, ops[:n], chosen, before, values)
			}
			before = len(chosen)
		}
	}
}

// Promises N1 to N3: with the voters the other way round all is the same, but
// for the sets of voters.
func TestOtherWayRound(t *testing.T) {
	for seed := range 300 {
		voters := seed%16 + 1
		turned := func(set uint16) uint16 {
			var other uint16
			for k := range voters {
				other |= set >> k & 1 << (voters - 1 - k)
			}
			return other
		}
		ops := someOps(40, 6, 0, seed+300)
		answers, values, _ := synod.Play(voters, ops)
		for i := range ops {
			ops[i].To = turned(ops[i].To)
			answers[i].Did = turned(answers[i].Did)
		}
		checkPlay(t, voters, ops, answers, values)
	}
}

// Promises AA1 and AA2: a call changes neither its operations nor their spare
// capacity, does not read the latter, and gives the same results again.
func TestArguments(t *testing.T) {
	for seed := range 100 {
		voters := seed%16 + 1
		ops := someOps(60, 6, 9, seed+50)
		kept := slices.Clone(ops)
		answers, values := slowPlay(voters, ops[:40])
		for range 2 {
			checkPlay(t, voters, ops[:40], answers, values)
		}
		if !slices.Equal(ops, kept) {
			t.Fatalf("Play(%d, %v): changed the operations to %v", voters, kept, ops)
		}
	}
	long := slices.Repeat([]api.VoteOp{prepare(1, 1, 1)}, 401)
	kept := slices.Clone(long)
	checkNoPlay(t, 1, long)
	if !slices.Equal(long, kept) {
		t.Fatal("a call with too many operations changed them")
	}
}

// Promise AA2: the results are memory of their own, with their spare capacity.
func TestResults(t *testing.T) {
	for seed := range 100 {
		voters := seed%16 + 1
		ops := someOps(40, 6, 9, seed+50)
		answers, values := slowPlay(voters, ops)
		got, chosen, _ := synod.Play(voters, ops)
		again, chosenAgain, _ := synod.Play(voters, ops)
		got, chosen = got[:cap(got)], chosen[:cap(chosen)]
		for i := range got {
			got[i] = api.VoteAns{Err: 99, Did: 99, Val: 99}
		}
		for i := range chosen {
			chosen[i] = 99
		}
		if firstDifference(again, answers) >= 0 || !slices.Equal(chosenAgain, values) {
			t.Fatalf("Play(%d, %v): two results share memory", voters, ops)
		}
		checkPlay(t, voters, ops, answers, values)
	}
}
