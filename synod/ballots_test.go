package synod_test

import (
	"testing"

	"strawloft/api"
)

// Promise N2: a ballot has the value of the first time it is prepared, even if
// no voter promises then, and each voter promises it once.
func TestFirstValue(t *testing.T) {
	for _, val := range sparse {
		for _, other := range sparse {
			checkTurns(t, 5, []turn{
				{prepare(4, 1, val), did(1, val)},
				{prepare(4, 3, other), did(2, val)},
				{prepare(4, 3, other), did(0, val)},
				{prepare(4, 31, other), did(28, val)},
				{prepare(4, 31, other), did(0, val)},
				{accept(4, 31), did(31, val)},
			}, []int{val})
			checkTurns(t, 3, []turn{
				{prepare(2, 0, val), did(0, val)},
				{prepare(2, 7, other), did(7, val)},
				{accept(2, 7), did(7, val)},
			}, []int{val})
			// All voters have promised a higher ballot.
			checkTurns(t, 3, []turn{
				{prepare(9, 7, other), did(7, other)},
				{prepare(2, 7, val), did(0, val)},
				{prepare(2, 7, other), did(0, val)},
				{prepare(8, 7, val), did(0, val)},
			}, nil)
		}
	}
}

// Promise N2: an operation with an error is not the first time that a ballot is
// prepared.
func TestFirstValueAfterErrors(t *testing.T) {
	checkTurns(t, 3, []turn{
		{api.VoteOp{Kind: 3, Ballot: 1, To: 7, Val: 5}, no(api.ErrKind)},
		{accept(1, 7), no(api.ErrShort)},
		{prepare(1, 7, 6), did(7, 6)},
		{accept(1, 7), did(7, 6)},
	}, []int{6})
}

// Promise N2: a voter promises a ballot that is higher than its promise, not one
// that is the same or lower.
func TestPromises(t *testing.T) {
	checkTurns(t, 4, []turn{
		{prepare(5, 3, 50), did(3, 50)},
		{prepare(4, 15, 40), did(12, 40)},
		{prepare(5, 6, 51), did(4, 50)},
		{prepare(6, 1, 60), did(1, 60)},
		{prepare(4, 15, 41), did(0, 40)},
		{prepare(5, 15, 52), did(8, 50)},
		{prepare(6, 15, 61), did(14, 60)},
		{prepare(400, 5, 70), did(5, 70)},
		{prepare(399, 15, 80), did(10, 80)},
	}, nil)
	for first := 1; first <= 12; first++ {
		for second := 1; second <= 12; second++ {
			var now uint16
			val := 1
			if second > first {
				now = 7
			}
			if second != first {
				val = 2
			}
			checkTurns(t, 3, []turn{{prepare(first, 7, 1), did(7, 1)}, {prepare(second, 7, 2), did(now, val)}}, nil)
		}
	}
}

// Promises N2 and N3: voters that do not exist are ignored: they neither promise
// nor accept, and are part of no majority.
func TestNonexistentVoters(t *testing.T) {
	for voters := 1; voters <= 16; voters++ {
		all := uint16(1<<voters - 1)
		checkTurns(t, voters, []turn{
			{prepare(1, ^all, 1), did(0, 1)},
			{accept(1, allVoters), no(api.ErrShort)},
			{prepare(1, allVoters, 2), did(all, 1)},
			{accept(1, ^all), did(0, 1)},
			{prepare(2, allVoters, 2), did(all, 2)},
			{accept(2, allVoters), did(all, 2)},
		}, []int{2})
		if voters > 2 {
			few := majority(voters) >> 1
			checkTurns(t, voters, []turn{
				{prepare(1, few|^all, 1), did(few, 1)},
				{accept(1, allVoters), no(api.ErrShort)},
				{prepare(2, all, 2), did(all, 2)},
				{accept(2, few|^all), did(few, 2)},
			}, onlyIf(2*count(few) > voters, 2))
		}
	}
}

// onlyIf is a list of a value, or an empty one.
func onlyIf(is bool, val int) []int {
	if is {
		return []int{val}
	}
	return nil
}

// Promise N2: a ballot that is fixed is not prepared again, even if no voter has
// accepted it; one that could not be accepted is.
func TestHeld(t *testing.T) {
	for _, to := range []uint16{0, 1, 3, 4, 7, 8, allVoters} {
		last := 8
		if to&4 > 0 {
			last = 7
		}
		checkTurns(t, 3, []turn{
			{prepare(1, 1, 7), did(1, 7)},
			{accept(1, to), no(api.ErrShort)},
			{prepare(1, 2, 8), did(2, 7)},
			{accept(1, 0), did(0, 7)},
			{prepare(1, to, 8), no(api.ErrHeld)},
			{prepare(1, 4, 8), no(api.ErrHeld)},
			{accept(1, to), did(to&7, 7)},
			{prepare(1, to, 8), no(api.ErrHeld)},
			{prepare(2, 4, 8), did(4, last)},
		}, onlyIf(count(to&7) > 1, 7))
	}
	// Voter 2 does not promise: what follows is the same as without the attempt.
	checkTurns(t, 3, []turn{
		{prepare(5, 3, 7), did(3, 7)},
		{accept(5, 8), did(0, 7)},
		{prepare(5, 4, 8), no(api.ErrHeld)},
		{prepare(4, 4, 9), did(4, 9)},
	}, nil)
}

// Promise N2: a ballot has the value of the highest ballot that one of its voters
// has accepted last, in whichever order they are processed.
func TestHighestAccepted(t *testing.T) {
	// Voter k accepts ballot k+1 alone, which has the value 10*(k+1): each ballot is
	// promised by the voters that have accepted nothing.
	alone := []turn{
		{prepare(1, 31, 10), did(31, 10)},
		{prepare(2, 30, 20), did(30, 20)},
		{accept(1, 1), did(1, 10)},
		{accept(2, 2), did(2, 20)},
		{prepare(3, 28, 30), did(28, 30)},
		{accept(3, 4), did(4, 30)},
	}
	for to, val := range []int{99, 10, 20, 20, 30, 30, 30, 30} {
		for _, more := range []uint16{0, 8, 16, 24} {
			set := uint16(to) | more
			last := turn{prepare(9, set, 99), did(set, val)}
			checkTurns(t, 5, append(alone[:6:6], last), nil)
		}
	}
	// The other way round: voter 4 has the lowest ballot, and voter 2 the highest.
	alone = []turn{
		{prepare(1, 31, 10), did(31, 10)},
		{prepare(2, 15, 20), did(15, 20)},
		{accept(1, 16), did(16, 10)},
		{accept(2, 8), did(8, 20)},
		{prepare(3, 7, 30), did(7, 30)},
		{accept(3, 4), did(4, 30)},
	}
	for to, val := range []int{99, 30, 20, 30, 10, 30, 20, 30} {
		set := uint16(to) << 2
		checkTurns(t, 5, append(alone[:6:6], turn{prepare(9, set, 99), did(set, val)}), nil)
	}
}

// Promise N2: the voters of all times that a ballot is prepared count: one that
// has accepted a higher ballot than all before it changes the value, another one
// does not, even if it promises first this time.
func TestHighestOfAllTimes(t *testing.T) {
	alone := []turn{
		{prepare(1, 31, 10), did(31, 10)},
		{prepare(2, 30, 20), did(30, 20)},
		{accept(1, 1), did(1, 10)},
		{accept(2, 2), did(2, 20)},
		{prepare(3, 28, 30), did(28, 30)},
		{accept(3, 4), did(4, 30)},
	}
	for _, c := range [][]turn{
		{{prepare(9, 24, 99), did(24, 99)}, {prepare(9, 1, 88), did(1, 10)}, {prepare(9, 2, 88), did(2, 20)}, {prepare(9, 4, 88), did(4, 30)}},
		{{prepare(9, 24, 99), did(24, 99)}, {prepare(9, 2, 88), did(2, 20)}, {prepare(9, 1, 88), did(1, 20)}, {prepare(9, 4, 88), did(4, 30)}},
		{{prepare(9, 4, 99), did(4, 30)}, {prepare(9, 3, 88), did(3, 30)}, {prepare(9, 24, 88), did(24, 30)}},
		{{prepare(9, 0, 99), did(0, 99)}, {prepare(9, 3, 88), did(3, 20)}, {prepare(9, 31, 88), did(28, 30)}},
		{{prepare(9, 2, 99), did(2, 20)}, {prepare(9, 25, 88), did(25, 20)}, {prepare(9, 25, 88), did(0, 20)}},
		// A ballot with a value that it took over gives it on.
		{{prepare(8, 3, 99), did(3, 20)}, {prepare(8, 24, 88), did(24, 20)}, {accept(8, 1), did(1, 20)}, {prepare(9, 5, 77), did(5, 20)}},
		{{prepare(8, 3, 99), did(3, 20)}, {prepare(8, 24, 88), did(24, 20)}, {accept(8, 1), did(1, 20)}, {prepare(9, 4, 77), did(4, 30)}, {prepare(9, 1, 77), did(1, 20)}},
	} {
		checkTurns(t, 5, append(alone[:6:6], c...), nil)
	}
}

// Promise N2: a voter that has promised counts as it was at the time of its
// promise, not as it is when another one promises.
func TestAtTheTimeOfThePromise(t *testing.T) {
	checkTurns(t, 5, []turn{
		{prepare(1, 31, 10), did(31, 10)},
		{accept(1, 16), did(16, 10)},
		{prepare(5, 1, 50), did(1, 50)},
		{prepare(6, 7, 60), did(7, 60)},
		{accept(6, 1), did(1, 60)},
		{prepare(5, 16, 51), did(16, 10)},
		{prepare(5, 8, 52), did(8, 10)},
		{accept(5, 31), did(24, 10)}, // voters 0, 3 and 4 have promised ballot 5
		{prepare(7, 8, 70), did(8, 10)},
		{prepare(7, 1, 71), did(1, 60)},
		{prepare(7, 16, 72), did(16, 60)},
	}, nil)
	// The value of a ballot is that of the promises, not of what its voters accept later.
	checkTurns(t, 3, []turn{
		{prepare(2, 1, 20), did(1, 20)},
		{prepare(3, 3, 30), did(3, 30)},
		{accept(3, 3), did(3, 30)},
		{prepare(2, 4, 21), did(4, 20)},
		{prepare(2, 7, 22), did(0, 20)},
		{accept(2, 7), did(4, 20)},
	}, []int{30})
}

// Promise N2: the promise of a voter that has accepted a ballot without promising
// it is that ballot.
func TestPromiseOfAccepted(t *testing.T) {
	checkTurns(t, 3, []turn{
		{prepare(5, 3, 50), did(3, 50)},
		{accept(5, 4), did(4, 50)},
		{prepare(4, 7, 40), did(0, 40)},
		{prepare(6, 4, 60), did(4, 50)},
		{prepare(6, 3, 61), did(3, 50)},
	}, nil)
}

// Promise N2: the last accepted ballot of a voter is the one that counts, with
// values of all kinds.
func TestLastAccepted(t *testing.T) {
	for _, val := range sparse {
		checkTurns(t, 3, []turn{
			{prepare(1, 3, val), did(3, val)},
			{accept(1, 1), did(1, val)},
			{prepare(2, 6, 44), did(6, 44)},
			{accept(2, 1), did(1, 44)},
			{prepare(3, 1, 55), did(1, 44)},
			{prepare(4, 6, 66), did(6, 66)},
			{prepare(4, 1, 66), did(1, 44)},
		}, nil)
		checkTurns(t, 1, []turn{
			{prepare(1, 1, val), did(1, val)},
			{accept(1, 1), did(1, val)},
			{prepare(400, 1, 55), did(1, val)},
			{accept(400, 0), did(0, val)},
		}, []int{val})
	}
}

// Promise N3: a ballot that was not prepared, or that only half of the voters or
// fewer have promised, is not accepted.
func TestShort(t *testing.T) {
	for voters := 1; voters <= 16; voters++ {
		all := uint16(1<<voters - 1)
		for n := range voters + 1 {
			for shift := range voters - n + 1 {
				set := uint16(1<<n-1) << shift
				second := no(api.ErrShort)
				var values []int
				if n > voters/2 {
					second, values = did(all, 7), []int{7}
				}
				checkTurns(t, voters, []turn{
					{accept(3, all), no(api.ErrShort)},
					{prepare(3, set, 7), did(set, 7)},
					{accept(3, all), second},
					{accept(2, all), no(api.ErrShort)},
					{accept(4, all), no(api.ErrShort)},
				}, values)
			}
		}
	}
}

// Promise N3: what is not accepted changes nothing: the voters promise lower
// ballots afterwards, and the ballot is prepared.
func TestShortChangesNothing(t *testing.T) {
	checkTurns(t, 4, []turn{
		{accept(9, 15), no(api.ErrShort)},
		{prepare(1, 3, 7), did(3, 7)},
		{accept(1, 15), no(api.ErrShort)},
		{prepare(1, 4, 8), did(4, 7)},
		{prepare(9, 15, 9), did(15, 9)},
	}, nil)
}

// Promise N3: the promises of all times make a majority together, even if their
// voters have promised higher ballots since; those then do not accept.
func TestPromisedAtWhicheverTimes(t *testing.T) {
	checkTurns(t, 5, []turn{
		{prepare(3, 1, 7), did(1, 7)},
		{accept(3, 31), no(api.ErrShort)},
		{prepare(3, 1, 7), did(0, 7)},
		{prepare(3, 1, 7), did(0, 7)},
		{accept(3, 31), no(api.ErrShort)},
		{prepare(3, 2, 8), did(2, 7)},
		{prepare(4, 3, 9), did(3, 9)},
		{accept(3, 31), no(api.ErrShort)},
		{prepare(3, 7, 8), did(4, 7)},
		{accept(3, 31), did(28, 7)},
		{accept(4, 31), no(api.ErrShort)},
	}, []int{7})
	checkTurns(t, 3, []turn{
		{prepare(1, 7, 7), did(7, 7)},
		{prepare(2, 7, 8), did(7, 8)},
		{accept(1, 7), did(0, 7)},
		{prepare(1, 7, 7), no(api.ErrHeld)},
		{accept(2, 5), did(5, 8)},
	}, []int{8})
}

// Promise N3: voters whose promise is at most the ballot accept it, whether or
// not they have promised it, and again; others do not.
func TestWhoAccepts(t *testing.T) {
	checkTurns(t, 5, []turn{
		{prepare(3, 7, 30), did(7, 30)},
		{prepare(2, 8, 20), did(8, 20)},
		{prepare(4, 1, 40), did(1, 40)},
		{accept(3, 31), did(30, 30)},
		{accept(3, 31), did(30, 30)},
		{accept(3, 18), did(18, 30)},
		{accept(3, 1), did(0, 30)},
		{accept(3, 0), did(0, 30)},
	}, []int{30})
	for first := 1; first <= 9; first++ {
		for second := 1; second <= 9; second++ {
			if first == second {
				continue
			}
			// Voters 0 and 1 promise the first ballot, voters 2 and 3 both of them, and
			// voter 4 the second one.
			promised := uint16(28)
			if second < first {
				promised = 16
			}
			turns := []turn{{prepare(first, 15, 1), did(15, 1)}, {prepare(second, 28, 2), did(promised, 2)}}
			if second > first {
				turns = append(turns, turn{accept(first, 31), did(3, 1)}, turn{accept(second, 31), did(31, 2)})
				checkTurns(t, 5, turns, []int{2})
			} else {
				turns = append(turns, turn{accept(second, 31), no(api.ErrShort)}, turn{accept(first, 31), did(31, 1)})
				checkTurns(t, 5, turns, []int{1})
			}
		}
	}
}

// Promise N3: the chapter's example, and the same with both voters.
func TestOfTwoVoters(t *testing.T) {
	checkTurns(t, 2, []turn{{prepare(1, 3, 7), did(3, 7)}, {accept(1, 1), did(1, 7)}}, nil)
	checkTurns(t, 2, []turn{{prepare(1, 3, 7), did(3, 7)}, {accept(1, 1), did(1, 7)}, {accept(1, 2), did(2, 7)}}, []int{7})
	checkTurns(t, 2, []turn{{prepare(1, 1, 7), did(1, 7)}, {accept(1, 3), no(api.ErrShort)}, {prepare(1, 2, 8), did(2, 7)}, {accept(1, 3), did(3, 7)}}, []int{7})
}

// Promise N3: the value of an operation that accepts is ignored.
func TestAcceptIgnoresValue(t *testing.T) {
	for _, val := range sparse {
		op := api.VoteOp{Kind: api.Accept, Ballot: 1, To: 7, Val: val}
		checkTurns(t, 3, []turn{{prepare(1, 7, 5), did(7, 5)}, {op, did(7, 5)}, {prepare(2, 7, 6), did(7, 5)}}, []int{5})
		checkTurns(t, 3, []turn{{op, no(api.ErrShort)}, {prepare(1, 7, 5), did(7, 5)}, {op, did(7, 5)}}, []int{5})
	}
}
