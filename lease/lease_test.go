package lease_test

import (
	"math"
	"slices"
	"testing"

	"strawloft/api"
	"strawloft/lease"
)

// The limits as the given package api and the chapter have them.
const (
	mostNodes = 16
	mostOps   = 400
	mostLong  = 1 << 20
	mostOff   = 1 << 20
	latest    = 1 << 40
)

// sparse is integers of any size, near the limits and far from them.
var sparse = []int{
	math.MinInt, math.MinInt + 1, -1 << 40, -1 << 32, -mostOff - 1, -mostOff, -17, -2, -1, 0, 1, 2, 3, 15, 16, 17,
	mostOff - 1, mostOff, mostOff + 1, 1 << 32, 1<<32 + 1, latest - 1, latest, latest + 1, 1 << 62, math.MaxInt - 1, math.MaxInt,
}

// turn is an operation and the answer to it.
type turn struct {
	op  api.LeaseOp
	ans api.LeaseAns
}

// The answers without an error: the node may act, or it may not.
var (
	may    = api.LeaseAns{May: true}
	mayNot = api.LeaseAns{}
)

// ask, give and see are operations with an N, which must not matter.
func ask(node int) api.LeaseOp  { return api.LeaseOp{Kind: api.LeaseAsk, Node: node, N: -777} }
func give(node int) api.LeaseOp { return api.LeaseOp{Kind: api.LeaseGive, Node: node, N: latest + 9} }
func see(node int) api.LeaseOp  { return api.LeaseOp{Kind: api.LeaseMay, Node: node, N: math.MinInt} }

func fast(node, n int) api.LeaseOp { return api.LeaseOp{Kind: api.LeaseFast, Node: node, N: n} }

// tick is an operation with a node that there never is, which must not matter.
func tick(n int) api.LeaseOp { return api.LeaseOp{Kind: api.LeaseTick, Node: -9, N: n} }

func no(err api.Errno) api.LeaseAns {
	return api.LeaseAns{Err: err}
}

// split is the operations and the answers of turns.
func split(turns []turn) ([]api.LeaseOp, []api.LeaseAns) {
	var ops []api.LeaseOp
	var answers []api.LeaseAns
	for _, t := range turns {
		ops, answers = append(ops, t.op), append(answers, t.ans)
	}
	return ops, answers
}

func checkPlay(t *testing.T, nodes, long, off int, ops []api.LeaseOp, want []api.LeaseAns) {
	t.Helper()
	got, err := lease.Play(nodes, long, off, ops)
	if err != api.OK || !slices.Equal(got, want) {
		at := 0
		for at < len(got) && at < len(want) && got[at] == want[at] {
			at++
		}
		t.Fatalf("Play(%d, %d, %d, %v) is %v, %d; want %v, OK (answer %d)", nodes, long, off, ops, got, err, want, at)
	}
}

// checkTurns checks turns that were written out, and that the slow version of
// Play has the same answers.
func checkTurns(t *testing.T, nodes, long, off int, turns ...turn) {
	t.Helper()
	ops, answers := split(turns)
	if slow := slowPlay(nodes, long, off, ops); !slices.Equal(slow, answers) {
		t.Fatalf("slowPlay(%d, %d, %d, %v) is %v, want %v", nodes, long, off, ops, slow, answers)
	}
	checkPlay(t, nodes, long, off, ops, answers)
}

func checkNoPlay(t *testing.T, nodes, long, off int, ops []api.LeaseOp) {
	t.Helper()
	if got, err := lease.Play(nodes, long, off, ops); len(got) > 0 || err != api.ErrRange {
		t.Fatalf("Play(%d, %d, %d, %d operations) is %v, %d; want none, ErrRange", nodes, long, off, len(ops), got, err)
	}
}

// checkArgs checks a call whose arguments are within their limits or not.
func checkArgs(t *testing.T, nodes, long, off, many int) {
	t.Helper()
	ops := slices.Repeat([]api.LeaseOp{tick(0)}, many)
	if nodes < 1 || nodes > 16 || long < 1 || long > 1<<20 || off < 0 || off > 1<<20 || many > 400 {
		checkNoPlay(t, nodes, long, off, ops)
	} else {
		checkPlay(t, nodes, long, off, ops, make([]api.LeaseAns, many))
	}
}

// Promises R1 and R2: runs written out, the chapter's example among them.
func TestPlay(t *testing.T) {
	checkTurns(t, 1, 1, 0)
	checkTurns(t, 2, 10, 1,
		turn{ask(0), may}, turn{ask(1), no(api.ErrHeld)},
		turn{tick(11), mayNot}, turn{ask(1), no(api.ErrHeld)},
		turn{tick(1), mayNot}, turn{ask(1), may}, turn{ask(0), no(api.ErrHeld)})
	checkTurns(t, 2, 10, 1,
		turn{ask(0), may},
		turn{tick(10), mayNot}, turn{see(0), mayNot},
		turn{fast(0, -1), may}, turn{tick(1), mayNot}, turn{see(0), mayNot},
		turn{tick(1), mayNot}, turn{ask(1), may}, turn{see(0), mayNot})
	checkTurns(t, 2, 10, 1,
		turn{ask(0), may}, turn{ask(1), no(api.ErrHeld)}, turn{tick(10), mayNot}, turn{see(0), mayNot},
		turn{fast(0, -1), may}, turn{tick(2), mayNot}, turn{ask(1), may}, turn{give(0), no(api.ErrNone)})
	checkTurns(t, 3, 4, 2,
		turn{see(2), mayNot}, turn{give(2), no(api.ErrNone)},
		turn{fast(2, 2), mayNot}, turn{ask(2), may}, turn{give(1), no(api.ErrNone)}, turn{see(2), may},
		turn{fast(2, 3), no(api.ErrRange)}, turn{see(2), may},
		turn{give(2), mayNot}, turn{ask(1), may}, turn{give(2), no(api.ErrNone)}, turn{see(1), may})
}

// Promise R1: there may be no operations at all.
func TestNoOps(t *testing.T) {
	for _, ops := range [][]api.LeaseOp{nil, {}, make([]api.LeaseOp, 0, 9)} {
		checkPlay(t, 1, 1, 0, ops, nil)
		checkPlay(t, 16, mostLong, mostOff, ops, nil)
		checkNoPlay(t, 0, 1, 0, ops)
	}
}

// Promise R1: each argument may be the only one that is too small or too large,
// and the limits are none of both.
func TestArgs(t *testing.T) {
	for n := -40; n <= 60; n++ {
		checkArgs(t, n, 10, 1, 1)
		checkArgs(t, 2, n, 1, 1)
		checkArgs(t, 2, 10, n, 1)
	}
	for _, n := range sparse {
		for _, many := range []int{0, 1, 400, 401} {
			checkArgs(t, n, 10, 1, many)
			checkArgs(t, 2, n, 1, many)
			checkArgs(t, 2, 10, n, many)
			checkArgs(t, n, n, n, many)
		}
	}
	for _, many := range []int{398, 399, 400, 401, 402, 800, 1 << 16, 1<<16 + 1} {
		checkArgs(t, 1, 1, 0, many)
		checkArgs(t, 16, mostLong, mostOff, many)
		checkArgs(t, 17, mostLong+1, -1, many)
	}
}

// Promise R1: there are as many nodes as the call says, numbered from 0. If there
// is no such node, nothing is done; this is seen before any error of R2.
func TestNodes(t *testing.T) {
	for nodes := 1; nodes <= mostNodes; nodes++ {
		for node := range nodes {
			checkTurns(t, nodes, 5, 1,
				turn{ask(node), may}, turn{see(node), may}, turn{fast(node, 1), may}, turn{fast(node, 2), no(api.ErrRange)},
				turn{give(node), mayNot}, turn{give(node), no(api.ErrNone)})
		}
		for _, node := range slices.Concat(sparse, []int{-nodes, -nodes - 1, nodes, nodes + 1, nodes + 1<<32, nodes - 1 + 1<<32}) {
			if node >= 0 && node < nodes {
				continue
			}
			none := no(api.ErrNone)
			checkTurns(t, nodes, 5, 1,
				turn{ask(node), none}, turn{see(node), none}, turn{ask(0), may},
				turn{ask(node), none}, turn{give(node), none}, turn{see(node), none},
				turn{fast(node, -1), none}, turn{fast(node, 2), none}, turn{see(0), may})
		}
	}
}

// Promise R1: a kind that is unknown is so whatever the other fields are, and
// nothing is done.
func TestKinds(t *testing.T) {
	for _, kind := range slices.Concat(sparse, []int{6, 7, 8, 1<<32 + 3, 1<<32 + 5, 1<<8 + 1}) {
		if kind >= 1 && kind <= 5 {
			continue
		}
		for _, node := range []int{0, 1, 2, -1, math.MinInt, math.MaxInt} {
			for _, n := range []int{0, 1, -1, 2, math.MinInt, math.MaxInt} {
				unknown := turn{api.LeaseOp{Kind: kind, Node: node, N: n}, no(api.ErrKind)}
				checkTurns(t, 2, 1, 1,
					unknown, turn{ask(0), may}, unknown, turn{see(0), may}, turn{ask(1), no(api.ErrHeld)},
					turn{tick(3), mayNot}, unknown, turn{ask(1), may}, unknown, turn{see(1), may})
			}
		}
	}
}

// Promise R1: N and Node do not matter where they are not used.
func TestIgnoredFields(t *testing.T) {
	for _, n := range sparse {
		anyN := func(kind int) api.LeaseOp { return api.LeaseOp{Kind: kind, Node: 1, N: n} }
		checkTurns(t, 2, 7, 3,
			turn{anyN(api.LeaseAsk), may}, turn{tick(6), mayNot}, turn{anyN(api.LeaseMay), may},
			turn{tick(1), mayNot}, turn{anyN(api.LeaseMay), mayNot}, turn{anyN(api.LeaseAsk), may},
			turn{tick(12), mayNot}, turn{ask(0), no(api.ErrHeld)},
			turn{anyN(api.LeaseGive), mayNot}, turn{ask(0), may}, turn{anyN(api.LeaseGive), no(api.ErrNone)})
		later := func(by int) api.LeaseOp { return api.LeaseOp{Kind: api.LeaseTick, Node: n, N: by} }
		checkTurns(t, 2, 7, 3,
			turn{ask(1), may}, turn{later(12), mayNot}, turn{ask(0), no(api.ErrHeld)},
			turn{later(-1), no(api.ErrRange)}, turn{later(1), mayNot}, turn{ask(0), may})
	}
}

// Promise R1: an answer of a tick never says that a node may act.
func TestTickOfHolder(t *testing.T) {
	for node := range 3 {
		later := func(by int) api.LeaseOp { return api.LeaseOp{Kind: api.LeaseTick, Node: node, N: by} }
		checkTurns(t, 3, 5, 0,
			turn{ask(node), may}, turn{later(0), mayNot}, turn{later(1), mayNot},
			turn{later(-1), no(api.ErrRange)}, turn{see(node), may})
	}
}

// Promise R1: the clock goes on by each tick, from 0 to MaxTime; a tick that leads
// further, or back, leaves it as it is.
func TestTicks(t *testing.T) {
	for _, first := range []int{0, 1, 5, 1 << 32, latest - 1, latest} {
		for _, second := range sparse {
			wants := mayNot
			if second < 0 || second > latest-first {
				wants = no(api.ErrRange)
			}
			checkTurns(t, 1, 1, 0, turn{tick(first), mayNot}, turn{tick(second), wants})
		}
		rest := latest - first
		checkTurns(t, 1, 1, 0,
			turn{tick(first), mayNot}, turn{tick(rest + 1), no(api.ErrRange)}, turn{tick(-1), no(api.ErrRange)},
			turn{tick(rest), mayNot}, turn{tick(1), no(api.ErrRange)}, turn{tick(0), mayNot},
			turn{tick(math.MaxInt), no(api.ErrRange)}, turn{tick(-1), no(api.ErrRange)})
	}
	for _, n := range sparse {
		if n >= 0 && n <= latest {
			continue
		}
		checkTurns(t, 2, 10, 0,
			turn{ask(0), may}, turn{tick(9), mayNot}, turn{tick(n), no(api.ErrRange)}, turn{see(0), may},
			turn{ask(1), no(api.ErrHeld)}, turn{tick(1), mayNot}, turn{see(0), mayNot}, turn{ask(1), may})
	}
}

// Promise R1: it does not matter whether time goes by at once or bit by bit.
func TestTicksBitByBit(t *testing.T) {
	for long := 1; long <= 40; long++ {
		turns := []turn{{ask(0), may}}
		for range long - 1 {
			turns = append(turns, turn{tick(1), mayNot}, turn{tick(0), mayNot}, turn{see(0), may}, turn{ask(1), no(api.ErrHeld)})
		}
		turns = append(turns, turn{tick(1), mayNot}, turn{see(0), mayNot}, turn{ask(1), may})
		checkTurns(t, 2, long, 0, turns...)
	}
}

// Promise R1: leases are granted and expire at the end of time as well, when the
// clocks of nodes and the expiry are behind it.
func TestEndOfTime(t *testing.T) {
	for _, off := range []int{0, 1, mostOff} {
		for _, long := range []int{1, 2, mostLong} {
			checkTurns(t, 2, long, off,
				turn{tick(latest), mayNot}, turn{fast(0, off), mayNot}, turn{ask(0), may}, turn{ask(1), no(api.ErrHeld)},
				turn{tick(1), no(api.ErrRange)}, turn{fast(0, -off), may}, turn{give(0), mayNot}, turn{ask(1), may})
			checkTurns(t, 2, long, off,
				turn{tick(latest - long - 2*off), mayNot}, turn{ask(0), may}, turn{tick(long + 2*off - 1), mayNot}, turn{ask(1), no(api.ErrHeld)},
				turn{tick(1), mayNot}, turn{see(0), mayNot}, turn{ask(1), may}, turn{tick(1), no(api.ErrRange)})
		}
	}
}

// Promises AA1 and AA2: a call changes neither its operations nor what lies
// behind them, does not read the latter, and gives the same results again.
func TestArguments(t *testing.T) {
	for seed := range 100 {
		nodes := seed%16 + 1
		ops := someOps(60, nodes, 6, 2, 4, seed)
		kept := slices.Clone(ops)
		want := slowPlay(nodes, 6, 2, ops[:40])
		for range 2 {
			checkPlay(t, nodes, 6, 2, ops[:40], want)
		}
		checkNoPlay(t, 0, 6, 2, ops[:40])
		if !slices.Equal(ops, kept) {
			t.Fatalf("Play(%d, 6, 2, %v): changed the operations to %v", nodes, kept, ops)
		}
	}
}

// Promise AA2: the answers are memory of their own, with their spare capacity.
func TestAnswers(t *testing.T) {
	ops := someOps(60, 3, 6, 2, 4, 5)
	want := slowPlay(3, 6, 2, ops)
	one, _ := lease.Play(3, 6, 2, ops)
	other, _ := lease.Play(3, 6, 2, ops)
	one = one[:cap(one)]
	for i := range one {
		one[i] = api.LeaseAns{Err: 99, May: true}
	}
	if !slices.Equal(other, want) {
		t.Fatal("the answers of two calls share memory")
	}
	checkPlay(t, 3, 6, 2, ops, want)
}
