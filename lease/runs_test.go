package lease_test

import (
	"slices"
	"testing"

	"strawloft/api"
	"strawloft/lease"
	"strawloft/mix"
)

// record is all operations without an error that have happened so far.
type record []api.LeaseOp

// time is the server's: the sum of all ticks.
func (r record) time() int {
	sum := 0
	for _, op := range r {
		if op.Kind == api.LeaseTick {
			sum += op.N
		}
	}
	return sum
}

// clock is the time that a node's own clock shows, by the last offset it got.
func (r record) clock(node int) int {
	for _, op := range slices.Backward(r) {
		if op.Kind == api.LeaseFast && op.Node == node {
			return r.time() + op.N
		}
	}
	return r.time()
}

// grant is where the holder received the lease, or -1 if there is no holder.
func (r record) grant() int {
	for i, op := range slices.Backward(r) {
		if op.Kind == api.LeaseGive {
			return -1
		}
		if op.Kind == api.LeaseAsk {
			return i
		}
	}
	return -1
}

func (r record) isHolder(node int) bool {
	at := r.grant()
	return at >= 0 && r[at].Node == node
}

// mayAct reports whether a node may act. The record takes the holder for the one
// node that has the lease, which makes no difference: any other node's time must
// be over.
func (r record) mayAct(node, long int) bool {
	if !r.isHolder(node) {
		return false
	}
	return r.clock(node)-r[:r.grant()].clock(node) < long
}

// wrong is the error of an operation, one clause of the chapter after the other.
func (r record) wrong(nodes, long, off int, op api.LeaseOp) api.Errno {
	if op.Kind == 3 {
		if op.N < 0 || op.N > 1<<40 || r.time()+op.N > 1<<40 {
			return api.ErrRange
		}
		return api.OK
	}
	if op.Kind != 1 && op.Kind != 2 && op.Kind != 4 && op.Kind != 5 {
		return api.ErrKind
	}
	if op.Node < 0 || op.Node >= nodes {
		return api.ErrNone
	}
	at := r.grant()
	if op.Kind == 1 && at >= 0 && r[at].Node != op.Node && r.time() < r[:at].time()+long+off+off {
		return api.ErrHeld
	}
	if op.Kind == 2 && !r.isHolder(op.Node) {
		return api.ErrNone
	}
	if op.Kind == 4 && (op.N > off || op.N < -off) {
		return api.ErrRange
	}
	return api.OK
}

// slowPlay is Play by the chapter's words, from the record of all that happened.
func slowPlay(nodes, long, off int, ops []api.LeaseOp) []api.LeaseAns {
	var r record
	var answers []api.LeaseAns
	for _, op := range ops {
		ans := no(r.wrong(nodes, long, off, op))
		if ans.Err == api.OK {
			r = append(r, op)
			ans.May = op.Kind != api.LeaseTick && r.mayAct(op.Node, long)
		}
		answers = append(answers, ans)
	}
	return answers
}

// someOps is operations of all kinds, of which one in a number is wrong or odd
// (none if it is 0). Ticks are about as long as a part of a lease, or as the time
// until another node may have it.
func someOps(many, nodes, long, off, odd, seed int) []api.LeaseOp {
	var ops []api.LeaseOp
	for i := range many {
		draw := mix.Two(uint64(seed), uint64(i))
		pick := func(shift, n int) int { return int(draw >> shift % uint64(n)) }
		op := api.LeaseOp{Kind: []int{1, 1, 1, 2, 3, 3, 3, 4, 4, 5}[pick(0, 10)], Node: pick(8, nodes)}
		switch op.Kind {
		case api.LeaseTick:
			op.N = []int{0, 1, long - 1, long, off, 2 * off, pick(24, long+2*off+1), pick(24, 9)}[pick(16, 8)]
		case api.LeaseFast:
			op.N = []int{-off, off, 0, pick(24, 2*off+1) - off}[pick(16, 4)]
		default:
			op.N = sparse[pick(16, len(sparse))]
		}
		if odd > 0 && pick(40, odd) == 0 {
			op = []api.LeaseOp{
				{Kind: sparse[pick(48, len(sparse))], Node: op.Node, N: op.N},
				{Kind: op.Kind, Node: sparse[pick(48, len(sparse))], N: op.N},
				{Kind: op.Kind, Node: op.Node, N: sparse[pick(48, len(sparse))]},
			}[pick(44, 3)]
		}
		ops = append(ops, op)
	}
	return ops
}

// eachRun calls a function with each list of n operations of the given ones. The
// list is the same memory each time.
func eachRun(n int, from []api.LeaseOp, use func([]api.LeaseOp)) {
	ops := make([]api.LeaseOp, n)
	var fill func(i int)
	fill = func(i int) {
		if i == n {
			use(ops)
			return
		}
		for _, op := range from {
			ops[i] = op
			fill(i + 1)
		}
	}
	fill(0)
}

// smallOps is all operations of few nodes that differ in their effect, with ticks
// of the given lengths and with offsets up to off and one too many.
func smallOps(nodes, off int, ticks ...int) []api.LeaseOp {
	var ops []api.LeaseOp
	for node := range nodes {
		ops = append(ops, ask(node), give(node), see(node))
		for n := -off; n <= off+1; n++ {
			ops = append(ops, fast(node, n))
		}
	}
	for _, n := range ticks {
		ops = append(ops, tick(n))
	}
	return ops
}

// Promises R1 and R2: all short runs of few nodes.
func TestShortRuns(t *testing.T) {
	for _, c := range []struct {
		nodes, long, off, n int
		ticks               []int
	}{
		{1, 1, 0, 5, []int{1}},
		{1, 2, 1, 5, []int{1}},
		{1, 3, 2, 4, []int{1, 2}},
		{2, 1, 0, 5, []int{1}},
		{2, 2, 1, 4, []int{1, 3}},
		{2, 1, 1, 4, []int{1, 2}},
		{3, 1, 0, 4, []int{1}},
	} {
		eachRun(c.n, smallOps(c.nodes, c.off, c.ticks...), func(ops []api.LeaseOp) {
			checkPlay(t, c.nodes, c.long, c.off, ops, slowPlay(c.nodes, c.long, c.off, ops))
		})
	}
}

// Promises R1 and R2: longer runs, with and without wrong operations.
func TestLongRuns(t *testing.T) {
	seen := map[api.LeaseAns]int{}
	for seed := range 3000 {
		nodes := []int{1, 2, 2, 3, 5, 16}[seed%6]
		long, off := longs[seed/6%len(longs)], offs[seed/48%len(offs)]
		ops := someOps([]int{5, 10, 20, 40, 80}[seed%5], nodes, long, off, []int{0, 3, 20}[seed/2%3], seed)
		answers := slowPlay(nodes, long, off, ops)
		checkPlay(t, nodes, long, off, ops, answers)
		for _, ans := range answers {
			seen[ans]++
		}
	}
	for _, ans := range []api.LeaseAns{may, mayNot, no(api.ErrHeld), no(api.ErrNone), no(api.ErrRange), no(api.ErrKind)} {
		if seen[ans] < 1000 {
			t.Errorf("the runs show too little: %v only %d times", ans, seen[ans])
		}
	}
}

// Promises R1 and R2: as long runs as there may be.
func TestLongestRuns(t *testing.T) {
	for seed := range 32 {
		nodes, long, off := seed%16+1, longs[seed%len(longs)], offs[seed/4%len(offs)]
		ops := someOps(mostOps, nodes, long, off, 20, seed+9000)
		checkPlay(t, nodes, long, off, ops, slowPlay(nodes, long, off, ops))
	}
}

// Promise R1: the operations are performed in order: those that follow do not
// change an answer.
func TestBeginnings(t *testing.T) {
	for seed := range 60 {
		nodes := seed%16 + 1
		ops := someOps(50, nodes, 7, 3, 8, seed+700)
		answers := slowPlay(nodes, 7, 3, ops)
		for n := range len(ops) + 1 {
			checkPlay(t, nodes, 7, 3, ops[:n], answers[:n])
		}
	}
}

// Promises R1 and R2: with the nodes the other way round all is the same.
func TestOtherWayRound(t *testing.T) {
	for seed := range 300 {
		nodes := seed%16 + 1
		ops := someOps(50, nodes, 7, 3, 0, seed+300)
		answers, _ := lease.Play(nodes, 7, 3, ops)
		for i := range ops {
			ops[i].Node = nodes - 1 - ops[i].Node
		}
		checkPlay(t, nodes, 7, 3, ops, answers)
	}
}

// Promises R1 and R2: an operation with an error has no effect.
func TestErrorsChangeNothing(t *testing.T) {
	for seed := range 300 {
		nodes := seed%16 + 1
		ops := someOps(60, nodes, 7, 3, 3, seed+2000)
		answers, _ := lease.Play(nodes, 7, 3, ops)
		var right []api.LeaseOp
		var wants []api.LeaseAns
		for i, ans := range answers {
			if ans.Err == api.OK {
				right, wants = append(right, ops[i]), append(wants, ans)
			}
		}
		checkPlay(t, nodes, 7, 3, right, wants)
	}
}

// Promises R1 and R2: leases are exclusive: never may two nodes act, however their
// clocks go. Whoever has just received the lease may act, and so nobody else.
func TestExclusive(t *testing.T) {
	runs := 0
	for seed := range 1500 {
		nodes := seed%5 + 2
		long, off := longs[seed%len(longs)], offs[seed/8%len(offs)]
		ops := someOps(mostOps/(nodes+1), nodes, long, off, 0, seed+5000)
		var all []api.LeaseOp
		for _, op := range ops {
			all = append(all, op)
			for node := range nodes {
				all = append(all, see(node))
			}
		}
		answers, err := lease.Play(nodes, long, off, all)
		if err != api.OK {
			t.Fatalf("Play(%d, %d, %d, %v): %d", nodes, long, off, all, err)
		}
		holders := map[int]bool{}
		for some := range slices.Chunk(answers, nodes+1) {
			who := actors(some[1:])
			if len(who) > 1 {
				t.Fatalf("Play(%d, %d, %d, %v): nodes %v may act", nodes, long, off, all, who)
			}
			for _, node := range who {
				holders[node] = true
			}
		}
		if len(holders) > 1 {
			runs++
		}
	}
	if runs < 500 {
		t.Fatalf("the runs show too little: in %d of them more than one node acts", runs)
	}
}

// actors is the nodes that may act, by the answers of all nodes.
func actors(answers []api.LeaseAns) []int {
	var who []int
	for node, ans := range answers {
		if ans.May {
			who = append(who, node)
		}
	}
	return who
}

// Promises R1 and R2: a lease that is not returned lasts just as long as it must
// for the worst of clocks: one that is off ahead at first and off behind at last.
func TestWorstClocks(t *testing.T) {
	for _, long := range longs {
		for _, off := range offs {
			checkTurns(t, 2, long, off,
				turn{fast(0, off), mayNot}, turn{ask(0), may}, turn{fast(0, -off), may},
				turn{tick(long + 2*off - 1), mayNot}, turn{see(0), may}, turn{ask(1), no(api.ErrHeld)},
				turn{tick(1), mayNot}, turn{see(0), mayNot}, turn{ask(1), may}, turn{see(0), mayNot})
		}
	}
}
