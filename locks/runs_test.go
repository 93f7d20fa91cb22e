package locks_test

import (
	"slices"
	"testing"

	"strawloft/api"
	"strawloft/locks"
	"strawloft/mix"
)

// state is all requests that hold a key, in the order in which they obtained it,
// and all that wait for one, in the order in which they came.
type state struct {
	holds, waits []api.LockOp
}

// of is the requests of a key.
func of(ops []api.LockOp, key int) []api.LockOp {
	var found []api.LockOp
	for _, op := range ops {
		if op.Key == key {
			found = append(found, op)
		}
	}
	return found
}

// without is the requests but for those of a node for a key.
func without(ops []api.LockOp, node, key int) []api.LockOp {
	var rest []api.LockOp
	for _, op := range ops {
		if op.Node != node || op.Key != key {
			rest = append(rest, op)
		}
	}
	return rest
}

func isOfAny(ops []api.LockOp, node, key int) bool {
	return len(without(ops, node, key)) < len(ops)
}

func areShared(ops ...api.LockOp) bool {
	for _, op := range ops {
		if op.Kind != 1 {
			return false
		}
	}
	return true
}

// grant is promise S3 by its words.
func (s *state) grant(key int) {
	for {
		waits, holds := of(s.waits, key), of(s.holds, key)
		if len(waits) == 0 || len(holds) > 0 && !areShared(append(holds, waits[0])...) {
			return
		}
		s.waits = without(s.waits, waits[0].Node, key)
		s.holds = append(s.holds, waits[0])
	}
}

// perform is promises S1 and S2, one clause of the chapter after the other.
func (s *state) perform(op api.LockOp) api.Errno {
	if op.Kind != 1 && op.Kind != 2 && op.Kind != 3 {
		return api.ErrKind
	}
	if op.Node < 0 || op.Node > 15 {
		return api.ErrRange
	}
	isKnown := isOfAny(s.holds, op.Node, op.Key) || isOfAny(s.waits, op.Node, op.Key)
	if op.Kind == 3 {
		if !isKnown {
			return api.ErrNone
		}
		s.holds, s.waits = without(s.holds, op.Node, op.Key), without(s.waits, op.Node, op.Key)
		s.grant(op.Key)
		return api.OK
	}
	if isKnown {
		return api.ErrForm
	}
	s.waits = append(s.waits, op)
	s.grant(op.Key)
	if isOfAny(s.waits, op.Node, op.Key) {
		return api.ErrHeld
	}
	return api.OK
}

// all is the locks of all keys that are held.
func (s *state) all() []api.Lock {
	var keys []int
	for _, op := range s.holds {
		keys = append(keys, op.Key)
	}
	slices.Sort(keys)
	var all []api.Lock
	for _, key := range slices.Compact(keys) {
		l := api.Lock{Key: key, Alone: !areShared(of(s.holds, key)...), Waits: of(s.waits, key)}
		for _, op := range of(s.holds, key) {
			l.Has = append(l.Has, op.Node)
		}
		all = append(all, l)
	}
	return all
}

// slowPlay is Play by the chapter's words.
func slowPlay(ops []api.LockOp) ([]api.Errno, []api.Lock) {
	s := &state{}
	var errs []api.Errno
	for _, op := range ops {
		errs = append(errs, s.perform(op))
	}
	return errs, s.all()
}

// someOps is operations of all kinds, with few nodes and keys, of which one in a
// number is wrong or odd (none if it is 0).
func someOps(many, nodes, keys, odd, seed int) []api.LockOp {
	var ops []api.LockOp
	for i := range many {
		draw := mix.Two(uint64(seed), uint64(i))
		pick := func(shift, n int) int { return int(draw >> shift % uint64(n)) }
		op := api.LockOp{Kind: []int{1, 1, 1, 2, 2, 3, 3, 3, 3}[pick(0, 9)], Node: pick(8, nodes), Key: pick(16, keys) - keys/2}
		if odd > 0 && pick(24, odd) == 0 {
			op = []api.LockOp{
				{Kind: sparse[pick(40, len(sparse))], Node: op.Node, Key: op.Key},
				{Kind: op.Kind, Node: sparse[pick(40, len(sparse))], Key: op.Key},
				{Kind: op.Kind, Node: op.Node, Key: sparse[pick(40, len(sparse))]},
			}[pick(32, 3)]
		}
		ops = append(ops, op)
	}
	return ops
}

// eachRun calls a function with each list of n operations of the given ones. The
// list is the same memory each time.
func eachRun(n int, from []api.LockOp, use func([]api.LockOp)) {
	ops := make([]api.LockOp, n)
	var fill func(i int)
	fill = func(i int) {
		if i == n {
			use(ops)
			return
		}
		for _, op := range from {
			ops[i] = op
			fill(i + 1)
		}
	}
	fill(0)
}

// smallOps is all operations of few nodes and keys.
func smallOps(nodes, keys int) []api.LockOp {
	var ops []api.LockOp
	for node := range nodes {
		for key := range keys {
			ops = append(ops, share(node, key), own(node, key), free(node, key))
		}
	}
	return ops
}

// Promises S1 to S3: all short runs of few nodes and keys.
func TestShortRuns(t *testing.T) {
	for _, c := range []struct{ nodes, keys, n int }{
		{1, 1, 6}, {2, 1, 6}, {3, 1, 5}, {4, 1, 4}, {1, 2, 5}, {2, 2, 4}, {1, 3, 4},
	} {
		for n := range c.n + 1 {
			eachRun(n, smallOps(c.nodes, c.keys), func(ops []api.LockOp) {
				errs, all := slowPlay(ops)
				checkPlay(t, ops, errs, all)
			})
		}
	}
}

// Promises S2 and S3: all runs of three nodes or four, if each of them asks first:
// in any way, in turn, and then any operations.
func TestRunsOfQueues(t *testing.T) {
	for nodes := 3; nodes <= 4; nodes++ {
		for ways := range 1 << nodes {
			var queue []api.LockOp
			for node := range nodes {
				queue = append(queue, api.LockOp{Kind: ways>>node&1 + 1, Node: node})
			}
			eachRun(3, smallOps(nodes, 1), func(ops []api.LockOp) {
				run := slices.Concat(queue, ops)
				errs, all := slowPlay(run)
				checkPlay(t, run, errs, all)
			})
		}
	}
}

// Promises S1 to S3: longer runs, with and without wrong operations.
func TestLongRuns(t *testing.T) {
	seen := map[api.Errno]int{}
	longest := 0
	for seed := range 3000 {
		nodes, keys := []int{2, 3, 4, 6, 10, 16}[seed%6], []int{1, 2, 3, 9}[seed/6%4]
		ops := someOps([]int{5, 10, 20, 40, 80}[seed%5], nodes, keys, []int{0, 3, 20}[seed/2%3], seed)
		errs, all := slowPlay(ops)
		checkPlay(t, ops, errs, all)
		for _, err := range errs {
			seen[err]++
		}
		for _, l := range all {
			longest = max(longest, len(l.Waits))
		}
	}
	for _, err := range []api.Errno{api.OK, api.ErrHeld, api.ErrForm, api.ErrNone, api.ErrRange, api.ErrKind} {
		if seen[err] < 1000 {
			t.Errorf("the runs show too little: error %d only %d times", err, seen[err])
		}
	}
	if longest < 8 {
		t.Errorf("the runs show too little: at most %d wait", longest)
	}
}

// Promises S1 to S3: much longer runs.
func TestLongestRuns(t *testing.T) {
	for seed := range 32 {
		ops := someOps(2000, 16, seed%8+1, 20, seed+9000)
		errs, all := slowPlay(ops)
		checkPlay(t, ops, errs, all)
	}
}

// Promise S1: the operations are performed in order: those that follow change
// neither an error nor the locks before them.
func TestBeginnings(t *testing.T) {
	for seed := range 100 {
		ops := someOps(50, seed%16+1, seed%3+1, 8, seed+700)
		errs, _ := slowPlay(ops)
		for n := range len(ops) + 1 {
			_, all := slowPlay(ops[:n])
			checkPlay(t, ops[:n], errs[:n], all)
		}
	}
}

// Promises S1 to S3: with the nodes the other way round all is the same.
func TestOtherWayRound(t *testing.T) {
	for seed := range 300 {
		nodes := seed%16 + 1
		ops := someOps(50, nodes, 2, 0, seed+300)
		errs, all := locks.Play(ops)
		turned := func(ops []api.LockOp) {
			for i := range ops {
				ops[i].Node = nodes - 1 - ops[i].Node
			}
		}
		turned(ops)
		for _, l := range all {
			for i := range l.Has {
				l.Has[i] = nodes - 1 - l.Has[i]
			}
			turned(l.Waits)
		}
		checkPlay(t, ops, errs, all)
	}
}

// Promises S1 to S3: what happens to one key does not depend on others.
func TestKeysApart(t *testing.T) {
	for seed := range 300 {
		ops := someOps(120, 6, 4, 0, seed+3000)
		errs, all := locks.Play(ops)
		for key := -2; key < 2; key++ {
			var wants []api.Errno
			for i, op := range ops {
				if op.Key == key {
					wants = append(wants, errs[i])
				}
			}
			var want []api.Lock
			for _, l := range all {
				if l.Key == key {
					want = append(want, l)
				}
			}
			checkPlay(t, of(ops, key), wants, want)
		}
	}
}

// Promises S1 and S2: an operation with an error has no effect, but for ErrHeld,
// with which the request remains in the queue.
func TestErrorsChangeNothing(t *testing.T) {
	for seed := range 300 {
		ops := someOps(60, seed%16+1, 2, 3, seed+2000)
		errs, all := locks.Play(ops)
		var right []api.LockOp
		var wants []api.Errno
		for i, err := range errs {
			if err == api.OK || err == api.ErrHeld {
				right, wants = append(right, ops[i]), append(wants, err)
			}
		}
		checkPlay(t, right, wants, all)
	}
}

// Promise S3: locks are fair: no request is overtaken. Those that hold a key are
// always the first ones to have asked: a single one that has it alone, or all up
// to the first that wants to have it alone.
func TestFair(t *testing.T) {
	for seed := range 500 {
		ops := someOps(100, []int{3, 5, 16}[seed%3], 1, 0, seed+4000)
		var live []api.LockOp
		for n, op := range ops {
			isKnown := isOfAny(live, op.Node, op.Key)
			if op.Kind == api.LockFree {
				live = without(live, op.Node, op.Key)
			} else if !isKnown {
				live = append(live, op)
			}
			_, got := locks.Play(ops[:n+1])
			if want := front(live); !isSame(got, want) {
				t.Fatalf("Play(%v): the locks are %v, want %v", ops[:n+1], got, want)
			}
		}
	}
}

// front is the lock of a key for which live requests came in this order.
func front(live []api.LockOp) []api.Lock {
	if len(live) == 0 {
		return nil
	}
	many := slices.IndexFunc(live, func(op api.LockOp) bool { return op.Kind == api.LockOwn })
	switch many {
	case -1:
		many = len(live)
	case 0:
		many = 1
	}
	l := api.Lock{Key: live[0].Key, Alone: live[0].Kind == api.LockOwn, Waits: live[many:]}
	for _, op := range live[:many] {
		l.Has = append(l.Has, op.Node)
	}
	return []api.Lock{l}
}

// Promises S2 and S3: whatever has happened, if all nodes release or withdraw what
// they have or wait for, nobody holds anything, and everybody gets it at once.
func TestAllFree(t *testing.T) {
	for seed := range 200 {
		ops := someOps(60, 16, 2, 0, seed+6000)
		for key := -1; key < 1; key++ {
			for node := range mostNodes {
				ops = append(ops, free((node+seed)%mostNodes, key))
			}
		}
		errs, all := slowPlay(ops)
		if len(all) > 0 {
			t.Fatalf("slowPlay(%v): locks %v", ops, all)
		}
		checkPlay(t, ops, errs, nil)
		who := seed % mostNodes
		checkPlay(t, append(ops, own(who, -1), share(who, 0)), append(errs, api.OK, api.OK), []api.Lock{alone(-1, who), shared(0, who)})
	}
}
