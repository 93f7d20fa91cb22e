package locks_test

import (
	"math"
	"slices"
	"testing"

	"strawloft/api"
	"strawloft/locks"
)

// mostNodes is the limit as the given package api has it.
const mostNodes = 16

// sparse is integers of any size, near the limits and far from them.
var sparse = []int{
	math.MinInt, math.MinInt + 1, -1 << 40, -1<<32 - 1, -1 << 32, -1<<32 + 1, -257, -17, -16, -3, -2, -1,
	0, 1, 2, 3, 4, 5, 14, 15, 16, 17, 255, 256, 257, 258, 259, 400, 401,
	1 << 32, 1<<32 + 1, 1<<32 + 2, 1<<32 + 3, 1<<32 + 15, 1 << 40, 1 << 62, math.MaxInt - 1, math.MaxInt,
}

// turn is an operation and what comes of it.
type turn struct {
	op  api.LockOp
	err api.Errno
}

func share(node, key int) api.LockOp {
	return api.LockOp{Kind: api.LockShare, Node: node, Key: key}
}

func own(node, key int) api.LockOp {
	return api.LockOp{Kind: api.LockOwn, Node: node, Key: key}
}

func free(node, key int) api.LockOp {
	return api.LockOp{Kind: api.LockFree, Node: node, Key: key}
}

// done, held, form and none are turns that end with the error of this name.
func done(op api.LockOp) turn { return turn{op, api.OK} }
func held(op api.LockOp) turn { return turn{op, api.ErrHeld} }
func form(op api.LockOp) turn { return turn{op, api.ErrForm} }
func none(op api.LockOp) turn { return turn{op, api.ErrNone} }

// shared and alone are locks of keys for which nobody waits.
func shared(key int, has ...int) api.Lock {
	return api.Lock{Key: key, Has: has}
}

func alone(key, node int) api.Lock {
	return api.Lock{Key: key, Alone: true, Has: []int{node}}
}

// wait is a lock for which operations wait.
func wait(l api.Lock, ops ...api.LockOp) api.Lock {
	l.Waits = ops
	return l
}

// split is the operations and the errors of turns.
func split(turns []turn) ([]api.LockOp, []api.Errno) {
	var ops []api.LockOp
	var errs []api.Errno
	for _, t := range turns {
		ops, errs = append(ops, t.op), append(errs, t.err)
	}
	return ops, errs
}

func isSameLock(a, b api.Lock) bool {
	return a.Key == b.Key && a.Alone == b.Alone && slices.Equal(a.Has, b.Has) && slices.Equal(a.Waits, b.Waits)
}

func isSame(a, b []api.Lock) bool {
	return slices.EqualFunc(a, b, isSameLock)
}

func checkPlay(t *testing.T, ops []api.LockOp, errs []api.Errno, all []api.Lock) {
	t.Helper()
	gotErrs, got := locks.Play(ops)
	if slices.Equal(gotErrs, errs) && isSame(got, all) {
		return
	}
	if len(ops) > 1000 {
		t.Fatalf("Play(%d operations) is wrong", len(ops))
	}
	t.Fatalf("Play(%v) is %v, %v; want %v, %v", ops, gotErrs, got, errs, all)
}

// checkTurns checks turns and final locks that were written out, and that the
// slow version of Play has the same.
func checkTurns(t *testing.T, all []api.Lock, turns ...turn) {
	t.Helper()
	ops, errs := split(turns)
	if slowErrs, slow := slowPlay(ops); !slices.Equal(slowErrs, errs) || !isSame(slow, all) {
		t.Fatalf("slowPlay(%v) is %v, %v; want %v, %v", ops, slowErrs, slow, errs, all)
	}
	checkPlay(t, ops, errs, all)
}

// Promises S1 to S3: runs written out.
func TestPlay(t *testing.T) {
	checkTurns(t, []api.Lock{shared(5, 0)}, done(share(0, 5)))
	checkTurns(t, []api.Lock{alone(5, 0)}, done(own(0, 5)))
	checkTurns(t, []api.Lock{shared(5, 1, 0)}, done(share(1, 5)), done(share(0, 5)))
	checkTurns(t, []api.Lock{wait(shared(5, 0, 1), own(2, 5))},
		done(share(0, 5)), done(share(1, 5)), held(own(2, 5)))
	checkTurns(t, []api.Lock{alone(5, 2)},
		done(share(0, 5)), held(own(2, 5)), done(free(0, 5)))
	checkTurns(t, []api.Lock{shared(5, 0)}, done(share(0, 5)), form(own(0, 5)))
	checkTurns(t, nil, none(free(0, 5)))
	checkTurns(t, nil, done(own(0, 5)), done(free(0, 5)), none(free(0, 5)))
	checkTurns(t, []api.Lock{wait(alone(-3, 7), own(15, -3)), shared(8, 9, 7)},
		done(share(9, 8)), done(own(7, -3)), held(share(3, -3)), done(share(7, 8)), held(own(15, -3)),
		done(share(3, 8)), done(free(3, -3)), done(free(3, 8)), none(free(3, 8)))
	checkTurns(t, []api.Lock{wait(alone(0, 0), share(4, 0), share(2, 0), own(3, 0), share(1, 0))},
		done(own(0, 0)), held(share(4, 0)), held(share(2, 0)), held(own(3, 0)), held(share(1, 0)))
	checkTurns(t, []api.Lock{wait(shared(0, 4, 2), own(3, 0), share(1, 0))},
		done(own(0, 0)), held(share(4, 0)), held(share(2, 0)), held(own(3, 0)), held(share(1, 0)), done(free(0, 0)))
}

// Promise S1: there may be no operations at all; there are no locks at first.
func TestNoOps(t *testing.T) {
	for _, ops := range [][]api.LockOp{nil, {}, make([]api.LockOp, 0, 9)} {
		checkPlay(t, ops, nil, nil)
	}
}

// Promise S1: a kind that is unknown is so whatever the other fields are, and
// nothing is done.
func TestKinds(t *testing.T) {
	for _, kind := range sparse {
		if kind >= 1 && kind <= 3 {
			continue
		}
		for _, node := range sparse {
			for _, key := range []int{5, 6, -1, 0, math.MinInt, math.MaxInt} {
				unknown := turn{api.LockOp{Kind: kind, Node: node, Key: key}, api.ErrKind}
				checkTurns(t, nil, unknown)
				checkTurns(t, []api.Lock{wait(shared(5, 0, 1), own(2, 5))},
					unknown, done(share(0, 5)), unknown, done(share(1, 5)), unknown, held(own(2, 5)), unknown)
			}
		}
	}
}

// Promise S1: each kind that there is.
func TestAllKinds(t *testing.T) {
	for kind := -300; kind <= 300; kind++ {
		want := api.ErrKind
		switch kind {
		case 1, 2:
			want = api.ErrForm
		case 3:
			want = api.OK
		}
		errs, _ := locks.Play([]api.LockOp{share(2, 5), {Kind: kind, Node: 2, Key: 5}})
		if !slices.Equal(errs, []api.Errno{api.OK, want}) {
			t.Errorf("kind %d: %v, want OK, %d", kind, errs, want)
		}
	}
}

// Promise S1: the nodes are 0 to MaxNode - 1. With another one nothing is done;
// this is seen before any error of S2.
func TestNodes(t *testing.T) {
	for node := range mostNodes {
		checkTurns(t, []api.Lock{shared(5, node)}, done(share(node, 5)), form(share(node, 5)))
		checkTurns(t, []api.Lock{alone(5, node)}, done(own(node, 5)), form(own(node, 5)))
		checkTurns(t, nil, done(own(node, 5)), done(free(node, 5)), none(free(node, 5)))
	}
	for _, node := range sparse {
		if node >= 0 && node < mostNodes {
			continue
		}
		wrong := []turn{{share(node, 5), api.ErrRange}, {own(node, 5), api.ErrRange}, {free(node, 5), api.ErrRange}}
		checkTurns(t, nil, wrong...)
		checkTurns(t, []api.Lock{wait(alone(5, 0), share(15, 5))},
			slices.Concat([]turn{done(own(0, 5))}, wrong, []turn{held(share(15, 5))}, wrong)...)
	}
}

// Promise S1: a key is any number, and each of them has a lock of its own.
func TestKeys(t *testing.T) {
	var turns []turn
	var all []api.Lock
	for i, key := range sparse {
		who := i % mostNodes
		turns = append(turns, done(own(who, key)), held(share((who+1)%16, key)), form(share(who, key)))
		all = append(all, wait(alone(key, who), share((who+1)%16, key)))
	}
	checkTurns(t, all, turns...)
	for i, key := range slices.Backward(sparse) {
		turns = append(turns, done(free(i%mostNodes, key)))
		all[i] = shared(key, (i+1)%16)
	}
	checkTurns(t, all, turns...)
}

// Promise S1: the locks are sorted by their keys, whatever order they came in.
func TestSorted(t *testing.T) {
	for step := range 50 {
		var turns []turn
		var all []api.Lock
		for i := range 101 {
			turns = append(turns, done(share(3, (i*(step+1)+step)%101-50)))
			all = append(all, shared(i-50, 3))
		}
		checkTurns(t, all, turns...)
	}
}

// Promise S1: only keys that are held are returned: not one that was released, nor
// one that was never obtained; it may be obtained again.
func TestHeldKeys(t *testing.T) {
	checkTurns(t, []api.Lock{shared(1, 0), shared(3, 0)},
		done(share(0, 1)), done(share(0, 2)), done(share(0, 3)), done(free(0, 2)))
	checkTurns(t, nil,
		done(share(0, 1)), done(own(1, 2)), done(share(2, 1)), done(free(0, 1)), done(free(1, 2)), done(free(2, 1)))
	checkTurns(t, []api.Lock{alone(2, 3)},
		none(free(0, 1)), done(share(0, 2)), done(free(0, 2)), done(own(3, 2)), none(free(1, 4)))
	checkTurns(t, []api.Lock{shared(2, 3)},
		done(own(0, 2)), done(free(0, 2)), done(share(3, 2)), form(own(3, 2)))
}

// Promise S1: there may be any number of operations, more than api.MaxOps too.
func TestManyOps(t *testing.T) {
	for _, many := range []int{399, 400, 401, 402, 1 << 16, 1<<16 + 1, 200000} {
		ops, errs := []api.LockOp{own(0, 1)}, []api.Errno{api.OK}
		for i := 1; len(ops) < many; i++ {
			ops, errs = append(ops, own(i%16, 1), free((i-1)%16, 1)), append(errs, api.ErrHeld, api.OK)
		}
		last := len(ops) / 2 % 16
		checkPlay(t, ops, errs, []api.Lock{alone(1, last)})
		ops, errs = append(ops, share((last+1)%16, 1)), append(errs, api.ErrHeld)
		checkPlay(t, ops, errs, []api.Lock{wait(alone(1, last), ops[len(ops)-1])})
	}
}

// Promise S1: there may be any number of keys.
func TestManyKeys(t *testing.T) {
	const many = 100000
	var ops []api.LockOp
	var all []api.Lock
	for i := range many {
		ops = append(ops, share(i%16, many-1-i), own((i+1)%16, many-1-i))
		all = append(all, wait(shared(i, (many-1-i)%16), own((many-i)%16, i)))
	}
	errs, got := locks.Play(ops)
	if !slices.Equal(errs, slices.Repeat([]api.Errno{api.OK, api.ErrHeld}, many)) || !isSame(got, all) {
		t.Fatalf("Play is wrong with %d keys", many)
	}
}

// Promises AA1 and AA2: a call changes neither its operations nor what lies
// behind them, does not read the latter, and gives the same results again.
func TestArguments(t *testing.T) {
	for seed := range 100 {
		ops := someOps(60, 6, 3, 6, seed)
		kept := slices.Clone(ops)
		errs, all := slowPlay(ops[:40])
		for range 2 {
			checkPlay(t, ops[:40], errs, all)
		}
		if !slices.Equal(ops, kept) {
			t.Fatalf("Play(%v): changed the operations to %v", kept, ops)
		}
	}
}

// Promise AA2: the results are memory of their own, with their spare capacity: one
// slice of a result may be overwritten or appended to without an effect on others,
// and so may the operations.
func TestResults(t *testing.T) {
	for seed := range 100 {
		ops := someOps(80, 12, 2, 0, seed+50)
		wantErrs, want := slowPlay(ops)
		errs, got := locks.Play(ops)
		clear(ops)
		if !slices.Equal(errs, wantErrs) || !isSame(got, want) {
			t.Fatal("the results change with the operations")
		}
		clear(errs[:cap(errs)])
		for i := range got {
			if !isSameLock(got[i], want[i]) {
				t.Fatalf("seed %d: lock %d shares memory with others", seed, i)
			}
			clear(got[i].Has[:cap(got[i].Has)])
			if !slices.Equal(got[i].Waits, want[i].Waits) {
				t.Fatalf("seed %d: lock %d has nodes that share memory with those that wait", seed, i)
			}
			clear(got[i].Waits[:cap(got[i].Waits)])
		}
		ops = someOps(80, 12, 2, 0, seed+50)
		checkPlay(t, ops, wantErrs, want)
	}
}
