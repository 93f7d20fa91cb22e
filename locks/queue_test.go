package locks_test

import (
	"slices"
	"testing"

	"strawloft/api"
)

// Promise S2: a node that holds a key, or waits for it, can't ask for it again, in
// whichever way; nothing changes by that.
func TestAskAgain(t *testing.T) {
	for node := range mostNodes {
		other := (node + 5) % mostNodes
		checkTurns(t, []api.Lock{shared(1, node)},
			done(share(node, 1)), form(share(node, 1)), form(own(node, 1)))
		checkTurns(t, []api.Lock{alone(1, node)},
			done(own(node, 1)), form(own(node, 1)), form(share(node, 1)))
		checkTurns(t, []api.Lock{wait(alone(1, other), share(node, 1))},
			done(own(other, 1)), held(share(node, 1)), form(share(node, 1)), form(own(node, 1)))
		checkTurns(t, []api.Lock{wait(shared(1, other), own(node, 1))},
			done(share(other, 1)), held(own(node, 1)), form(share(node, 1)), form(own(node, 1)))
		checkTurns(t, []api.Lock{shared(1, other, node)},
			done(share(other, 1)), done(share(node, 1)), form(own(node, 1)), form(share(node, 1)), form(own(other, 1)))
	}
}

// Promise S2: a request that waited and was granted holds the key: to ask again is
// as wrong as before.
func TestAskAgainWhenGranted(t *testing.T) {
	checkTurns(t, []api.Lock{alone(1, 2)},
		done(own(0, 1)), held(own(2, 1)), done(free(0, 1)), form(own(2, 1)), form(share(2, 1)))
	checkTurns(t, []api.Lock{shared(1, 2)},
		done(own(0, 1)), held(share(2, 1)), done(free(0, 1)), form(own(2, 1)), form(share(2, 1)))
}

// Promise S2: a node that has released a key, or does not wait for it any more, may
// ask for it again, and is the last one then.
func TestAskLater(t *testing.T) {
	checkTurns(t, []api.Lock{wait(alone(1, 2), own(3, 1), own(0, 1))},
		done(own(0, 1)), held(own(2, 1)), held(own(3, 1)), done(free(0, 1)), held(own(0, 1)))
	checkTurns(t, []api.Lock{wait(alone(1, 0), own(3, 1), share(2, 1))},
		done(own(0, 1)), held(own(2, 1)), held(own(3, 1)), done(free(2, 1)), held(share(2, 1)))
	checkTurns(t, []api.Lock{shared(1, 2, 0)},
		done(share(0, 1)), done(share(2, 1)), done(free(0, 1)), done(share(0, 1)))
	checkTurns(t, []api.Lock{alone(1, 0)},
		done(share(0, 1)), done(free(0, 1)), done(own(0, 1)))
}

// Promise S2: a node may hold one key and wait for another one.
func TestManyKeysOfNode(t *testing.T) {
	checkTurns(t, []api.Lock{alone(1, 0), wait(alone(2, 1), own(0, 2)), shared(3, 0)},
		done(own(0, 1)), done(own(1, 2)), held(own(0, 2)), done(share(0, 3)))
	// Two nodes that wait for each other do so until one of them gives up.
	checkTurns(t, []api.Lock{wait(alone(1, 0), own(1, 1)), wait(alone(2, 1), own(0, 2))},
		done(own(0, 1)), done(own(1, 2)), held(own(0, 2)), held(own(1, 1)))
	checkTurns(t, []api.Lock{alone(1, 1), wait(alone(2, 1), own(0, 2))},
		done(own(0, 1)), done(own(1, 2)), held(own(0, 2)), held(own(1, 1)), done(free(0, 1)))
}

// Promise S2: ErrNone if the node neither holds the key nor waits for it, even if
// others do or if it has another key.
func TestFreeNone(t *testing.T) {
	for node := range mostNodes {
		other := (node + 3) % mostNodes
		checkTurns(t, nil, none(free(node, 1)), none(free(node, 1)))
		checkTurns(t, []api.Lock{alone(1, other)}, done(own(other, 1)), none(free(node, 1)))
		checkTurns(t, []api.Lock{shared(1, other)}, done(share(other, 1)), none(free(node, 1)))
		checkTurns(t, []api.Lock{alone(2, node)}, done(own(node, 2)), none(free(node, 1)))
		checkTurns(t, []api.Lock{alone(1, other)},
			done(own(other, 1)), held(own(node, 1)), done(free(node, 1)), none(free(node, 1)))
		checkTurns(t, []api.Lock{alone(1, other)},
			done(own(node, 1)), held(own(other, 1)), done(free(node, 1)), none(free(node, 1)))
	}
}

// Promise S2: a node that holds a key releases it; the others keep their order.
func TestFreeShared(t *testing.T) {
	var turns []turn
	var all []int
	for i := range mostNodes {
		all = append(all, i*7%mostNodes)
		turns = append(turns, done(share(all[i], 4)))
	}
	checkTurns(t, []api.Lock{shared(4, all...)}, turns...)
	for i, node := range all {
		rest := slices.Delete(slices.Clone(all), i, i+1)
		checkTurns(t, []api.Lock{shared(4, rest...)}, append(turns[:mostNodes:mostNodes], done(free(node, 4)))...)
		checkTurns(t, []api.Lock{shared(4, append(rest, node)...)},
			append(turns[:mostNodes:mostNodes], done(free(node, 4)), done(share(node, 4)))...)
	}
}

// Promise S2: a node that waits withdraws its request; the others keep their order.
func TestWithdraw(t *testing.T) {
	turns := []turn{done(own(0, 4))}
	var all []api.LockOp
	for i := 1; i < mostNodes; i++ {
		op := []api.LockOp{own(i*7%mostNodes, 4), share(i*7%mostNodes, 4)}[i%2]
		all = append(all, op)
		turns = append(turns, held(op))
	}
	checkTurns(t, []api.Lock{wait(alone(4, 0), all...)}, turns...)
	for i, op := range all {
		rest := slices.Delete(slices.Clone(all), i, i+1)
		checkTurns(t, []api.Lock{wait(alone(4, 0), rest...)}, append(turns[:mostNodes:mostNodes], done(free(op.Node, 4)))...)
		checkTurns(t, []api.Lock{wait(alone(4, 0), append(rest, op)...)},
			append(turns[:mostNodes:mostNodes], done(free(op.Node, 4)), held(op))...)
	}
}

// Promise S3: shared requests are granted at once only as long as nobody waits: one
// that wants to have the key alone is not overtaken.
func TestNotOvertaken(t *testing.T) {
	checkTurns(t, []api.Lock{wait(shared(1, 0), own(1, 1), share(2, 1), share(3, 1))},
		done(share(0, 1)), held(own(1, 1)), held(share(2, 1)), held(share(3, 1)))
	checkTurns(t, []api.Lock{wait(alone(1, 1), share(2, 1), share(3, 1))},
		done(share(0, 1)), held(own(1, 1)), held(share(2, 1)), held(share(3, 1)), done(free(0, 1)))
	checkTurns(t, []api.Lock{wait(shared(1, 4), own(1, 1), share(2, 1))},
		done(share(0, 1)), done(share(4, 1)), held(own(1, 1)), held(share(2, 1)), done(free(0, 1)))
}

// Promise S3: with the last holder gone, the first request is granted, and all
// shared ones that follow a shared one.
func TestGrantMany(t *testing.T) {
	for many := range mostNodes {
		turns := []turn{done(own(0, 1))}
		var waits []api.LockOp
		for node := 1; node <= many; node++ {
			turns, waits = append(turns, held(share(node, 1))), append(waits, share(node, 1))
		}
		checkTurns(t, []api.Lock{wait(alone(1, 0), waits...)}, turns...)
		var has []int
		for _, op := range waits {
			has = append(has, op.Node)
		}
		turns = append(turns, done(free(0, 1)))
		if many == 0 {
			checkTurns(t, nil, turns...)
			continue
		}
		checkTurns(t, []api.Lock{shared(1, has...)}, turns...)
		checkTurns(t, []api.Lock{wait(shared(1, has...), own(0, 1))}, append(turns, held(own(0, 1)))...)
	}
}

// Promise S3: only one request that wants to have the key alone is granted, and no
// other one beside it.
func TestGrantOne(t *testing.T) {
	for _, next := range []api.LockOp{own(2, 1), share(2, 1)} {
		turns := []turn{done(own(0, 1)), held(own(1, 1)), held(next), held(share(3, 1))}
		checkTurns(t, []api.Lock{wait(alone(1, 1), next, share(3, 1))}, append(turns, done(free(0, 1)))...)
	}
	checkTurns(t, []api.Lock{wait(alone(1, 2), share(3, 1))},
		done(own(0, 1)), held(own(1, 1)), held(own(2, 1)), held(share(3, 1)), done(free(0, 1)), done(free(1, 1)))
	checkTurns(t, []api.Lock{shared(1, 2, 3)},
		done(own(0, 1)), held(own(1, 1)), held(share(2, 1)), held(share(3, 1)), done(free(0, 1)), done(free(1, 1)))
}

// Promise S3: a request to have the key alone waits for all that share it.
func TestWaitsForAll(t *testing.T) {
	for many := 1; many < mostNodes; many++ {
		var turns []turn
		for node := range many {
			turns = append(turns, done(share(node, 1)))
		}
		turns = append(turns, held(own(15, 1)))
		for node := range many {
			var has []int
			for other := node; other < many; other++ {
				has = append(has, other)
			}
			checkTurns(t, []api.Lock{wait(shared(1, has...), own(15, 1))}, turns...)
			turns = append(turns, done(free(node, 1)))
		}
		checkTurns(t, []api.Lock{alone(1, 15)}, turns...)
	}
}

// Promises S2 and S3: a request that is withdrawn lets those behind it have their
// turn, if it alone kept them waiting.
func TestWithdrawFirst(t *testing.T) {
	turns := []turn{done(share(0, 1)), held(own(1, 1)), held(share(2, 1)), held(share(3, 1)), held(own(4, 1)), held(share(5, 1))}
	checkTurns(t, []api.Lock{wait(shared(1, 0, 2, 3), own(4, 1), share(5, 1))}, append(turns[:6:6], done(free(1, 1)))...)
	checkTurns(t, []api.Lock{shared(1, 0, 2, 3, 5)}, append(turns[:6:6], done(free(1, 1)), done(free(4, 1)))...)
	checkTurns(t, []api.Lock{shared(1, 0, 2, 3, 5)}, append(turns[:6:6], done(free(4, 1)), done(free(1, 1)))...)
	checkTurns(t, []api.Lock{wait(shared(1, 0), own(1, 1), share(3, 1), own(4, 1), share(5, 1))}, append(turns[:6:6], done(free(2, 1)))...)
	// With one that has the key alone nothing changes for those behind.
	checkTurns(t, []api.Lock{wait(alone(1, 0), share(2, 1))},
		done(own(0, 1)), held(own(1, 1)), held(share(2, 1)), done(free(1, 1)))
}

// Promises S1 and S3: a key is held alone or not as its present holders asked for
// it, whatever was before.
func TestAloneAfterwards(t *testing.T) {
	checkTurns(t, []api.Lock{shared(1, 1)}, done(own(0, 1)), done(free(0, 1)), done(share(1, 1)))
	checkTurns(t, []api.Lock{alone(1, 1)}, done(share(0, 1)), done(free(0, 1)), done(own(1, 1)))
	checkTurns(t, []api.Lock{shared(1, 1, 2)}, done(own(0, 1)), done(free(0, 1)), done(share(1, 1)), done(share(2, 1)))
	checkTurns(t, []api.Lock{shared(1, 1, 2)}, done(own(0, 1)), held(share(1, 1)), done(free(0, 1)), done(share(2, 1)))
	checkTurns(t, []api.Lock{wait(alone(1, 1), share(2, 1))}, done(share(0, 1)), held(own(1, 1)), done(free(0, 1)), held(share(2, 1)))
}

// Promises S2 and S3: all nodes wait in one queue, and are served one by one.
func TestAllNodes(t *testing.T) {
	var turns []turn
	for node := range mostNodes {
		turns = append(turns, turn{own(node, 1), []api.Errno{api.OK, api.ErrHeld}[min(node, 1)]})
	}
	for node := range mostNodes {
		var waits []api.LockOp
		for other := node + 1; other < mostNodes; other++ {
			waits = append(waits, own(other, 1))
		}
		checkTurns(t, []api.Lock{wait(alone(1, node), waits...)}, turns...)
		turns = append(turns, done(free(node, 1)))
	}
	checkTurns(t, nil, turns...)
}
