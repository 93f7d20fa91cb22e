package lease_test

import (
	"slices"
	"testing"

	"strawloft/api"
)

// longs and offs are lengths of leases and errors of clocks, up to the limits.
var (
	longs = []int{1, 2, 3, 7, 10, 1 << 10, mostLong - 1, mostLong}
	offs  = []int{0, 1, 2, 3, 5, 1 << 10, mostOff - 1, mostOff}
)

// offsets is what a node's offset may be: all if they are few.
func offsets(off int) []int {
	if off <= 3 {
		var l []int
		for n := -off; n <= off; n++ {
			l = append(l, n)
		}
		return l
	}
	return []int{-off, -off + 1, -1, 0, 1, off - 1, off}
}

// isMay is the answer without an error that says whether the node may act.
func isMay(is bool) api.LeaseAns {
	return api.LeaseAns{May: is}
}

// Promise R2: another node may obtain the lease as soon as it is long + 2 * off
// after it was granted, whatever the clocks of both show, and not before.
func TestExpiry(t *testing.T) {
	for _, long := range longs {
		for _, off := range offs {
			for _, first := range offsets(off) {
				for _, second := range offsets(off) {
					checkTurns(t, 3, long, off,
						turn{tick(4), mayNot}, turn{fast(0, first), mayNot}, turn{fast(1, second), mayNot}, turn{ask(0), may},
						turn{ask(1), no(api.ErrHeld)}, turn{tick(long + 2*off - 1), mayNot}, turn{ask(1), no(api.ErrHeld)},
						turn{fast(1, -second), mayNot}, turn{ask(1), no(api.ErrHeld)}, turn{ask(2), no(api.ErrHeld)},
						turn{tick(1), mayNot}, turn{ask(1), may}, turn{ask(0), no(api.ErrHeld)},
						turn{tick(long + 2*off - 1), mayNot}, turn{ask(2), no(api.ErrHeld)},
						turn{tick(1), mayNot}, turn{ask(2), may})
				}
			}
		}
	}
}

// Promise R2: a node that receives the lease may act until its own clock shows
// that it is over, as it shows the time now.
func TestUntil(t *testing.T) {
	for _, long := range longs {
		for _, off := range offs {
			for _, first := range offsets(off) {
				for _, second := range offsets(off) {
					last := long + first - second - 1
					if last < 0 {
						checkTurns(t, 1, long, off,
							turn{fast(0, first), mayNot}, turn{ask(0), may}, turn{fast(0, second), mayNot}, turn{see(0), mayNot},
							turn{fast(0, first), may}, turn{see(0), may})
						continue
					}
					checkTurns(t, 2, long, off,
						turn{fast(0, first), mayNot}, turn{ask(0), may}, turn{fast(1, -second), mayNot}, turn{fast(0, second), may},
						turn{tick(last), mayNot}, turn{see(0), may}, turn{see(1), mayNot}, turn{fast(1, off), mayNot},
						turn{tick(1), mayNot}, turn{see(0), mayNot}, turn{fast(0, second), mayNot})
				}
			}
		}
	}
}

// Promise R2: a clock that is set back gives a node its lease back, as long as it
// has it.
func TestClockGoesBack(t *testing.T) {
	checkTurns(t, 2, 10, 3,
		turn{fast(0, 3), mayNot}, turn{ask(0), may}, turn{tick(10), mayNot}, turn{see(0), mayNot},
		turn{fast(0, 2), may}, turn{fast(0, 3), mayNot}, turn{fast(0, -3), may}, turn{tick(5), mayNot},
		turn{see(0), may}, turn{ask(1), no(api.ErrHeld)}, turn{tick(1), mayNot}, turn{see(0), mayNot},
		turn{ask(1), may}, turn{fast(0, -3), mayNot})
	checkTurns(t, 2, 10, 3,
		turn{ask(0), may}, turn{tick(10), mayNot}, turn{give(0), mayNot}, turn{fast(0, -3), mayNot}, turn{see(0), mayNot})
	// Own clocks that show less than 0.
	checkTurns(t, 2, 2, 9,
		turn{fast(0, -9), mayNot}, turn{ask(0), may}, turn{tick(1), mayNot}, turn{see(0), may},
		turn{tick(1), mayNot}, turn{see(0), mayNot}, turn{fast(1, -9), mayNot}, turn{see(1), mayNot})
}

// Promise R2: an offset takes the place of the one before it, within its limits;
// one that is outside of them changes nothing.
func TestOffsets(t *testing.T) {
	for _, off := range offs {
		for _, n := range slices.Concat(sparse, []int{-off - 1, -off, off, off + 1, off + 1<<32}) {
			if n >= -off && n <= off {
				checkTurns(t, 1, 9, off,
					turn{fast(0, n), mayNot}, turn{fast(0, n), mayNot}, turn{fast(0, -n), mayNot},
					turn{ask(0), may}, turn{fast(0, -n), may}, turn{tick(8), mayNot}, turn{see(0), may},
					turn{tick(1), mayNot}, turn{see(0), mayNot})
				continue
			}
			wrong := turn{fast(0, n), no(api.ErrRange)}
			checkTurns(t, 2, 9, off,
				wrong, turn{ask(0), may}, wrong, turn{tick(8), mayNot}, wrong, turn{see(0), may},
				turn{tick(1), mayNot}, wrong, turn{see(0), mayNot})
			checkTurns(t, 2, 9, off,
				turn{fast(0, off), mayNot}, wrong, turn{fast(1, n), no(api.ErrRange)}, turn{ask(0), may},
				turn{tick(8), mayNot}, wrong, turn{see(0), may}, turn{tick(1), mayNot}, turn{see(0), mayNot})
		}
	}
}

// Promise R2: each node has an offset of its own, which is 0 at first.
func TestOffsetsOfEach(t *testing.T) {
	for nodes := 1; nodes <= mostNodes; nodes++ {
		for node := range nodes {
			turns := []turn{{ask(node), may}}
			for other := range nodes {
				turns = append(turns, turn{fast(other, other-20), isMay(other == node)})
			}
			for other := range nodes {
				turns = append(turns, turn{see(other), isMay(other == node)})
			}
			// The holder's clock shows 0 again as soon as it is 20 - node later.
			turns = append(turns,
				turn{tick(20 - node), mayNot}, turn{see(node), may}, turn{tick(99), mayNot}, turn{see(node), may},
				turn{tick(1), mayNot}, turn{see(node), mayNot})
			checkTurns(t, nodes, 100, 20, turns...)
		}
	}
}

// Promise R2: the holder may ask again, before and after the lease has expired;
// its time and the server's then begin anew.
func TestAskAgain(t *testing.T) {
	for _, long := range longs {
		for _, off := range offs {
			for _, after := range []int{0, 1, long - 1, long, long + off, long + 2*off - 1, long + 2*off, long + 2*off + 1, 1 << 30} {
				turns := []turn{{ask(0), may}, {tick(after), mayNot}, {ask(0), may}, {ask(1), no(api.ErrHeld)}}
				checkTurns(t, 2, long, off, append(turns[:4:4],
					turn{tick(long - 1), mayNot}, turn{see(0), may}, turn{tick(1), mayNot}, turn{see(0), mayNot},
					turn{fast(0, -off), isMay(off > 0)})...)
				checkTurns(t, 2, long, off, append(turns[:4:4],
					turn{tick(long + 2*off - 1), mayNot}, turn{ask(1), no(api.ErrHeld)}, turn{tick(1), mayNot}, turn{ask(1), may})...)
			}
		}
	}
}

// Promise R2: a node that asks again may receive a limit that is lower than the
// one before, by its own clock.
func TestAskAgainWithOtherClock(t *testing.T) {
	for _, off := range []int{1, 2, 50} {
		checkTurns(t, 2, 10, off,
			turn{fast(0, off), mayNot}, turn{ask(0), may}, turn{fast(0, -off), may}, turn{ask(0), may},
			turn{tick(9), mayNot}, turn{see(0), may}, turn{tick(1), mayNot}, turn{see(0), mayNot})
		checkTurns(t, 2, 10, off,
			turn{fast(0, -off), mayNot}, turn{ask(0), may}, turn{fast(0, off), isMay(2*off < 10)}, turn{ask(0), may},
			turn{tick(9), mayNot}, turn{see(0), may}, turn{tick(1), mayNot}, turn{see(0), mayNot},
			turn{fast(0, -off), may})
	}
}

// Promise R2: asking for a lease that another node holds changes nothing, neither
// for that node nor for the one that asks.
func TestHeld(t *testing.T) {
	for other := 1; other < mostNodes; other++ {
		checkTurns(t, 16, 3, 1,
			turn{ask(0), may}, turn{tick(2), mayNot}, turn{ask(other), no(api.ErrHeld)}, turn{see(0), may}, turn{see(other), mayNot},
			turn{give(other), no(api.ErrNone)}, turn{tick(1), mayNot}, turn{ask(other), no(api.ErrHeld)}, turn{see(0), mayNot},
			turn{tick(1), mayNot}, turn{ask(other), no(api.ErrHeld)}, turn{ask(other), no(api.ErrHeld)},
			turn{tick(1), mayNot}, turn{ask(other), may}, turn{see(0), mayNot}, turn{ask(0), no(api.ErrHeld)},
			turn{see(other), may}, turn{give(0), no(api.ErrNone)}, turn{see(other), may})
	}
}

// Promise R2: after the holder returns the lease, nobody holds it: the node may not
// act, and any node may obtain it at once.
func TestGive(t *testing.T) {
	for _, off := range offs {
		for next := range mostNodes {
			checkTurns(t, 16, 10, off,
				turn{ask(3), may}, turn{tick(1), mayNot}, turn{give(3), mayNot}, turn{see(3), mayNot},
				turn{fast(3, -off), mayNot}, turn{give(3), no(api.ErrNone)}, turn{see(3), mayNot},
				turn{ask(next), may}, turn{ask((next + 1) % 16), no(api.ErrHeld)}, turn{see(3), isMay(next == 3)},
				turn{tick(9), mayNot}, turn{see(next), may}, turn{tick(1), mayNot}, turn{see(next), mayNot},
				turn{tick(2 * off), mayNot}, turn{ask((next + 1) % 16), may})
		}
	}
}

// Promise R2: only the holder may return the lease. It is the holder even if the
// lease has expired, until another node has obtained it.
func TestGiveOfHolder(t *testing.T) {
	for _, off := range offs {
		for _, after := range []int{0, 4, 5, 5 + off, 5 + 2*off - 1, 5 + 2*off, 5 + 2*off + 1, latest} {
			checkTurns(t, 3, 5, off,
				turn{give(0), no(api.ErrNone)}, turn{ask(0), may}, turn{tick(after), mayNot}, turn{give(1), no(api.ErrNone)},
				turn{give(0), mayNot}, turn{give(0), no(api.ErrNone)}, turn{give(1), no(api.ErrNone)})
			if after < 5+2*off {
				continue
			}
			checkTurns(t, 3, 5, off,
				turn{ask(0), may}, turn{tick(after), mayNot}, turn{ask(1), may}, turn{give(0), no(api.ErrNone)},
				turn{see(0), mayNot}, turn{see(1), may}, turn{ask(2), no(api.ErrHeld)}, turn{give(1), mayNot},
				turn{give(0), no(api.ErrNone)}, turn{see(1), mayNot}, turn{ask(0), may})
		}
	}
}

// Promise R2: a node that lost the lease to another one may obtain it again.
func TestBackAndForth(t *testing.T) {
	var turns []turn
	for i := range 60 {
		turns = append(turns,
			turn{ask(i % 3), may}, turn{see((i + 2) % 3), mayNot}, turn{ask((i + 1) % 3), no(api.ErrHeld)},
			turn{tick(6), mayNot}, turn{see(i % 3), mayNot}, turn{tick(4), mayNot})
	}
	checkTurns(t, 3, 6, 2, turns...)
}

// Promise R2: to see whether a node may act has no effect.
func TestSee(t *testing.T) {
	for seed := range 200 {
		nodes := seed%16 + 1
		ops := someOps(20, nodes, 6, 2, 3, seed+40)
		want := slowPlay(nodes, 6, 2, ops)
		var more []api.LeaseOp
		for i, op := range ops {
			more = append(more, see(i%nodes), op, see((i+seed)%nodes), see(-1))
		}
		answers := slowPlay(nodes, 6, 2, more)
		checkPlay(t, nodes, 6, 2, more, answers)
		for i := range ops {
			if answers[4*i+1] != want[i] {
				t.Fatalf("%v: answer %d is another one if the nodes are seen", ops, i)
			}
		}
	}
}
