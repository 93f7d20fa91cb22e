package maps_test

import (
	"math"
	"slices"
	"testing"

	"strawloft/api"
	"strawloft/maps"
)

// mapOf is a map, in fewer words.
func mapOf(epoch int, states ...int) api.Map {
	return api.Map{Epoch: epoch, States: states}
}

// stepOf is a step, with its changes: of each one its index, and then the
// states before and after.
func stepOf(epoch int, numbers ...int) api.Step {
	s := api.Step{Epoch: epoch}
	for c := range slices.Chunk(numbers, 3) {
		s.Changes = append(s.Changes, api.Change{At: c[0], From: c[1], To: c[2]})
	}
	return s
}

// rising is n states from a first one on, each larger by 1 than the one before
// it.
func rising(n, first int) []int {
	var list []int
	for i := range n {
		list = append(list, first+i)
	}
	return list
}

// epochs is valid epochs from the least to the greatest one.
func epochs() []int {
	return []int{0, 1, 2, 7, 400, 1 << 31, 1 << 32, 1 << 39, api.MaxTime - 2, api.MaxTime - 1, api.MaxTime}
}

// wrongEpochs is epochs that no map may have.
func wrongEpochs() []int {
	return []int{-1, -2, -400, -api.MaxTime, math.MinInt, api.MaxTime + 1, api.MaxTime + 2, 1 << 41, math.MaxInt - 1, math.MaxInt}
}

// someStates is lists of states of many kinds.
func someStates() [][]int {
	list := [][]int{
		{}, {0}, {1}, {-1}, {5}, {math.MinInt}, {math.MaxInt}, {5, 6}, {6, 5}, {5, 5}, {0, 0, 0}, {1, 2, 3}, {math.MaxInt, math.MinInt, 0, -7, 1 << 32},
	}
	for _, n := range []int{4, 16, 17, 100, 399, 400} {
		list = append(list, rising(n, -n/2), make([]int, n), slices.Repeat([]int{math.MinInt}, n))
	}
	return list
}

// otherStates is lists of as many states as the given one has: the same ones,
// one that differs in the first, a middle or the last place, in every other
// place, in the places one after another from both ends, and in all.
func otherStates(states []int) [][]int {
	list := [][]int{slices.Clone(states)}
	if len(states) == 0 {
		return list
	}
	for _, differs := range []func(i int) bool{
		func(i int) bool { return i == 0 }, func(i int) bool { return i == len(states)-1 }, func(i int) bool { return i == len(states)/2 },
		func(i int) bool { return i%2 == 0 }, func(i int) bool { return i%2 == 1 }, func(i int) bool { return 2*i < len(states) },
		func(i int) bool { return 2*i >= len(states) }, func(i int) bool { return i*i%7 == 2 }, func(int) bool { return true },
	} {
		for _, by := range []int{1, -1, math.MinInt} {
			other := slices.Clone(states)
			for i := range other {
				if differs(i) {
					other[i] += by
				}
			}
			list = append(list, other)
		}
	}
	return list
}

// wrongMaps is maps that are not valid.
func wrongMaps() []api.Map {
	var list []api.Map
	for _, epoch := range wrongEpochs() {
		list = append(list, mapOf(epoch), mapOf(epoch, 5, 6), mapOf(epoch, rising(400, 0)...), mapOf(epoch, rising(401, 0)...))
	}
	for _, epoch := range epochs() {
		list = append(list, mapOf(epoch, rising(401, 0)...), mapOf(epoch, make([]int, 402)...), mapOf(epoch, make([]int, 1000)...))
	}
	return list
}

// sameMap reports whether two maps are equal.
func sameMap(a, b api.Map) bool {
	return a.Epoch == b.Epoch && slices.Equal(a.States, b.States)
}

// sameStep reports whether two steps are equal.
func sameStep(a, b api.Step) bool {
	return a.Epoch == b.Epoch && slices.Equal(a.Changes, b.Changes)
}

// slowDiff is the changes from states to others, by the chapter.
func slowDiff(from, to []int) []api.Change {
	var list []api.Change
	for i := range from {
		if from[i] != to[i] {
			list = append(list, api.Change{At: i, From: from[i], To: to[i]})
		}
	}
	return list
}

// checkDiff checks the step between two maps, without an error.
func checkDiff(t *testing.T, a, b api.Map, want api.Step) {
	t.Helper()
	if got, err := maps.Diff(a, b); !sameStep(got, want) || err != api.OK {
		t.Errorf("Diff(%v, %v) is %v, %d, want %v, OK", a, b, got, err, want)
	}
}

// checkNoDiff checks that there is no step between two maps.
func checkNoDiff(t *testing.T, a, b api.Map, want api.Errno) {
	t.Helper()
	if got, err := maps.Diff(a, b); !sameStep(got, api.Step{}) || err != want {
		t.Errorf("Diff(%v, %v) is %v, %d, want no step, %d", a, b, got, err, want)
	}
}

// Promise L1: valid maps have an epoch from 0 to MaxTime and at most MaxOps
// states, which may be any numbers.
func TestRight(t *testing.T) {
	for _, epoch := range epochs() {
		for _, states := range someStates() {
			if !maps.Right(mapOf(epoch, states...)) {
				t.Errorf("Right is false for the epoch %d and %d states", epoch, len(states))
			}
		}
		for n := range api.MaxOps + 1 {
			if !maps.Right(mapOf(epoch, make([]int, n)...)) {
				t.Errorf("Right is false for the epoch %d and %d states", epoch, n)
			}
		}
		if !maps.Right(api.Map{Epoch: epoch}) || !maps.Right(api.Map{Epoch: epoch, States: []int{}}) {
			t.Errorf("Right is false for the epoch %d without states", epoch)
		}
	}
	for _, m := range wrongMaps() {
		if maps.Right(m) {
			t.Errorf("Right is true for the epoch %d and %d states", m.Epoch, len(m.States))
		}
	}
	for _, n := range []int{401, 402, 511, 512, 800, 1 << 16, 1<<16 + 1} {
		if maps.Right(mapOf(0, make([]int, n)...)) {
			t.Errorf("Right is true for %d states", n)
		}
	}
}

// Promise L1: steps written out.
func TestDiff(t *testing.T) {
	for _, c := range []struct {
		a, b api.Map
		want api.Step
	}{
		{mapOf(1, 5, 6), mapOf(2, 5, 7), stepOf(1, 1, 6, 7)},
		{mapOf(0), mapOf(1), stepOf(0)},
		{mapOf(0, 0), mapOf(1, 0), stepOf(0)},
		{mapOf(0, 0), mapOf(1, 1), stepOf(0, 0, 0, 1)},
		{mapOf(0, 1), mapOf(1, 0), stepOf(0, 0, 1, 0)},
		{mapOf(0, -1), mapOf(1, 1), stepOf(0, 0, -1, 1)},
		{mapOf(7, 5, 6, 7), mapOf(8, 4, 6, 7), stepOf(7, 0, 5, 4)},
		{mapOf(7, 5, 6, 7), mapOf(8, 5, 6, 9), stepOf(7, 2, 7, 9)},
		{mapOf(7, 5, 6, 7), mapOf(8, 9, 6, 4), stepOf(7, 0, 5, 9, 2, 7, 4)},
		{mapOf(7, 5, 6, 7), mapOf(8, 6, 7, 5), stepOf(7, 0, 5, 6, 1, 6, 7, 2, 7, 5)},
		{mapOf(7, 5, 5, 5, 5), mapOf(8, 6, 5, 6, 5), stepOf(7, 0, 5, 6, 2, 5, 6)},
		{mapOf(1<<32, math.MaxInt, math.MinInt), mapOf(1<<32+1, math.MinInt, math.MaxInt), stepOf(1<<32, 0, math.MaxInt, math.MinInt, 1, math.MinInt, math.MaxInt)},
		{mapOf(3, 1<<32, 1<<32), mapOf(4, 0, 1<<33), stepOf(3, 0, 1<<32, 0, 1, 1<<32, 1<<33)},
		{mapOf(api.MaxTime-1, 3), mapOf(api.MaxTime, 4), stepOf(api.MaxTime-1, 0, 3, 4)},
		{mapOf(api.MaxTime - 1), mapOf(api.MaxTime), stepOf(api.MaxTime - 1)},
	} {
		checkDiff(t, c.a, c.b, c.want)
	}
}

// Promise L1: steps between many maps, by the definition.
func TestDiffByDefinition(t *testing.T) {
	for _, epoch := range epochs() {
		if epoch == api.MaxTime {
			continue
		}
		for _, states := range someStates() {
			for _, other := range otherStates(states) {
				changes := slowDiff(states, other)
				checkDiff(t, mapOf(epoch, states...), mapOf(epoch+1, other...), api.Step{Epoch: epoch, Changes: changes})
			}
		}
	}
}

// Promise L1: each index of the longest maps may be the only one, or one of
// two, at which they differ, and all may differ at once.
func TestDiffEachIndex(t *testing.T) {
	states := rising(api.MaxOps, 10)
	for i := range states {
		other := slices.Clone(states)
		other[i] = -3
		checkDiff(t, mapOf(4, states...), mapOf(5, other...), stepOf(4, i, 10+i, -3))
		if i == 0 {
			continue
		}
		other[0] = 0
		checkDiff(t, mapOf(4, states...), mapOf(5, other...), stepOf(4, 0, 10, 0, i, 10+i, -3))
	}
	step, err := maps.Diff(mapOf(4, states...), mapOf(5, rising(api.MaxOps, 11)...))
	if len(step.Changes) != api.MaxOps || err != api.OK {
		t.Fatalf("Diff has %d changes, %d, want %d", len(step.Changes), err, api.MaxOps)
	}
	for i, c := range step.Changes {
		if c != (api.Change{At: i, From: 10 + i, To: 11 + i}) {
			t.Errorf("change %d is %v", i, c)
		}
	}
}

// Promise L1: maps that are not valid have no step between them, whichever of
// the two it is and whatever their epochs and numbers of states are.
func TestDiffWrongMaps(t *testing.T) {
	for _, wrong := range wrongMaps() {
		for _, epoch := range []int{0, 1, wrong.Epoch - 1, wrong.Epoch, wrong.Epoch + 1, api.MaxTime} {
			for _, states := range [][]int{nil, {5, 6}, wrong.States, rising(400, 0)} {
				checkNoDiff(t, wrong, mapOf(epoch, states...), api.ErrForm)
				checkNoDiff(t, mapOf(epoch, states...), wrong, api.ErrForm)
			}
		}
		checkNoDiff(t, wrong, wrong, api.ErrForm)
	}
	for _, n := range []int{0, 1, 400} {
		checkNoDiff(t, mapOf(api.MaxTime, rising(n, 1)...), mapOf(api.MaxTime+1, rising(n, 2)...), api.ErrForm)
		checkNoDiff(t, mapOf(-1, rising(n, 1)...), mapOf(0, rising(n, 2)...), api.ErrForm)
	}
	checkNoDiff(t, mapOf(3, rising(401, 0)...), mapOf(4, rising(401, 0)...), api.ErrForm)
	checkNoDiff(t, mapOf(math.MaxInt, 1), mapOf(math.MinInt, 2), api.ErrForm)
}

// Promise L1: maps with different numbers of states have no step between them,
// whatever their epochs are.
func TestDiffDifferentNumbers(t *testing.T) {
	for _, numbers := range [][2]int{{0, 1}, {1, 2}, {2, 7}, {0, 400}, {1, 400}, {399, 400}, {0, 401}, {400, 401}} {
		less, more := rising(numbers[0], 0), rising(numbers[1], 0)
		for _, epoch := range epochs() {
			for _, other := range []int{epoch + 1, epoch, epoch - 1, 0, 5, api.MaxTime} {
				checkNoDiff(t, mapOf(epoch, less...), mapOf(other, more...), api.ErrForm)
				checkNoDiff(t, mapOf(epoch, more...), mapOf(other, less...), api.ErrForm)
			}
		}
	}
}

// Promise L1: the epochs must follow each other, whether the states differ or
// not.
func TestDiffEpochs(t *testing.T) {
	for _, a := range epochs() {
		for _, b := range epochs() {
			for _, states := range [][]int{nil, {5, 6}, {5, 7}, {8, 8}} {
				from := []int{5, 6}[:len(states)]
				if b == a+1 {
					checkDiff(t, mapOf(a, from...), mapOf(b, states...), api.Step{Epoch: a, Changes: slowDiff(from, states)})
				} else {
					checkNoDiff(t, mapOf(a, from...), mapOf(b, states...), api.ErrRange)
				}
			}
		}
	}
	checkNoDiff(t, mapOf(5, 1), mapOf(4, 2), api.ErrRange)
	checkNoDiff(t, mapOf(5, 1), mapOf(5, 2), api.ErrRange)
	checkNoDiff(t, mapOf(5, 1), mapOf(7, 2), api.ErrRange)
}

// Promises L1 and AA2: maps stay as they are, with what lies behind their
// states, which does not matter, and steps are new.
func TestDiffMemory(t *testing.T) {
	for _, states := range someStates() {
		for _, other := range otherStates(states) {
			n := len(states)
			a, b := append(slices.Clone(states), 1, 2, 3), append(slices.Clone(other), 1, 5, 4)
			want := api.Step{Epoch: 3, Changes: slowDiff(states, other)}
			checkDiff(t, mapOf(3, a[:n]...), mapOf(4, b[:n]...), want)
			first, _ := maps.Diff(mapOf(3, a[:n]...), mapOf(4, b[:n]...))
			second, _ := maps.Diff(mapOf(3, a[:n]...), mapOf(4, b[:n]...))
			clear(first.Changes[:cap(first.Changes)])
			if !slices.Equal(a, append(slices.Clone(states), 1, 2, 3)) || !slices.Equal(b, append(slices.Clone(other), 1, 5, 4)) {
				t.Errorf("Diff changed its arguments: %v, %v", a, b)
			}
			clear(a)
			clear(b)
			if !sameStep(second, want) {
				t.Errorf("Diff of %v and %v has results that share memory", states, other)
			}
		}
	}
}
