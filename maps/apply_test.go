package maps_test

import (
	"math"
	"slices"
	"testing"

	"strawloft/api"
	"strawloft/maps"
	"strawloft/mix"
)

// someChanges is up to n changes with indices, states before and states after
// of a few numbers, in all ways.
func someChanges(n, lastIndex, lastState int) [][]api.Change {
	list := [][]api.Change{nil}
	shorter := list
	for range n {
		var longer [][]api.Change
		for _, changes := range shorter {
			for at := -1; at <= lastIndex; at++ {
				for from := range lastState + 1 {
					for to := range lastState + 1 {
						longer = append(longer, append(slices.Clone(changes), api.Change{At: at, From: from, To: to}))
					}
				}
			}
		}
		list = append(list, longer...)
		shorter = longer
	}
	return list
}

// smallStates is all lists of up to n states that are 0 or 1.
func smallStates(n int) [][]int {
	var list [][]int
	for long := range n + 1 {
		for bits := range 1 << long {
			var states []int
			for i := range long {
				states = append(states, bits>>i&1)
			}
			list = append(list, states)
		}
	}
	return list
}

// wrongChanges is changes that are not valid, whatever the map.
func wrongChanges() [][]api.Change {
	var list [][]api.Change
	for _, s := range []api.Step{
		stepOf(0, -1, 5, 7), stepOf(0, math.MinInt, 5, 7), stepOf(0, -1, 5, 7, 0, 5, 7), stepOf(0, -2, 5, 7, -1, 5, 7),
		stepOf(0, 0, 5, 7, -1, 5, 7), stepOf(0, 0, 5, 7, 0, 5, 7), stepOf(0, 0, 5, 7, 0, 7, 8), stepOf(0, 1, 6, 7, 0, 5, 7),
		stepOf(0, 1, 6, 7, 1, 7, 6), stepOf(0, 0, 5, 7, 1, 6, 7, 1, 7, 8), stepOf(0, 0, 5, 7, 1, 6, 7, 0, 7, 8),
		stepOf(0, 0, 5, 7, 2, 6, 7, 1, 7, 8), stepOf(0, 9, 1, 2, 8, 1, 2), stepOf(0, 9, 1, 2, 9, 1, 2),
		stepOf(0, math.MaxInt, 1, 2, math.MaxInt, 2, 3), stepOf(0, math.MaxInt, 1, 2, math.MinInt, 1, 2),
		stepOf(0, 0, 5, 5), stepOf(0, 0, 7, 7), stepOf(0, 0, 0, 0), stepOf(0, 9, 1, 1), stepOf(0, 0, 5, 7, 1, 6, 6), stepOf(0, 0, 5, 5, 1, 6, 7),
		stepOf(0, 0, 8, 8, 1, 6, 7), stepOf(0, 0, 5, 7, 1, 6, 7, 2, 1, 1), stepOf(0, 0, 8, 9, 1, 6, 6), stepOf(0, 8, 1, 2, 9, 1, 1),
		stepOf(0, 0, math.MinInt, math.MinInt), stepOf(0, 1, math.MaxInt, math.MaxInt),
	} {
		list = append(list, s.Changes)
	}
	return list
}

// slowForm reports whether changes are as they must be, by the chapter.
func slowForm(changes []api.Change) bool {
	for i, c := range changes {
		if c.At < 0 || c.From == c.To || i > 0 && changes[i-1].At >= c.At {
			return false
		}
	}
	return true
}

// slowRight reports whether a map is valid, by the chapter.
func slowRight(m api.Map) bool {
	return 0 <= m.Epoch && m.Epoch <= 1<<40 && len(m.States) <= 400
}

// slowChanged is the map of an epoch with states of which each one is what the
// last change of it makes of it.
func slowChanged(epoch int, states []int, changes []api.Change) (api.Map, api.Errno) {
	to := map[int]int{}
	for _, c := range changes {
		switch {
		case c.At > len(states)-1:
			return api.Map{}, api.ErrNone
		case states[c.At] != c.From:
			return api.Map{}, api.ErrSum
		}
		to[c.At] = c.To
	}
	m := api.Map{Epoch: epoch}
	for i, state := range states {
		if other, ok := to[i]; ok {
			state = other
		}
		m.States = append(m.States, state)
	}
	return m, api.OK
}

// slowApply is the map after a step, by the chapter.
func slowApply(m api.Map, s api.Step) (api.Map, api.Errno) {
	switch {
	case !slowRight(m) || !slowForm(s.Changes):
		return api.Map{}, api.ErrForm
	case m.Epoch == 1<<40:
		return api.Map{}, api.ErrFull
	case m.Epoch != s.Epoch:
		return api.Map{}, api.ErrRange
	}
	return slowChanged(m.Epoch+1, m.States, s.Changes)
}

// slowUndo is the map before a step, by the chapter.
func slowUndo(m api.Map, s api.Step) (api.Map, api.Errno) {
	switch {
	case !slowRight(m) || !slowForm(s.Changes):
		return api.Map{}, api.ErrForm
	case m.Epoch == 0 || m.Epoch != s.Epoch+1:
		return api.Map{}, api.ErrRange
	}
	var back []api.Change
	for _, c := range s.Changes {
		back = append(back, api.Change{At: c.At, From: c.To, To: c.From})
	}
	return slowChanged(m.Epoch-1, m.States, back)
}

// checkApply checks what a step makes of a map, alone and as a list of steps.
func checkApply(t *testing.T, m api.Map, s api.Step, want api.Map, wantErr api.Errno) {
	t.Helper()
	if got, err := maps.Apply(m, s); !sameMap(got, want) || err != wantErr {
		t.Errorf("Apply(%v, %v) is %v, %d, want %v, %d", m, s, got, err, want, wantErr)
	}
	checkAll(t, m, []api.Step{s}, want, wantErr)
}

// checkUndo checks what a map is without a step.
func checkUndo(t *testing.T, m api.Map, s api.Step, want api.Map, wantErr api.Errno) {
	t.Helper()
	if got, err := maps.Undo(m, s); !sameMap(got, want) || err != wantErr {
		t.Errorf("Undo(%v, %v) is %v, %d, want %v, %d", m, s, got, err, want, wantErr)
	}
}

// checkAll checks what a list of steps makes of a map.
func checkAll(t *testing.T, m api.Map, l []api.Step, want api.Map, wantErr api.Errno) {
	t.Helper()
	if got, err := maps.All(m, l); !sameMap(got, want) || err != wantErr {
		t.Errorf("All(%v, %v) is %v, %d, want %v, %d", m, l, got, err, want, wantErr)
	}
}

// checkNeither checks that a step can neither be applied to a map nor be
// undone, both for the same reason.
func checkNeither(t *testing.T, m api.Map, s api.Step, want api.Errno) {
	t.Helper()
	checkApply(t, m, s, api.Map{}, want)
	checkUndo(t, m, s, api.Map{}, want)
}

// checkStep checks that a step leads from a map to another one, and back, and
// not any further.
func checkStep(t *testing.T, before api.Map, s api.Step, after api.Map) {
	t.Helper()
	checkDiff(t, before, after, s)
	checkApply(t, before, s, after, api.OK)
	checkUndo(t, after, s, before, api.OK)
	checkUndo(t, before, s, api.Map{}, api.ErrRange)
	twice := api.ErrRange
	if after.Epoch == api.MaxTime {
		twice = api.ErrFull
	}
	checkApply(t, after, s, api.Map{}, twice)
	checkAll(t, before, []api.Step{s, s}, api.Map{}, twice)
	checkAll(t, after, nil, after, api.OK)
}

// Promise L2: maps and steps written out.
func TestSteps(t *testing.T) {
	for _, c := range []struct {
		before api.Map
		s      api.Step
		after  api.Map
	}{
		{mapOf(1, 5, 6), stepOf(1, 1, 6, 7), mapOf(2, 5, 7)},
		{mapOf(0), stepOf(0), mapOf(1)},
		{mapOf(0, 0), stepOf(0), mapOf(1, 0)},
		{mapOf(0, 0), stepOf(0, 0, 0, 1), mapOf(1, 1)},
		{mapOf(0, 1), stepOf(0, 0, 1, 0), mapOf(1, 0)},
		{mapOf(0, -1), stepOf(0, 0, -1, 1), mapOf(1, 1)},
		{mapOf(7, 5, 6, 7), stepOf(7, 0, 5, 4), mapOf(8, 4, 6, 7)},
		{mapOf(7, 5, 6, 7), stepOf(7, 2, 7, 9), mapOf(8, 5, 6, 9)},
		{mapOf(7, 5, 6, 7), stepOf(7, 0, 5, 9, 2, 7, 4), mapOf(8, 9, 6, 4)},
		{mapOf(7, 5, 6, 7), stepOf(7, 0, 5, 6, 1, 6, 7, 2, 7, 5), mapOf(8, 6, 7, 5)},
		{mapOf(7, 5, 5, 5, 5), stepOf(7, 0, 5, 6, 2, 5, 6), mapOf(8, 6, 5, 6, 5)},
		{mapOf(1<<32, math.MaxInt, math.MinInt), stepOf(1<<32, 0, math.MaxInt, math.MinInt, 1, math.MinInt, math.MaxInt), mapOf(1<<32+1, math.MinInt, math.MaxInt)},
		{mapOf(3, 1<<32, 1<<32), stepOf(3, 0, 1<<32, 0, 1, 1<<32, 1<<33), mapOf(4, 0, 1<<33)},
		{mapOf(api.MaxTime-1, 3), stepOf(api.MaxTime-1, 0, 3, 4), mapOf(api.MaxTime, 4)},
		{mapOf(api.MaxTime - 1), stepOf(api.MaxTime - 1), mapOf(api.MaxTime)},
	} {
		checkStep(t, c.before, c.s, c.after)
	}
}

// Promises L1 and L2: the difference of many maps, applied, gives the second
// one, and undone, the first one.
func TestDifferences(t *testing.T) {
	for _, epoch := range epochs() {
		if epoch == api.MaxTime {
			continue
		}
		for _, states := range someStates() {
			for _, other := range otherStates(states) {
				before, after := mapOf(epoch, states...), mapOf(epoch+1, other...)
				s, err := maps.Diff(before, after)
				if err != api.OK {
					t.Fatalf("Diff(%v, %v) is %v, %d", before, after, s, err)
				}
				checkStep(t, before, s, after)
			}
		}
	}
}

// Promise L2: each index of the longest maps may be changed alone, but not if
// it is the first one that the map does not have.
func TestEachIndex(t *testing.T) {
	for i := range api.MaxOps {
		states, other := rising(api.MaxOps, 10), rising(api.MaxOps, 10)
		other[i] = -3
		s := stepOf(4, i, 10+i, -3)
		checkStep(t, mapOf(4, states...), s, mapOf(5, other...))
		checkStep(t, mapOf(4, states[:i+1]...), s, mapOf(5, other[:i+1]...))
		checkApply(t, mapOf(4, states[:i]...), s, api.Map{}, api.ErrNone)
		checkUndo(t, mapOf(5, other[:i]...), s, api.Map{}, api.ErrNone)
	}
}

// Promise L2: maps that are not valid are ErrForm, whatever the step is and
// even if there is none.
func TestWrongMaps(t *testing.T) {
	for _, m := range wrongMaps() {
		for _, epoch := range []int{0, 1, m.Epoch - 1, m.Epoch, m.Epoch + 1, api.MaxTime} {
			for _, s := range []api.Step{
				stepOf(epoch), stepOf(epoch, 0, 5, 7), stepOf(epoch, 1, 6, 7), stepOf(epoch, 0, 8, 9), stepOf(epoch, 9999, 1, 2),
				stepOf(epoch, -1, 1, 2), stepOf(epoch, 0, 5, 5), stepOf(epoch, 0, 0, 1, 1, 1, 2),
			} {
				checkNeither(t, m, s, api.ErrForm)
			}
		}
		checkAll(t, m, nil, api.Map{}, api.ErrForm)
		checkAll(t, m, []api.Step{}, api.Map{}, api.ErrForm)
	}
}

// Promise L2: changes that are not valid are ErrForm, whatever the map is and
// whatever the epochs are.
func TestWrongChanges(t *testing.T) {
	for _, changes := range wrongChanges() {
		for _, epoch := range epochs() {
			for _, states := range [][]int{nil, {5}, {5, 6}, {5, 7}, {7, 6}, {5, 6, 7}, make([]int, 400)} {
				for _, other := range append(wrongEpochs(), epoch-1, epoch, epoch+1, 0, api.MaxTime) {
					checkNeither(t, mapOf(epoch, states...), api.Step{Epoch: other, Changes: changes}, api.ErrForm)
				}
			}
		}
	}
	for _, m := range []api.Map{mapOf(4, rising(api.MaxOps, 0)...), mapOf(5, rising(api.MaxOps, 1)...)} {
		s := api.Step{Epoch: 4, Changes: slowDiff(rising(api.MaxOps, 0), rising(api.MaxOps, 1))}
		s.Changes[399] = api.Change{At: 399, From: 7, To: 7}
		checkNeither(t, m, s, api.ErrForm)
		s.Changes[399] = api.Change{At: 398, From: 398, To: 399}
		checkNeither(t, m, s, api.ErrForm)
	}
}

// Promise L2: after MaxTime there is no epoch, whatever the step is of; before
// it there is one.
func TestFull(t *testing.T) {
	for _, epoch := range append(append(epochs(), wrongEpochs()...), api.MaxTime+1) {
		for _, changes := range someChanges(1, 2, 1) {
			if slowForm(changes) {
				checkApply(t, mapOf(api.MaxTime, 0, 1), api.Step{Epoch: epoch, Changes: changes}, api.Map{}, api.ErrFull)
			}
		}
		checkApply(t, mapOf(api.MaxTime), stepOf(epoch), api.Map{}, api.ErrFull)
		checkApply(t, mapOf(api.MaxTime, 5), stepOf(epoch, 0, 5, 6), api.Map{}, api.ErrFull)
	}
	checkStep(t, mapOf(api.MaxTime-1, 5), stepOf(api.MaxTime-1, 0, 5, 6), mapOf(api.MaxTime, 6))
}

// Promise L2: a step is applied in its own epoch and undone in the next one,
// and not in the epoch 0; this is checked before the changes are.
func TestEpochs(t *testing.T) {
	for _, epoch := range epochs() {
		for _, other := range append(append(epochs(), wrongEpochs()...), epoch-1, epoch+1, epoch-2, epoch+2) {
			for _, s := range []api.Step{stepOf(other), stepOf(other, 0, 5, 6), stepOf(other, 0, 8, 9), stepOf(other, 7, 5, 6)} {
				for _, states := range [][]int{nil, {5}, {6}, {5, 5}} {
					m := mapOf(epoch, states...)
					if other != epoch && epoch != api.MaxTime {
						checkApply(t, m, s, api.Map{}, api.ErrRange)
					}
					if other != epoch-1 || epoch == 0 {
						checkUndo(t, m, s, api.Map{}, api.ErrRange)
					}
				}
			}
		}
	}
	checkUndo(t, mapOf(0), stepOf(-1), api.Map{}, api.ErrRange)
	checkUndo(t, mapOf(0, 6), stepOf(-1, 0, 5, 6), api.Map{}, api.ErrRange)
	checkUndo(t, mapOf(0, 6), stepOf(math.MaxInt, 0, 5, 6), api.Map{}, api.ErrRange)
	checkUndo(t, mapOf(1, 6), stepOf(0, 0, 5, 6), mapOf(0, 5), api.OK)
	checkUndo(t, mapOf(1, 6), stepOf(1, 0, 5, 6), api.Map{}, api.ErrRange)
	checkUndo(t, mapOf(1, 6), stepOf(2, 0, 5, 6), api.Map{}, api.ErrRange)
}

// Promise L2: of the changes that do not fit the map, the first one decides.
// The map has the states 5, 6, 7.
func TestFirstChange(t *testing.T) {
	for _, c := range []struct {
		numbers []int // of the step that is applied
		want    api.Errno
	}{
		{[]int{3, 5, 6}, api.ErrNone},
		{[]int{400, 5, 6}, api.ErrNone},
		{[]int{1 << 32, 5, 6}, api.ErrNone},
		{[]int{1<<32 + 1, 6, 7}, api.ErrNone},
		{[]int{math.MaxInt, 5, 6}, api.ErrNone},
		{[]int{0, 6, 5}, api.ErrSum},
		{[]int{0, 4, 5}, api.ErrSum},
		{[]int{0, 8, 9}, api.ErrSum},
		{[]int{2, 8, 7}, api.ErrSum},
		{[]int{0, 5 + 1<<32, 9}, api.ErrSum},
		{[]int{0, -5, 5}, api.ErrSum},
		{[]int{0, 8, 9, 3, 5, 6}, api.ErrSum},
		{[]int{2, 8, 9, math.MaxInt, 5, 6}, api.ErrSum},
		{[]int{0, 5, 9, 3, 5, 6}, api.ErrNone},
		{[]int{0, 5, 9, 1, 6, 9, 2, 7, 9, 3, 8, 9}, api.ErrNone},
		{[]int{0, 5, 9, 1, 5, 9, 2, 7, 9, 3, 8, 9}, api.ErrSum},
		{[]int{0, 5, 9, 1, 6, 9, 2, 5, 9}, api.ErrSum},
		{[]int{0, 5, 6, 1, 5, 6}, api.ErrSum},
		{[]int{0, 5, 6, 1, 7, 6}, api.ErrSum},
		{[]int{3, 8, 9, 4, 8, 9}, api.ErrNone},
	} {
		checkApply(t, mapOf(4, 5, 6, 7), stepOf(4, c.numbers...), api.Map{}, c.want)
		var back []int
		for change := range slices.Chunk(c.numbers, 3) {
			back = append(back, change[0], change[2], change[1])
		}
		checkUndo(t, mapOf(5, 5, 6, 7), stepOf(4, back...), api.Map{}, c.want)
	}
	for _, n := range []int{0, 1, 2, 399, 400} {
		more := api.Step{Epoch: 4, Changes: slowDiff(rising(n+1, 0), rising(n+1, 1))}
		checkApply(t, mapOf(4, rising(n, 0)...), more, api.Map{}, api.ErrNone)
		checkUndo(t, mapOf(5, rising(n, 1)...), more, api.Map{}, api.ErrNone)
	}
}

// Promise L2: all small maps and steps, by the definition.
func TestByDefinition(t *testing.T) {
	numbers := []int{-1, 0, 1, 2, api.MaxTime - 1, api.MaxTime, api.MaxTime + 1}
	for _, changes := range someChanges(2, 2, 1) {
		for _, states := range smallStates(2) {
			for _, epoch := range numbers {
				for _, other := range numbers {
					checkByDefinition(t, mapOf(epoch, states...), api.Step{Epoch: other, Changes: changes})
				}
			}
		}
	}
	for _, changes := range someChanges(3, 3, 1) {
		for _, states := range smallStates(3) {
			checkByDefinition(t, mapOf(1, states...), api.Step{Epoch: 1, Changes: changes})
			checkByDefinition(t, mapOf(2, states...), api.Step{Epoch: 1, Changes: changes})
		}
	}
}

// checkByDefinition checks a map and a step against the chapter, and that what
// Apply did Undo undoes, and the other way round.
func checkByDefinition(t *testing.T, m api.Map, s api.Step) {
	t.Helper()
	next, err := slowApply(m, s)
	checkApply(t, m, s, next, err)
	if err == api.OK {
		checkStep(t, m, s, next)
	}
	last, err := slowUndo(m, s)
	checkUndo(t, m, s, last, err)
	if err == api.OK {
		checkStep(t, last, s, m)
	}
}

// history is n steps from a map on, with the map after each of them; some
// change nothing, and some all states.
func history(first api.Map, n int) ([]api.Map, []api.Step) {
	list, steps := []api.Map{first}, []api.Step{}
	for turn := range n {
		last := list[turn]
		states := slices.Clone(last.States)
		for i := range states {
			if hash := mix.Two(uint64(turn), uint64(i)); turn%7 == 6 || turn%5 > 0 && hash%4 == 0 {
				states[i] += int(hash>>8%5) - 2
			}
		}
		list = append(list, mapOf(last.Epoch+1, states...))
		steps = append(steps, api.Step{Epoch: last.Epoch, Changes: slowDiff(last.States, states)})
	}
	return list, steps
}

// histories is the first maps of histories of 30 steps.
func histories() []api.Map {
	list := []api.Map{mapOf(0), mapOf(api.MaxTime - 30)}
	for _, epoch := range []int{0, 1, 1 << 32, api.MaxTime - 30} {
		list = append(list, mapOf(epoch, 5), mapOf(epoch, 5, 6), mapOf(epoch, rising(16, 0)...), mapOf(epoch, make([]int, 400)...))
	}
	return list
}

// Promise L2: All is Apply step by step, from each map of a history to each
// later one, and Undo leads all the way back.
func TestHistories(t *testing.T) {
	for _, first := range histories() {
		list, steps := history(first, 30)
		m := first
		for i, s := range steps {
			checkStep(t, list[i], s, list[i+1])
			next, err := maps.Apply(m, s)
			if !sameMap(next, list[i+1]) || err != api.OK {
				t.Fatalf("Apply(%v, %v) is %v, %d, want %v, OK", m, s, next, err, list[i+1])
			}
			m = next
			for j := range i + 2 {
				checkAll(t, list[j], steps[j:i+1], list[i+1], api.OK)
			}
		}
		for i := len(steps) - 1; i >= 0; i-- {
			last, err := maps.Undo(m, steps[i])
			if !sameMap(last, list[i]) || err != api.OK {
				t.Fatalf("Undo(%v, %v) is %v, %d, want %v, OK", m, steps[i], last, err, list[i])
			}
			m = last
		}
	}
}

// Promise L2: no steps leave a map as it is.
func TestNoSteps(t *testing.T) {
	for _, epoch := range epochs() {
		for _, states := range someStates() {
			m := mapOf(epoch, states...)
			checkAll(t, m, nil, m, api.OK)
			checkAll(t, m, []api.Step{}, m, api.OK)
			checkAll(t, m, []api.Step{stepOf(-1, -1, 3, 3)}[:0], m, api.OK)
		}
	}
}

// Promise L2: the first step that cannot be applied says why, whatever the
// ones behind it are, and no map is left.
func TestAllErrors(t *testing.T) {
	list, steps := history(mapOf(6, rising(5, 0)...), 12)
	for i := range steps {
		at, states := list[i].Epoch, list[i].States
		for _, c := range []struct {
			s    api.Step
			want api.Errno
		}{
			{stepOf(at, -1, 3, 4), api.ErrForm}, {stepOf(at, 0, states[0], states[0]), api.ErrForm}, {stepOf(at-1, 1, 3, 4, 1, 4, 5), api.ErrForm},
			{stepOf(at - 1), api.ErrRange}, {stepOf(at + 1), api.ErrRange}, {stepOf(at+1, 0, states[0]+1, states[0]), api.ErrRange},
			{stepOf(at, 5, 3, 4), api.ErrNone}, {stepOf(at, 0, states[0], states[0]+1, 5, 3, 4), api.ErrNone},
			{stepOf(at, 0, states[0]+1, states[0]), api.ErrSum}, {stepOf(at, 4, states[4]+1, 8, 5, 3, 4), api.ErrSum},
		} {
			wrong := slices.Clone(steps)
			wrong[i] = c.s
			checkAll(t, list[0], wrong, api.Map{}, c.want)
			checkAll(t, list[0], wrong[:i+1], api.Map{}, c.want)
			for _, later := range []api.Step{stepOf(at+1, -1, 3, 3), stepOf(-5), stepOf(at+1, 9, 3, 4), stepOf(at+1, 0, 77, 78)} {
				checkAll(t, list[0], append(wrong[:i+1:i+1], later), api.Map{}, c.want)
			}
			checkAll(t, list[0], wrong[:i], list[i], api.OK)
		}
		checkAll(t, list[0], slices.Concat(steps[:i+1], steps[i:]), api.Map{}, api.ErrRange)
		if i+1 < len(steps) {
			checkAll(t, list[0], slices.Delete(slices.Clone(steps), i, i+1), api.Map{}, api.ErrRange)
		}
	}
	backwards := slices.Clone(steps)
	slices.Reverse(backwards)
	checkAll(t, list[0], backwards, api.Map{}, api.ErrRange)
}

// Promise L2: steps lead up to MaxTime, and one more is too many, if its
// changes are valid.
func TestAllUpToMaxTime(t *testing.T) {
	for n := range 5 {
		list, steps := history(mapOf(api.MaxTime-n, 1, 2, 3, 4, 5, 6), n)
		checkAll(t, list[0], steps, list[n], api.OK)
		for _, epoch := range []int{0, -1, api.MaxTime - 1, api.MaxTime, api.MaxTime + 1} {
			for _, s := range []api.Step{stepOf(epoch), stepOf(epoch, 0, 77, 78), stepOf(epoch, 6, 1, 2), stepOf(epoch, 0, list[n].States[0], 99)} {
				checkAll(t, list[0], append(slices.Clone(steps), s), api.Map{}, api.ErrFull)
				checkAll(t, list[0], append(slices.Clone(steps), s, stepOf(0, -1, 1, 1)), api.Map{}, api.ErrFull)
			}
			for _, changes := range wrongChanges() {
				s := api.Step{Epoch: epoch, Changes: changes}
				checkAll(t, list[0], append(slices.Clone(steps), s), api.Map{}, api.ErrForm)
			}
		}
	}
}

// Promise AA3: no states, no changes and no steps may be nil or empty.
func TestNothing(t *testing.T) {
	for _, states := range [][]int{nil, {}, []int{1, 2}[:0]} {
		for _, changes := range [][]api.Change{nil, {}, stepOf(0, -1, 3, 3).Changes[:0]} {
			checkStep(t, mapOf(3, states...), api.Step{Epoch: 3, Changes: changes}, mapOf(4, states...))
			checkStep(t, mapOf(3, 5, 6), api.Step{Epoch: 3, Changes: changes}, mapOf(4, 5, 6))
		}
	}
}

// behind is a map and steps with more behind their slices than belongs to
// them, and those slices as a whole.
func behind(m api.Map, steps []api.Step) (api.Map, []api.Step, []int, []api.Step) {
	states := append(slices.Clone(m.States), 5, 6, 7)
	all := append(slices.Clone(steps), stepOf(0, -1, 3, 3), stepOf(m.Epoch, 0, 5, 6))
	for i, s := range all {
		n := len(s.Changes)
		all[i].Changes = append(slices.Clone(s.Changes), api.Change{At: -1, From: 3, To: 3}, api.Change{At: n, From: 5, To: 6})[:n]
	}
	return mapOf(m.Epoch, states[:len(m.States)]...), all[:len(steps)], states, all
}

// sameSteps reports whether steps are equal, with what lies behind them and
// behind their changes.
func sameSteps(a, b []api.Step) bool {
	return slices.EqualFunc(a, b, func(a, b api.Step) bool {
		return a.Epoch == b.Epoch && len(a.Changes) == len(b.Changes) && slices.Equal(a.Changes[:len(a.Changes)+2], b.Changes[:len(b.Changes)+2])
	})
}

// Promise AA2: arguments stay as they are, with what lies behind them, which
// does not matter, whether there is an error or not.
func TestArgumentsStay(t *testing.T) {
	for _, first := range histories() {
		list, steps := history(first, 6)
		m, l, states, all := behind(first, steps)
		_, _, wantStates, wantAll := behind(first, steps)
		checkAll(t, m, l, list[6], api.OK)
		checkAll(t, m, l[1:], api.Map{}, api.ErrRange)
		checkApply(t, m, l[0], list[1], api.OK)
		checkUndo(t, m, l[0], api.Map{}, api.ErrRange)
		if n := len(m.States); n > 0 {
			half := stepOf(m.Epoch, 0, m.States[0], 99, n, 5, 6)
			checkApply(t, m, half, api.Map{}, api.ErrNone)
			checkUndo(t, m, stepOf(m.Epoch-1, 0, 99, m.States[0], n, 6, 5), api.Map{}, undone(m.Epoch, api.ErrNone))
		}
		if !slices.Equal(states, wantStates) || !sameSteps(all, wantAll) {
			t.Errorf("the map %v and its steps were changed", first)
		}
		m, l, states, all = behind(list[6], steps)
		_, _, wantStates, wantAll = behind(list[6], steps)
		checkUndo(t, m, l[5], list[5], api.OK)
		if !slices.Equal(states, wantStates) || !sameSteps(all, wantAll) {
			t.Errorf("Undo changed the map %v or its steps", list[6])
		}
	}
}

// undone is an error of Undo of a map of an epoch: ErrRange comes before others
// in the epoch 0.
func undone(epoch int, err api.Errno) api.Errno {
	if epoch == 0 {
		return api.ErrRange
	}
	return err
}

// results is the maps that Apply, Undo and All make of a map and steps, and a
// map of All without steps.
func results(m, next api.Map, steps []api.Step) []api.Map {
	applied, _ := maps.Apply(m, steps[0])
	undone, _ := maps.Undo(next, steps[0])
	all, _ := maps.All(m, steps)
	none, _ := maps.All(m, nil)
	return []api.Map{applied, undone, all, none}
}

// Promises AA1 and AA2: results are new, and calls give the same ones again.
func TestResultsAreNew(t *testing.T) {
	for _, first := range histories() {
		list, steps := history(first, 6)
		want := []api.Map{list[1], first, list[6], first}
		m, l, states, _ := behind(first, steps)
		next, _, nextStates, _ := behind(list[1], steps)
		spoiled, kept := results(m, next, l), results(m, next, l)
		for _, r := range spoiled {
			for i := range r.States[:cap(r.States)] {
				r.States[:cap(r.States)][i] = 1234
			}
		}
		if !sameMap(m, first) || !sameMap(next, list[1]) || !slices.EqualFunc(results(m, next, l), want, sameMap) {
			t.Errorf("the results of the map %v share memory with it", first)
		}
		clear(states)
		clear(nextStates)
		for _, s := range l {
			clear(s.Changes)
		}
		if !slices.EqualFunc(kept, want, sameMap) {
			t.Errorf("the results of the map %v share memory with one another or with it", first)
		}
	}
}

// Promise AA2: a map that is applied without changes is new all the same.
func TestNoChangesAreNew(t *testing.T) {
	states := []int{5, 6}
	applied, _ := maps.Apply(mapOf(3, states...), stepOf(3))
	undone, _ := maps.Undo(mapOf(3, states...), stepOf(2))
	all, _ := maps.All(mapOf(3, states...), []api.Step{stepOf(3), stepOf(4)})
	none, _ := maps.All(mapOf(3, states...), nil)
	states[0] = 9
	for _, m := range []api.Map{applied, undone, all, none} {
		if !slices.Equal(m.States, []int{5, 6}) {
			t.Errorf("the states of %v changed with those of the argument", m)
		}
	}
}
