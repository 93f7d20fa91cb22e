package logs_test

import (
	"maps"
	"math"
	"slices"
	"testing"

	"strawloft/api"
	"strawloft/logs"
	"strawloft/mix"
)

// logOf is a log of entries, of three numbers each: Epoch, N and Key.
func logOf(numbers ...int) []api.Entry {
	var l []api.Entry
	for e := range slices.Chunk(numbers, 3) {
		l = append(l, api.Entry{Epoch: e[0], N: e[1], Key: e[2]})
	}
	return l
}

// rising is a log of n entries with even epochs, numbers that are multiples of
// ten, and keys that occur several times. Between any two of its entries there
// is room for others.
func rising(n int) []api.Entry {
	var l []api.Entry
	for i := range n {
		l = append(l, api.Entry{Epoch: i / 3 * 2, N: 10 * (i + 1), Key: i*7%50 - 10})
	}
	return l
}

// someLog is a valid log of n entries that are alike in nothing.
func someLog(n, seed int) []api.Entry {
	var l []api.Entry
	epoch, number := seed%3, 0
	for i := range n {
		draw := mix.Two(uint64(seed), uint64(i))
		epoch += int(draw % 8 / 6)
		number += 1 + int(draw>>8%4)
		l = append(l, api.Entry{Epoch: epoch, N: number, Key: int(draw>>16%23) - 5})
	}
	return l
}

// changed is a log with another entry at an index.
func changed(l []api.Entry, at int, e api.Entry) []api.Entry {
	other := slices.Clone(l)
	other[at] = e
	return other
}

// smallLogs is all lists of up to n entries with few epochs, numbers and keys,
// most of which are not valid.
func smallLogs(n int, epochs, numbers, keys []int) [][]api.Entry {
	list := [][]api.Entry{nil}
	shorter := list
	for range n {
		var longer [][]api.Entry
		for _, l := range shorter {
			for _, epoch := range epochs {
				for _, number := range numbers {
					for _, key := range keys {
						longer = append(longer, append(slices.Clone(l), api.Entry{Epoch: epoch, N: number, Key: key}))
					}
				}
			}
		}
		list = append(list, longer...)
		shorter = longer
	}
	return list
}

// rightLogs is valid logs of many kinds.
func rightLogs() [][]api.Entry {
	list := [][]api.Entry{
		nil, {}, logOf(0, 1, 0), logOf(0, 1, 5), logOf(1, 1, 5, 1, 2, 6), logOf(1, 1, 5, 2, 3, 5), logOf(0, 7, -3, 0, 8, -3, 9, 9, 4),
		logOf(1<<40+1, 1<<40+1, 1<<40+1), logOf(math.MaxInt, math.MaxInt, math.MaxInt), logOf(math.MaxInt, 1, math.MinInt),
		logOf(0, math.MaxInt-1, 1, math.MaxInt, math.MaxInt, 1), logOf(0, 1, 9, math.MaxInt, math.MaxInt, 9), logOf(1<<32, 1<<32, 1, 1<<33, 1<<33, 1<<32+1),
	}
	for _, n := range []int{1, 2, 3, 5, 16, 17, 100, 399, 400} {
		list = append(list, rising(n), someLog(n, n), someLog(n, n+1), make([]api.Entry, 0, n))
	}
	return list
}

// wrongLogs is logs that are not valid, of which many would be if one number
// were another one.
func wrongLogs() [][]api.Entry {
	list := [][]api.Entry{
		logOf(0, 0, 0), logOf(0, 0, 5), logOf(1, 0, 5), logOf(-1, 1, 5), logOf(1, -1, 5), logOf(-1, -1, 5), logOf(math.MinInt, 1, 5),
		logOf(0, math.MinInt, 5), logOf(math.MaxInt, math.MinInt, 5), logOf(math.MinInt, math.MaxInt, 5),
		logOf(0, 2, 0, 0, 2, 0), logOf(0, 2, 5, 0, 2, 6), logOf(0, 2, 5, 0, 1, 5), logOf(0, 2, 5, 1, 2, 5), logOf(0, 2, 5, 1, 1, 5),
		logOf(1, 2, 5, 0, 3, 5), logOf(2, 2, 5, 1, 3, 5), logOf(1, 1, 5, 0, 2, 6, 1, 3, 7), logOf(1, 1, 5, 1, 1, 6, 1, 2, 7),
		logOf(0, 1, 5, 0, 2, 5, 0, 2, 5), logOf(0, 1, 5, 1, 2, 5, 0, 3, 5), logOf(0, 0, 5, 0, 1, 5), logOf(-1, 1, 5, 0, 2, 5),
		logOf(-2, 1, 5, -1, 2, 5), logOf(0, -2, 5, 0, -1, 5), logOf(0, -1, 5, 0, 0, 5, 0, 1, 5),
		logOf(math.MaxInt, math.MaxInt, 1, math.MaxInt, math.MaxInt, 1), logOf(math.MaxInt, math.MaxInt, 1, math.MinInt, math.MinInt, 1),
		logOf(0, math.MaxInt, 1, 0, math.MinInt, 1), logOf(math.MaxInt, 1, 1, math.MaxInt-1, 2, 1),
	}
	for _, n := range []int{401, 402, 512, 800} {
		list = append(list, rising(n), someLog(n, n), make([]api.Entry, n))
	}
	for _, n := range []int{2, 17, 400} {
		l := rising(n)
		e := l[n-1]
		for _, other := range []api.Entry{
			{Epoch: -1, N: e.N, Key: e.Key}, {Epoch: e.Epoch, N: 0, Key: e.Key}, {Epoch: e.Epoch, N: l[n-2].N, Key: e.Key}, {Epoch: e.Epoch, N: l[n-2].N - 1, Key: e.Key},
		} {
			list = append(list, changed(l, n-1, other))
		}
		list = append(list, changed(l, 0, api.Entry{Epoch: 0, N: 0, Key: 1}), changed(l, 0, api.Entry{Epoch: -1, N: 1, Key: 1}))
	}
	return list
}

// slowRight reports whether a log is valid, by the chapter.
func slowRight(l []api.Entry) bool {
	right := len(l) <= 400
	for i, e := range l {
		right = right && e.Epoch >= 0 && e.N >= 1
		if i > 0 {
			right = right && l[i-1].Epoch <= e.Epoch && l[i-1].N < e.N
		}
	}
	return right
}

// slowBest is the index of the most recent log, by the chapter.
func slowBest(l [][]api.Entry) (int, api.Errno) {
	if len(l) > 16 {
		return 0, api.ErrRange
	}
	if slices.ContainsFunc(l, func(log []api.Entry) bool { return !slowRight(log) }) {
		return 0, api.ErrForm
	}
	// Those of the largest last Epoch, and then those of the largest last N.
	var ends []api.Entry
	for _, log := range l {
		if len(log) > 0 {
			ends = append(ends, log[len(log)-1])
		}
	}
	if len(ends) == 0 {
		return 0, api.ErrNone
	}
	epoch, number := 0, 0
	for _, e := range ends {
		epoch = max(epoch, e.Epoch)
	}
	for _, e := range ends {
		if e.Epoch == epoch {
			number = max(number, e.N)
		}
	}
	return slices.IndexFunc(l, func(log []api.Entry) bool {
		return len(log) > 0 && log[len(log)-1].Epoch == epoch && log[len(log)-1].N == number
	}), api.OK
}

// slowState is the state of a valid log, by the chapter: an entry counts if none
// after it has its Key.
func slowState(l []api.Entry) map[int]int {
	state := map[int]int{}
	for i, e := range l {
		if !slices.ContainsFunc(l[i+1:], func(later api.Entry) bool { return later.Key == e.Key }) {
			state[e.Key] = e.N
		}
	}
	return state
}

func checkRight(t *testing.T, l []api.Entry, want bool) {
	t.Helper()
	if got := logs.Right(l); got != want {
		t.Errorf("Right(%v) is %t, want %t", l, got, want)
	}
}

func checkBest(t *testing.T, l [][]api.Entry, want int, wantErr api.Errno) {
	t.Helper()
	if got, err := logs.Best(l); got != want || err != wantErr {
		t.Errorf("Best(%v) is %d, %d, want %d, %d", l, got, err, want, wantErr)
	}
}

func checkState(t *testing.T, l []api.Entry, want map[int]int) {
	t.Helper()
	if got, err := logs.State(l); !maps.Equal(got, want) || err != api.OK {
		t.Errorf("State(%v) is %v, %d, want %v, OK", l, got, err, want)
	}
}

// Promise O1: logs that are valid, and logs that are not, written out.
func TestRight(t *testing.T) {
	for _, l := range rightLogs() {
		checkRight(t, l, true)
	}
	for _, l := range wrongLogs() {
		checkRight(t, l, false)
	}
}

// Promise O1: as many entries as MaxOps may be in a log, and no more.
func TestRightNumbers(t *testing.T) {
	for n := range 1030 {
		checkRight(t, rising(n), n <= 400)
	}
	checkRight(t, rising(1<<16), false)
	checkRight(t, rising(1<<16+1), false)
}

// Promise O1: all small lists of entries, by the definition.
func TestRightByDefinition(t *testing.T) {
	for _, l := range smallLogs(3, []int{-1, 0, 1, 2}, []int{-1, 0, 1, 2, 3}, []int{5}) {
		checkRight(t, l, slowRight(l))
	}
	for _, l := range smallLogs(2, []int{math.MinInt, -1, 0, 1 << 32, math.MaxInt}, []int{math.MinInt, 0, 1, 1 << 32, math.MaxInt}, []int{0, -1, math.MaxInt}) {
		checkRight(t, l, slowRight(l))
	}
}

// Promise O1: each entry of the longest log may be the only one that is wrong:
// what comes before it and behind it decides, and not its Key.
func TestRightEachIndex(t *testing.T) {
	l := rising(api.MaxOps)
	for i, e := range l {
		for _, key := range []int{0, -1, e.Key + 1, math.MinInt, math.MaxInt} {
			checkRight(t, changed(l, i, api.Entry{Epoch: e.Epoch, N: e.N, Key: key}), true)
		}
		for _, epoch := range []int{e.Epoch - 2, e.Epoch - 1, e.Epoch + 1, e.Epoch + 2, 0, -1, math.MinInt, math.MaxInt} {
			other := changed(l, i, api.Entry{Epoch: epoch, N: e.N, Key: e.Key})
			checkRight(t, other, slowRight(other))
		}
		for _, number := range []int{e.N - 10, e.N - 9, e.N - 1, e.N + 1, e.N + 9, e.N + 10, 1, 0, -1, math.MinInt, math.MaxInt} {
			other := changed(l, i, api.Entry{Epoch: e.Epoch, N: number, Key: e.Key})
			checkRight(t, other, slowRight(other))
		}
	}
}

// Promise O1: the most recent of logs written out.
func TestBest(t *testing.T) {
	short, long := logOf(1, 1, 5, 1, 2, 6), logOf(1, 1, 5, 2, 3, 5)
	for _, c := range []struct {
		l    [][]api.Entry
		want int
	}{
		{[][]api.Entry{short, long}, 1},
		{[][]api.Entry{long, short}, 0},
		{[][]api.Entry{short, long, long, short}, 1},
		{[][]api.Entry{short, short}, 0},
		{[][]api.Entry{nil, short}, 1},
		{[][]api.Entry{short, nil}, 0},
		{[][]api.Entry{{}, nil, short, {}, short}, 2},
		{[][]api.Entry{nil, logOf(0, 1, 0)}, 1},
		{[][]api.Entry{logOf(0, 1, 0)}, 0},
		// The Epoch comes before the N, and the N before the number of entries.
		{[][]api.Entry{logOf(1, 9, 5), logOf(2, 1, 5)}, 1},
		{[][]api.Entry{logOf(2, 1, 5), logOf(1, 9, 5)}, 0},
		{[][]api.Entry{logOf(2, 1, 5), logOf(2, 2, 5)}, 1},
		{[][]api.Entry{logOf(1, 1, 5, 1, 2, 5, 1, 3, 5), logOf(1, 4, 5)}, 1},
		{[][]api.Entry{logOf(1, 4, 5), logOf(1, 1, 5, 1, 2, 5, 1, 3, 5)}, 0},
		{[][]api.Entry{rising(400), logOf(0, 4001, 5), logOf(266, 4001, 1), logOf(266, 4000, 1)}, 2},
		{[][]api.Entry{rising(400), logOf(266, 4000, 1), logOf(266, 3999, 1)}, 0},
		// The last entry decides, not the first one, and its Key does not matter.
		{[][]api.Entry{logOf(5, 5, 1), logOf(1, 1, 1, 6, 6, 1)}, 1},
		{[][]api.Entry{logOf(5, 5, 1), logOf(5, 5, 9)}, 0},
		{[][]api.Entry{logOf(5, 5, 9), logOf(5, 5, 1)}, 0},
		{[][]api.Entry{logOf(5, 5, 1), logOf(3, 4, 1, 5, 5, 1)}, 0},
		{[][]api.Entry{logOf(0, math.MaxInt, 1), logOf(1, 1, 1), logOf(1<<32, 1, 1), logOf(math.MaxInt, 1, 1), logOf(math.MaxInt, 1<<32, 1)}, 4},
		{[][]api.Entry{logOf(0, 1<<32, 1), logOf(0, 1<<33, 1), logOf(0, math.MaxInt, 1), logOf(0, math.MaxInt-1, 1)}, 2},
	} {
		checkBest(t, c.l, c.want, api.OK)
	}
}

// Promise O1: each one of as many logs as there may be is the most recent one,
// alone or as the first of several.
func TestBestEachIndex(t *testing.T) {
	for many := 1; many <= api.MaxNode; many++ {
		for i := range many {
			for _, rest := range [][]api.Entry{nil, logOf(3, 2, 1), logOf(2, 9, 1), rising(3)} {
				l := slices.Repeat([][]api.Entry{rest}, many)
				l[i] = logOf(3, 3, 1)
				checkBest(t, l, i, api.OK)
				l[many-1] = logOf(1, 1, 7, 3, 3, 2)
				checkBest(t, l, i, api.OK)
			}
		}
	}
}

// Promise O1: the most recent of many logs, by the definition.
func TestBestByDefinition(t *testing.T) {
	small := smallLogs(1, []int{-1, 0, 1}, []int{0, 1, 2}, []int{5})
	small = append(small, logOf(0, 1, 5, 0, 2, 6), logOf(0, 1, 5, 1, 2, 6))
	for _, a := range small {
		for _, b := range small {
			for _, c := range small {
				want, err := slowBest([][]api.Entry{a, b, c})
				checkBest(t, [][]api.Entry{a, b, c}, want, err)
			}
		}
	}
	for seed := range 400 {
		var l [][]api.Entry
		for i := range seed % 19 {
			l = append(l, someLog(int(mix.Two(uint64(seed), uint64(i))%9), seed/7+i%2))
		}
		want, err := slowBest(l)
		checkBest(t, l, want, err)
	}
}

// Promise O1: the errors of Best in their order: too many logs, even if they
// are wrong or empty, then wrong ones, even if the others are empty, then no
// entries at all.
func TestBestErrors(t *testing.T) {
	checkBest(t, nil, 0, api.ErrNone)
	checkBest(t, [][]api.Entry{}, 0, api.ErrNone)
	for many := range 40 {
		want := api.ErrNone
		if many > 16 {
			want = api.ErrRange
		}
		checkBest(t, make([][]api.Entry, many), 0, want)
		checkBest(t, slices.Repeat([][]api.Entry{{}}, many), 0, want)
	}
	for many := 17; many < 40; many++ {
		checkBest(t, slices.Repeat([][]api.Entry{logOf(1, 1, 5)}, many), 0, api.ErrRange)
		checkBest(t, slices.Repeat([][]api.Entry{logOf(1, 0, 5)}, many), 0, api.ErrRange)
	}
	for _, wrong := range wrongLogs() {
		for _, rest := range [][]api.Entry{nil, logOf(1, 1, 5), logOf(math.MaxInt, math.MaxInt, 5), rising(400)} {
			for _, many := range []int{1, 2, 15, 16, 17} {
				want := api.ErrForm
				if many > 16 {
					want = api.ErrRange
				}
				l := slices.Repeat([][]api.Entry{rest}, many)
				l[many-1] = wrong
				checkBest(t, l, 0, want)
				l = slices.Repeat([][]api.Entry{rest}, many)
				l[0] = wrong
				checkBest(t, l, 0, want)
				l[many/2] = wrong
				checkBest(t, l, 0, want)
			}
		}
	}
}

// Promise O1: states written out.
func TestState(t *testing.T) {
	for _, c := range []struct {
		l    []api.Entry
		want map[int]int
	}{
		{nil, nil},
		{[]api.Entry{}, nil},
		{logOf(1, 1, 5, 2, 3, 5), map[int]int{5: 3}},
		{logOf(1, 1, 5, 1, 2, 6), map[int]int{5: 1, 6: 2}},
		{logOf(0, 1, 0), map[int]int{0: 1}},
		{logOf(0, 1, 5, 0, 2, 6, 0, 4, 5, 3, 7, 7), map[int]int{5: 4, 6: 2, 7: 7}},
		{logOf(0, 1, -5, 0, 2, 5, 1, 3, -5), map[int]int{-5: 3, 5: 2}},
		{logOf(0, 1, math.MinInt, 0, 2, math.MaxInt, 0, math.MaxInt, math.MinInt), map[int]int{math.MinInt: math.MaxInt, math.MaxInt: 2}},
		{logOf(0, 1, 1, 0, 2, 1<<32+1, 0, 3, 1<<33+1), map[int]int{1: 1, 1<<32 + 1: 2, 1<<33 + 1: 3}},
		{logOf(9, 1, 7, 9, 2, 7, 9, 3, 7, 9, 4, 7), map[int]int{7: 4}},
	} {
		checkState(t, c.l, c.want)
	}
}

// Promise O1: the states of many logs, by the definition, and of the longest
// ones with equal and with different keys.
func TestStateByDefinition(t *testing.T) {
	for _, l := range append(rightLogs(), smallLogs(3, []int{0, 1}, []int{1, 2, 3}, []int{5, 6, 7})...) {
		if slowRight(l) {
			checkState(t, l, slowState(l))
		}
	}
	for n := range api.MaxOps + 1 {
		equal, different := rising(n), rising(n)
		want := map[int]int{}
		for i := range n {
			equal[i].Key, different[i].Key = 8, -i
			want[-i] = 10 * (i + 1)
		}
		checkState(t, different, want)
		clear(want)
		if n > 0 {
			want[8] = 10 * n
		}
		checkState(t, equal, want)
	}
}

// Promise O1: a log that is not valid has no state.
func TestStateErrors(t *testing.T) {
	for _, l := range wrongLogs() {
		if got, err := logs.State(l); len(got) > 0 || err != api.ErrForm {
			t.Errorf("State(%v) is %v, %d, want none, ErrForm", l, got, err)
		}
	}
}

// Promises O1 and AA2: logs stay as they are, with what lies behind their
// entries, which does not matter, and states are new.
func TestMemory(t *testing.T) {
	for _, l := range rightLogs() {
		for _, rest := range [][]api.Entry{make([]api.Entry, 3), logOf(-1, -1, -1, 9, 9, 9), logOf(math.MaxInt, math.MaxInt, 1, 0, 1, 1)} {
			n := len(l)
			long := slices.Concat(l, rest)
			list := [][]api.Entry{long[:n], nil, logOf(1, 1, 1)}
			checkRight(t, long[:n], true)
			want, err := slowBest([][]api.Entry{l, nil})
			checkBest(t, list[:2], want, err)
			first, _ := logs.State(long[:n])
			second, _ := logs.State(long[:n])
			clear(first)
			if !slices.Equal(long, slices.Concat(l, rest)) || len(list[1]) != 0 || !slices.Equal(list[2], logOf(1, 1, 1)) {
				t.Errorf("arguments changed: %v, %v", long, list)
			}
			clear(long)
			if !maps.Equal(second, slowState(l)) {
				t.Errorf("State(%v) has results that share memory", l)
			}
			checkState(t, l, slowState(l))
		}
	}
}
