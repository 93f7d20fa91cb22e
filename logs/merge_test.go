package logs_test

import (
	"maps"
	"math"
	"slices"
	"testing"

	"strawloft/api"
	"strawloft/logs"
	"strawloft/mix"
)

// slowCommon is the length of the longest list that both of two lists begin
// with.
func slowCommon(a, b []api.Entry) int {
	for n := min(len(a), len(b)); n > 0; n-- {
		if slices.Equal(a[:n], b[:n]) {
			return n
		}
	}
	return 0
}

// slowKeys is the Keys behind the common prefix of two logs, by the chapter.
func slowKeys(a, b []api.Entry) []int {
	n := slowCommon(a, b)
	var keys []int
	for _, e := range slices.Concat(b[n:], a[n:]) {
		keys = append(keys, e.Key)
	}
	slices.Sort(keys)
	return slices.Compact(keys)
}

func checkCommon(t *testing.T, a, b []api.Entry, want int) {
	t.Helper()
	for range 2 {
		if got, err := logs.Common(a, b); got != want || err != api.OK {
			t.Errorf("Common(%v, %v) is %d, %d, want %d, OK", a, b, got, err, want)
		}
		a, b = b, a
	}
}

func checkMerge(t *testing.T, own, other []api.Entry, keys []int, divergent []api.Entry) {
	t.Helper()
	log, gotKeys, gotDivergent, err := logs.Merge(own, other)
	if !slices.Equal(log, other) || !slices.Equal(gotKeys, keys) || !slices.Equal(gotDivergent, divergent) || err != api.OK {
		t.Errorf("Merge(%v, %v) is %v, %v, %v, %d, want %v, %v, %v, OK", own, other, log, gotKeys, gotDivergent, err, other, keys, divergent)
	}
}

// checkNeither checks that two logs, of which one is not valid, have no common
// prefix and are not merged, in either order.
func checkNeither(t *testing.T, a, b []api.Entry) {
	t.Helper()
	for range 2 {
		if got, err := logs.Common(a, b); got != 0 || err != api.ErrForm {
			t.Errorf("Common(%v, %v) is %d, %d, want 0, ErrForm", a, b, got, err)
		}
		log, keys, divergent, err := logs.Merge(a, b)
		if len(log) > 0 || len(keys) > 0 || len(divergent) > 0 || err != api.ErrForm {
			t.Errorf("Merge(%v, %v) is %v, %v, %v, %d, want nothing, ErrForm", a, b, log, keys, divergent, err)
		}
		a, b = b, a
	}
}

// checkBoth checks two valid logs by the definition, in both orders, and that
// they agree once they have been merged.
func checkBoth(t *testing.T, a, b []api.Entry) {
	t.Helper()
	n := slowCommon(a, b)
	checkCommon(t, a, b, n)
	checkMerge(t, a, b, slowKeys(a, b), a[n:])
	checkMerge(t, b, a, slowKeys(a, b), b[n:])
	checkAgreement(t, a, b)
}

// checkAgreement checks that a state is that of the other log once the keys that
// have to be recovered are taken from there, and that the common entries and the
// divergent ones are those of the own log.
func checkAgreement(t *testing.T, own, other []api.Entry) {
	t.Helper()
	log, keys, divergent, _ := logs.Merge(own, other)
	state, _ := logs.State(own)
	want, _ := logs.State(other)
	for _, key := range keys {
		delete(state, key)
		if n, ok := want[key]; ok {
			state[key] = n
		}
	}
	if !maps.Equal(state, want) {
		t.Errorf("Merge(%v, %v) leads to the state %v, want %v", own, other, state, want)
	}
	n, _ := logs.Common(own, other)
	if !slices.Equal(slices.Concat(log[:n], divergent), own) {
		t.Errorf("Merge(%v, %v) has the divergent entries %v behind the first %d of %v", own, other, divergent, n, log)
	}
	checkMerge(t, log, other, nil, nil)
}

// fork is two logs that begin alike and have ends of their own, which may be
// empty.
func fork(alike, a, b, seed int) ([]api.Entry, []api.Entry) {
	first, second := someLog(alike+a, seed), someLog(alike+b, seed)
	for i := alike; i < len(second); i++ {
		e := &second[i]
		switch mix.Two(uint64(seed), uint64(alike)) % 3 {
		case 0:
			e.Epoch++
		case 1:
			e.N += 2
		case 2:
			e.Key += i%4 - 1
		}
	}
	return first, second
}

// Promise O2: logs written out, with what they have in common and what is
// merged.
func TestMerge(t *testing.T) {
	base := logOf(1, 1, 5, 1, 2, 6, 2, 4, 7)
	for _, c := range []struct {
		own, other []api.Entry
		common     int
		keys       []int
	}{
		{logOf(1, 1, 5, 1, 2, 6), logOf(1, 1, 5, 2, 3, 5), 1, []int{5, 6}},
		{nil, nil, 0, nil},
		{nil, []api.Entry{}, 0, nil},
		{nil, base, 0, []int{5, 6, 7}},
		{base, nil, 0, []int{5, 6, 7}},
		{base, base, 3, nil},
		{base, base[:2], 2, []int{7}},
		{base[:1], base, 1, []int{6, 7}},
		{base, logOf(2, 4, 7), 0, []int{5, 6, 7}},
		{base, logOf(1, 2, 6, 2, 4, 7), 0, []int{5, 6, 7}},
		{base, logOf(0, 1, 5, 1, 2, 6, 2, 4, 7), 0, []int{5, 6, 7}},
		{base, logOf(1, 1, 5, 1, 2, 6, 2, 4, 8), 2, []int{7, 8}},
		{base, logOf(1, 1, 5, 1, 2, 6, 2, 5, 7), 2, []int{7}},
		{base, logOf(1, 1, 5, 1, 2, 6, 3, 4, 7), 2, []int{7}},
		{base, logOf(1, 1, 5, 1, 3, 6, 2, 4, 7), 1, []int{6, 7}},
		{base, logOf(1, 1, 5, 2, 2, 6, 2, 4, 7), 1, []int{6, 7}},
		{base, logOf(1, 1, 4, 1, 2, 6, 2, 4, 7), 0, []int{4, 5, 6, 7}},
		{logOf(0, 1, 9, 0, 2, 9, 0, 3, -9), logOf(0, 1, 9, 1, 2, 0, 1, 3, 9, 1, 4, 0), 1, []int{-9, 0, 9}},
		{logOf(0, 1, 0), logOf(0, 1, 1), 0, []int{0, 1}},
		{logOf(0, 1, 0), logOf(0, 2, 0), 0, []int{0}},
		{logOf(0, 1, 0), logOf(1, 1, 0), 0, []int{0}},
		{logOf(0, 1, math.MaxInt), logOf(0, 1, math.MinInt), 0, []int{math.MinInt, math.MaxInt}},
		{logOf(0, 1, 1<<32+1, 0, 2, 1<<33, 0, 3, 1), logOf(0, 1, 1), 0, []int{1, 1<<32 + 1, 1 << 33}},
		{logOf(1<<32, 1, 1), logOf(0, 1, 1), 0, []int{1}},
		{logOf(0, 1<<32+1, 1), logOf(0, 1, 1), 0, []int{1}},
		{logOf(0, 1, 3, 5, 2, 2, 5, 3, 1), logOf(0, 1, 3, 4, 2, 0, 4, 3, -1), 1, []int{-1, 0, 1, 2}},
	} {
		checkCommon(t, c.own, c.other, c.common)
		checkMerge(t, c.own, c.other, c.keys, c.own[c.common:])
		checkMerge(t, c.other, c.own, c.keys, c.other[c.common:])
		checkAgreement(t, c.own, c.other)
		checkAgreement(t, c.other, c.own)
	}
}

// Promise O2: all pairs of small logs, by the definition: ErrForm if one of them
// is not valid.
func TestMergeByDefinition(t *testing.T) {
	list := append(smallLogs(2, []int{-1, 0, 1}, []int{0, 1, 2}, []int{5, 6}), logOf(0, 1, 5, 0, 2, 6, 0, 3, 5), logOf(0, 1, 5, 1, 2, 6, 1, 3, 6))
	for _, a := range list {
		for _, b := range list {
			if slowRight(a) && slowRight(b) {
				checkBoth(t, a, b)
			} else {
				checkNeither(t, a, b)
			}
		}
	}
}

// Promise O2: logs of many kinds with each other.
func TestMergeAll(t *testing.T) {
	for _, a := range rightLogs() {
		for _, b := range rightLogs() {
			checkBoth(t, a, b)
		}
	}
}

// Promise O2: a log that is not valid is ErrForm, whichever of the two it is,
// even if the other one is not valid either, is empty or is the same one.
func TestMergeErrors(t *testing.T) {
	for _, wrong := range wrongLogs() {
		for _, other := range rightLogs() {
			checkNeither(t, wrong, other)
		}
		for _, other := range wrongLogs() {
			checkNeither(t, wrong, other)
		}
		checkNeither(t, wrong, wrong)
		checkNeither(t, wrong, wrong[:len(wrong)-1])
	}
	checkBoth(t, rising(400), rising(400))
	checkNeither(t, rising(401), rising(400))
	checkNeither(t, rising(401), rising(401))
}

// Promise O2: each entry of the longest log may be the first one that differs,
// in its Epoch, its N or its Key, or the first one that the other log does not
// have. Entries behind it do not count, even if they are the same again.
func TestMergeEachIndex(t *testing.T) {
	l := rising(api.MaxOps)
	for i, e := range l {
		checkBoth(t, l, l[:i])
		for _, other := range []api.Entry{
			{Epoch: e.Epoch, N: e.N - 1, Key: e.Key}, {Epoch: e.Epoch, N: e.N + 1, Key: e.Key}, {Epoch: e.Epoch, N: e.N, Key: e.Key + 1}, {Epoch: e.Epoch, N: e.N, Key: -e.Key - 100},
		} {
			checkCommon(t, l, changed(l, i, other), i)
			checkMerge(t, l, changed(l, i, other), slowKeys(l, changed(l, i, other)), l[i:])
			checkMerge(t, changed(l, i, other), l[:i+1], slowKeys(changed(l, i, other), l[:i+1]), changed(l, i, other)[i:])
		}
		if i%3 == 2 {
			checkBoth(t, l, changed(l, i, api.Entry{Epoch: e.Epoch + 1, N: e.N, Key: e.Key}))
		}
		if i%3 == 0 && i > 0 {
			checkBoth(t, l, changed(l, i, api.Entry{Epoch: e.Epoch - 1, N: e.N, Key: e.Key}))
		}
	}
}

// Promise O2: an entry that one log lacks in the middle moves the others, which
// are not in common then.
func TestMergeMissing(t *testing.T) {
	l := rising(60)
	for i := range l {
		other := slices.Delete(slices.Clone(l), i, i+1)
		checkCommon(t, l, other, i)
		checkMerge(t, l, other, slowKeys(l, l[:i]), l[i:])
		checkMerge(t, other, l, slowKeys(l, l[:i]), other[i:])
	}
}

// Promise O2: the keys of up to 800 entries, in order and each one once.
func TestMergeKeys(t *testing.T) {
	for _, n := range []int{1, 2, 3, 50, 399, 400} {
		a, b := rising(n), rising(n)
		var odd, all, few []int
		for i := range n {
			a[i].Key, b[i].Key = 2*(n-i), 2*(i*7%n)-1
			odd = append(odd, 2*(i*7%n)-1)
			all = append(all, 2*(i+1))
		}
		all = append(all, odd...)
		slices.Sort(all)
		all = slices.Compact(all)
		checkMerge(t, a, b, all, a)
		checkMerge(t, b, a, all, b)
		for i := range n {
			a[i].Key, b[i].Key = 3-i%3, i%2-1
		}
		few = []int{-1, 0, 1, 2, 3}
		if n < 3 {
			few = []int{-1, 0, 2, 3}
		}
		if n == 1 {
			few = []int{-1, 3}
		}
		checkMerge(t, a, b, few, a)
		checkMerge(t, b, a, few, b)
	}
}

// Promise O2: logs that part somewhere, and the same with one log after another:
// all of them agree in the end.
func TestForks(t *testing.T) {
	for seed := range 600 {
		draw := mix.One(uint64(seed))
		a, b := fork(int(draw%40), int(draw>>8%30), int(draw>>16%30), seed)
		if !slowRight(a) || !slowRight(b) {
			t.Fatalf("not valid: %v, %v", a, b)
		}
		checkBoth(t, a, b)
	}
	for seed := range 60 {
		var replicas [][]api.Entry
		for i := range 1 + seed%16 {
			_, l := fork(20-i, 0, seed%7*i, seed)
			replicas = append(replicas, l)
		}
		best, err := logs.Best(replicas)
		want, wantErr := slowBest(replicas)
		if best != want || err != wantErr {
			t.Fatalf("Best(%v) is %d, %d, want %d, %d", replicas, best, err, want, wantErr)
		}
		for _, l := range replicas {
			checkBoth(t, l, replicas[best])
		}
	}
}

// Promises O2 and AA2: logs stay as they are, with what lies behind their
// entries, which does not matter; results are new and apart from each other,
// even of two logs that are the same one.
func TestMergeMemory(t *testing.T) {
	for seed := range 120 {
		a, b := fork(seed%9, seed%5, seed%7, seed)
		rest := logOf(0, 1, 1, math.MaxInt, math.MaxInt, 9, 1, 1, 1)
		longA, longB := slices.Concat(a, rest), slices.Concat(b, rest)
		own, other := longA[:len(a)], longB[:len(b)]
		checkBoth(t, own, other)
		checkMergeApart(t, own, other)
		checkMergeApart(t, own, own)
		checkMergeApart(t, own, own[:len(own)/2])
		checkMergeApart(t, own[:len(own)/2], own)
		if !slices.Equal(longA, slices.Concat(a, rest)) || !slices.Equal(longB, slices.Concat(b, rest)) {
			t.Errorf("Merge changed its arguments: %v, %v", longA, longB)
		}
	}
}

// checkMergeApart checks that what is done to one result of Merge, with its
// spare capacity, or to the arguments, is not seen elsewhere.
func checkMergeApart(t *testing.T, own, other []api.Entry) {
	t.Helper()
	wantLog, wantKeys, n := slices.Clone(other), slowKeys(own, other), slowCommon(own, other)
	wantOwn := slices.Clone(own)
	log, keys, divergent, _ := logs.Merge(own, other)
	clear(log[:cap(log)])
	if !slices.Equal(own, wantOwn) || !slices.Equal(other, wantLog) || !slices.Equal(divergent, wantOwn[n:]) || !slices.Equal(keys, wantKeys) {
		t.Errorf("Merge(%v, %v): the log shares memory", wantOwn, wantLog)
	}
	log, keys, divergent, _ = logs.Merge(own, other)
	clear(divergent[:cap(divergent)])
	if !slices.Equal(own, wantOwn) || !slices.Equal(other, wantLog) || !slices.Equal(log, wantLog) || !slices.Equal(keys, wantKeys) {
		t.Errorf("Merge(%v, %v): the divergent entries share memory", wantOwn, wantLog)
	}
	_, keys, _, _ = logs.Merge(own, other)
	clear(keys[:cap(keys)])
	checkMerge(t, own, other, wantKeys, wantOwn[n:])
}
