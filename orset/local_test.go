package orset_test

import (
	"math"
	"slices"
	"testing"

	"strawloft/api"
	"strawloft/orset"
)

// Promise Q1: additions written out.
func TestPut(t *testing.T) {
	for _, c := range []struct {
		b         api.Bag
		who, elem int
		want      api.Bag
	}{
		{bagOf([]int{0, 0}), 0, 5, bagOf([]int{1, 0}, 0, 1, 5)},
		{bagOf([]int{0, 0}), 1, 5, bagOf([]int{0, 1}, 1, 1, 5)},
		{bagOf([]int{1, 0}, 0, 1, 5), 0, 6, bagOf([]int{2, 0}, 0, 1, 5, 0, 2, 6)},
		{bagOf([]int{1, 0}, 0, 1, 5), 0, 4, bagOf([]int{2, 0}, 0, 1, 5, 0, 2, 4)},
		{bagOf([]int{1, 0}, 0, 1, 5), 0, 5, bagOf([]int{2, 0}, 0, 1, 5, 0, 2, 5)},
		{bagOf([]int{1, 0}, 0, 1, 5), 1, 5, bagOf([]int{1, 1}, 0, 1, 5, 1, 1, 5)},
		{bagOf([]int{0, 1}, 1, 1, 5), 0, 5, bagOf([]int{1, 1}, 0, 1, 5, 1, 1, 5)},
		{bagOf([]int{1, 0, 1}, 0, 1, 7, 2, 1, 8), 1, 9, bagOf([]int{1, 1, 1}, 0, 1, 7, 1, 1, 9, 2, 1, 8)},
		{bagOf([]int{1, 0, 1}, 0, 1, 7, 2, 1, 8), 0, 9, bagOf([]int{2, 0, 1}, 0, 1, 7, 0, 2, 9, 2, 1, 8)},
		{bagOf([]int{1, 0, 1}, 0, 1, 7, 2, 1, 8), 2, 9, bagOf([]int{1, 0, 2}, 0, 1, 7, 2, 1, 8, 2, 2, 9)},
		// The number follows the counter, also where tags were dropped.
		{bagOf([]int{7}), 0, 5, bagOf([]int{8}, 0, 8, 5)},
		{bagOf([]int{7}, 0, 3, 6), 0, 5, bagOf([]int{8}, 0, 3, 6, 0, 8, 5)},
		{bagOf([]int{7, 9}, 0, 3, 6, 1, 2, 5), 0, 5, bagOf([]int{8, 9}, 0, 3, 6, 0, 8, 5, 1, 2, 5)},
		{bagOf([]int{latest - 1}), 0, 5, bagOf([]int{latest}, 0, latest, 5)},
		{bagOf([]int{latest, 3}), 1, 5, bagOf([]int{latest, 4}, 1, 4, 5)},
		{bagOf([]int{1 << 32, 3}, 0, 1<<32, 5, 1, 1, 5), 0, 5, bagOf([]int{1<<32 + 1, 3}, 0, 1<<32, 5, 0, 1<<32+1, 5, 1, 1, 5)},
		{bagOf([]int{0}), 0, math.MinInt, bagOf([]int{1}, 0, 1, math.MinInt)},
		{bagOf([]int{0}), 0, math.MaxInt, bagOf([]int{1}, 0, 1, math.MaxInt)},
		{bagOf([]int{0}), 0, 0, bagOf([]int{1}, 0, 1, 0)},
	} {
		checkPut(t, c.b, c.who, c.elem, c.want)
	}
}

// slowPut is a set after an addition: with a new tag behind all others, and then
// in order.
func slowPut(b api.Bag, who, elem int) api.Bag {
	next := copied(b)
	next.Saw[who] = b.Saw[who] + 1
	next.Has = append(next.Has, api.Tag{Who: who, N: next.Saw[who], Elem: elem})
	sortTags(next.Has)
	return next
}

// Promise Q1: an addition of each replica of sets of all sizes.
func TestPutEachReplica(t *testing.T) {
	for _, b := range smallBags(3, 1, 5, 6) {
		for who := range 3 {
			checkPut(t, b, who, 5, slowPut(b, who, 5))
		}
	}
	for _, b := range smallBags(2, 2, 5) {
		for who := range 2 {
			checkPut(t, b, who, 4, slowPut(b, who, 4))
		}
	}
	for n := 1; n <= most; n++ {
		for _, many := range []int{0, 1, 2, 30, 398, 399} {
			b := wide(n, many)
			for who := range n {
				checkPut(t, b, who, 7, slowPut(b, who, 7))
				last := changedSaw(b, who, latest-1)
				checkPut(t, last, who, 7, slowPut(last, who, 7))
			}
		}
	}
}

// Promise Q1: the errors of an addition in their order: a set that is not
// valid, no such replica, no room for the number or for the tag.
func TestPutErrors(t *testing.T) {
	for n := range most + 1 {
		full, fullOps := api.Bag{Saw: slices.Repeat([]int{latest}, n)}, wide(n, mostOps*min(n, 1))
		for _, b := range []api.Bag{{Saw: make([]int, n)}, wide(n, 5*min(n, 1)), full, fullOps} {
			for _, who := range []int{-1, -2, n, n + 1, 16, 400, 1 << 32, math.MinInt, math.MaxInt} {
				if who != 16 || n < 16 {
					checkPutError(t, b, who, 5, api.ErrRange)
				}
			}
		}
		for who := range n {
			checkPutError(t, full, who, 5, api.ErrFull)
			checkPutError(t, fullOps, who, 5, api.ErrFull)
			checkPutError(t, changedSaw(fullOps, who, latest), who, 5, api.ErrFull)
			checkPutError(t, changedSaw(wide(n, 3), who, latest), who, 5, api.ErrFull)
			checkPutError(t, changedSaw(full, who, latest+1), who, 5, api.ErrForm)
			checkPutError(t, changedSaw(full, who, latest+1), n, 5, api.ErrForm)
			checkPutError(t, changedSaw(full, who, -1), -1, 5, api.ErrForm)
			checkPutError(t, wide(n, 401), who, 5, api.ErrForm)
			checkPutError(t, wide(n, 401), n, 5, api.ErrForm)
		}
	}
}

// Promise Q1: removals written out, which leave the counters as they are.
func TestDrop(t *testing.T) {
	for _, c := range []struct {
		b    api.Bag
		elem int
		want api.Bag
	}{
		{api.Bag{}, 5, api.Bag{}},
		{bagOf([]int{0, 0}), 5, bagOf([]int{0, 0})},
		{bagOf([]int{3, 0}), 5, bagOf([]int{3, 0})},
		{bagOf([]int{1, 0}, 0, 1, 5), 5, bagOf([]int{1, 0})},
		{bagOf([]int{1, 0}, 0, 1, 5), 4, bagOf([]int{1, 0}, 0, 1, 5)},
		{bagOf([]int{1, 0}, 0, 1, 5), 0, bagOf([]int{1, 0}, 0, 1, 5)},
		{bagOf([]int{1, 0}, 0, 1, 5), 1, bagOf([]int{1, 0}, 0, 1, 5)},
		{bagOf([]int{2, 2}, 0, 1, 5, 0, 2, 6, 1, 1, 5, 1, 2, 7), 5, bagOf([]int{2, 2}, 0, 2, 6, 1, 2, 7)},
		{bagOf([]int{2, 2}, 0, 1, 5, 0, 2, 6, 1, 1, 5, 1, 2, 7), 7, bagOf([]int{2, 2}, 0, 1, 5, 0, 2, 6, 1, 1, 5)},
		{bagOf([]int{2, 2}, 0, 1, 5, 0, 2, 5, 1, 1, 5, 1, 2, 5), 5, bagOf([]int{2, 2})},
		{bagOf([]int{latest}, 0, latest, math.MinInt), math.MinInt, bagOf([]int{latest})},
		{bagOf([]int{latest}, 0, latest, math.MaxInt), math.MaxInt, bagOf([]int{latest})},
		{bagOf([]int{2}, 0, 1, 1<<32+5, 0, 2, 5), 5, bagOf([]int{2}, 0, 1, 1<<32+5)},
		{bagOf([]int{2}, 0, 1, -5, 0, 2, 5), 5, bagOf([]int{2}, 0, 1, -5)},
	} {
		checkDrop(t, c.b, c.elem, c.want)
	}
}

// slowDrop is a set without the tags of an element.
func slowDrop(b api.Bag, elem int) api.Bag {
	next := api.Bag{Saw: b.Saw}
	for _, tag := range b.Has {
		if tag.Elem != elem {
			next.Has = append(next.Has, tag)
		}
	}
	return next
}

// Promise Q1: each element of small and large sets, which is not in the set
// afterwards while all others are, and an addition brings it back.
func TestDropEachElement(t *testing.T) {
	list := append(smallBags(2, 2, 5, 6), wide(1, 400), wide(16, 400), wide(3, 50))
	for seed := range 60 {
		list = append(list, someBag(seed%17, 40, 1+seed%13, seed))
	}
	for _, b := range list {
		elems, _ := orset.All(b)
		for _, elem := range append(slices.Clone(elems), -99, 99) {
			want := slowDrop(b, elem)
			checkDrop(t, b, elem, want)
			checkDrop(t, want, elem, want)
			rest := slices.DeleteFunc(slices.Clone(elems), func(other int) bool { return other == elem })
			checkAll(t, want, rest...)
			if len(b.Saw) > 0 && len(want.Has) < mostOps {
				again, _ := orset.Put(want, 0, elem)
				all := append(rest, elem)
				slices.Sort(all)
				checkAll(t, again, all...)
			}
		}
	}
}

// Promise Q1: elements written out.
func TestAll(t *testing.T) {
	checkAll(t, api.Bag{})
	checkAll(t, bagOf([]int{5, latest}))
	checkAll(t, bagOf([]int{1}, 0, 1, 5), 5)
	checkAll(t, bagOf([]int{1}, 0, 1, 0), 0)
	checkAll(t, bagOf([]int{3}, 0, 1, 5, 0, 2, 5, 0, 3, 5), 5)
	checkAll(t, bagOf([]int{3}, 0, 1, 5, 0, 2, 6, 0, 3, 5), 5, 6)
	checkAll(t, bagOf([]int{3}, 0, 1, 6, 0, 2, 5, 0, 3, 6), 5, 6)
	checkAll(t, bagOf([]int{3}, 0, 1, 10, 0, 2, 9, 0, 3, -10), -10, 9, 10)
	checkAll(t, bagOf([]int{2, 2}, 0, 1, 7, 0, 2, 3, 1, 1, 5, 1, 2, 3), 3, 5, 7)
	checkAll(t, bagOf([]int{2, 2}, 0, 1, math.MaxInt, 0, 2, math.MinInt, 1, 1, 0, 1, 2, -1), math.MinInt, -1, 0, math.MaxInt)
	checkAll(t, bagOf([]int{2}, 0, 1, 1<<32+5, 0, 2, 5), 5, 1<<32+5)
}

// Promise Q1: as many elements as tags, in any order, and as few as one.
func TestAllOfMany(t *testing.T) {
	for _, many := range []int{1, 2, 10, 399, 400} {
		for _, few := range []int{1, 2, 3, 50, 400} {
			b := wide(3, many)
			var want []int
			for i := range b.Has {
				b.Has[i].Elem = i*173%many%few - 7
			}
			for elem := range min(many, few) {
				want = append(want, elem-7)
			}
			checkAll(t, b, want...)
		}
	}
}

// Promises Q1 and AA2: sets stay as they are, with what lies behind their tags
// and counters, which does not matter, and results are new.
func TestMemory(t *testing.T) {
	for seed := range 60 {
		b := someBag(seed%17, 12, 6, seed)
		long := api.Bag{Has: slices.Concat(b.Has, tagsOf(-1, 0, 5, 99, 1, 3, 0, 1, 4)), Saw: slices.Concat(b.Saw, []int{-1, latest + 1, 7})}
		before := copied(long)
		short := api.Bag{Has: long.Has[:len(b.Has)], Saw: long.Saw[:len(b.Saw)]}
		checkValid(t, short, true)
		for elem := range 7 {
			checkOwn(t, slowDrop(b, elem), func() (api.Bag, api.Errno) { return orset.Drop(short, elem) })
		}
		for who := range b.Saw {
			checkOwn(t, slowPut(b, who, 3), func() (api.Bag, api.Errno) { return orset.Put(short, who, 3) })
			checkOwn(t, api.Bag{Saw: make([]int, who+1)}, func() (api.Bag, api.Errno) { return orset.New(who + 1) })
		}
		elems, _ := orset.All(short)
		clear(elems[:cap(elems)])
		checkValid(t, short, true)
		if !isEqual(long, before) {
			t.Errorf("an argument was changed: %v is %v", before, long)
		}
	}
}

// checkOwn checks that a call returns a set, and again if what it returned
// before was overwritten with its spare capacity.
func checkOwn(t *testing.T, want api.Bag, call func() (api.Bag, api.Errno)) {
	t.Helper()
	first, _ := call()
	for i := range first.Has[:cap(first.Has)] {
		first.Has[:cap(first.Has)][i] = api.Tag{Who: -7, N: -7, Elem: -7}
	}
	for i := range first.Saw[:cap(first.Saw)] {
		first.Saw[:cap(first.Saw)][i] = -7
	}
	if second, err := call(); !isEqual(second, want) || err != api.OK {
		t.Errorf("got %v, %d after the result before was overwritten, want %v, OK", second, err, want)
	}
}
