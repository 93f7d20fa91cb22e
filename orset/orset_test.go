package orset_test

import (
	"math"
	"slices"
	"testing"

	"strawloft/api"
	"strawloft/mix"
	"strawloft/orset"
)

// The limits as the given package api has them.
const (
	most    = 16
	mostOps = 400
	latest  = 1 << 40
)

// outside is numbers that no counter may be, near the limits and far from them.
var outside = []int{-1, -2, -1 << 40, math.MinInt, latest + 1, latest + 2, 1 << 41, 1 << 62, math.MaxInt}

// tagsOf is tags, each of three numbers: Who, N, Elem.
func tagsOf(numbers ...int) []api.Tag {
	var l []api.Tag
	for three := range slices.Chunk(numbers, 3) {
		l = append(l, api.Tag{Who: three[0], N: three[1], Elem: three[2]})
	}
	return l
}

// bagOf is a set with counters, and tags of three numbers each.
func bagOf(saw []int, numbers ...int) api.Bag {
	return api.Bag{Has: tagsOf(numbers...), Saw: saw}
}

// wide is a valid set of n replicas that has many tags. All counters are
// greater than needed, and there are other tags' places between the tags.
func wide(n, many int) api.Bag {
	b := api.Bag{Saw: slices.Repeat([]int{10*many + 9}, n)}
	for i := range many {
		b.Has = append(b.Has, api.Tag{Who: i * n / many, N: 10 * (i + 1), Elem: i*7%50 - 10})
	}
	return b
}

// someBag is a valid set of n replicas that are alike in nothing: each of them
// made up to limit additions, of which a part was dropped. The same addition has
// the same element in all of these sets.
func someBag(n, limit, elems, seed int) api.Bag {
	b := api.Bag{Saw: make([]int, n)}
	for who := range n {
		b.Saw[who] = int(mix.Two(uint64(seed), uint64(who)) % uint64(limit+1))
		for k := range b.Saw[who] {
			tag := api.Tag{Who: who, N: k + 1, Elem: int(mix.Two(uint64(who), uint64(k)) % uint64(elems))}
			if mix.Two(uint64(seed), uint64(100+who*1000+k))%5 < 3 && len(b.Has) < mostOps {
				b.Has = append(b.Has, tag)
			}
		}
	}
	return b
}

// smallBags is all valid sets of n replicas with counters up to a limit and
// elements of a list.
func smallBags(n, limit int, elems ...int) []api.Bag {
	list := []api.Bag{{}}
	for who := range n {
		var longer []api.Bag
		for _, b := range list {
			for saw := range limit + 1 {
				longer = append(longer, withReplica(b, who, saw, elems)...)
			}
		}
		list = longer
	}
	return list
}

// withReplica is all sets that a set becomes with one more replica, whose
// additions were of any of some elements and may have been dropped.
func withReplica(b api.Bag, who, saw int, elems []int) []api.Bag {
	list := []api.Bag{{Has: b.Has, Saw: append(slices.Clone(b.Saw), saw)}}
	for n := 1; n <= saw; n++ {
		for _, shorter := range slices.Clone(list) {
			for _, elem := range elems {
				has := append(slices.Clone(shorter.Has), api.Tag{Who: who, N: n, Elem: elem})
				list = append(list, api.Bag{Has: has, Saw: shorter.Saw})
			}
		}
	}
	return list
}

// changedSaw is a set with another counter at an index.
func changedSaw(b api.Bag, at, value int) api.Bag {
	other := copied(b)
	other.Saw[at] = value
	return other
}

// changedHas is a set with another tag at an index.
func changedHas(b api.Bag, at int, tag api.Tag) api.Bag {
	other := copied(b)
	other.Has[at] = tag
	return other
}

func copied(b api.Bag) api.Bag {
	return api.Bag{Has: slices.Clone(b.Has), Saw: slices.Clone(b.Saw)}
}

func isEqual(a, b api.Bag) bool {
	return slices.Equal(a.Has, b.Has) && slices.Equal(a.Saw, b.Saw)
}

// slowRight is whether a set is valid, by the chapter: one clause after the
// other, and each pair of tags that follow each other.
func slowRight(b api.Bag) bool {
	if len(b.Saw) > 16 || len(b.Has) > 400 {
		return false
	}
	for _, saw := range b.Saw {
		if saw < 0 || saw > 1<<40 {
			return false
		}
	}
	for _, tag := range b.Has {
		if tag.Who < 0 || tag.Who > len(b.Saw)-1 {
			return false
		}
		if tag.N < 1 || tag.N > b.Saw[tag.Who] {
			return false
		}
	}
	for i := range len(b.Has) - 1 {
		one, next := b.Has[i], b.Has[i+1]
		if next.Who < one.Who || next.Who == one.Who && next.N <= one.N {
			return false
		}
	}
	return true
}

func checkRight(t *testing.T, b api.Bag, want bool) {
	t.Helper()
	if got := orset.Right(b); got != want {
		t.Errorf("Right(%v) is %t, want %t", b, got, want)
	}
}

func checkPut(t *testing.T, b api.Bag, who, elem int, want api.Bag) {
	t.Helper()
	got, err := orset.Put(b, who, elem)
	if !isEqual(got, want) || err != api.OK {
		t.Errorf("Put(%v, %d, %d) is %v, %d, want %v, OK", b, who, elem, got, err, want)
	}
	checkRight(t, got, true)
}

func checkPutError(t *testing.T, b api.Bag, who, elem int, want api.Errno) {
	t.Helper()
	if got, err := orset.Put(b, who, elem); !isEqual(got, api.Bag{}) || err != want {
		t.Errorf("Put(%v, %d, %d) is %v, %d, want none, %d", b, who, elem, got, err, want)
	}
}

func checkDrop(t *testing.T, b api.Bag, elem int, want api.Bag) {
	t.Helper()
	if got, err := orset.Drop(b, elem); !isEqual(got, want) || err != api.OK {
		t.Errorf("Drop(%v, %d) is %v, %d, want %v, OK", b, elem, got, err, want)
	}
}

func checkAll(t *testing.T, b api.Bag, want ...int) {
	t.Helper()
	if got, err := orset.All(b); !slices.Equal(got, want) || err != api.OK {
		t.Errorf("All(%v) is %v, %d, want %v, OK", b, got, err, want)
	}
}

// checkWrong checks that a set is not valid and that nothing is done with it,
// whatever the other arguments are.
func checkWrong(t *testing.T, b api.Bag) {
	t.Helper()
	checkRight(t, b, false)
	for _, who := range []int{0, len(b.Saw) - 1, len(b.Saw), -1, math.MinInt, math.MaxInt} {
		checkPutError(t, b, who, 5, api.ErrForm)
	}
	if got, err := orset.Drop(b, 5); !isEqual(got, api.Bag{}) || err != api.ErrForm {
		t.Errorf("Drop(%v, 5) is %v, %d, want none, ErrForm", b, got, err)
	}
	if got, err := orset.All(b); len(got) > 0 || err != api.ErrForm {
		t.Errorf("All(%v) is %v, %d, want none, ErrForm", b, got, err)
	}
	for _, other := range []api.Bag{b, {}, {Saw: make([]int, len(b.Saw))}, bagOf([]int{1, 1}, 0, 1, 5)} {
		checkJoinError(t, b, other, api.ErrForm)
		checkJoinError(t, other, b, api.ErrForm)
	}
}

// checkValid checks that a set is valid, or that it is not.
func checkValid(t *testing.T, b api.Bag, want bool) {
	t.Helper()
	if !want {
		checkWrong(t, b)
		return
	}
	checkRight(t, b, true)
	var elems []int
	for _, tag := range b.Has {
		if !slices.Contains(elems, tag.Elem) {
			elems = append(elems, tag.Elem)
		}
	}
	slices.Sort(elems)
	checkAll(t, b, elems...)
	checkJoin(t, b, b, b)
}

// Promise Q1: sets written out.
func TestRight(t *testing.T) {
	for _, c := range []struct {
		b    api.Bag
		want bool
	}{
		{api.Bag{}, true},
		{api.Bag{Has: []api.Tag{}, Saw: []int{}}, true},
		{bagOf([]int{0}), true},
		{bagOf([]int{0, latest}), true},
		{bagOf([]int{-1}), false},
		{bagOf([]int{latest + 1}), false},
		{bagOf([]int{0, 0, -1}), false},
		{bagOf([]int{1}, 0, 1, 5), true},
		{bagOf([]int{0}, 0, 1, 5), false},
		{bagOf([]int{1}, 0, 0, 5), false},
		{bagOf([]int{1}, 0, -1, 5), false},
		{bagOf([]int{1}, 0, 2, 5), false},
		{bagOf([]int{1}, 1, 1, 5), false},
		{bagOf([]int{1}, -1, 1, 5), false},
		{bagOf(nil, 0, 1, 5), false},
		{bagOf(nil, 0, 0, 0), false},
		{bagOf(nil, -1, 0, 0), false},
		{bagOf([]int{1}, 0, 1, math.MinInt), true},
		{bagOf([]int{1}, 0, 1, math.MaxInt), true},
		{bagOf([]int{latest}, 0, latest, 5), true},
		{bagOf([]int{latest}, 0, latest+1, 5), false},
		{bagOf([]int{latest - 1}, 0, latest, 5), false},
		{bagOf([]int{2, 1}, 0, 1, 5, 0, 2, 5, 1, 1, 5), true},
		{bagOf([]int{2, 1}, 0, 2, 7, 1, 1, 6), true},
		{bagOf([]int{2, 1}, 0, 2, 5, 0, 1, 5), false},
		{bagOf([]int{2, 1}, 1, 1, 5, 0, 2, 6), false},
		{bagOf([]int{2, 1}, 0, 1, 5, 0, 1, 5), false},
		{bagOf([]int{2, 1}, 0, 1, 5, 0, 1, 6), false},
		{bagOf([]int{2, 1}, 0, 1, 6, 0, 1, 5), false},
		{bagOf([]int{2, 1}, 0, 1, 5, 1, 1, 5, 0, 2, 5), false},
		{bagOf([]int{2, 1}, 0, 1, 5, 1, 2, 5), false},
		{bagOf([]int{1, 2}, 0, 2, 5, 1, 1, 5), false},
		{bagOf([]int{1 << 32, 1}, 0, 1<<32, 5, 1, 1, 5), true},
		{bagOf([]int{1 << 33}, 0, 1, 5, 0, 1<<32, 5, 0, 1<<32+1, 5), true},
		{bagOf([]int{1 << 33}, 0, 2, 5, 0, 1<<32+1, 5), true},
		{bagOf([]int{1 << 33}, 0, 1<<32+1, 5, 0, 2, 5), false},
		{bagOf([]int{1, 1}, 1<<32, 1, 5), false},
		{bagOf([]int{1, 1}, math.MaxInt, 1, 5), false},
		{bagOf([]int{1, 1}, math.MinInt, 1, 5), false},
		{bagOf([]int{1, 1}, 0, math.MaxInt, 5), false},
		{bagOf([]int{1, 1}, 0, math.MinInt, 5), false},
	} {
		if slowRight(c.b) != c.want {
			t.Errorf("slowRight(%v) is not %t", c.b, c.want)
		}
		checkValid(t, c.b, c.want)
	}
}

// Promise Q1: all sets with few counters and tags, most of which are not valid.
func TestRightByDefinition(t *testing.T) {
	saws := [][]int{nil}
	for _, first := range []int{-1, 0, 1, 2, latest + 1} {
		saws = append(saws, []int{first}, []int{first, 2}, []int{2, first})
	}
	var tags []api.Tag
	for who := -1; who <= 2; who++ {
		for n := range 4 {
			tags = append(tags, api.Tag{Who: who, N: n, Elem: 5 + n%2})
		}
	}
	lists := [][]api.Tag{nil}
	for range 3 {
		for _, l := range lists {
			for _, saw := range saws {
				b := api.Bag{Has: l, Saw: saw}
				checkRight(t, b, slowRight(b))
			}
		}
		var longer [][]api.Tag
		for _, l := range lists {
			for _, tag := range tags {
				longer = append(longer, append(slices.Clone(l), tag))
			}
		}
		lists = longer
	}
	for _, b := range smallBags(2, 2, 5, 6) {
		checkValid(t, b, true)
	}
}

// Promise Q1: as many counters as MaxNode, and as many tags as MaxOps, and no
// more.
func TestRightLengths(t *testing.T) {
	for n := range 100 {
		checkValid(t, api.Bag{Saw: make([]int, n)}, n <= most)
		checkValid(t, api.Bag{Saw: slices.Repeat([]int{latest}, n)}, n <= most)
		checkValid(t, wide(n, min(n, 1)), n <= most)
	}
	for _, n := range []int{1, 2, 3, 15, 16, 17} {
		for _, many := range []int{399, 400, 401, 402, 800, 1 << 16} {
			checkValid(t, wide(n, many), n <= most && many <= mostOps)
		}
	}
	checkWrong(t, api.Bag{Saw: make([]int, 1<<16)})
	checkWrong(t, api.Bag{Saw: make([]int, 1<<16+1)})
}

// Promise Q1: each counter may be the only one outside of its range, and the
// limits themselves are inside, with or without tags.
func TestRightEachCounter(t *testing.T) {
	for n := 1; n <= most; n++ {
		empty, full := api.Bag{Saw: make([]int, n)}, wide(n, 40)
		for i := range n {
			for _, value := range []int{0, 1, 1 << 31, 1 << 32, latest - 1, latest} {
				checkValid(t, changedSaw(empty, i, value), true)
				b := changedSaw(full, i, value)
				checkValid(t, b, slowRight(b))
			}
			for _, value := range outside {
				checkWrong(t, changedSaw(empty, i, value))
				checkWrong(t, changedSaw(full, i, value))
			}
		}
	}
}

// Promise Q1: each tag may be the only one that is wrong: by its Who, by its N,
// or by the tags beside it.
func TestRightEachTag(t *testing.T) {
	for _, n := range []int{1, 2, 3, 16} {
		for _, many := range []int{1, 2, 3, 40, 400} {
			b := wide(n, many)
			for i, tag := range b.Has {
				checkTags(t, b, i, tag)
				if i == 0 {
					continue
				}
				before := b.Has[i-1]
				checkRight(t, changedHas(b, i, before), false)
				checkRight(t, changedHas(b, i, api.Tag{Who: before.Who, N: before.N, Elem: 99}), false)
				checkRight(t, changedHas(b, i, api.Tag{Who: before.Who, N: before.N, Elem: -99}), false)
				checkRight(t, changedHas(b, i, api.Tag{Who: before.Who, N: before.N + 1, Elem: 5}), true)
				checkRight(t, changedHas(b, i, api.Tag{Who: before.Who, N: before.N - 1, Elem: 5}), false)
				checkRight(t, changedHas(changedHas(b, i, before), i-1, tag), false)
			}
		}
	}
}

// checkTags checks what one tag of a set may be, without regard to others.
func checkTags(t *testing.T, b api.Bag, at int, tag api.Tag) {
	t.Helper()
	for _, who := range []int{-1, len(b.Saw), len(b.Saw) + 1, math.MinInt, math.MaxInt, 1 << 32, tag.Who + 1<<32} {
		checkRight(t, changedHas(b, at, api.Tag{Who: who, N: tag.N, Elem: tag.Elem}), false)
	}
	for _, n := range []int{0, -1, -tag.N, math.MinInt, math.MaxInt, b.Saw[tag.Who] + 1, tag.N + 1<<32} {
		checkRight(t, changedHas(b, at, api.Tag{Who: tag.Who, N: n, Elem: tag.Elem}), false)
	}
	for _, elem := range []int{0, 1, -1, math.MinInt, math.MaxInt, 1 << 41} {
		checkRight(t, changedHas(b, at, api.Tag{Who: tag.Who, N: tag.N, Elem: elem}), true)
	}
}

// Promise Q1: as many replicas as are asked for, from 1 to MaxNode.
func TestNew(t *testing.T) {
	for many := -40; many <= 60; many++ {
		checkNew(t, many)
	}
	for _, many := range []int{1 << 8, 1<<8 + 1, 1 << 32, 1<<32 + 1, 1 << 62, math.MaxInt, -1 << 62, math.MinInt, math.MinInt + 1} {
		checkNew(t, many)
	}
}

func checkNew(t *testing.T, many int) {
	t.Helper()
	got, err := orset.New(many)
	if many < 1 || many > 16 {
		if !isEqual(got, api.Bag{}) || err != api.ErrRange {
			t.Errorf("New(%d) is %v, %d, want none, ErrRange", many, got, err)
		}
		return
	}
	if !isEqual(got, api.Bag{Saw: make([]int, many)}) || err != api.OK {
		t.Errorf("New(%d) is %v, %d", many, got, err)
	}
	checkValid(t, got, true)
}
