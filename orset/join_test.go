package orset_test

import (
	"math"
	"slices"
	"testing"

	"strawloft/api"
	"strawloft/mix"
	"strawloft/orset"
)

// slowJoin is the merged set of two valid sets of as many replicas, by the
// chapter: it looks at each tag of either set by itself.
func slowJoin(a, b api.Bag) (api.Bag, api.Errno) {
	var joined api.Bag
	for who := range a.Saw {
		joined.Saw = append(joined.Saw, max(a.Saw[who], b.Saw[who]))
	}
	inB := map[[2]int]api.Tag{}
	for _, tag := range b.Has {
		inB[[2]int{tag.Who, tag.N}] = tag
	}
	for _, tag := range a.Has {
		at := [2]int{tag.Who, tag.N}
		other, isInBoth := inB[at]
		if isInBoth && other.Elem != tag.Elem {
			return api.Bag{}, api.ErrSum
		}
		if isInBoth || tag.N > b.Saw[tag.Who] {
			joined.Has = append(joined.Has, tag)
		}
		delete(inB, at)
	}
	for _, tag := range inB {
		if tag.N > a.Saw[tag.Who] {
			joined.Has = append(joined.Has, tag)
		}
	}
	if len(joined.Has) > 400 {
		return api.Bag{}, api.ErrFull
	}
	sortTags(joined.Has)
	return joined, api.OK
}

func sortTags(tags []api.Tag) {
	slices.SortFunc(tags, func(x, y api.Tag) int {
		if x.Who != y.Who {
			return x.Who - y.Who
		}
		return x.N - y.N
	})
}

// checkJoin checks the merged set of two sets, whichever comes first.
func checkJoin(t *testing.T, a, b, want api.Bag) {
	t.Helper()
	for _, pair := range [][2]api.Bag{{a, b}, {b, a}} {
		got, err := orset.Join(pair[0], pair[1])
		if !isEqual(got, want) || err != api.OK {
			t.Errorf("Join(%v, %v) is %v, %d, want %v, OK", pair[0], pair[1], got, err, want)
		}
		checkRight(t, got, true)
	}
}

func checkJoinError(t *testing.T, a, b api.Bag, want api.Errno) {
	t.Helper()
	for _, pair := range [][2]api.Bag{{a, b}, {b, a}} {
		if got, err := orset.Join(pair[0], pair[1]); !isEqual(got, api.Bag{}) || err != want {
			t.Errorf("Join(%v, %v) is %v, %d, want none, %d", pair[0], pair[1], got, err, want)
		}
	}
}

// checkPair checks two valid sets of as many replicas against the chapter.
func checkPair(t *testing.T, a, b api.Bag) {
	t.Helper()
	if want, err := slowJoin(a, b); err != api.OK {
		checkJoinError(t, a, b, err)
	} else {
		checkJoin(t, a, b, want)
	}
}

// Promise Q2: merged sets written out.
func TestJoin(t *testing.T) {
	for _, c := range []struct{ a, b, want api.Bag }{
		{api.Bag{}, api.Bag{}, api.Bag{}},
		{api.Bag{Has: []api.Tag{}, Saw: []int{}}, api.Bag{}, api.Bag{}},
		{bagOf([]int{0}), bagOf([]int{0}), bagOf([]int{0})},
		{bagOf([]int{3, 1}), bagOf([]int{2, 4}), bagOf([]int{3, 4})},
		{bagOf([]int{0}), bagOf([]int{latest}), bagOf([]int{latest})},
		// An element that one of them drops while the other one adds it again.
		{bagOf([]int{1, 0}), bagOf([]int{1, 1}, 0, 1, 5, 1, 1, 5), bagOf([]int{1, 1}, 1, 1, 5)},
		{bagOf([]int{1}), bagOf([]int{2}, 0, 1, 5, 0, 2, 5), bagOf([]int{2}, 0, 2, 5)},
		// In one set: kept if the other one does not know it, or else dropped.
		{bagOf([]int{0}), bagOf([]int{1}, 0, 1, 5), bagOf([]int{1}, 0, 1, 5)},
		{bagOf([]int{1}), bagOf([]int{1}, 0, 1, 5), bagOf([]int{1})},
		{bagOf([]int{2}), bagOf([]int{1}, 0, 1, 5), bagOf([]int{2})},
		{bagOf([]int{2}), bagOf([]int{5}, 0, 1, 5, 0, 2, 5, 0, 3, 5, 0, 5, 5), bagOf([]int{5}, 0, 3, 5, 0, 5, 5)},
		{bagOf([]int{2}, 0, 1, 5), bagOf([]int{3}, 0, 1, 5, 0, 3, 6), bagOf([]int{3}, 0, 1, 5, 0, 3, 6)},
		{bagOf([]int{2}, 0, 2, 5), bagOf([]int{1}), bagOf([]int{2}, 0, 2, 5)},
		{bagOf([]int{2}, 0, 2, 5), bagOf([]int{3}), bagOf([]int{3})},
		{bagOf([]int{2}, 0, 2, 5), bagOf([]int{3}, 0, 3, 5), bagOf([]int{3}, 0, 3, 5)},
		// In both of them: kept.
		{bagOf([]int{1}, 0, 1, 5), bagOf([]int{1}, 0, 1, 5), bagOf([]int{1}, 0, 1, 5)},
		{bagOf([]int{1}, 0, 1, 5), bagOf([]int{2}, 0, 1, 5), bagOf([]int{2}, 0, 1, 5)},
		{bagOf([]int{2}, 0, 1, 5, 0, 2, 6), bagOf([]int{2}, 0, 1, 5), bagOf([]int{2}, 0, 1, 5)},
		{bagOf([]int{2}, 0, 1, 5, 0, 2, 6), bagOf([]int{2}, 0, 2, 6), bagOf([]int{2}, 0, 2, 6)},
		// What one of them knows of a replica is not what it knows of others.
		{bagOf([]int{2, 0}, 0, 1, 5), bagOf([]int{0, 2}, 1, 1, 5), bagOf([]int{2, 2}, 0, 1, 5, 1, 1, 5)},
		{bagOf([]int{9, 0}), bagOf([]int{1, 1}, 0, 1, 5, 1, 1, 6), bagOf([]int{9, 1}, 1, 1, 6)},
		{bagOf([]int{0, 9}), bagOf([]int{1, 1}, 0, 1, 5, 1, 1, 6), bagOf([]int{1, 9}, 0, 1, 5)},
		{bagOf([]int{0, 1, 0}, 1, 1, 5), bagOf([]int{1, 0, 1}, 0, 1, 6, 2, 1, 4), bagOf([]int{1, 1, 1}, 0, 1, 6, 1, 1, 5, 2, 1, 4)},
		// Tags of an element are tags of their own.
		{bagOf([]int{1, 1}, 0, 1, 5), bagOf([]int{1, 1}, 1, 1, 5), bagOf([]int{1, 1})},
		{bagOf([]int{1, 0}, 0, 1, 5), bagOf([]int{0, 1}, 1, 1, 5), bagOf([]int{1, 1}, 0, 1, 5, 1, 1, 5)},
		{bagOf([]int{latest}, 0, latest, 5), bagOf([]int{latest - 1}), bagOf([]int{latest}, 0, latest, 5)},
		{bagOf([]int{latest}, 0, latest, 5), bagOf([]int{latest}), bagOf([]int{latest})},
		{bagOf([]int{1 << 32}, 0, 1<<32, 5), bagOf([]int{1}), bagOf([]int{1 << 32}, 0, 1<<32, 5)},
		{bagOf([]int{1<<32 + 1}, 0, 1<<32+1, 5), bagOf([]int{1}, 0, 1, 6), bagOf([]int{1<<32 + 1}, 0, 1<<32+1, 5)},
		{bagOf([]int{1}, 0, 1, math.MinInt), bagOf([]int{1}, 0, 1, math.MinInt), bagOf([]int{1}, 0, 1, math.MinInt)},
	} {
		checkJoin(t, c.a, c.b, c.want)
		checkPair(t, c.a, c.b)
	}
}

// Promise Q2: all pairs of small sets, also of ones whose tags differ.
func TestJoinByDefinition(t *testing.T) {
	checkJoin(t, api.Bag{}, api.Bag{}, api.Bag{})
	for _, list := range [][]api.Bag{smallBags(1, 3, 5, 6), smallBags(2, 2, 5, 6), smallBags(3, 1, 5, 6)} {
		for i, a := range list {
			for _, b := range list[:i+1] {
				checkPair(t, a, b)
			}
		}
	}
}

// Promise Q2: many pairs of sets of any number of replicas.
func TestJoinOfMany(t *testing.T) {
	for seed := range 3000 {
		draw := mix.One(uint64(seed))
		n, limit := int(draw%17), []int{1, 3, 10, 40}[draw>>8%4]
		a, b := someBag(n, limit, 7, seed), someBag(n, limit, 7, -seed-1)
		checkPair(t, a, b)
		joined, err := slowJoin(a, b)
		if err == api.OK {
			checkPair(t, a, joined)
			checkPair(t, joined, b)
		}
		if len(b.Has) > 0 {
			at := int(draw >> 16 % uint64(len(b.Has)))
			tag := b.Has[at]
			tag.Elem += 1 - 2*int(draw>>32&1)
			checkPair(t, a, changedHas(b, at, tag))
		}
	}
}

// Promise Q2: each tag of large sets may be the only one that is dropped, that
// is new, or that differs.
func TestJoinEachTag(t *testing.T) {
	for _, n := range []int{1, 2, 16} {
		for _, many := range []int{1, 2, 3, 40, 400} {
			b := wide(n, many)
			for i, tag := range b.Has {
				less := copied(b)
				less.Has = slices.Delete(less.Has, i, i+1)
				checkJoin(t, b, less, less)
				for _, elem := range []int{tag.Elem + 1, tag.Elem - 1, tag.Elem + 1<<32, -99, math.MaxInt, math.MinInt} {
					checkJoinError(t, b, changedHas(b, i, api.Tag{Who: tag.Who, N: tag.N, Elem: elem}), api.ErrSum)
				}
				if i+1 == many || b.Has[i+1].Who > tag.Who {
					less.Saw[tag.Who] = tag.N - 1
					checkJoin(t, b, less, b)
					less.Saw[tag.Who] = tag.N
					checkJoin(t, b, less, api.Bag{Has: less.Has, Saw: b.Saw})
				}
			}
		}
	}
}

// Promise Q2: the merging is idempotent, commutative and associative, if tags of
// the same addition are equal.
func TestJoinLaws(t *testing.T) {
	for _, list := range [][]api.Bag{smallBags(1, 4, 5), smallBags(2, 2, 5)} {
		for _, a := range list {
			checkJoin(t, a, a, a)
			for _, b := range list {
				joined, _ := orset.Join(a, b)
				checkJoin(t, b, a, joined)
				checkJoin(t, a, joined, joined)
				for _, c := range list {
					right, _ := orset.Join(b, c)
					all, _ := orset.Join(joined, c)
					if got, err := orset.Join(a, right); !isEqual(got, all) || err != api.OK {
						t.Errorf("%v with the join of %v and %v is %v, not %v", a, b, c, got, all)
					}
				}
			}
		}
	}
}

// replica is a replica that keeps all additions that it knows, and all that it
// knows to be removed, for ever.
type replica struct {
	added, removed map[api.Tag]bool
}

// take has a replica know all that another one knows.
func (r replica) take(other replica) {
	for tag := range other.added {
		r.added[tag] = true
	}
	for tag := range other.removed {
		r.removed[tag] = true
	}
}

// bag is the set of a replica among n of them.
func (r replica) bag(n int) api.Bag {
	b := api.Bag{Saw: make([]int, n)}
	for tag := range r.added {
		b.Saw[tag.Who] = max(b.Saw[tag.Who], tag.N)
		if !r.removed[tag] {
			b.Has = append(b.Has, tag)
		}
	}
	sortTags(b.Has)
	return b
}

// Promises Q1 and Q2: replicas that add, remove and merge, held against ones
// that never forget anything. In the end, all of them agree.
func TestHistories(t *testing.T) {
	for seed := range 80 {
		n := 1 + seed%6
		bags, replicas := make([]api.Bag, n), make([]replica, n)
		for i := range n {
			bags[i], _ = orset.New(n)
			replicas[i] = replica{map[api.Tag]bool{}, map[api.Tag]bool{}}
		}
		for step := range 150 {
			draw := mix.Two(uint64(seed), uint64(step))
			perform(bags, replicas, int(draw%uint64(n)), int(draw>>8%uint64(n)), int(draw>>16%8), int(draw>>32%5))
			for i, b := range bags {
				if want := replicas[i].bag(n); !isEqual(b, want) {
					t.Fatalf("seed %d, step %d, replica %d: %v, want %v", seed, step, i, b, want)
				}
			}
		}
		for i := range 2 * n {
			perform(bags, replicas, (i+1)%n, i%n, 7, 0)
		}
		for _, b := range bags {
			if !isEqual(b, bags[0]) || !isEqual(b, replicas[0].bag(n)) {
				t.Errorf("seed %d: %v and %v after all merges", seed, bags[0], b)
			}
		}
	}
}

// perform has a replica add or remove an element, or take over what another one
// knows.
func perform(bags []api.Bag, replicas []replica, who, other, kind, elem int) {
	switch {
	case kind < 3:
		bags[who], _ = orset.Put(bags[who], who, elem)
		replicas[who].added[api.Tag{Who: who, N: bags[who].Saw[who], Elem: elem}] = true
	case kind < 5:
		bags[who], _ = orset.Drop(bags[who], elem)
		for tag := range replicas[who].added {
			if tag.Elem == elem {
				replicas[who].removed[tag] = true
			}
		}
	default:
		bags[who], _ = orset.Join(bags[who], bags[other])
		replicas[who].take(replicas[other])
	}
}

// Promise Q2: an element that one replica drops while another one adds it again
// is in the merged set, whoever they are and whatever else is there.
func TestAdditionsWin(t *testing.T) {
	for n := 2; n <= most; n++ {
		for one := range n {
			for other := range n {
				if one == other {
					continue
				}
				b, _ := orset.Put(wide(n, 20), one, 77)
				dropped, _ := orset.Drop(b, 77)
				added, _ := orset.Put(b, other, 77)
				want := slowPut(slowDrop(b, 77), other, 77)
				checkJoin(t, dropped, added, want)
				checkJoin(t, dropped, b, dropped)
				checkJoin(t, added, b, added)
				checkJoin(t, want, added, want)
			}
		}
	}
}

// Promise Q2: sets of different numbers of replicas are not merged, even if one
// of them is empty.
func TestJoinDifferentReplicas(t *testing.T) {
	for n := range most + 3 {
		for other := range most + 3 {
			a, b := api.Bag{Saw: make([]int, n)}, api.Bag{Saw: make([]int, other)}
			if n != other || n > most {
				checkJoinError(t, a, b, api.ErrForm)
				checkJoinError(t, wide(n, min(n, 1)), b, api.ErrForm)
				checkJoinError(t, wide(n, min(n, 1)), wide(other, min(other, 1)), api.ErrForm)
			} else {
				checkJoin(t, a, b, a)
			}
		}
	}
}

// Promise Q2: the merged set may have as many tags as MaxOps, and no more. It
// does not matter how many there are before some of them are left out.
func TestJoinFull(t *testing.T) {
	for _, many := range []int{1, 2, 199, 200, 201, 399, 400} {
		for _, other := range []int{0, 1, 2, 199, 200, 201, 398, 399, 400} {
			a, b := ofReplica(0, many, 0), ofReplica(1, other, 0)
			want := api.Bag{Has: slices.Concat(a.Has, b.Has), Saw: []int{many, other}}
			if many+other > mostOps {
				checkJoinError(t, a, b, api.ErrFull)
			} else {
				checkJoin(t, a, b, want)
			}
			// The other one knows some of these additions, but has none of them.
			for _, known := range []int{0, 1, many / 2, many - 1, many} {
				b.Saw[0] = known
				want := api.Bag{Has: slices.Concat(a.Has[known:], b.Has), Saw: []int{many, other}}
				if many-known+other > mostOps {
					checkJoinError(t, a, b, api.ErrFull)
				} else {
					checkJoin(t, a, b, want)
				}
			}
		}
	}
	full := ofReplica(0, 400, 0)
	checkJoin(t, full, full, full)
	checkJoin(t, full, ofReplica(0, 400, 400), bagOf([]int{800, 0}, numbers(ofReplica(0, 400, 400).Has)...))
	checkJoinError(t, full, ofReplica(1, 1, 0), api.ErrFull)
	checkJoin(t, full, bagOf([]int{1, 1}, 1, 1, 5), api.Bag{Has: append(slices.Clone(full.Has[1:]), api.Tag{Who: 1, N: 1, Elem: 5}), Saw: []int{400, 1}})
}

// ofReplica is a set of two replicas, of which one made additions that are still
// there, after others that are not.
func ofReplica(who, many, before int) api.Bag {
	b := api.Bag{Saw: make([]int, 2)}
	b.Saw[who] = before + many
	for i := range many {
		b.Has = append(b.Has, api.Tag{Who: who, N: before + i + 1, Elem: i % 9})
	}
	return b
}

// numbers is the three numbers of each tag.
func numbers(tags []api.Tag) []int {
	var l []int
	for _, tag := range tags {
		l = append(l, tag.Who, tag.N, tag.Elem)
	}
	return l
}

// Promise Q2: the errors in their order: sets that are not valid, or not of as
// many replicas, then tags that differ, then too many tags.
func TestJoinErrors(t *testing.T) {
	a, b := bagOf([]int{1, 0}, 0, 1, 5), bagOf([]int{1, 0}, 0, 1, 6)
	checkJoinError(t, a, b, api.ErrSum)
	// A tag that is wrong in one of them, another one that differs.
	checkJoinError(t, a, bagOf([]int{1, 0}, 0, 1, 6, 1, 1, 6), api.ErrForm)
	checkJoinError(t, a, bagOf([]int{1, -1}, 0, 1, 6), api.ErrForm)
	checkJoinError(t, a, bagOf([]int{1, latest + 1}, 0, 1, 6), api.ErrForm)
	checkJoinError(t, a, bagOf([]int{1}, 0, 1, 6), api.ErrForm)
	checkJoinError(t, a, bagOf([]int{1, 0, 0}, 0, 1, 6), api.ErrForm)
	checkJoinError(t, bagOf([]int{2, 0}, 0, 2, 5, 0, 1, 5), b, api.ErrForm)
	// Of the same N, but by others, or of the same element, but not of the same N.
	checkJoin(t, a, bagOf([]int{1, 1}, 0, 1, 5, 1, 1, 6), bagOf([]int{1, 1}, 0, 1, 5, 1, 1, 6))
	checkJoin(t, a, bagOf([]int{2, 0}, 0, 1, 5, 0, 2, 6), bagOf([]int{2, 0}, 0, 1, 5, 0, 2, 6))
	// The sets that differ have too many tags, or too many if they are merged.
	many := ofReplica(0, 300, 0)
	for _, at := range []int{0, 1, 150, 298, 299} {
		other := changedHas(many, at, api.Tag{Who: 0, N: at + 1, Elem: 77})
		other.Has = append(other.Has, ofReplica(1, 100, 0).Has...)
		other.Saw[1] = 100
		checkJoinError(t, many, other, api.ErrSum)
		longer := ofReplica(0, 400, 0)
		checkJoinError(t, longer, other, api.ErrSum)
		other.Has = append(other.Has, api.Tag{Who: 1, N: 101, Elem: 5})
		other.Saw[1] = 101
		checkJoinError(t, longer, other, api.ErrForm)
	}
	checkJoinError(t, ofReplica(0, 400, 0), ofReplica(1, 401, 0), api.ErrForm)
	checkJoinError(t, ofReplica(0, 401, 0), ofReplica(0, 401, 0), api.ErrForm)
}

// Promises Q2 and AA2: sets stay as they are, with what lies behind their tags
// and counters, which does not matter, and merged sets are new, even those of a
// set with itself or with one that is empty.
func TestJoinMemory(t *testing.T) {
	for seed := range 100 {
		n := seed % 17
		rest := bagOf([]int{-1, latest + 1, 7}, -1, 0, 5, 99, 1, 3, 0, 1, 4)
		a, b, empty := someBag(n, 10, 7, seed), someBag(n, 10, 7, -seed-1), api.Bag{Saw: make([]int, n)}
		longA := api.Bag{Has: slices.Concat(a.Has, rest.Has), Saw: slices.Concat(a.Saw, rest.Saw)}
		longB := api.Bag{Has: slices.Concat(b.Has, rest.Has), Saw: slices.Concat(b.Saw, rest.Saw)}
		beforeA, beforeB := copied(longA), copied(longB)
		shortA := api.Bag{Has: longA.Has[:len(a.Has)], Saw: longA.Saw[:n]}
		shortB := api.Bag{Has: longB.Has[:len(b.Has)], Saw: longB.Saw[:n]}
		want, _ := slowJoin(a, b)
		checkOwn(t, want, func() (api.Bag, api.Errno) { return orset.Join(shortA, shortB) })
		checkOwn(t, want, func() (api.Bag, api.Errno) { return orset.Join(shortB, shortA) })
		checkOwn(t, a, func() (api.Bag, api.Errno) { return orset.Join(shortA, shortA) })
		checkOwn(t, a, func() (api.Bag, api.Errno) { return orset.Join(shortA, empty) })
		checkOwn(t, a, func() (api.Bag, api.Errno) { return orset.Join(empty, shortA) })
		if !isEqual(longA, beforeA) || !isEqual(longB, beforeB) || !isEqual(empty, api.Bag{Saw: make([]int, n)}) {
			t.Errorf("arguments were changed: %v is %v, %v is %v", beforeA, longA, beforeB, longB)
		}
	}
}
