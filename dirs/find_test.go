package dirs_test

import (
	"slices"
	"strconv"
	"testing"

	"strawloft/api"
	"strawloft/dirs"
)

// slowDeal is Deal by the chapter's words: fragment after fragment, the names that
// it contains.
func slowDeal(l []api.Frag, list []string) [][]string {
	owner := owners(l)
	parts := make([][]string, len(l))
	for k := range l {
		for _, name := range list {
			if owner[slowPlace(name)] == k {
				parts[k] = append(parts[k], name)
			}
		}
	}
	return parts
}

// someNames is n names, of which some occur more than once; they are not sorted.
func someNames(n, seed int) []string {
	var list []string
	for i := range n {
		list = append(list, names()[draw(seed, i, 1000)*65])
	}
	return list
}

func isSame(a, b [][]string) bool {
	return slices.EqualFunc(a, b, slices.Equal[[]string])
}

func checkFind(t *testing.T, l []api.Frag, name string, want int, wantErr api.Errno) {
	t.Helper()
	if got, err := dirs.Find(l, name); got != want || err != wantErr {
		t.Fatalf("Find(%v, %q) is %d, %d; want %d, %d", l, name, got, err, want, wantErr)
	}
}

func checkDeal(t *testing.T, l []api.Frag, list []string, want [][]string, wantErr api.Errno) {
	t.Helper()
	got, err := dirs.Deal(l, list)
	if isSame(got, want) && err == wantErr {
		return
	}
	if len(list) > 1000 {
		t.Fatalf("Deal(%v, %d names) is wrong", l, len(list))
	}
	t.Fatalf("Deal(%v, %q) is %q, %d; want %q, %d", l, list, got, err, want, wantErr)
}

// Promise T1: names whose hashes are known: 1700, 28263, 33442, 61392.
func TestFind(t *testing.T) {
	for _, c := range []struct {
		l              []api.Frag
		x, b, a, empty int
	}{
		{frags(0, 0), 0, 0, 0, 0},
		{frags(1, 0, 1, 1), 0, 0, 1, 1},
		{frags(2, 0, 2, 1, 1, 1), 0, 1, 2, 2},
		{frags(1, 0, 2, 2, 2, 3), 0, 0, 1, 2},
		{frags(2, 0, 2, 1, 2, 2, 2, 3), 0, 1, 2, 3},
		{uniform(8), 6, 110, 130, 239},
	} {
		checkFind(t, c.l, "x", c.x, api.OK)
		checkFind(t, c.l, "b", c.b, api.OK)
		checkFind(t, c.l, "a", c.a, api.OK)
		checkFind(t, c.l, "", c.empty, api.OK)
	}
}

// Promise T1: a name of each hash, in lists of all kinds.
func TestFindEachHash(t *testing.T) {
	for _, l := range [][]api.Frag{uniform(0), uniform(1), uniform(8), chain(16, true), chain(16, false), grown(21, 3), grown(400, 4)} {
		owner := owners(l)
		for hash, name := range names() {
			checkFind(t, l, name, owner[hash], api.OK)
		}
	}
}

// Promise T1: names at the edges of fragments.
func TestFindEdges(t *testing.T) {
	lists := someLists()
	for seed := range 100 {
		lists = append(lists, grown(draw(seed, 0, mostOps)+1, seed+1000))
	}
	for _, l := range lists {
		owner := owners(l)
		for _, hash := range edges(l) {
			checkFind(t, l, names()[hash], owner[hash], api.OK)
		}
	}
}

// Promise T1: with fragments that are not valid nothing is found, even if one of
// them contains the name.
func TestFindErrors(t *testing.T) {
	for _, l := range wrongLists() {
		for _, name := range []string{"", "a", "b", "x", names()[0], names()[manyHashes-1]} {
			checkFind(t, l, name, 0, api.ErrForm)
		}
	}
}

// Promise T1: names are dealt to fragments in their order, each as often as it
// occurs.
func TestDeal(t *testing.T) {
	for _, c := range []struct {
		l    []api.Frag
		list []string
		want [][]string
	}{
		{frags(0, 0), []string{"b", "a"}, [][]string{{"b", "a"}}},
		{frags(0, 0), []string{"a", "b", "a"}, [][]string{{"a", "b", "a"}}},
		{frags(1, 0, 1, 1), []string{"b", "a"}, [][]string{{"b"}, {"a"}}},
		{frags(1, 0, 1, 1), []string{"x", "a", "b", "", "x", "a"}, [][]string{{"x", "b", "x"}, {"a", "", "a"}}},
		{frags(1, 0, 2, 2, 2, 3), []string{"", "x", "b"}, [][]string{{"x", "b"}, {}, {""}}},
		{frags(2, 0, 2, 1, 1, 1), []string{"", "", "b"}, [][]string{{}, {"b"}, {"", ""}}},
	} {
		checkDeal(t, c.l, c.list, c.want, api.OK)
		if slow := slowDeal(c.l, c.list); !isSame(slow, c.want) {
			t.Fatalf("slowDeal(%v, %q) is %q, want %q", c.l, c.list, slow, c.want)
		}
	}
}

// Promise T1: without names there is still a list for each fragment.
func TestDealNone(t *testing.T) {
	for _, l := range someLists() {
		for _, list := range [][]string{nil, {}, []string{"a", "b"}[:0]} {
			checkDeal(t, l, list, make([][]string, len(l)), api.OK)
		}
	}
}

// Promise T1: any names, to fragments of all kinds.
func TestDealByDefinition(t *testing.T) {
	for i, l := range someLists() {
		for _, many := range []int{1, 2, 3, 10, 100, 399, 400, 401} {
			list := someNames(many, i)
			checkDeal(t, l, list, slowDeal(l, list), api.OK)
		}
	}
}

// Promise T1: a name of each hash, twice, to fragments of all kinds: there may be
// any number of names.
func TestDealEachHash(t *testing.T) {
	list := slices.Concat(names(), names())
	for _, l := range someLists() {
		owner := owners(l)
		want := make([][]string, len(l))
		for i, name := range list {
			k := owner[i%manyHashes]
			want[k] = append(want[k], name)
		}
		checkDeal(t, l, list, want, api.OK)
	}
}

// Promise T1: each name belongs to the fragment that Find finds, and to no other.
func TestDealFind(t *testing.T) {
	for seed := range 50 {
		l, list := grown(draw(seed, 0, mostOps)+1, seed+50), someNames(300, seed)
		parts, err := dirs.Deal(l, list)
		if err != api.OK || len(parts) != len(l) || len(slices.Concat(parts...)) != len(list) {
			t.Fatalf("Deal(%v, %q) is %q, %d", l, list, parts, err)
		}
		for k, part := range parts {
			for _, name := range part {
				checkFind(t, l, name, k, api.OK)
			}
		}
	}
}

// Promise T1: with fragments that are not valid nothing is dealt.
func TestDealErrors(t *testing.T) {
	for _, l := range wrongLists() {
		for _, list := range [][]string{nil, {"a"}, {"a", "b", "x", ""}} {
			checkDeal(t, l, list, nil, api.ErrForm)
		}
	}
}

// Promises AA1 and AA2: no call changes its arguments or reads what lies behind
// them, and each gives the same result again.
func TestArguments(t *testing.T) {
	for _, l := range someLists() {
		behind := slices.Concat(l, frags(1, 0, 1, 1, 99, -5))
		given, list := behind[:len(l)], append(someNames(50, len(l)), "behind")
		keptFrags, keptNames := slices.Clone(behind), slices.Clone(list)
		want, owner := slowDeal(l, list[:50]), owners(l)
		for range 2 {
			if !dirs.Right(given) {
				t.Fatalf("Right(%v) is false", given)
			}
			checkDeal(t, given, list[:50], want, api.OK)
			checkFind(t, given, "a", owner[33442], api.OK)
			checkSplit(t, given, len(l)/2)
			checkJoin(t, given, len(l)/2)
		}
		if !slices.Equal(behind, keptFrags) || !slices.Equal(list, keptNames) {
			t.Fatalf("the calls have changed %v or %q", keptFrags, keptNames)
		}
	}
}

// Promise AA2: the lists of names are memory of their own, with their spare
// capacity, and so is the list of these.
func TestDealMemory(t *testing.T) {
	for n := 1; n < 40; n++ {
		l, list := grown(n, n), someNames(100, n)
		want := slowDeal(l, list)
		parts, err := dirs.Deal(l, list)
		clear(list)
		clear(l)
		if err != api.OK || !isSame(parts, want) {
			t.Fatalf("the result changes with the names: %q, %d, want %q", parts, err, want)
		}
		for k := range parts {
			if !slices.Equal(parts[k], want[k]) {
				t.Fatalf("part %d of %d shares memory with others", k, n)
			}
			for i := range parts[k][:cap(parts[k])] {
				parts[k][:cap(parts[k])][i] = "other " + strconv.Itoa(i)
			}
		}
	}
}
