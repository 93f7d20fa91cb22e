package table_test

import (
	"math"
	"math/big"
	"slices"
	"testing"

	"strawloft/api"
	"strawloft/mix"
	"strawloft/table"
)

// maxSize is the greatest size of a table, and lastPrime the greatest one that
// is prime.
const (
	maxSize   = 1000
	lastPrime = 997
)

// primes is the prime numbers up to maxSize, by crossing out the multiples of
// all numbers.
func primes() []int {
	crossed := make([]bool, maxSize+1)
	var list []int
	for n := 2; n <= maxSize; n++ {
		if !crossed[n] {
			list = append(list, n)
		}
		for multiple := 2 * n; multiple <= maxSize; multiple += n {
			crossed[multiple] = true
		}
	}
	return list
}

// reduced is a hash modulo n, with integers of any size.
func reduced(hash uint64, n int) int {
	number := new(big.Int).SetUint64(hash)
	return int(number.Mod(number, big.NewInt(int64(n))).Int64())
}

// slowLikes is the preference list by the chapter: the k-th position after the
// first one is larger by k steps.
func slowLikes(id, size int) []int {
	first, step := reduced(mix.Two(0, uint64(id)), size), 1
	if size > 2 {
		step = reduced(mix.Two(1, uint64(id)), size-1) + 1
	}
	var list []int
	for k := range size {
		list = append(list, (first+k*step)%size)
	}
	return list
}

// slowMake is the table by the chapter: each turn begins at the beginning of a
// preference list.
func slowMake(ids []int, size int) []int {
	likes := map[int][]int{}
	for _, id := range ids {
		likes[id] = slowLikes(id, size)
	}
	t := slices.Repeat([]int{-1}, size)
	for turn := 0; slices.Contains(t, -1); turn++ {
		id := ids[turn%len(ids)]
		for _, at := range likes[id] {
			if t[at] == -1 {
				t[at] = id
				break
			}
		}
	}
	return t
}

// slowWrong is what is wrong, by the chapter.
func slowWrong(ids []int, size int) api.Errno {
	if len(ids) == 0 || len(ids) > 16 || size <= 0 || size > 1000 {
		return api.ErrRange
	}
	if !slices.Contains(primes(), size) {
		return api.ErrForm
	}
	if size < len(ids) {
		return api.ErrShort
	}
	for i, id := range ids {
		if id < 0 || id > 1<<40 {
			return api.ErrRange
		}
		if slices.Contains(ids[:i], id) {
			return api.ErrHeld
		}
	}
	return api.OK
}

// idLike is the least id from the given one on whose preference list of a size
// begins with a position, with a step.
func idLike(size, first, step, from int) int {
	for id := from; ; id++ {
		if reduced64(mix.Two(0, uint64(id)), size) == first && reduced64(mix.Two(1, uint64(id)), size-1) == step-1 {
			return id
		}
	}
}

// reduced64 is reduced without integers of any size, for long searches.
func reduced64(hash uint64, n int) int {
	return int(hash - hash/uint64(n)*uint64(n))
}

// inSteps is all positions from a first one on, with a step.
func inSteps(size, first, step int) []int {
	list := []int{first}
	for len(list) < size {
		list = append(list, (list[len(list)-1]+step)%size)
	}
	return list
}

// someIds is n different ids.
func someIds(n int) []int {
	ids := []int{7, 0, api.MaxTime, 3, 12, 1, api.MaxTime - 1, 2, 1 << 32, 5, 6, 1<<32 + 7, 99, 4, 1 << 31, 1<<40 - 1<<20}
	return ids[:n]
}

// lists is valid ids of many kinds.
func lists() [][]int {
	list := [][]int{{0}, {1}, {7}, {api.MaxTime}, {api.MaxTime - 1}, {0, api.MaxTime}, {api.MaxTime, 0}, {2, 1}, {1, 2}, {0, 1 << 32}}
	for n := 1; n <= api.MaxNode; n++ {
		var rising, falling, far []int
		for i := range n {
			rising = append(rising, i)
			falling = append(falling, api.MaxTime-i)
			far = append(far, (i*i+5)<<30)
		}
		list = append(list, someIds(n), rising, falling, far)
	}
	return list
}

// sizes is prime sizes from the least to the greatest one.
func sizes() []int {
	return []int{2, 3, 5, 7, 11, 13, 17, 19, 23, 31, 97, 101, 127, 251, 257, 499, 509, 991, lastPrime}
}

// wrongIds is ids that are not valid, but as many as fit any prime size from
// 17 on, with what is wrong with them first.
func wrongIds() map[api.Errno][][]int {
	wrong := map[api.Errno][][]int{
		api.ErrRange: {
			{-1, -1}, {api.MaxTime + 1, api.MaxTime + 1}, {4, -1, 4}, {-1, 4, 4}, {4, api.MaxTime + 1, 4}, {4, 5, -2, 4}, {math.MinInt, 0},
			{0, 1, 2, 3, 4, 5, 6, 7, 8, 9, 10, 11, 12, 13, 14, -1}, {0, 1, 2, 3, 4, 5, 6, 7, 8, 9, 10, 11, 12, 13, -1, 0},
		},
		api.ErrHeld: {
			{4, 4}, {0, 0}, {api.MaxTime, api.MaxTime}, {4, 4, -1}, {4, 4, api.MaxTime + 1}, {4, 5, 4}, {0, 1, 2, 0}, {4, 4, 4}, make([]int, 16),
			{0, 1, 2, 3, 4, 5, 6, 7, 8, 9, 10, 11, 12, 13, 14, 0}, {0, 1, 2, 3, 4, 5, 6, 7, 8, 9, 10, 11, 12, 13, 13, -1},
		},
	}
	for _, n := range []int{-1, -2, -77, -api.MaxTime, api.MaxTime + 1, api.MaxTime + 2, 1 << 41, 1 << 62, math.MaxInt, math.MinInt} {
		wrong[api.ErrRange] = append(wrong[api.ErrRange], []int{n})
		for i := range 4 {
			wrong[api.ErrRange] = append(wrong[api.ErrRange], slices.Insert([]int{0, 3, api.MaxTime}, i, n))
		}
	}
	return wrong
}

// wrongSizes is sizes that are not valid, with what is wrong with them.
func wrongSizes() map[api.Errno][]int {
	return map[api.Errno][]int{
		api.ErrRange: {0, -1, -2, -3, -5, -997, 1001, 1002, 1009, 1013, 1 << 31, 1 << 32, 1<<32 + 7, 1<<61 - 1, math.MinInt, math.MaxInt},
		api.ErrForm:  {1, 4, 6, 8, 9, 15, 25, 49, 91, 121, 169, 256, 289, 361, 529, 841, 899, 961, 989, 993, 998, 999, 1000},
	}
}

// checkWrong checks what is wrong with ids and a size.
func checkWrong(t *testing.T, ids []int, size int, want api.Errno) {
	t.Helper()
	if got := table.Wrong(ids, size); got != want {
		t.Errorf("Wrong(%v, %d) is %d, want %d", ids, size, got, want)
	}
}

// checkLikes checks the preference list, without an error.
func checkLikes(t *testing.T, id, size int, want []int) {
	t.Helper()
	if got, err := table.Likes(id, size); !slices.Equal(got, want) || err != api.OK {
		t.Errorf("Likes(%d, %d) is %v, %d, want %v, OK", id, size, got, err, want)
	}
}

// checkMake checks the table, without an error.
func checkMake(t *testing.T, ids []int, size int, want []int) {
	t.Helper()
	if got, err := table.Make(ids, size); !slices.Equal(got, want) || err != api.OK {
		t.Errorf("Make(%v, %d) is %v, %d, want %v, OK", ids, size, got, err, want)
	}
}

// checkNone checks that there is no table and that Wrong says why, and so
// does Likes of a single id, without a list.
func checkNone(t *testing.T, ids []int, size int, want api.Errno) {
	t.Helper()
	checkWrong(t, ids, size, want)
	if got, err := table.Make(ids, size); len(got) != 0 || err != want {
		t.Errorf("Make(%v, %d) is %v, %d, want none, %d", ids, size, got, err, want)
	}
	if len(ids) != 1 {
		return
	}
	if got, err := table.Likes(ids[0], size); len(got) != 0 || err != want {
		t.Errorf("Likes(%d, %d) is %v, %d, want none, %d", ids[0], size, got, err, want)
	}
}

// checkFind checks the id that a key belongs to, without an error.
func checkFind(t *testing.T, l []int, key uint64, want int) {
	t.Helper()
	if got, err := table.Find(l, key); got != want || err != api.OK {
		t.Errorf("Find of key %#x is %d, %d, want %d, OK, in %v", key, got, err, want, l)
	}
}

// Promise J1: from 1 to 16 different ids from 0 to MaxTime are valid, with a
// prime size up to 1000 that is not less than their number.
func TestWrong(t *testing.T) {
	for _, ids := range lists() {
		for _, size := range primes() {
			if size >= len(ids) {
				checkWrong(t, ids, size, api.OK)
			} else {
				checkNone(t, ids, size, api.ErrShort)
			}
		}
	}
	for _, id := range []int{0, 1, 1 << 31, 1 << 32, api.MaxTime - 1, api.MaxTime} {
		checkWrong(t, []int{id}, 2, api.OK)
		checkWrong(t, []int{id, 8, 9}, lastPrime, api.OK)
		checkWrong(t, []int{8, 9, id}, 3, api.OK)
	}
}

// Promise J1: all sizes around the valid ones, with all numbers of ids around
// these.
func TestSizes(t *testing.T) {
	if l := primes(); len(l) != 168 || l[0] != 2 || l[167] != lastPrime {
		t.Fatalf("there are 168 primes up to 1000, not %v", l)
	}
	for n := range 40 {
		var ids []int
		for i := range n {
			ids = append(ids, 3*i)
		}
		for size := -20; size <= 1030; size++ {
			checkWrong(t, ids, size, slowWrong(ids, size))
		}
	}
}

// Promise J1: sizes and numbers of ids at the limits.
func TestLimits(t *testing.T) {
	for want, list := range wrongSizes() {
		for _, size := range list {
			for _, ids := range [][]int{{7}, {0}, {api.MaxTime}, {1, 2, 3}, someIds(16)} {
				checkNone(t, ids, size, want)
			}
		}
	}
	for _, size := range sizes() {
		checkNone(t, nil, size, api.ErrRange)
		checkNone(t, []int{}, size, api.ErrRange)
		checkNone(t, append(someIds(16), 1000), size, api.ErrRange)
		checkNone(t, make([]int, 400), size, api.ErrRange)
	}
	for _, c := range []struct {
		many, size int
		want       api.Errno
	}{
		{2, 2, api.OK}, {3, 3, api.OK}, {3, 2, api.ErrShort}, {4, 5, api.OK}, {4, 3, api.ErrShort}, {5, 5, api.OK}, {5, 3, api.ErrShort},
		{7, 7, api.OK}, {7, 5, api.ErrShort}, {11, 11, api.OK}, {11, 7, api.ErrShort}, {12, 13, api.OK}, {12, 11, api.ErrShort},
		{13, 13, api.OK}, {13, 11, api.ErrShort}, {14, 13, api.ErrShort}, {16, 17, api.OK}, {16, 13, api.ErrShort}, {16, 2, api.ErrShort},
		{16, 16, api.ErrForm}, {1, 1, api.ErrForm}, {4, 4, api.ErrForm}, {9, 9, api.ErrForm}, {16, 4, api.ErrForm}, {16, 1, api.ErrForm},
	} {
		if c.want == api.OK {
			checkMake(t, someIds(c.many), c.size, slowMake(someIds(c.many), c.size))
		} else {
			checkNone(t, someIds(c.many), c.size, c.want)
		}
	}
}

// Promise J1: each id is checked in order, its range before the ids before it.
func TestWrongIds(t *testing.T) {
	for want, list := range wrongIds() {
		for _, ids := range list {
			for _, size := range []int{17, 19, 101, lastPrime} {
				checkNone(t, ids, size, want)
			}
		}
	}
	for n := 2; n <= api.MaxNode; n++ {
		for i := range n {
			for j := range i {
				ids := someIds(n)
				ids[i] = ids[j]
				checkNone(t, ids, 17, api.ErrHeld)
				ids[j] = -1
				checkNone(t, ids, 17, api.ErrRange)
			}
		}
	}
}

// Promise J1: the numbers are checked first, then whether the size is prime,
// then whether it is enough, and then the ids.
func TestWrongOrder(t *testing.T) {
	for _, list := range wrongIds() {
		for _, ids := range list {
			for want, sizes := range wrongSizes() {
				for _, size := range sizes {
					checkNone(t, ids, size, want)
				}
			}
			for _, size := range []int{2, 3, 5, 7, 11, 13} {
				checkNone(t, ids, size, slowWrong(ids, size))
			}
		}
	}
	for _, size := range []int{-1, 0, 1, 2, 4, 13, 16, 17, lastPrime, 1000, 1001} {
		checkNone(t, nil, size, api.ErrRange)
		checkNone(t, make([]int, 17), size, api.ErrRange)
		checkNone(t, append(someIds(16), -1), size, api.ErrRange)
	}
	checkNone(t, []int{4, 4, 4}, 2, api.ErrShort)
	checkNone(t, []int{-1, -1, -1}, 2, api.ErrShort)
	checkNone(t, []int{4, 4, -1}, 4, api.ErrForm)
	checkNone(t, []int{-1}, 1, api.ErrForm)
	checkNone(t, []int{-1}, 0, api.ErrRange)
}

// Promise J1: preference lists computed apart from the program.
func TestLikes(t *testing.T) {
	for _, c := range []struct {
		id, size int
		want     []int
	}{
		{0, 2, []int{0, 1}}, {1, 2, []int{0, 1}}, {2, 2, []int{1, 0}}, {3, 2, []int{0, 1}},
		{0, 3, []int{0, 1, 2}}, {1, 3, []int{2, 1, 0}}, {2, 3, []int{0, 2, 1}},
		{0, 5, []int{0, 3, 1, 4, 2}}, {1, 5, []int{4, 3, 2, 1, 0}}, {7, 5, []int{4, 1, 3, 0, 2}},
		{0, 7, []int{0, 1, 2, 3, 4, 5, 6}}, {1, 7, []int{0, 2, 4, 6, 1, 3, 5}}, {api.MaxTime, 7, []int{1, 4, 0, 3, 6, 2, 5}},
		{12345, 11, []int{2, 7, 1, 6, 0, 5, 10, 4, 9, 3, 8}}, {5, 13, []int{10, 3, 9, 2, 8, 1, 7, 0, 6, 12, 5, 11, 4}},
		{api.MaxTime, 13, []int{0, 3, 6, 9, 12, 2, 5, 8, 11, 1, 4, 7, 10}},
		{api.MaxTime - 1, 13, []int{3, 11, 6, 1, 9, 4, 12, 7, 2, 10, 5, 0, 8}},
	} {
		checkLikes(t, c.id, c.size, c.want)
	}
	for _, c := range []struct{ id, first, step int }{
		{0, 0, 103}, {1, 794, 344}, {2, 314, 778}, {3, 387, 51}, {4, 904, 116}, {5, 383, 846}, {6, 385, 603}, {7, 806, 62}, {42, 66, 909},
		{1 << 31, 711, 894}, {1 << 32, 172, 16}, {api.MaxTime - 1, 921, 464}, {api.MaxTime, 26, 759},
	} {
		checkLikes(t, c.id, lastPrime, inSteps(lastPrime, c.first, c.step))
	}
}

// Promise J1: preference lists by the chapter's formula.
func TestLikesByDefinition(t *testing.T) {
	ids := append(someIds(16), 1<<39, 1<<40-2, 12345, 1<<33+1)
	for id := range 40 {
		ids = append(ids, id, id*id*id+77, id<<34)
	}
	for _, size := range primes() {
		for _, id := range ids {
			checkLikes(t, id, size, slowLikes(id, size))
		}
	}
	for id := range 2000 {
		for _, size := range []int{2, 3, 5, 31} {
			checkLikes(t, id, size, slowLikes(id, size))
		}
	}
}

// Promise J1: each position occurs once in a preference list.
func TestPermutation(t *testing.T) {
	for _, size := range primes() {
		for id := range 100 {
			l, err := table.Likes(id*id<<20+id, size)
			slices.Sort(l)
			if !slices.Equal(l, inSteps(size, 0, 1)) || err != api.OK {
				t.Errorf("Likes(%d, %d) is %v when sorted, %d", id*id<<20+id, size, l, err)
			}
		}
	}
}

// Promise J1: lists that begin with the first position and with the last one,
// with the least step and with the greatest one.
func TestFirstAndStep(t *testing.T) {
	for _, size := range []int{2, 3, 5, 17, 101, lastPrime} {
		for _, first := range []int{0, 1, size / 2, size - 1} {
			for _, step := range []int{1, size / 2, size - 1} {
				checkLikes(t, idLike(size, first, step, 0), size, inSteps(size, first, step))
			}
		}
	}
}

// Promise J1: hashes are not negative numbers, even if their first bit is set.
func TestGreatHashes(t *testing.T) {
	seen := map[[2]bool]bool{}
	for id := range 100 {
		seen[[2]bool{mix.Two(0, uint64(id)) >= 1<<63, mix.Two(1, uint64(id)) >= 1<<63}] = true
		for _, size := range []int{2, 3, 7, 101, lastPrime} {
			checkLikes(t, id, size, slowLikes(id, size))
		}
	}
	if len(seen) != 4 {
		t.Errorf("the hashes of these ids are not of all kinds")
	}
}

// Promise J2: tables computed apart from the program.
func TestMake(t *testing.T) {
	for _, c := range []struct {
		ids  []int
		size int
		want []int
	}{
		{[]int{0}, 2, []int{0, 0}}, {[]int{1, 2}, 2, []int{1, 2}}, {[]int{2, 1}, 2, []int{1, 2}}, {[]int{0, 1}, 3, []int{0, 0, 1}},
		{[]int{0, 1, 2}, 3, []int{0, 2, 1}}, {[]int{1, 2}, 5, []int{1, 2, 2, 1, 1}}, {[]int{2, 1}, 5, []int{2, 2, 2, 1, 1}},
		{[]int{0, api.MaxTime}, 5, []int{0, 0, 0, api.MaxTime, api.MaxTime}}, {[]int{10, 20, 30}, 7, []int{30, 20, 10, 30, 10, 10, 20}},
		{[]int{30, 20, 10}, 7, []int{30, 20, 30, 30, 10, 10, 20}}, {[]int{0, 1, 2, 3, 4}, 5, []int{0, 4, 2, 3, 1}},
		{[]int{5, 6, 7, 8}, 13, []int{8, 7, 7, 5, 8, 7, 6, 6, 5, 5, 5, 6, 8}},
		{[]int{3, 1, 4, 5, 9, 2, 6, 8, 7, 0, 10}, 11, []int{0, 3, 1, 10, 5, 4, 2, 9, 6, 7, 8}},
		{[]int{0, 1, 2, 3, 4, 5, 6, 7, 8, 9, 10, 11, 12, 13, 14, 15}, 17, []int{0, 15, 10, 3, 0, 4, 14, 5, 13, 1, 2, 6, 8, 7, 11, 9, 12}},
		{
			[]int{api.MaxTime, api.MaxTime - 1, 1 << 32, 1 << 31, 0}, 11,
			[]int{0, api.MaxTime, api.MaxTime, api.MaxTime - 1, 1 << 32, 0, 1 << 32, api.MaxTime, 1 << 31, 1 << 31, api.MaxTime - 1},
		},
		{
			[]int{15, 14, 13, 12, 11, 10, 9, 8, 7, 6, 5, 4, 3, 2, 1, 0}, 19,
			[]int{5, 14, 9, 15, 0, 2, 3, 11, 14, 1, 13, 8, 15, 13, 6, 12, 4, 10, 7},
		},
	} {
		checkMake(t, c.ids, c.size, c.want)
	}
}

// Promise J2: tables by the chapter's turns.
func TestMakeByDefinition(t *testing.T) {
	for _, ids := range lists() {
		for _, size := range sizes() {
			if size >= len(ids) {
				checkMake(t, ids, size, slowMake(ids, size))
			}
		}
		turned := append(slices.Clone(ids[1:]), ids[0])
		checkMake(t, turned, 37, slowMake(turned, 37))
		slices.Reverse(turned)
		checkMake(t, turned, 37, slowMake(turned, 37))
	}
	for _, size := range primes() {
		checkMake(t, someIds(2), size, slowMake(someIds(2), size))
	}
}

// Promise J2: the numbers of positions of two ids differ by at most one, and
// an id has no more of them than the ones before it.
func TestBalanced(t *testing.T) {
	for _, ids := range lists() {
		for _, size := range primes() {
			if size < len(ids) {
				continue
			}
			l, err := table.Make(ids, size)
			if len(l) != size || err != api.OK {
				t.Fatalf("Make(%v, %d) is %v, %d", ids, size, l, err)
			}
			had := map[int]int{}
			for _, id := range l {
				had[id]++
			}
			for i, id := range ids {
				want := size / len(ids)
				if i < size%len(ids) {
					want++
				}
				if had[id] != want {
					t.Errorf("id %d of %v has %d of %d positions, want %d", id, ids, had[id], size, want)
				}
			}
		}
	}
}

// Promise J2: a single id takes all positions.
func TestSingle(t *testing.T) {
	for _, id := range append(someIds(16), 12345, 1<<39) {
		for _, size := range primes() {
			checkMake(t, []int{id}, size, slices.Repeat([]int{id}, size))
		}
	}
}

// Promise J2: as many ids as positions take one of them each: the first id its
// first one.
func TestFull(t *testing.T) {
	for _, size := range []int{2, 3, 5, 7, 11, 13} {
		for n := range 20 {
			var ids []int
			for i := range size {
				ids = append(ids, i*(n+1)+n*n)
			}
			l, err := table.Make(ids, size)
			if err != api.OK || l[slowLikes(ids[0], size)[0]] != ids[0] {
				t.Errorf("Make(%v, %d) is %v, %d, but id %d prefers %v", ids, size, l, err, ids[0], slowLikes(ids[0], size))
			}
			checkMake(t, ids, size, slowMake(ids, size))
			slices.Sort(l)
			slices.Sort(ids)
			if !slices.Equal(l, ids) {
				t.Errorf("Make of %v has %v", ids, l)
			}
		}
	}
}

// Promise J2: ids with the same preference list take its positions by turns.
func TestSameLists(t *testing.T) {
	for _, size := range []int{3, 5, 17, 31} {
		for many := 2; many <= min(size, 4); many++ {
			for _, first := range []int{0, size - 1} {
				for _, step := range []int{1, 2, size - 1} {
					var ids []int
					for from := 0; len(ids) < many; from = ids[len(ids)-1] + 1 {
						ids = append(ids, idLike(size, first, step, from))
					}
					want := make([]int, size)
					for turn, at := range inSteps(size, first, step) {
						want[at] = ids[turn%many]
					}
					checkMake(t, ids, size, want)
				}
			}
		}
	}
}

// Promise J2: two ids whose preference lists begin at both ends and lead
// towards each other share the table in the middle, and others meet there with
// positions of the other one to pass by.
func TestOppositeLists(t *testing.T) {
	for _, size := range []int{3, 5, 17, 101} {
		up, down := idLike(size, 0, 1, 0), idLike(size, size-1, size-1, 0)
		middle := size/2 + 1
		checkMake(t, []int{up, down}, size, append(slices.Repeat([]int{up}, middle), slices.Repeat([]int{down}, size-middle)...))
		checkMake(t, []int{down, up}, size, append(slices.Repeat([]int{up}, size-middle), slices.Repeat([]int{down}, middle)...))
	}
	up, down := idLike(7, 0, 1, 0), idLike(7, 2, 6, 0)
	checkMake(t, []int{up, down}, 7, []int{up, up, down, up, up, down, down})
	checkMake(t, []int{down, up}, 7, []int{up, down, down, up, up, down, down})
}

// Promise J2: no table has no id, whatever the key.
func TestFindEmpty(t *testing.T) {
	for _, l := range [][]int{nil, {}, []int{1, 2, 3}[:0]} {
		for _, key := range []uint64{0, 1, 5, 1 << 63, math.MaxUint64} {
			if got, err := table.Find(l, key); got != 0 || err != api.ErrNone {
				t.Errorf("Find(%v, %#x) is %d, %d, want 0, ErrNone", l, key, got, err)
			}
		}
	}
}

// Promise J2: all keys belong to the only entry of a table, which may be any
// number.
func TestFindOne(t *testing.T) {
	for _, id := range []int{0, 1, -1, api.MaxTime, api.MaxTime + 1, math.MaxInt, math.MinInt} {
		for _, key := range []uint64{0, 1, 5, 1 << 63, math.MaxUint64 - 1, math.MaxUint64} {
			checkFind(t, []int{id}, key, id)
		}
	}
}

// Promise J2: ids of keys computed apart from the program, at the positions of
// a table that has each number at itself.
func TestFind(t *testing.T) {
	for _, c := range []struct {
		size int
		key  uint64
		want int
	}{
		{2, 0, 0}, {2, 1, 0}, {2, 5, 1}, {2, 1 << 63, 1}, {2, math.MaxUint64, 1}, {3, 0, 0}, {3, 1, 2}, {3, 5, 1}, {3, 1 << 63, 0},
		{3, math.MaxUint64, 1}, {4, 0, 0}, {4, 1, 0}, {4, 5, 1}, {4, 1 << 63, 3}, {4, math.MaxUint64, 1}, {5, 0, 0}, {5, 1, 4},
		{5, 5, 1}, {5, 1 << 63, 2}, {5, math.MaxUint64, 4}, {7, 0, 0}, {7, 1, 0}, {7, 5, 5}, {7, 1 << 63, 0},
		{7, math.MaxUint64, 5}, {13, 0, 0}, {13, 1, 10}, {13, 5, 10}, {13, 1 << 63, 10}, {13, math.MaxUint64, 2}, {101, 0, 0},
		{101, 1, 48}, {101, 5, 67}, {101, 1 << 63, 21}, {101, math.MaxUint64, 58}, {997, 0, 0}, {997, 1, 794}, {997, 5, 383},
		{997, 1 << 63, 747}, {997, math.MaxUint64, 221}, {1000, 0, 0}, {1000, 1, 604}, {1000, 5, 581}, {1000, 1 << 63, 707},
		{1000, math.MaxUint64, 289},
	} {
		checkFind(t, inSteps(c.size, 0, 1), c.key, c.want)
	}
}

// Promise J2: keys with hashes at all places of a table, in tables of any
// length and not only of those that Make returns.
func TestFindByHash(t *testing.T) {
	for _, size := range []int{1, 2, 3, 4, 5, 6, 10, 16, 97, lastPrime, 1000, 1001, 4096, 100000} {
		var l []int
		for i := range size {
			l = append(l, 3*i-size)
		}
		for _, key := range []uint64{0, 1, 5, 1 << 63, math.MaxUint64 - 1, math.MaxUint64} {
			checkFind(t, l, key, l[reduced(mix.One(key), size)])
		}
		for n := range uint64(100) {
			checkFind(t, l, mix.Back(n*n), l[reduced(n*n, size)])
			checkFind(t, l, mix.Back(math.MaxUint64-n), l[reduced(math.MaxUint64-n, size)])
		}
		checkFind(t, l, mix.Back(uint64(size-1)), l[size-1])
		checkFind(t, l, mix.Back(uint64(size)), l[0])
		checkFind(t, l, mix.Back(1<<63), l[reduced(1<<63, size)])
	}
}

// Promise J2: keys are found in the tables of Make, and the ids have about as
// many of them each.
func TestShares(t *testing.T) {
	ids := someIds(10)
	l, err := table.Make(ids, lastPrime)
	if err != api.OK {
		t.Fatalf("Make(%v, %d) is %v, %d", ids, lastPrime, l, err)
	}
	had := map[int]int{}
	for key := range uint64(20000) {
		id, _ := table.Find(l, key)
		checkFind(t, l, key, l[reduced64(mix.One(key), lastPrime)])
		had[id]++
	}
	for _, id := range ids {
		if n := had[id]; n < 1850 || n > 2150 {
			t.Errorf("id %d has %d of 20000 keys, want about 2000", id, n)
		}
	}
}

// Promise AA2: arguments stay as they are, with what lies behind them, which
// does not matter.
func TestArgumentsStay(t *testing.T) {
	for _, ids := range lists() {
		for _, last := range []int{-1, ids[0], api.MaxTime + 1} {
			whole := append(slices.Clone(ids), last, last, last)
			checkWrong(t, whole[:len(ids)], 17, api.OK)
			checkMake(t, whole[:len(ids)], 17, slowMake(ids, 17))
			for key := range uint64(10) {
				checkFind(t, whole[:len(ids)], key, ids[reduced(mix.One(key), len(ids))])
			}
			if !slices.Equal(whole, append(slices.Clone(ids), last, last, last)) {
				t.Errorf("the ids %v became %v", ids, whole)
			}
		}
	}
}

// Promises AA1 and AA2: results are new, and calls give the same ones again.
func TestResultsAreNew(t *testing.T) {
	for _, ids := range lists() {
		mine := slices.Clone(ids)
		first, _ := table.Make(mine, 31)
		second, _ := table.Make(mine, 31)
		clear(first[:cap(first)])
		if !slices.Equal(mine, ids) || !slices.Equal(second, slowMake(ids, 31)) {
			t.Errorf("Make of %v has results that share memory", ids)
		}
		clear(mine)
		if !slices.Equal(second, slowMake(ids, 31)) {
			t.Errorf("Make of %v changed with the ids", ids)
		}
		checkMake(t, ids, 31, slowMake(ids, 31))
	}
	for id := range 100 {
		first, _ := table.Likes(id, 31)
		second, _ := table.Likes(id, 31)
		clear(first[:cap(first)])
		if !slices.Equal(second, slowLikes(id, 31)) {
			t.Errorf("Likes(%d, 31) has results that share memory", id)
		}
		checkLikes(t, id, 31, slowLikes(id, 31))
		checkNone(t, []int{id}, 30, api.ErrForm)
		checkLikes(t, id, 31, slowLikes(id, 31))
	}
}
