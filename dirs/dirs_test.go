package dirs_test

import (
	"fmt"
	"hash/fnv"
	"math"
	"slices"
	"strconv"
	"strings"
	"sync"
	"testing"

	"strawloft/api"
	"strawloft/dirs"
	"strawloft/mix"
)

// The limits as the document and the given package api have them.
const (
	mostOps    = 400
	mostBits   = 16
	manyHashes = 65536
)

// sparse is integers of any size, near the limits and far from them.
var sparse = []int{
	math.MinInt, math.MinInt + 1, -1 << 48, -1 << 40, -1 << 32, -1<<32 + 1, -65536, -257, -256, -64, -48, -17, -16, -2, -1,
	0, 1, 2, 3, 7, 8, 15, 16, 17, 18, 31, 32, 48, 63, 64, 65, 80, 127, 128, 255, 256, 257, 399, 400, 401,
	65535, 65536, 65537, 1 << 31, 1 << 32, 1<<32 + 1, 1<<32 + 16, 1 << 40, 1 << 47, 1 << 48, 1<<48 + 1, 1 << 62, math.MaxInt - 1, math.MaxInt,
}

// frags is fragments, each of two numbers: Bits, Val.
func frags(numbers ...int) []api.Frag {
	var l []api.Frag
	for two := range slices.Chunk(numbers, 2) {
		l = append(l, api.Frag{Bits: two[0], Val: two[1]})
	}
	return l
}

// uniform is all fragments with as many bits.
func uniform(bits int) []api.Frag {
	var l []api.Frag
	for val := range 1 << bits {
		l = append(l, api.Frag{Bits: bits, Val: val})
	}
	return l
}

// chain is the fragments that come of splitting again and again: the first one
// of two, or the last one, of as many bits in the end.
func chain(bits int, atFront bool) []api.Frag {
	l := frags(0, 0)
	for range bits {
		k := len(l) - 1
		if atFront {
			k = 0
		}
		l = slowSplit(l, k)
	}
	return l
}

// grown is n valid fragments of different sizes, other ones for each seed.
func grown(n, seed int) []api.Frag {
	l := frags(0, 0)
	for i := 0; len(l) < n; i++ {
		if k := draw(seed, i, len(l)); l[k].Bits < mostBits {
			l = slowSplit(l, k)
		}
	}
	return l
}

// draw is one of the numbers below n.
func draw(seed, i, n int) int {
	return int(mix.Two(uint64(seed), uint64(i)) % uint64(n))
}

// someLists is valid lists of fragments of all kinds.
func someLists() [][]api.Frag {
	var lists [][]api.Frag
	for bits := range 9 {
		lists = append(lists, uniform(bits))
	}
	for _, bits := range []int{2, 7, 15, 16} {
		lists = append(lists, chain(bits, true), chain(bits, false))
	}
	for seed, n := range []int{2, 3, 4, 5, 8, 13, 30, 77, 200, 398, 399, 400} {
		lists = append(lists, grown(n, seed))
	}
	return lists
}

// wrongLists is lists of all kinds that are not valid.
func wrongLists() [][]api.Frag {
	lists := [][]api.Frag{
		nil, {}, frags(1, 0), frags(1, 1), frags(1, 1, 1, 0), frags(0, 0, 0, 0), frags(0, 1), frags(0, -1),
		frags(1, 0, 1, 0), frags(1, 0, 1, 1, 1, 1), frags(1, 0, 2, 2), frags(2, 1, 2, 2, 2, 3), frags(1, 0, 2, 3, 2, 2),
		frags(-1, 0), frags(17, 0), uniform(9), uniform(16), grown(401, 7), grown(500, 8),
	}
	for _, l := range someLists()[1:] {
		lists = append(lists, l[1:], l[:len(l)-1], slices.Concat(l, l), slices.Concat(l, frags(0, 0)))
	}
	return lists
}

// digits is all hashes as 16 binary digits.
var digits = sync.OnceValue(func() []string {
	all := make([]string, manyHashes)
	for hash := range all {
		all[hash] = fmt.Sprintf("%016b", hash)
	}
	return all
})

// prefix is the digits with which all hashes of a fragment begin.
func prefix(f api.Frag) string {
	if f.Bits == 0 {
		return ""
	}
	return fmt.Sprintf("%0*b", f.Bits, f.Val)
}

// hashesOf is all hashes that a fragment contains, by the chapter's words: those
// whose digits begin with its own. They follow each other, as the digits are sorted.
// It keeps what it has found.
func hashesOf(f api.Frag) []int {
	if known, found := knownHashes[f]; found {
		return known
	}
	var hashes []int
	begin := prefix(f)
	hash, _ := slices.BinarySearch(digits(), begin)
	for hash < manyHashes && strings.HasPrefix(digits()[hash], begin) {
		hashes = append(hashes, hash)
		hash++
	}
	knownHashes[f] = hashes
	return hashes
}

var knownHashes = map[api.Frag][]int{}

// slowRight is whether fragments are valid, by the chapter's words.
func slowRight(l []api.Frag) bool {
	if len(l) > 400 {
		return false
	}
	for _, f := range l {
		if f.Bits < 0 || f.Bits > 16 || f.Val < 0 || float64(f.Val) > math.Pow(2, float64(f.Bits))-1 {
			return false
		}
	}
	next := 0
	for _, f := range l {
		for _, hash := range hashesOf(f) {
			if hash != next {
				return false
			}
			next++
		}
	}
	return next == manyHashes
}

// owners is, for each hash, the index of the valid fragment that contains it.
func owners(l []api.Frag) []int {
	all := make([]int, manyHashes)
	for k, f := range l {
		for _, hash := range hashesOf(f) {
			all[hash] = k
		}
	}
	return all
}

// slowPlace is the hash of a name, by chapters 1 and 20.
func slowPlace(name string) int {
	h := fnv.New64a()
	h.Write([]byte(name))
	x := h.Sum64()
	x = (x ^ x>>33) * 0xff51afd7ed558ccd
	x = (x ^ x>>33) * 0xc4ceb9fe1a85ec53
	return int((x ^ x>>33) / (1 << 48))
}

// names is a name for each hash.
var names = sync.OnceValue(func() []string {
	all := make([]string, manyHashes)
	for i, left := 0, manyHashes; left > 0; i++ {
		name := "n" + strconv.Itoa(i)
		if hash := slowPlace(name); all[hash] == "" {
			all[hash] = name
			left--
		}
	}
	return all
})

// edges is hashes at the edges of fragments and in the midst of them.
func edges(l []api.Frag) []int {
	var all []int
	for _, f := range l {
		hashes := hashesOf(f)
		all = append(all, hashes[0], hashes[len(hashes)/2], hashes[len(hashes)-1])
	}
	return all
}

func checkRight(t *testing.T, l []api.Frag, want bool) {
	t.Helper()
	if slow := slowRight(l); slow != want {
		t.Fatalf("slowRight(%v) is %v, want %v", l, slow, want)
	}
	if got := dirs.Right(l); got != want {
		t.Fatalf("Right(%v) is %v, want %v", l, got, want)
	}
}

// Promise T1: hashes of names, computed apart from this program.
func TestPlace(t *testing.T) {
	for name, want := range map[string]int{
		"": 61392, "a": 33442, "b": 28263, "x": 1700, "ab": 55921, "ba": 1657, "\x00": 47363, "\x00\x00": 56065,
		"\xff": 7101, "\xff\xfe": 30153, "\xc3\xa9": 40277, "a name": 44685, strings.Repeat("x", 1000): 10178,
	} {
		if got := dirs.Place(name); got != want {
			t.Errorf("Place(%q) is %d, want %d", name, got, want)
		}
		if got := slowPlace(name); got != want {
			t.Errorf("slowPlace(%q) is %d, want %d", name, got, want)
		}
	}
}

// Promise T1: each hash from 0 to 2^16 - 1 is that of a name.
func TestPlaceEachHash(t *testing.T) {
	for hash, name := range names() {
		if got := dirs.Place(name); got != hash {
			t.Fatalf("Place(%q) is %d, want %d", name, got, hash)
		}
	}
}

// Promise T1: all bytes of a name count, whatever they are.
func TestPlaceBytes(t *testing.T) {
	for a := range 256 {
		for b := range 256 {
			name := string([]byte{byte(a), byte(b)})
			if got, want := dirs.Place(name), slowPlace(name); got != want {
				t.Fatalf("Place(%q) is %d, want %d", name, got, want)
			}
		}
	}
	for _, n := range []int{3, 4, 7, 8, 9, 255, 256, 257, 65535, 65536, 1 << 20} {
		for _, text := range []string{"\x00", "a", "\xff", "é"} {
			name := strings.Repeat(text, n)
			if got, want := dirs.Place(name), slowPlace(name); got != want {
				t.Errorf("Place(%d times %q) is %d, want %d", n, text, got, want)
			}
		}
	}
}

// Promise T1: lists of fragments that are valid.
func TestRight(t *testing.T) {
	for _, l := range [][]api.Frag{
		frags(0, 0), frags(1, 0, 1, 1), frags(2, 0, 2, 1, 1, 1), frags(1, 0, 2, 2, 2, 3), frags(2, 0, 2, 1, 2, 2, 2, 3),
		frags(2, 0, 3, 2, 3, 3, 1, 1), frags(1, 0, 3, 4, 3, 5, 2, 3),
	} {
		checkRight(t, l, true)
	}
	for _, l := range someLists() {
		checkRight(t, l, true)
	}
}

// Promise T1: lists of fragments that are not valid.
func TestRightWrong(t *testing.T) {
	for _, l := range wrongLists() {
		checkRight(t, l, false)
	}
}

// Promise T1: all short lists of fragments that are large, or have numbers near the
// limits.
func TestRightShortLists(t *testing.T) {
	var from []api.Frag
	for bits := -1; bits <= 3; bits++ {
		for val := -1; val <= 1<<max(bits, 0); val++ {
			from = append(from, api.Frag{Bits: bits, Val: val})
		}
	}
	right := 0
	for n := range 5 {
		eachList(n, from, func(l []api.Frag) {
			want := slowRight(l)
			if want {
				right++
			}
			if got := dirs.Right(l); got != want {
				t.Fatalf("Right(%v) is %v, want %v", l, got, want)
			}
		})
	}
	// Of up to four fragments: 1, 1, 2 and 5 trees of halves, of which none is too deep.
	if right != 9 {
		t.Errorf("%d lists are valid, want 9", right)
	}
}

// eachList calls a function with each list of n of the given fragments. The list is
// the same memory each time.
func eachList(n int, from []api.Frag, use func([]api.Frag)) {
	l := make([]api.Frag, n)
	var fill func(i int)
	fill = func(i int) {
		if i == n {
			use(l)
			return
		}
		for _, f := range from {
			l[i] = f
			fill(i + 1)
		}
	}
	fill(0)
}

// Promise T1: there are at most MaxOps fragments.
func TestRightLengths(t *testing.T) {
	for n := 1; n <= 410; n++ {
		checkRight(t, grown(n, n), n <= mostOps)
	}
	for bits := range mostBits + 1 {
		checkRight(t, uniform(bits), bits <= 8)
	}
}

// Promise T1: Bits is 0 to 16 and Val 0 to 2^Bits - 1. Numbers that a shift or a
// narrower type makes valid ones are not valid.
func TestRightNumbers(t *testing.T) {
	for _, bits := range sparse {
		for _, val := range sparse {
			checkRight(t, frags(bits, val), bits == 0 && val == 0)
			checkRight(t, frags(1, 0, bits, val), bits == 1 && val == 1)
			checkRight(t, frags(bits, val, 1, 1), bits == 1 && val == 0)
		}
	}
	for _, l := range [][]api.Frag{uniform(0), uniform(1), uniform(3), chain(16, true), chain(16, false), grown(20, 5)} {
		for k, f := range l {
			for _, more := range sparse {
				checkRight(t, slices.Replace(slices.Clone(l), k, k+1, api.Frag{Bits: f.Bits + more, Val: f.Val}), more == 0)
				checkRight(t, slices.Replace(slices.Clone(l), k, k+1, api.Frag{Bits: f.Bits, Val: f.Val + more}), more == 0)
			}
			if f.Bits < 16 {
				// With it the first hash of the fragment is the same modulo 2^64.
				wrapped := api.Frag{Bits: f.Bits, Val: f.Val + 1<<(48+f.Bits)}
				checkRight(t, slices.Replace(slices.Clone(l), k, k+1, wrapped), false)
			}
		}
	}
}

// Promise T1: a valid list is not valid with a fragment less, or more, or with one
// at another place, or with a part of one.
func TestRightChanged(t *testing.T) {
	for _, l := range [][]api.Frag{uniform(0), uniform(1), uniform(4), chain(16, true), chain(16, false), grown(40, 1), grown(90, 2)} {
		for k, f := range l {
			checkRight(t, slices.Delete(slices.Clone(l), k, k+1), false)
			checkRight(t, slices.Insert(slices.Clone(l), k, f), false)
			for _, other := range []int{0, k / 2, len(l) - 1} {
				swapped := slices.Clone(l)
				swapped[k], swapped[other] = l[other], f
				checkRight(t, swapped, k == other)
			}
			if f.Bits < mostBits {
				checkRight(t, slowSplit(l, k), true)
				low, high := api.Frag{Bits: f.Bits + 1, Val: 2 * f.Val}, api.Frag{Bits: f.Bits + 1, Val: 2*f.Val + 1}
				for _, part := range [][]api.Frag{{low}, {high}, {high, low}, {low, low}, {low, f}, {f, high}} {
					checkRight(t, slices.Replace(slices.Clone(l), k, k+1, part...), false)
				}
			}
		}
	}
}

// Promise T1: lists of any fragments of which a part fits together.
func TestRightLongLists(t *testing.T) {
	right := 0
	for seed := range 2000 {
		l := grown(draw(seed, -1, 40)+1, seed)
		for i := range draw(seed, -2, 3) {
			k := draw(seed, -10-i, len(l))
			l[k] = grown(len(l), seed+draw(seed, -20-i, 2))[k]
		}
		want := slowRight(l)
		if want {
			right++
		}
		checkRight(t, l, want)
	}
	if right < 500 || right > 1800 {
		t.Errorf("the lists show too little: %d of 2000 are valid", right)
	}
}
