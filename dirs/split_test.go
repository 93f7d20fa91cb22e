package dirs_test

import (
	"math"
	"slices"
	"sync"
	"testing"

	"strawloft/api"
	"strawloft/dirs"
)

// slowSplit is fragments after fragment k was split, by the chapter's words.
func slowSplit(l []api.Frag, k int) []api.Frag {
	var after []api.Frag
	for i, f := range l {
		if i != k {
			after = append(after, f)
			continue
		}
		after = append(after, api.Frag{Bits: f.Bits + 1, Val: f.Val*2 + 0}, api.Frag{Bits: f.Bits + 1, Val: f.Val*2 + 1})
	}
	return after
}

// wholes is, for any two fragments that are the result of a split, what was split.
var wholes = sync.OnceValue(func() map[[2]api.Frag]api.Frag {
	all := map[[2]api.Frag]api.Frag{}
	for bits := range mostBits {
		for _, f := range uniform(bits) {
			all[[2]api.Frag(slowSplit([]api.Frag{f}, 0))] = f
		}
	}
	return all
})

// wantSplit is what Split is to return, one error of the chapter after the other.
func wantSplit(l []api.Frag, k int) ([]api.Frag, api.Errno) {
	if !slowRight(l) {
		return nil, api.ErrForm
	}
	if k < 0 || k > len(l)-1 {
		return nil, api.ErrNone
	}
	if l[k].Bits == 16 || len(l) == 400 {
		return nil, api.ErrFull
	}
	return slowSplit(l, k), api.OK
}

// wantJoin is what Join is to return, one error of the chapter after the other.
func wantJoin(l []api.Frag, k int) ([]api.Frag, api.Errno) {
	if !slowRight(l) {
		return nil, api.ErrForm
	}
	if k < 0 || k > len(l)-2 {
		return nil, api.ErrNone
	}
	whole, found := wholes()[[2]api.Frag{l[k], l[k+1]}]
	if !found {
		return nil, api.ErrHeld
	}
	var after []api.Frag
	after = append(after, l[:k]...)
	after = append(after, whole)
	return append(after, l[k+2:]...), api.OK
}

func checkSplit(t *testing.T, l []api.Frag, k int) ([]api.Frag, api.Errno) {
	t.Helper()
	want, wantErr := wantSplit(l, k)
	got, err := dirs.Split(l, k)
	if !slices.Equal(got, want) || err != wantErr {
		t.Fatalf("Split(%v, %d) is %v, %d; want %v, %d", l, k, got, err, want, wantErr)
	}
	return got, err
}

func checkJoin(t *testing.T, l []api.Frag, k int) ([]api.Frag, api.Errno) {
	t.Helper()
	want, wantErr := wantJoin(l, k)
	got, err := dirs.Join(l, k)
	if !slices.Equal(got, want) || err != wantErr {
		t.Fatalf("Join(%v, %d) is %v, %d; want %v, %d", l, k, got, err, want, wantErr)
	}
	return got, err
}

// change is a call of Split or Join, with its result.
type change struct {
	l    []api.Frag
	k    int
	want []api.Frag
	err  api.Errno
}

// checkChange checks a call written out, against a function and against what
// this is to return.
func checkChange(t *testing.T, name string, c change, do, slow func([]api.Frag, int) ([]api.Frag, api.Errno)) {
	t.Helper()
	if got, err := do(c.l, c.k); !slices.Equal(got, c.want) || err != c.err {
		t.Errorf("%s(%v, %d) is %v, %d; want %v, %d", name, c.l, c.k, got, err, c.want, c.err)
	}
	if got, err := slow(c.l, c.k); !slices.Equal(got, c.want) || err != c.err {
		t.Errorf("want%s(%v, %d) is %v, %d; want %v, %d", name, c.l, c.k, got, err, c.want, c.err)
	}
}

// Promise T2: splits written out.
func TestSplit(t *testing.T) {
	for _, c := range []change{
		{frags(0, 0), 0, frags(1, 0, 1, 1), api.OK},
		{frags(1, 0, 1, 1), 0, frags(2, 0, 2, 1, 1, 1), api.OK},
		{frags(1, 0, 1, 1), 1, frags(1, 0, 2, 2, 2, 3), api.OK},
		{frags(2, 0, 2, 1, 1, 1), 1, frags(2, 0, 3, 2, 3, 3, 1, 1), api.OK},
		{frags(0, 0), 1, nil, api.ErrNone},
		{frags(0, 0), -1, nil, api.ErrNone},
		{frags(1, 0, 1, 1), 2, nil, api.ErrNone},
		{frags(1, 0), 0, nil, api.ErrForm},
		{nil, 0, nil, api.ErrForm},
	} {
		checkChange(t, "Split", c, dirs.Split, wantSplit)
	}
}

// Promise T2: joins written out.
func TestJoin(t *testing.T) {
	for _, c := range []change{
		{frags(1, 0, 1, 1), 0, frags(0, 0), api.OK},
		{frags(2, 0, 2, 1, 1, 1), 0, frags(1, 0, 1, 1), api.OK},
		{frags(1, 0, 2, 2, 2, 3), 1, frags(1, 0, 1, 1), api.OK},
		{frags(2, 0, 3, 2, 3, 3, 1, 1), 1, frags(2, 0, 2, 1, 1, 1), api.OK},
		{frags(2, 0, 2, 1, 1, 1), 1, nil, api.ErrHeld},
		{frags(1, 0, 2, 2, 2, 3), 0, nil, api.ErrHeld},
		{frags(2, 0, 2, 1, 2, 2, 2, 3), 1, nil, api.ErrHeld},
		{frags(0, 0), 0, nil, api.ErrNone},
		{frags(1, 0, 1, 1), 1, nil, api.ErrNone},
		{frags(1, 0, 1, 1), -1, nil, api.ErrNone},
		{frags(1, 0, 1, 0), 0, nil, api.ErrForm},
		{nil, 0, nil, api.ErrForm},
	} {
		checkChange(t, "Join", c, dirs.Join, wantJoin)
	}
}

// Promise T2: each fragment of lists of all kinds, and those that do not exist.
func TestEachFragment(t *testing.T) {
	seen := map[api.Errno]int{}
	for _, l := range someLists() {
		for k := -2; k < len(l)+2; k++ {
			_, split := checkSplit(t, l, k)
			_, join := checkJoin(t, l, k)
			seen[split]++
			seen[join]++
		}
	}
	for _, err := range []api.Errno{api.OK, api.ErrNone, api.ErrFull, api.ErrHeld} {
		if seen[err] < 50 {
			t.Errorf("the lists show too little: error %d only %d times", err, seen[err])
		}
	}
}

// Promise T2: a fragment that does not exist, however far away. For the last one
// there is no next one to be joined with, nor is the first one joined with one
// before it.
func TestNoFragment(t *testing.T) {
	for _, l := range someLists() {
		for _, k := range append(sparse, len(l)-1, len(l), len(l)+1, math.MaxInt-len(l)) {
			_, err := checkSplit(t, l, k)
			if isNone := err == api.ErrNone; isNone != (k < 0 || k >= len(l)) {
				t.Errorf("Split(%v, %d): error %d", l, k, err)
			}
			_, err = checkJoin(t, l, k)
			if isNone := err == api.ErrNone; isNone != (k < 0 || k >= len(l)-1) {
				t.Errorf("Join(%v, %d): error %d", l, k, err)
			}
		}
	}
}

// Promise T2: that fragments are not valid is seen before all else.
func TestChangeErrors(t *testing.T) {
	for _, l := range wrongLists() {
		for _, k := range append(sparse, len(l)-2, len(l)-1, len(l)) {
			_, split := checkSplit(t, l, k)
			_, join := checkJoin(t, l, k)
			if split != api.ErrForm || join != api.ErrForm {
				t.Fatalf("%v, %d: errors %d of Split and %d of Join, want %d", l, k, split, join, api.ErrForm)
			}
		}
	}
}

// Promise T2: there are at most MaxOps fragments after a split. With as many no one
// is split, but those that do not exist still don't; two of them can be joined.
func TestFull(t *testing.T) {
	for seed := range 20 {
		l := grown(mostOps, seed)
		joined := 0
		for k := range l {
			if _, err := checkSplit(t, l, k); err != api.ErrFull {
				t.Fatalf("Split(%v, %d): error %d", l, k, err)
			}
			fewer, err := checkJoin(t, l, k)
			if err != api.OK {
				continue
			}
			joined++
			if again, err := checkSplit(t, fewer, k); err != api.OK || !slices.Equal(again, l) {
				t.Fatalf("Split(%v, %d) is %v, %d; want %v", fewer, k, again, err, l)
			}
		}
		if joined == 0 {
			t.Fatalf("no fragments of %v were joined", l)
		}
		for _, k := range []int{-1, mostOps, mostOps + 1} {
			if _, err := checkSplit(t, l, k); err != api.ErrNone {
				t.Fatalf("Split(%v, %d): error %d", l, k, err)
			}
		}
		if _, err := dirs.Split(grown(mostOps+1, seed), 0); err != api.ErrForm {
			t.Fatalf("Split of too many: error %d", err)
		}
	}
}

// Promise T2: a fragment has at most 16 bits: one of a single hash is not split,
// but joined with the one that it came from.
func TestDeepest(t *testing.T) {
	for _, atFront := range []bool{true, false} {
		for bits := range mostBits {
			l, k := chain(bits, atFront), bits
			if atFront {
				k = 0
			}
			deeper, err := checkSplit(t, l, k)
			if err != api.OK || !slices.Equal(deeper, chain(bits+1, atFront)) {
				t.Fatalf("Split(%v, %d) is %v, %d", l, k, deeper, err)
			}
			if back, err := checkJoin(t, deeper, k); err != api.OK || !slices.Equal(back, l) {
				t.Fatalf("Join(%v, %d) is %v, %d; want %v", deeper, k, back, err, l)
			}
		}
		l := chain(mostBits, atFront)
		for k, f := range l {
			if _, err := checkSplit(t, l, k); (err == api.ErrFull) != (f.Bits == mostBits) {
				t.Fatalf("Split(%v, %d): error %d", l, k, err)
			}
		}
	}
}

// Promise T2: whatever was split can be joined again, and is split again into the
// same; both are valid.
func TestBackAndForth(t *testing.T) {
	for seed := range 60 {
		l := grown(draw(seed, 0, mostOps-1)+1, seed+100)
		for k := range l {
			split, err := checkSplit(t, l, k)
			if err == api.OK {
				checkRight(t, split, true)
				if back, err := checkJoin(t, split, k); err != api.OK || !slices.Equal(back, l) {
					t.Fatalf("Join(%v, %d) is %v, %d; want %v", split, k, back, err, l)
				}
			}
			joined, err := checkJoin(t, l, k)
			if err == api.OK {
				checkRight(t, joined, true)
				if back, err := checkSplit(t, joined, k); err != api.OK || !slices.Equal(back, l) {
					t.Fatalf("Split(%v, %d) is %v, %d; want %v", joined, k, back, err, l)
				}
			}
		}
	}
}

// Promise T2: fragments can be joined only if they have as many bits and differ in
// the last one of them alone, not in others.
func TestNeighbours(t *testing.T) {
	for bits := 1; bits <= 8; bits++ {
		l := uniform(bits)
		for k := range len(l) - 1 {
			joined, err := checkJoin(t, l, k)
			if want := []api.Errno{api.OK, api.ErrHeld}[k%2]; err != want {
				t.Fatalf("Join(%v, %d) is %v, %d; want error %d", l, k, joined, err, want)
			}
			if err != api.OK {
				continue
			}
			for _, other := range []int{k - 1, k} {
				if _, err := checkJoin(t, joined, other); err == api.OK {
					t.Fatalf("Join(%v, %d): fragments of different sizes were joined", joined, other)
				}
			}
		}
	}
}

// Promise T2: long runs of splits and joins: the fragments are always valid, and
// all can be joined to the first one again.
func TestRuns(t *testing.T) {
	for seed := range 20 {
		l := frags(0, 0)
		for i := range 600 {
			do := checkSplit
			if draw(seed, i, 10) < 3 {
				do = checkJoin
			}
			if next, err := do(t, l, draw(seed, i+1000, len(l))); err == api.OK {
				l = next
			}
			checkRight(t, l, true)
		}
		for len(l) > 1 {
			k := 0
			for l[k].Bits != l[k+1].Bits || l[k].Val%2 == 1 {
				k++
			}
			l, _ = checkJoin(t, l, k)
		}
		if !slices.Equal(l, frags(0, 0)) {
			t.Fatalf("seed %d: joined to %v", seed, l)
		}
	}
}

// Promises T1 and T2: a split moves only the names of the fragment that was split;
// the additional bit of their hash tells which way.
func TestSplitMoves(t *testing.T) {
	for seed := range 40 {
		l, list := grown(draw(seed, 0, 60)+1, seed+500), someNames(400, seed)
		k := draw(seed, 1, len(l))
		split, err := checkSplit(t, l, k)
		if err != api.OK {
			continue
		}
		before, _ := dirs.Deal(l, list)
		after, _ := dirs.Deal(split, list)
		if !isSame(after[:k], before[:k]) || !isSame(after[k+2:], before[k+1:]) {
			t.Fatalf("Split(%v, %d) moves names of other fragments", l, k)
		}
		var parts [2][]string
		for _, name := range before[k] {
			bit := digits()[slowPlace(name)][l[k].Bits] - '0'
			parts[bit] = append(parts[bit], name)
		}
		if !isSame(after[k:k+2], parts[:]) {
			t.Fatalf("Split(%v, %d) deals %q as %q, want %q", l, k, before[k], after[k:k+2], parts)
		}
	}
}

// Promise AA2: the results are memory of their own.
func TestChangeMemory(t *testing.T) {
	for n := 2; n < 40; n++ {
		l := grown(n, n)
		for k := range l {
			given := slices.Clone(l)
			split, _ := dirs.Split(given, k)
			joined, _ := dirs.Join(given, k)
			wantSplit, _ := wantSplit(l, k)
			wantJoin, _ := wantJoin(l, k)
			clear(given)
			if !slices.Equal(split, wantSplit) || !slices.Equal(joined, wantJoin) {
				t.Fatalf("%v, %d: the results change with the fragments", l, k)
			}
			given = slices.Clone(l)
			split, _ = dirs.Split(given, k)
			joined, _ = dirs.Join(given, k)
			clear(split[:cap(split)])
			clear(joined[:cap(joined)])
			if !slices.Equal(given, l) {
				t.Fatalf("%v, %d: the fragments change with the results", l, k)
			}
		}
	}
}
