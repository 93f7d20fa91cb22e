package vector_test

import (
	"math"
	"slices"
	"testing"

	"strawloft/api"
	"strawloft/mix"
	"strawloft/vector"
)

// The limits as the given package api has them.
const (
	most   = 16
	latest = 1 << 40
)

// outside is numbers that no counter may be, near the limits and far from them.
var outside = []int{-1, -2, -1 << 40, math.MinInt, latest + 1, latest + 2, 1 << 41, 1 << 62, math.MaxInt}

// smallVectors is all vectors of n elements with the given values.
func smallVectors(n int, values ...int) [][]int {
	list := [][]int{nil}
	for range n {
		var longer [][]int
		for _, v := range list {
			for _, value := range values {
				longer = append(longer, append(slices.Clone(v), value))
			}
		}
		list = longer
	}
	return list
}

// someVector is n elements from 0 to limit that are alike in nothing.
func someVector(n, limit, seed int) []int {
	var v []int
	for i := range n {
		v = append(v, int(mix.Two(uint64(seed), uint64(i))%uint64(limit+1)))
	}
	return v
}

// changed is a vector with another element at an index.
func changed(v []int, at, value int) []int {
	other := slices.Clone(v)
	other[at] = value
	return other
}

// slowWrong is the first error of some vectors, by the chapter: it looks for the
// first vector that has each one of the errors, and then for the earlier one.
func slowWrong(l ...[]int) api.Errno {
	form := slices.IndexFunc(l, func(v []int) bool { return len(v) > 16 || len(v) != len(l[0]) })
	numbers := slices.IndexFunc(l, func(v []int) bool {
		return len(v) > 0 && (slices.Min(v) < 0 || slices.Max(v) > 1<<40)
	})
	switch {
	case form < 0 && numbers < 0:
		return api.OK
	case form < 0 || numbers >= 0 && numbers < form:
		return api.ErrRange
	}
	return api.ErrForm
}

// slowCompare is how two vectors stand to each other, by the chapter.
func slowCompare(a, b []int) int {
	if slices.Equal(a, b) {
		return api.Same
	}
	greater, less := 0, 0
	for i := range a {
		if a[i] > b[i] {
			greater++
		}
		if a[i] < b[i] {
			less++
		}
	}
	if greater == 0 {
		return api.Less
	}
	if less == 0 {
		return api.More
	}
	return api.Apart
}

// slowJoin is the elementwise maximum of two vectors.
func slowJoin(a, b []int) []int {
	both := slices.Clone(a)
	for i, value := range b {
		if value > both[i] {
			both[i] = value
		}
	}
	return both
}

func checkWrong(t *testing.T, want api.Errno, l ...[]int) {
	t.Helper()
	if got := vector.Wrong(l...); got != want {
		t.Errorf("Wrong(%v) is %d, want %d", l, got, want)
	}
}

func checkCompare(t *testing.T, a, b []int, want int) {
	t.Helper()
	if got, err := vector.Compare(a, b); got != want || err != api.OK {
		t.Errorf("Compare(%v, %v) is %d, %d, want %d, OK", a, b, got, err, want)
	}
}

func checkJoin(t *testing.T, a, b, want []int) {
	t.Helper()
	if got, err := vector.Join(a, b); !slices.Equal(got, want) || err != api.OK {
		t.Errorf("Join(%v, %v) is %v, %d, want %v, OK", a, b, got, err, want)
	}
}

// checkBoth checks two valid vectors against the chapter.
func checkBoth(t *testing.T, a, b []int) {
	t.Helper()
	checkWrong(t, api.OK, a, b)
	checkCompare(t, a, b, slowCompare(a, b))
	checkJoin(t, a, b, slowJoin(a, b))
}

// checkNeither checks that two vectors, of which one is not valid, are neither
// compared nor joined.
func checkNeither(t *testing.T, a, b []int, want api.Errno) {
	t.Helper()
	checkWrong(t, want, a, b)
	if got, err := vector.Compare(a, b); got != 0 || err != want {
		t.Errorf("Compare(%v, %v) is %d, %d, want 0, %d", a, b, got, err, want)
	}
	if got, err := vector.Join(a, b); len(got) > 0 || err != want {
		t.Errorf("Join(%v, %v) is %v, %d, want none, %d", a, b, got, err, want)
	}
}

// checkPair checks two vectors, valid or not, against the chapter.
func checkPair(t *testing.T, a, b []int) {
	t.Helper()
	if err := slowWrong(a, b); err != api.OK {
		checkNeither(t, a, b, err)
	} else {
		checkBoth(t, a, b)
	}
}

func checkTick(t *testing.T, a []int, who int, want []int, wantErr api.Errno) {
	t.Helper()
	if got, err := vector.Tick(a, who); !slices.Equal(got, want) || err != wantErr {
		t.Errorf("Tick(%v, %d) is %v, %d, want %v, %d", a, who, got, err, want, wantErr)
	}
}

// Promise P1: what is wrong with vectors written out.
func TestWrong(t *testing.T) {
	checkWrong(t, api.OK)
	for _, c := range []struct {
		l    [][]int
		want api.Errno
	}{
		{nil, api.OK},
		{[][]int{nil}, api.OK},
		{[][]int{{}, nil, {}}, api.OK},
		{[][]int{{0}}, api.OK},
		{[][]int{{latest}}, api.OK},
		{[][]int{{1, 2}, {2, 1}, {0, latest}}, api.OK},
		{[][]int{{1}, nil}, api.ErrForm},
		{[][]int{nil, {1}}, api.ErrForm},
		{[][]int{{1}, {1, 2}}, api.ErrForm},
		{[][]int{{1, 2}, {1}}, api.ErrForm},
		{[][]int{{1, 2}, {1, 2}, {1, 2, 3}}, api.ErrForm},
		{[][]int{{1, 2}, {1}, {1, 2}}, api.ErrForm},
		{[][]int{{-1}}, api.ErrRange},
		{[][]int{{latest + 1}}, api.ErrRange},
		{[][]int{{1, 2}, {-1, 2}}, api.ErrRange},
		// The vectors come one after the other, and the form of each one first.
		{[][]int{{-1}, {1, 2}}, api.ErrRange},
		{[][]int{{-1}, nil}, api.ErrRange},
		{[][]int{{1}, {1, -2}}, api.ErrForm},
		{[][]int{{1}, {1, 2}, {-1}}, api.ErrForm},
		{[][]int{{1}, {-1}, {1, 2}}, api.ErrRange},
		{[][]int{{1}, {2}, {3}, {-1, 2}}, api.ErrForm},
		{[][]int{make([]int, 17)}, api.ErrForm},
		{[][]int{slices.Repeat([]int{-1}, 17)}, api.ErrForm},
		{[][]int{slices.Repeat([]int{-1}, 17), {1}}, api.ErrForm},
		{[][]int{{-1}, make([]int, 17)}, api.ErrRange},
		{[][]int{{1}, make([]int, 17), {-1}}, api.ErrForm},
	} {
		checkWrong(t, c.want, c.l...)
		if got := slowWrong(c.l...); got != c.want {
			t.Errorf("slowWrong(%v) is %d, want %d", c.l, got, c.want)
		}
	}
}

// Promise P1: as many elements as MaxNode, and no more, in every vector that
// there is, alone and with others of its length.
func TestLengths(t *testing.T) {
	for n := range 100 {
		want := api.OK
		if n > most {
			want = api.ErrForm
		}
		v := someVector(n, latest, n)
		checkWrong(t, want, v)
		checkWrong(t, want, v, v, v)
		checkPair(t, v, someVector(n, latest, -n))
		for other := range 40 {
			checkPair(t, v, someVector(other, latest, n))
		}
	}
	checkNeither(t, make([]int, 1<<16), make([]int, 1<<16), api.ErrForm)
	checkNeither(t, make([]int, 1<<16+1), []int{1}, api.ErrForm)
	checkNeither(t, []int{1}, make([]int, 1<<16+1), api.ErrForm)
}

// Promise P1: each element of each vector may be the only one outside of its
// range, and the limits themselves are inside.
func TestEachElement(t *testing.T) {
	for n := 1; n <= most; n++ {
		v := someVector(n, latest, n)
		for i := range n {
			for _, value := range []int{0, 1, 1 << 31, 1 << 32, 1<<32 + 1, latest - 1, latest} {
				checkBoth(t, v, changed(v, i, value))
				checkBoth(t, changed(v, i, value), v)
			}
			for _, value := range outside {
				wrong := changed(v, i, value)
				checkNeither(t, v, wrong, api.ErrRange)
				checkNeither(t, wrong, v, api.ErrRange)
				checkNeither(t, wrong, wrong, api.ErrRange)
				checkNeither(t, wrong, append(v, 1), api.ErrRange)
				checkNeither(t, v, append(wrong, 1), api.ErrForm)
				checkNeither(t, append(v, 1), wrong, api.ErrForm)
			}
		}
	}
}

// Promise P1: any one of many vectors may be the first one that is not valid,
// whatever comes behind it.
func TestEachVector(t *testing.T) {
	right := someVector(5, latest, 1)
	wrong := [][]int{changed(right, 4, -1), changed(right, 0, latest+1), right[:4], append(slices.Clone(right), 1), nil, make([]int, 17), slices.Repeat([]int{-1}, 6)}
	for _, many := range []int{2, 3, 20, 400, 401, 1000} {
		for _, at := range []int{1, many / 2, many - 1} {
			for i, v := range wrong {
				want := api.ErrForm
				if i < 2 {
					want = api.ErrRange
				}
				l := slices.Repeat([][]int{right}, many)
				checkWrong(t, api.OK, l...)
				l[at] = v
				checkWrong(t, want, l...)
				for _, later := range wrong {
					checkWrong(t, want, append(l, later)...)
				}
			}
		}
	}
}

// Promise P1: all lists of three short vectors, by the definition.
func TestWrongByDefinition(t *testing.T) {
	list := [][]int{nil, {0}, {latest}, {-1}, {latest + 1}, {0, 1}, {0, -1}, {latest + 1, 0}, make([]int, 16), make([]int, 17), changed(make([]int, 17), 16, -1), changed(make([]int, 16), 15, -1)}
	for _, a := range list {
		for _, b := range list {
			checkPair(t, a, b)
			for _, c := range list {
				checkWrong(t, slowWrong(a, b, c), a, b, c)
			}
		}
	}
}

// Promise P1: vectors written out, compared and joined.
func TestCompare(t *testing.T) {
	for _, c := range []struct {
		a, b, join []int
		want, back int
	}{
		{[]int{1, 2}, []int{2, 1}, []int{2, 2}, api.Apart, api.Apart},
		{[]int{1}, []int{1}, []int{1}, api.Same, api.Same},
		{[]int{1, 2}, []int{1, 3}, []int{1, 3}, api.Less, api.More},
		{nil, nil, nil, api.Same, api.Same},
		{nil, []int{}, nil, api.Same, api.Same},
		{[]int{0}, []int{0}, []int{0}, api.Same, api.Same},
		{[]int{0}, []int{latest}, []int{latest}, api.Less, api.More},
		{[]int{latest - 1, latest}, []int{latest, latest - 1}, []int{latest, latest}, api.Apart, api.Apart},
		{[]int{1, 2, 3}, []int{2, 3, 4}, []int{2, 3, 4}, api.Less, api.More},
		{[]int{1, 2, 3}, []int{1, 2, 4}, []int{1, 2, 4}, api.Less, api.More},
		{[]int{0, 2, 3}, []int{1, 2, 3}, []int{1, 2, 3}, api.Less, api.More},
		{[]int{0, 9, 9}, []int{1, 8, 9}, []int{1, 9, 9}, api.Apart, api.Apart},
		{[]int{9, 9, 0}, []int{9, 8, 1}, []int{9, 9, 1}, api.Apart, api.Apart},
		{[]int{5, 0, 0}, []int{0, 0, 1}, []int{5, 0, 1}, api.Apart, api.Apart},
		{[]int{1 << 32, 1}, []int{1, 1 << 32}, []int{1 << 32, 1 << 32}, api.Apart, api.Apart},
		{[]int{1 << 33, 5}, []int{1 << 32, 5}, []int{1 << 33, 5}, api.More, api.Less},
	} {
		checkCompare(t, c.a, c.b, c.want)
		checkCompare(t, c.b, c.a, c.back)
		checkJoin(t, c.a, c.b, c.join)
		checkJoin(t, c.b, c.a, c.join)
	}
}

// Promise P1: all pairs of small vectors, and pairs of vectors of every length,
// which may differ anywhere, by the definition.
func TestCompareByDefinition(t *testing.T) {
	for n := range 5 {
		for _, a := range smallVectors(n, 0, 1, latest) {
			for _, b := range smallVectors(n, 0, 1, latest) {
				checkBoth(t, a, b)
			}
		}
	}
	for n := range most + 1 {
		for seed := range 50 {
			a, b := someVector(n, latest, 2*seed), someVector(n, latest, 2*seed+1)
			join := slowJoin(a, b)
			checkBoth(t, a, b)
			checkBoth(t, a, join)
			checkBoth(t, join, b)
			checkBoth(t, a, a)
		}
		for i := range n {
			v := slices.Repeat([]int{1}, n)
			checkCompare(t, v, changed(v, i, 2), api.Less)
			checkCompare(t, v, changed(v, i, 0), api.More)
			for k := range n {
				if k != i {
					checkCompare(t, changed(v, k, 0), changed(v, i, 0), api.Apart)
					checkCompare(t, changed(v, k, 0), changed(v, i, 2), api.Less)
					checkJoin(t, changed(v, k, 2), changed(v, i, 0), changed(v, k, 2))
				}
			}
		}
	}
}

// Promise P1: the vectors are a lattice: joining is idempotent, commutative and
// associative, and the join is the least vector that is behind neither.
func TestLattice(t *testing.T) {
	list := smallVectors(3, 0, 1, 2)
	for _, a := range list {
		checkJoin(t, a, a, a)
		for _, b := range list {
			join, _ := vector.Join(a, b)
			checkJoin(t, b, a, join)
			checkJoin(t, a, join, join)
			for _, c := range list {
				right, _ := vector.Join(b, c)
				all, _ := vector.Join(join, c)
				checkJoin(t, a, right, all)
				if isUpTo(a, c) && isUpTo(b, c) && !isUpTo(join, c) {
					t.Errorf("the join of %v and %v is %v, and not up to %v", a, b, join, c)
				}
			}
			if !isUpTo(a, join) || !isUpTo(b, join) {
				t.Errorf("the join of %v and %v is %v, and they are not up to it", a, b, join)
			}
			if how, _ := vector.Compare(a, b); (how == api.Less || how == api.Same) != isUpTo(a, b) {
				t.Errorf("Compare(%v, %v) is %d", a, b, how)
			}
		}
	}
}

// isUpTo reports whether a vector is Less than another one, or the Same, by what
// the join of both is.
func isUpTo(a, b []int) bool {
	join, err := vector.Join(a, b)
	return slices.Equal(join, b) && err == api.OK
}

// Promise P1: elements that are increased, written out.
func TestTick(t *testing.T) {
	for _, c := range []struct {
		a       []int
		who     int
		want    []int
		wantErr api.Errno
	}{
		{[]int{1, 2}, 0, []int{2, 2}, api.OK},
		{[]int{1, 2}, 1, []int{1, 3}, api.OK},
		{[]int{0}, 0, []int{1}, api.OK},
		{[]int{latest - 1}, 0, []int{latest}, api.OK},
		{[]int{latest, 5}, 1, []int{latest, 6}, api.OK},
		{[]int{latest, 5}, 0, nil, api.ErrFull},
		{[]int{latest}, 0, nil, api.ErrFull},
		{[]int{latest}, 1, nil, api.ErrNone},
		{[]int{latest}, -1, nil, api.ErrNone},
		{[]int{1, 2}, 2, nil, api.ErrNone},
		{[]int{1, 2}, -1, nil, api.ErrNone},
		{[]int{1, 2}, math.MaxInt, nil, api.ErrNone},
		{[]int{1, 2}, math.MinInt, nil, api.ErrNone},
		{[]int{1, 2}, 1 << 32, nil, api.ErrNone},
		{[]int{1, 2}, 1 << 8, nil, api.ErrNone},
		{nil, 0, nil, api.ErrNone},
		{[]int{}, 0, nil, api.ErrNone},
		{nil, -1, nil, api.ErrNone},
		{[]int{-1}, 0, nil, api.ErrRange},
		{[]int{latest + 1}, 0, nil, api.ErrRange},
		{[]int{latest + 1}, 1, nil, api.ErrRange},
		{[]int{latest, -1}, 0, nil, api.ErrRange},
		{[]int{1, -1}, 2, nil, api.ErrRange},
		{make([]int, 17), 0, nil, api.ErrForm},
		{make([]int, 17), 16, nil, api.ErrForm},
		{make([]int, 17), 17, nil, api.ErrForm},
		{slices.Repeat([]int{-1}, 17), -1, nil, api.ErrForm},
	} {
		checkTick(t, c.a, c.who, c.want, c.wantErr)
	}
}

// Promise P1: each element of vectors of all lengths, and each index around
// them, with the errors in their order.
func TestTickEachElement(t *testing.T) {
	for n := range 40 {
		for _, v := range [][]int{make([]int, n), someVector(n, latest-1, n), slices.Repeat([]int{latest - 1}, n), slices.Repeat([]int{latest}, n)} {
			for who := -20; who < 60; who++ {
				switch {
				case n > most:
					checkTick(t, v, who, nil, api.ErrForm)
				case who < 0 || who >= n:
					checkTick(t, v, who, nil, api.ErrNone)
				case v[who] == latest:
					checkTick(t, v, who, nil, api.ErrFull)
				default:
					checkTick(t, v, who, changed(v, who, v[who]+1), api.OK)
				}
			}
		}
	}
	for n := 1; n <= most; n++ {
		for i := range n {
			full := changed(make([]int, n), i, latest)
			for who := range n {
				if who == i {
					checkTick(t, full, who, nil, api.ErrFull)
				} else {
					checkTick(t, full, who, changed(full, who, 1), api.OK)
				}
				for _, value := range outside {
					checkTick(t, changed(full, i, value), who, nil, api.ErrRange)
					checkTick(t, changed(full, i, value), n+who, nil, api.ErrRange)
				}
			}
		}
	}
}

// Promise P1: a node that counts is ahead of what it was, and two nodes that
// count are apart until their vectors are joined.
func TestTickCompare(t *testing.T) {
	for n := 2; n <= most; n++ {
		v := someVector(n, latest-1, n)
		for who := range n {
			a, _ := vector.Tick(v, who)
			b, _ := vector.Tick(v, (who+1)%n)
			both, _ := vector.Tick(a, (who+1)%n)
			checkCompare(t, v, a, api.Less)
			checkCompare(t, a, b, api.Apart)
			checkCompare(t, both, b, api.More)
			checkJoin(t, a, b, both)
		}
	}
}

// Promises P1 and AA2: vectors stay as they are, with what lies behind their
// elements, which does not matter, and results are new.
func TestMemory(t *testing.T) {
	for n := range most + 1 {
		for _, rest := range [][]int{{0, 0, 0}, {-1, -1, latest + 1}, {math.MaxInt, math.MinInt, 7}} {
			a, b := someVector(n, latest-1, n), someVector(n, latest-1, -n)
			longA, longB := slices.Concat(a, rest), slices.Concat(b, rest)
			checkBoth(t, longA[:n], longB[:n])
			checkBoth(t, longA[:n], longA[:n])
			checkOwn(t, slowJoin(a, b), func() ([]int, api.Errno) { return vector.Join(longA[:n], longB[:n]) })
			checkOwn(t, a, func() ([]int, api.Errno) { return vector.Join(longA[:n], make([]int, n)) })
			checkOwn(t, a, func() ([]int, api.Errno) { return vector.Join(make([]int, n), longA[:n]) })
			checkOwn(t, a, func() ([]int, api.Errno) { return vector.Join(longA[:n], longA[:n]) })
			if n > 0 {
				checkOwn(t, changed(a, n-1, a[n-1]+1), func() ([]int, api.Errno) { return vector.Tick(longA[:n], n-1) })
			}
			if !slices.Equal(longA, slices.Concat(a, rest)) || !slices.Equal(longB, slices.Concat(b, rest)) {
				t.Errorf("arguments were changed: %v, %v", longA, longB)
			}
		}
	}
}

// checkOwn checks that a call returns a vector, and again if what it returned
// before was overwritten with its spare capacity.
func checkOwn(t *testing.T, want []int, call func() ([]int, api.Errno)) {
	t.Helper()
	first, _ := call()
	for i := range first[:cap(first)] {
		first[:cap(first)][i] = -7
	}
	if second, err := call(); !slices.Equal(second, want) || err != api.OK {
		t.Errorf("got %v, %d after the result before was overwritten, want %v, OK", second, err, want)
	}
}
