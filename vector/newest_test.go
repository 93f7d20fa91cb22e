package vector_test

import (
	"math"
	"slices"
	"testing"

	"strawloft/api"
	"strawloft/mix"
	"strawloft/vector"
)

// slowNewest is the vectors that are not Less than another one, of equal ones
// the first one, by the chapter: first without the others, then without the
// repetitions.
func slowNewest(l [][]int) [][]int {
	var found [][]int
	for _, v := range l {
		isOld := slices.ContainsFunc(l, func(other []int) bool { return slowCompare(v, other) == api.Less })
		isThere := slices.ContainsFunc(found, func(other []int) bool { return slices.Equal(v, other) })
		if !isOld && !isThere {
			found = append(found, v)
		}
	}
	return found
}

// copies is vectors in memory of their own, with what lies behind their
// elements.
func copies(l [][]int) [][]int {
	var list [][]int
	for _, v := range l {
		list = append(list, slices.Clone(v[:cap(v)])[:len(v)])
	}
	return list
}

func areEqual(a, b [][]int) bool {
	return slices.EqualFunc(a, b, slices.Equal)
}

func checkNewest(t *testing.T, l, want [][]int) {
	t.Helper()
	if got, err := vector.Newest(l); !areEqual(got, want) || err != api.OK {
		t.Errorf("Newest(%v) is %v, %d, want %v, OK", l, got, err, want)
	}
}

func checkNewestError(t *testing.T, l [][]int, want api.Errno) {
	t.Helper()
	if got, err := vector.Newest(l); len(got) > 0 || err != want {
		t.Errorf("Newest(%v) is %v, %d, want none, %d", l, got, err, want)
	}
}

// Promise P2: the newest of vectors written out.
func TestNewest(t *testing.T) {
	for _, c := range []struct{ l, want [][]int }{
		{[][]int{{1, 2}, {2, 2}, {2, 2}}, [][]int{{2, 2}}},
		{nil, nil},
		{[][]int{}, nil},
		{[][]int{nil}, [][]int{nil}},
		{[][]int{nil, {}, nil}, [][]int{nil}},
		{[][]int{{0}}, [][]int{{0}}},
		{[][]int{{1}, {2}, {3}}, [][]int{{3}}},
		{[][]int{{3}, {2}, {1}}, [][]int{{3}}},
		{[][]int{{2}, {3}, {1}, {3}}, [][]int{{3}}},
		{[][]int{{0}, {latest}, {latest - 1}}, [][]int{{latest}}},
		{[][]int{{1, 2}, {2, 1}}, [][]int{{1, 2}, {2, 1}}},
		{[][]int{{2, 1}, {1, 2}}, [][]int{{2, 1}, {1, 2}}},
		{[][]int{{2, 1}, {1, 2}, {2, 1}, {1, 2}}, [][]int{{2, 1}, {1, 2}}},
		{[][]int{{2, 1}, {2, 1}, {1, 2}, {2, 1}}, [][]int{{2, 1}, {1, 2}}},
		{[][]int{{1, 2}, {0, 2}, {2, 1}, {1, 1}}, [][]int{{1, 2}, {2, 1}}},
		{[][]int{{1, 2}, {2, 1}, {2, 2}}, [][]int{{2, 2}}},
		{[][]int{{2, 2}, {1, 2}, {2, 1}}, [][]int{{2, 2}}},
		{[][]int{{1, 2}, {2, 2}, {2, 1}}, [][]int{{2, 2}}},
		{[][]int{{1, 1}, {1, 1}, {0, 5}, {0, 4}}, [][]int{{1, 1}, {0, 5}}},
		{[][]int{{0, 4}, {1, 1}, {0, 5}, {1, 1}, {0, 5}}, [][]int{{1, 1}, {0, 5}}},
		{[][]int{{1, 0, 0}, {0, 1, 0}, {0, 0, 1}, {0, 0, 0}}, [][]int{{1, 0, 0}, {0, 1, 0}, {0, 0, 1}}},
		{[][]int{{1, 0, 0}, {0, 1, 0}, {1, 1, 0}, {0, 0, 1}}, [][]int{{1, 1, 0}, {0, 0, 1}}},
		{[][]int{{1 << 32, 0}, {0, 1 << 33}, {1 << 31, 1 << 33}}, [][]int{{1 << 32, 0}, {1 << 31, 1 << 33}}},
	} {
		checkNewest(t, c.l, c.want)
	}
}

// Promise P2: all lists of up to four small vectors, by the definition.
func TestNewestByDefinition(t *testing.T) {
	for n, most := range []int{4, 4, 4, 3} {
		small := smallVectors(n, 0, 1, 2)
		if n == 3 {
			small = smallVectors(n, 0, 1)
		}
		lists := [][][]int{nil}
		for range most {
			var longer [][][]int
			for _, l := range lists {
				checkNewest(t, l, slowNewest(l))
				for _, v := range small {
					longer = append(longer, append(slices.Clone(l), v))
				}
			}
			lists = longer
		}
		for _, l := range lists {
			checkNewest(t, l, slowNewest(l))
		}
	}
}

// Promise P2: many lists of vectors, of which few or many are siblings, by the
// definition.
func TestNewestOfMany(t *testing.T) {
	for seed := range 1500 {
		draw := mix.One(uint64(seed))
		n, many, limit := int(draw%17), int(draw>>8%40), []int{1, 2, 5, 1000, latest}[draw>>16%5]
		var l [][]int
		for i := range many {
			l = append(l, someVector(n, limit, seed*100+i*7%30))
		}
		checkNewest(t, l, slowNewest(l))
	}
	for _, limit := range []int{1, 3, latest} {
		for _, n := range []int{0, 1, 2, 3, 16} {
			var l [][]int
			for i := range api.MaxOps {
				l = append(l, someVector(n, limit, i))
			}
			checkNewest(t, l, slowNewest(l))
		}
	}
}

// Promise P2: as many vectors as MaxOps: all of them are siblings, or all but
// one of them, anywhere, are behind it.
func TestNewestEachIndex(t *testing.T) {
	var siblings [][]int
	for i := range api.MaxOps {
		siblings = append(siblings, []int{i, api.MaxOps - i, 5})
	}
	for n := range api.MaxOps + 1 {
		checkNewest(t, siblings[:n], siblings[:n])
	}
	for i, v := range siblings {
		if i%9 > 0 && i < api.MaxOps-9 {
			continue
		}
		newer := slices.Clone(siblings)
		newer[i] = []int{api.MaxOps, api.MaxOps, 5}
		checkNewest(t, newer, newer[i:i+1])
		newer[i] = []int{v[0], v[1], 6}
		checkNewest(t, newer, newer)
		newer[i] = []int{v[0], v[1], 4}
		checkNewest(t, newer, newer)
		newer[i] = siblings[(i+1)%api.MaxOps]
		checkNewest(t, newer, slowNewest(newer))
		equal := slices.Repeat([][]int{{3, 3}}, api.MaxOps)
		checkNewest(t, equal, [][]int{{3, 3}})
		equal[i] = []int{3, 4}
		checkNewest(t, equal, [][]int{{3, 4}})
		equal[i] = []int{3, 2}
		checkNewest(t, equal, [][]int{{3, 3}})
	}
}

// Promise P2: no vector of the result is behind another one, and each vector of
// the list is up to one of them.
func TestNewestCovers(t *testing.T) {
	for seed := range 200 {
		var l [][]int
		for i := range seed % 50 {
			l = append(l, someVector(3, 6, seed*50+i))
		}
		newest, _ := vector.Newest(l)
		for i, a := range newest {
			for k, b := range newest {
				if how, _ := vector.Compare(a, b); i != k && how != api.Apart {
					t.Errorf("Newest(%v) has %v and %v", l, a, b)
				}
			}
		}
		for _, v := range l {
			if !slices.ContainsFunc(newest, func(other []int) bool { return isUpTo(v, other) }) {
				t.Errorf("Newest(%v) is %v, where %v is up to none", l, newest, v)
			}
		}
		checkNewest(t, newest, newest)
	}
}

// Promise P2: the errors in their order: too many vectors, even if they are
// wrong or equal, and then the first vector that is wrong, even if it would not
// be among the newest ones.
func TestNewestErrors(t *testing.T) {
	for _, many := range []int{401, 402, 800, 1 << 16, 1<<16 + 1} {
		checkNewestError(t, make([][]int, many), api.ErrRange)
		checkNewestError(t, slices.Repeat([][]int{{1, 2}}, many), api.ErrRange)
		checkNewestError(t, slices.Repeat([][]int{make([]int, 17)}, many), api.ErrRange)
		checkNewestError(t, append(slices.Repeat([][]int{{1}}, many-1), nil), api.ErrRange)
	}
	checkNewest(t, make([][]int, 400), [][]int{nil})
	checkNewest(t, slices.Repeat([][]int{{1, 2}}, 400), [][]int{{1, 2}})
	checkNewestError(t, [][]int{make([]int, 17)}, api.ErrForm)
	checkNewestError(t, [][]int{{-1}, {1, 2}}, api.ErrRange)
	checkNewestError(t, [][]int{{1}, {1, 2}, {-1}}, api.ErrForm)
	wrong := [][]int{nil, {1}, {1, 2, 3}, make([]int, 17), {-1, -1, -1}}
	for _, value := range outside {
		wrong = append(wrong, []int{0, value}, []int{value, latest}, []int{value, value})
	}
	for _, v := range wrong {
		want := api.ErrForm
		if len(v) == 2 {
			want = api.ErrRange
		}
		for _, rest := range [][]int{{0, 0}, {5, 7}, {latest, latest}} {
			for _, many := range []int{2, 3, 50, 400, 401} {
				for _, at := range []int{1, many / 2, many - 1} {
					l := slices.Repeat([][]int{rest}, many)
					l[at] = v
					if many > api.MaxOps {
						checkNewestError(t, l, api.ErrRange)
						continue
					}
					checkNewestError(t, l, want)
					l[0], l[at] = v, rest
					checkNewestError(t, l, slowWrong(l...))
				}
			}
		}
	}
}

// Promises P2 and AA2: the list and its vectors stay as they are, with what lies
// behind them, which does not matter, and the results are new and apart from
// each other.
func TestNewestMemory(t *testing.T) {
	for seed := range 200 {
		var all [][]int
		for i := range seed % 30 {
			v := slices.Concat(someVector(seed%17, 3, seed*30+i), []int{-1, latest + 1, math.MaxInt})
			all = append(all, v[:seed%17])
		}
		all = append(all, []int{-1}, make([]int, 17), nil)
		l := all[:len(all)-3]
		before, want := copies(all), copies(slowNewest(l))
		for i := range want {
			newest, _ := vector.Newest(l)
			own := newest[i][:cap(newest[i])]
			for k := range own {
				own[k] = -7
			}
			for k, v := range newest {
				if k != i && !slices.Equal(v, want[k]) {
					t.Errorf("Newest(%v): vector %d shares memory with vector %d", l, i, k)
				}
			}
			checkNewest(t, l, want)
		}
		newest, _ := vector.Newest(l)
		clear(newest[:cap(newest)])
		checkNewest(t, l, want)
		for i, v := range all {
			if !slices.Equal(v[:cap(v)], before[i][:cap(v)]) {
				t.Errorf("Newest changed its argument: %v is %v", before[i], v)
			}
		}
	}
}
