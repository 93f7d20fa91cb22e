package quorum_test

import (
	"math"
	"slices"
	"testing"

	"strawloft/api"
	"strawloft/quorum"
)

// slowLeast is the sets of a list of which no other set of it is a part.
func slowLeast(l []uint16) []uint16 {
	in := map[uint16]bool{}
	for _, set := range l {
		in[set] = true
	}
	var list []uint16
	for set := range in {
		least := true
		for other := range in {
			least = least && (other == set || !slowWithin(other, set))
		}
		if least {
			list = append(list, set)
		}
	}
	slices.Sort(list)
	return list
}

// slowDual is the sets of a number of voters that meet every set of a list, but
// no longer do so if any one of their voters leaves.
func slowDual(many int, l []uint16) []uint16 {
	var list []uint16
	for set := range uint16(1 << many) {
		least := slowMeet([]uint16{set}, l)
		for voter := range many {
			less := set &^ (1 << voter)
			least = least && (less == set || !slowMeet([]uint16{less}, l))
		}
		if least {
			list = append(list, set)
		}
	}
	return list
}

// families is all lists of different sets of a number of voters.
func families(many int) [][]uint16 {
	sets := 1 << many
	var list [][]uint16
	for which := range 1 << sets {
		var family []uint16
		for set := range sets {
			if which>>set&1 == 1 {
				family = append(family, uint16(set))
			}
		}
		list = append(list, family)
	}
	return list
}

// rows is all lists of up to n sets of three voters, in any order, of which any
// may be equal.
func rows(n int) [][]uint16 {
	list := [][]uint16{nil}
	shorter := list
	for range n {
		var longer [][]uint16
		for _, l := range shorter {
			for set := range uint16(8) {
				longer = append(longer, append(slices.Clone(l), set))
			}
		}
		list = append(list, longer...)
		shorter = longer
	}
	return list
}

// listsOf is lists of sets of many kinds that have no voter but 0 to many-1.
func listsOf(many int) [][]uint16 {
	var lists [][]uint16
	for _, l := range someLists() {
		var list []uint16
		for _, set := range l {
			list = append(list, set&(1<<many-1))
		}
		lists = append(lists, list)
	}
	return lists
}

func checkLeast(t *testing.T, l, want []uint16) {
	t.Helper()
	got, err := quorum.Least(l)
	checkList(t, got, err, want, "Least", l)
}

func checkDual(t *testing.T, many int, l, want []uint16) {
	t.Helper()
	got, err := quorum.Dual(many, l)
	checkList(t, got, err, want, "Dual", many, l)
}

func checkNoDual(t *testing.T, many int, l []uint16, want api.Errno) {
	t.Helper()
	got, err := quorum.Dual(many, l)
	checkNoList(t, got, err, want, "Dual", many, l)
}

// Promise M2: minimal sets written out.
func TestLeast(t *testing.T) {
	for _, c := range []struct{ l, want []uint16 }{
		{[]uint16{3, 7}, []uint16{3}},
		{[]uint16{7, 3}, []uint16{3}},
		{nil, nil},
		{[]uint16{}, nil},
		{[]uint16{0}, []uint16{0}},
		{[]uint16{0, 0}, []uint16{0}},
		{[]uint16{0, 1, 2, 3}, []uint16{0}},
		{[]uint16{allVoters, 1, 0, 1}, []uint16{0}},
		{[]uint16{allVoters}, []uint16{allVoters}},
		{[]uint16{allVoters, allVoters}, []uint16{allVoters}},
		{[]uint16{allVoters, 1 << 15}, []uint16{1 << 15}},
		{[]uint16{1 << 15, 1<<15 - 1}, []uint16{1<<15 - 1, 1 << 15}},
		{[]uint16{5}, []uint16{5}},
		{[]uint16{5, 5, 5}, []uint16{5}},
		{[]uint16{2, 1}, []uint16{1, 2}},
		{[]uint16{6, 5, 3}, []uint16{3, 5, 6}},
		{[]uint16{6, 5, 3, 6, 5, 3}, []uint16{3, 5, 6}},
		{[]uint16{7, 6, 5, 3}, []uint16{3, 5, 6}},
		{[]uint16{1, 3, 14}, []uint16{1, 14}},
		{[]uint16{14, 12, 6, 4, 3}, []uint16{3, 4}},
		{[]uint16{1, 3, 7, 15, 8}, []uint16{1, 8}},
		{[]uint16{15, 7, 3, 1}, []uint16{1}},
		{[]uint16{8, 9, 4, 6}, []uint16{4, 8}},
		{[]uint16{9, 6, 8}, []uint16{6, 8}},
		{[]uint16{3, 4, 5, 12, 24, 11}, []uint16{3, 4, 24}},
	} {
		checkLeast(t, c.l, c.want)
	}
	checkLeast(t, chain(), []uint16{0})
	checkLeast(t, backwards(chain()), []uint16{0})
	checkLeast(t, chain()[3:], []uint16{7})
	checkLeast(t, backwards(chain()[1:]), []uint16{1})
	checkLeast(t, oneEach(0, 15), oneEach(0, 15))
	checkLeast(t, append(backwards(oneEach(0, 15)), allVoters, 3), oneEach(0, 15))
}

// Promise M2: all lists of sets of three voters, in any order, and lists of
// many kinds, by the definition; and what is minimal stays so.
func TestLeastByDefinition(t *testing.T) {
	lists := slices.Concat(rows(4), families(3), someLists())
	for many := 1; many <= 10; many++ {
		lists = append(lists, listsOf(many)...)
	}
	for _, l := range lists {
		want := slowLeast(l)
		checkLeast(t, l, want)
		checkLeast(t, backwards(l), want)
		checkLeast(t, want, want)
		if 2*len(l) <= api.MaxOps {
			checkLeast(t, slices.Concat(l, l), want)
		}
	}
}

// Promise M2: each set of the longest lists may be the only one that another
// one contains, or that contains another one.
func TestLeastEachIndex(t *testing.T) {
	list := halves(400)
	checkLeast(t, list, list)
	checkLeast(t, backwards(list), list)
	for i, set := range list {
		part := set & (set - 1)
		withLess, withMore := slices.Clone(list), slices.Clone(list)
		withLess[i] = part
		checkLeast(t, withLess, slowLeast(withLess))
		withMore[i] = list[(i+1)%400] | list[(i+2)%400]
		checkLeast(t, withMore, slowLeast(withMore))
		withLess[i] = 0
		checkLeast(t, withLess, []uint16{0})
	}
}

// Promise M2: as many sets as MaxOps may be in a list, and no more, even if
// they are the same ones.
func TestLeastRange(t *testing.T) {
	for _, l := range tooLong() {
		got, err := quorum.Least(l)
		checkNoList(t, got, err, api.ErrRange, "Least", len(l))
	}
	checkLeast(t, slices.Repeat([]uint16{3}, 400), []uint16{3})
	checkLeast(t, make([]uint16, 400), []uint16{0})
}

// Promise M2: duals written out.
func TestDual(t *testing.T) {
	for _, c := range []struct {
		many    int
		l, want []uint16
	}{
		{3, []uint16{3, 5, 6}, []uint16{3, 5, 6}},
		{3, []uint16{6, 5, 3, 6, 7}, []uint16{3, 5, 6}},
		{3, []uint16{1}, []uint16{1}},
		{3, []uint16{1, 2}, []uint16{3}},
		{3, []uint16{7}, []uint16{1, 2, 4}},
		{3, []uint16{3, 5}, []uint16{1, 6}},
		{3, nil, []uint16{0}},
		{3, []uint16{}, []uint16{0}},
		{3, []uint16{0}, nil},
		{3, []uint16{7, 0, 1}, nil},
		{1, nil, []uint16{0}},
		{1, []uint16{0}, nil},
		{1, []uint16{1}, []uint16{1}},
		{1, []uint16{1, 1}, []uint16{1}},
		{1, []uint16{1, 0}, nil},
		{2, []uint16{1, 2}, []uint16{3}},
		{2, []uint16{3}, []uint16{1, 2}},
		{2, []uint16{3, 1}, []uint16{1}},
		{4, []uint16{3, 12}, []uint16{5, 6, 9, 10}},
		{4, []uint16{12, 10, 5, 3}, []uint16{6, 9}},
		{4, []uint16{7, 11, 13, 14}, []uint16{3, 5, 6, 9, 10, 12}},
		{4, []uint16{1, 3, 14}, []uint16{3, 5, 9}},
		{5, []uint16{3, 6, 12, 24, 17}, []uint16{11, 13, 21, 22, 26}},
		{6, []uint16{21, 42}, []uint16{3, 6, 9, 12, 18, 24, 33, 36, 48}},
		{6, []uint16{15, 23, 39, 57, 58, 60}, []uint16{7, 9, 10, 12, 17, 18, 20, 33, 34, 36, 56}},
		{7, []uint16{7, 25, 97, 42, 82, 52, 76}, []uint16{7, 25, 42, 52, 76, 82, 97}},
		{8, []uint16{15, 240}, []uint16{17, 18, 20, 24, 33, 34, 36, 40, 65, 66, 68, 72, 129, 130, 132, 136}},
		{9, []uint16{7, 56, 448}, []uint16{
			73, 74, 76, 81, 82, 84, 97, 98, 100, 137, 138, 140, 145, 146, 148, 161, 162, 164, 265, 266, 268, 273, 274, 276, 289, 290, 292,
		}},
		{10, nil, []uint16{0}},
		{10, []uint16{0}, nil},
		{10, []uint16{1023}, oneEach(0, 9)},
		{10, oneEach(0, 9), []uint16{1023}},
		{10, []uint16{1, 2, 4}, []uint16{7}},
		{10, []uint16{512, 513}, []uint16{512}},
		{10, []uint16{31, 992}, []uint16{
			33, 34, 36, 40, 48, 65, 66, 68, 72, 80, 129, 130, 132, 136, 144, 257, 258, 260, 264, 272, 513, 514, 516, 520, 528,
		}},
	} {
		checkDual(t, c.many, c.l, c.want)
	}
}

// Promise M2: all lists of different sets of up to four voters, all short lists
// in any order, and lists of many kinds for all numbers of voters, by the
// definition.
func TestDualByDefinition(t *testing.T) {
	for many := 1; many <= 3; many++ {
		for _, l := range families(many) {
			for more := many; more <= 5; more++ {
				checkDual(t, more, l, slowDual(more, l))
			}
		}
	}
	for i, l := range families(4) {
		if i%7 == 0 {
			checkDual(t, 4, l, slowDual(4, l))
		}
	}
	for _, l := range rows(3) {
		checkDual(t, 3, l, slowDual(3, l))
	}
	for many := 1; many <= 10; many++ {
		for _, l := range listsOf(many) {
			checkDual(t, many, l, slowDual(many, l))
		}
	}
}

// Promise M2: each set of the longest lists may be the only one that makes a
// difference.
func TestDualEachIndex(t *testing.T) {
	for i := range api.MaxOps {
		l := slices.Repeat([]uint16{6}, api.MaxOps)
		checkDual(t, 4, l, []uint16{2, 4})
		l[i] = 9
		checkDual(t, 4, l, []uint16{3, 5, 10, 12})
		l[i] = 2
		checkDual(t, 4, l, []uint16{2})
		l[i] = 0
		checkDual(t, 4, l, nil)
		l[i] = 16
		checkNoDual(t, 4, l, api.ErrForm)
		checkDual(t, 5, l, []uint16{18, 20})
	}
}

// Promise M2: there must be 1 to 10 voters and at most as many sets as MaxOps;
// this is checked before the sets are.
func TestDualRange(t *testing.T) {
	for _, many := range wrongMany() {
		for _, l := range append(someLists(), tooLong()...) {
			checkNoDual(t, many, l, api.ErrRange)
		}
	}
	for many := 1; many <= 10; many++ {
		for _, l := range tooLong() {
			checkNoDual(t, many, l, api.ErrRange)
		}
		for _, set := range []uint16{0, 1, 1 << (many - 1), 1<<many - 1, 1 << many, 1 << 15, allVoters} {
			checkNoDual(t, many, slices.Repeat([]uint16{set}, 401), api.ErrRange)
		}
		checkDual(t, many, make([]uint16, 400), nil)
		checkDual(t, many, slices.Repeat([]uint16{1}, 400), []uint16{1})
	}
	checkNoDual(t, 11, []uint16{1 << 11}, api.ErrRange)
	checkNoDual(t, 0, []uint16{1}, api.ErrRange)
	checkNoDual(t, math.MinInt, []uint16{allVoters}, api.ErrRange)
}

// Promise M2: a set with another voter is ErrForm, alone or beside other sets,
// with or without voters that it may have.
func TestDualForm(t *testing.T) {
	for many := 1; many <= 10; many++ {
		all := uint16(1<<many - 1)
		for voter := range 16 {
			for _, rest := range []uint16{0, 1, all, 1 << (many - 1)} {
				set := 1<<voter | rest
				for _, l := range [][]uint16{{set}, {all, set}, {set, all}, {0, set}, {set, 0}, {1, set, 1}, {set, set}} {
					if voter >= many {
						checkNoDual(t, many, l, api.ErrForm)
					} else {
						checkDual(t, many, l, slowDual(many, l))
					}
				}
			}
		}
		checkNoDual(t, many, []uint16{allVoters}, api.ErrForm)
		checkNoDual(t, many, append(make([]uint16, 399), 1<<many), api.ErrForm)
		checkNoDual(t, many, append([]uint16{allVoters &^ all}, make([]uint16, 399)...), api.ErrForm)
	}
}

// Promise M2: the dual of the dual is the list of minimal sets, which has the
// same dual.
func TestDualOfDual(t *testing.T) {
	for many := 1; many <= 4; many++ {
		for _, l := range families(many) {
			checkDualOfDual(t, many, l)
		}
	}
	for many := 1; many <= 10; many++ {
		for _, l := range listsOf(many) {
			checkDualOfDual(t, many, l)
		}
		majorities, _ := quorum.Majorities(many)
		checkDualOfDual(t, many, majorities)
	}
	for rows := 1; rows <= 10; rows++ {
		for cols := 1; rows*cols <= 10; cols++ {
			grid, _ := quorum.Grid(rows, cols)
			checkDualOfDual(t, rows*cols, grid)
		}
	}
}

func checkDualOfDual(t *testing.T, many int, l []uint16) {
	t.Helper()
	least, err := quorum.Least(l)
	dual, dualErr := quorum.Dual(many, l)
	if err != api.OK || dualErr != api.OK {
		t.Fatalf("Least(%v) is %v, %d, and Dual(%d) %v, %d", l, least, err, many, dual, dualErr)
	}
	checkDual(t, many, dual, least)
	checkDual(t, many, least, dual)
	checkLeast(t, dual, dual)
	checkMeet(t, l, dual, true)
	for _, set := range dual {
		checkMeet(t, l, []uint16{set}, true)
	}
}

// Promises M1 and M2: majorities of an odd number of voters are their own dual,
// and that of an even number is the halves.
func TestDualOfMajorities(t *testing.T) {
	for many := 1; many <= 10; many++ {
		majorities, _ := quorum.Majorities(many)
		checkLeast(t, majorities, majorities)
		if many%2 == 1 {
			checkDual(t, many, majorities, majorities)
			continue
		}
		var halves []uint16
		for set := range uint16(1 << many) {
			if 2*count(set) == many {
				halves = append(halves, set)
			}
		}
		checkDual(t, many, majorities, halves)
		checkDual(t, many, halves, majorities)
	}
}

// Promises M1 and M2: no set of a list is without voters that are down if and
// only if these contain a set of the dual.
func TestLiveAndDual(t *testing.T) {
	for many := 1; many <= 8; many++ {
		for _, l := range listsOf(many) {
			dual, _ := quorum.Dual(many, l)
			for down := range uint16(1 << many) {
				dead := slices.ContainsFunc(dual, func(set uint16) bool { return slowWithin(set, down) })
				checkLive(t, l, down, !dead)
			}
		}
	}
}

// Promises M2 and AA2: lists stay as they are, with what lies behind their
// sets, which does not matter.
func TestListArguments(t *testing.T) {
	for _, l := range append(listsOf(5), backwards(chain()[:6])) {
		n := len(l)
		for _, rest := range [][]uint16{{0, 0, 0}, {1, 2, 4}, {allVoters, allVoters, allVoters}} {
			list := append(slices.Clone(l), rest...)
			want := slices.Clone(list)
			checkLeast(t, list[:n], slowLeast(l))
			checkDual(t, 5, list[:n], slowDual(5, l))
			if !slices.Equal(list, want) {
				t.Errorf("arguments changed: %v, want %v", list, want)
			}
		}
	}
}

// Promises M2 and AA2: a result is new, also one that equals the list that it
// is of.
func TestListResults(t *testing.T) {
	for _, l := range append(listsOf(5), oneEach(0, 4), []uint16{3}) {
		list, want, wantDual := slices.Clone(l), slowLeast(l), slowDual(5, l)
		first, _ := quorum.Least(list)
		second, _ := quorum.Least(list)
		dual, _ := quorum.Dual(5, list)
		clear(first[:cap(first)])
		if !slices.Equal(list, l) {
			t.Errorf("Least of %v shares memory with it", l)
		}
		clear(list)
		checkList(t, second, api.OK, want, "Least", l)
		checkList(t, dual, api.OK, wantDual, "Dual", 5, l)
		clear(dual[:cap(dual)])
		checkDual(t, 5, l, wantDual)
	}
}
