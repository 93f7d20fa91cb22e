package quorum_test

import (
	"math"
	"slices"
	"testing"

	"strawloft/api"
	"strawloft/mix"
	"strawloft/quorum"
)

// allVoters is the set of all sixteen voters.
const allVoters = 1<<16 - 1

// has reports whether a voter is in a set.
func has(set uint16, voter int) bool {
	return set>>voter&1 == 1
}

// slowMeets reports whether some voter is in both sets.
func slowMeets(a, b uint16) bool {
	for voter := range 16 {
		if has(a, voter) && has(b, voter) {
			return true
		}
	}
	return false
}

// slowWithin reports whether every voter of the first set is in the second one.
func slowWithin(a, b uint16) bool {
	for voter := range 16 {
		if has(a, voter) && !has(b, voter) {
			return false
		}
	}
	return true
}

// count is how many voters a set has.
func count(set uint16) int {
	n := 0
	for voter := range 16 {
		if has(set, voter) {
			n++
		}
	}
	return n
}

// slowMajorities is the sets of a number of voters that are more than half of
// them, but only just.
func slowMajorities(many int) []uint16 {
	var list []uint16
	for set := range 1 << many {
		n := count(uint16(set))
		if 2*n > many && 2*(n-1) <= many {
			list = append(list, uint16(set))
		}
	}
	return list
}

// slowGrid is the unions of a row and a column: sets of which each voter is in
// the row or in the column.
func slowGrid(rows, cols int) []uint16 {
	var list []uint16
	for r := range rows {
		for c := range cols {
			set := 0
			for voter := range rows * cols {
				if voter/cols == r || voter%cols == c {
					set += 1 << voter
				}
			}
			list = append(list, uint16(set))
		}
	}
	slices.Sort(list)
	return slices.Compact(list)
}

// slowMeet reports whether every set of a list meets every set of another one.
func slowMeet(a, b []uint16) bool {
	for _, set := range a {
		for _, other := range b {
			if !slowMeets(set, other) {
				return false
			}
		}
	}
	return true
}

// slowLive reports whether some set of a list has no voter that is down.
func slowLive(l []uint16, down uint16) bool {
	for _, set := range l {
		if !slowMeets(set, down) {
			return true
		}
	}
	return false
}

// someSets is n sets that are alike in nothing. The more the thickness is above
// 0 the more voters they have, and the more it is below 0 the fewer.
func someSets(n, thickness, seed int) []uint16 {
	var list []uint16
	for i := range n {
		set := mix.Two(uint64(seed), uint64(i))
		for more := range thickness {
			set |= mix.Two(set, uint64(more))
		}
		for less := range -thickness {
			set &= mix.Two(set, uint64(less))
		}
		list = append(list, uint16(set))
	}
	return list
}

// oneEach is the sets of one voter, from a first one on and up to a last one.
func oneEach(first, last int) []uint16 {
	var list []uint16
	for voter := first; voter <= last; voter++ {
		list = append(list, 1<<voter)
	}
	return list
}

// chain is sets of which each one contains all those before it.
func chain() []uint16 {
	var list []uint16
	for n := range 17 {
		list = append(list, uint16(1<<n-1))
	}
	return list
}

// halves is n different sets of eight of the sixteen voters, so that none of
// them contains another one.
func halves(n int) []uint16 {
	var list []uint16
	for set := uint16(0); len(list) < n; set++ {
		if count(set) == 8 {
			list = append(list, set)
		}
	}
	return list
}

// backwards is a list that begins at its end.
func backwards(l []uint16) []uint16 {
	list := slices.Clone(l)
	slices.Reverse(list)
	return list
}

// someLists is lists of sets of many kinds and lengths.
func someLists() [][]uint16 {
	list := [][]uint16{
		nil, {}, {0}, {0, 0}, {1}, {1, 1, 1}, {1 << 15}, {allVoters}, {allVoters, allVoters}, {0, allVoters}, {allVoters, 0},
		{1, 2}, {2, 1}, {3, 7}, {7, 3}, {3, 7, 3, 7}, {3, 5, 6}, {6, 3, 5}, {3, 12}, {12, 3}, {1, 2, 0}, {allVoters, 1 << 15, 1},
		{1, 3, 14}, {14, 3, 1}, {255, 255 << 8}, {1, 1<<15 + 1}, {1<<15 - 1, 1 << 15}, {4, 6, 12, 14, 3},
		oneEach(0, 15), backwards(oneEach(0, 15)), oneEach(3, 9), chain(), backwards(chain()), chain()[1:], backwards(chain()[5:]),
		halves(399), backwards(halves(400)), slices.Repeat([]uint16{0}, 400), slices.Repeat([]uint16{allVoters}, 400),
		slices.Repeat([]uint16{5, 3}, 200), append(slices.Repeat([]uint16{6}, 399), 9), append(halves(399), 0), append(halves(399), allVoters),
	}
	for i, n := range []int{1, 2, 3, 5, 8, 20, 60, 150, 399, 400} {
		for thickness := -3; thickness <= 3; thickness++ {
			list = append(list, someSets(n, thickness, 10*i+thickness))
		}
	}
	return list
}

// tooLong is lists that have too many sets, all of them different, all the same
// or without voters.
func tooLong() [][]uint16 {
	var list [][]uint16
	for _, n := range []int{401, 402, 511, 512, 513, 800, 1 << 16, 1<<16 + 1} {
		list = append(list, someSets(n, 0, n), slices.Repeat([]uint16{3}, n), make([]uint16, n))
	}
	return append(list, halves(401), append(halves(400), 0))
}

// wrongMany is numbers of voters below 1 and above 10.
func wrongMany() []int {
	return []int{
		0, -1, -2, -3, -10, -11, -16, -64, math.MinInt, math.MinInt + 3, -1<<32 + 3,
		11, 12, 13, 15, 16, 17, 32, 63, 64, 65, 256, 259, 1 << 16, 1<<16 + 3, 1 << 32, 1<<32 + 3, math.MaxInt - 1, math.MaxInt,
	}
}

// checkList checks a list of sets that was answered, and that it is increasing.
func checkList(t *testing.T, got []uint16, err api.Errno, want []uint16, name string, arguments ...any) {
	t.Helper()
	if !slices.Equal(got, want) || err != api.OK {
		t.Errorf("%s(%v) is %v, %d, want %v, OK", name, arguments, got, err, want)
	}
	for i := 1; i < len(got); i++ {
		if got[i-1] >= got[i] {
			t.Errorf("%s(%v) is not increasing: %v", name, arguments, got)
		}
	}
}

// checkNoList checks that an error was answered, and no sets.
func checkNoList(t *testing.T, got []uint16, err, want api.Errno, name string, arguments ...any) {
	t.Helper()
	if len(got) != 0 || err != want {
		t.Errorf("%s(%v) is %v, %d, want no sets, %d", name, arguments, got, err, want)
	}
}

func checkMajorities(t *testing.T, many int, want []uint16) {
	t.Helper()
	got, err := quorum.Majorities(many)
	checkList(t, got, err, want, "Majorities", many)
}

func checkGrid(t *testing.T, rows, cols int, want []uint16) {
	t.Helper()
	got, err := quorum.Grid(rows, cols)
	checkList(t, got, err, want, "Grid", rows, cols)
}

func checkNoGrid(t *testing.T, rows, cols int) {
	t.Helper()
	got, err := quorum.Grid(rows, cols)
	checkNoList(t, got, err, api.ErrRange, "Grid", rows, cols)
}

// checkMeet checks two lists, in both orders.
func checkMeet(t *testing.T, a, b []uint16, want bool) {
	t.Helper()
	if got, err := quorum.Meet(a, b); got != want || err != api.OK {
		t.Errorf("Meet(%v, %v) is %t, %d, want %t, OK", a, b, got, err, want)
	}
	if got, err := quorum.Meet(b, a); got != want || err != api.OK {
		t.Errorf("Meet(%v, %v) is %t, %d, want %t, OK", b, a, got, err, want)
	}
}

// checkNoMeet checks that there are too many sets in one of two lists, or in
// both.
func checkNoMeet(t *testing.T, a, b []uint16) {
	t.Helper()
	if got, err := quorum.Meet(a, b); got || err != api.ErrRange {
		t.Errorf("Meet of %d and %d sets is %t, %d, want false, ErrRange", len(a), len(b), got, err)
	}
	if got, err := quorum.Meet(b, a); got || err != api.ErrRange {
		t.Errorf("Meet of %d and %d sets is %t, %d, want false, ErrRange", len(b), len(a), got, err)
	}
}

func checkLive(t *testing.T, l []uint16, down uint16, want bool) {
	t.Helper()
	if got, err := quorum.Live(l, down); got != want || err != api.OK {
		t.Errorf("Live(%v, %d) is %t, %d, want %t, OK", l, down, got, err, want)
	}
}

// Promise M1: majorities written out.
func TestMajorities(t *testing.T) {
	for i, want := range [][]uint16{
		{1},
		{3},
		{3, 5, 6},
		{7, 11, 13, 14},
		{7, 11, 13, 14, 19, 21, 22, 25, 26, 28},
		{15, 23, 27, 29, 30, 39, 43, 45, 46, 51, 53, 54, 57, 58, 60},
		{
			15, 23, 27, 29, 30, 39, 43, 45, 46, 51, 53, 54, 57, 58, 60, 71, 75, 77, 78, 83, 85, 86, 89, 90, 92,
			99, 101, 102, 105, 106, 108, 113, 114, 116, 120,
		},
	} {
		checkMajorities(t, i+1, want)
	}
}

// Promise M1: all numbers of voters, by the definition, and as many majorities
// as there are ways to choose so many voters.
func TestMajoritiesByDefinition(t *testing.T) {
	numbers := []int{1, 1, 3, 4, 10, 15, 35, 56, 126, 210}
	for many := 1; many <= 10; many++ {
		checkMajorities(t, many, slowMajorities(many))
		list, _ := quorum.Majorities(many)
		if len(list) != numbers[many-1] {
			t.Errorf("%d voters have %d majorities, want %d", many, len(list), numbers[many-1])
		}
		for _, set := range list {
			if count(set) != many/2+1 || int(set) >= 1<<many {
				t.Errorf("Majorities(%d) has the set %b", many, set)
			}
		}
	}
}

// Promise M1: there are no majorities of fewer than 1 voter or more than 10.
func TestMajoritiesOfWrongMany(t *testing.T) {
	for _, many := range wrongMany() {
		got, err := quorum.Majorities(many)
		checkNoList(t, got, err, api.ErrRange, "Majorities", many)
	}
}

// Promise M1: grids written out.
func TestGrid(t *testing.T) {
	for _, c := range []struct {
		rows, cols int
		want       []uint16
	}{
		{1, 1, []uint16{1}},
		{1, 2, []uint16{3}},
		{2, 1, []uint16{3}},
		{1, 3, []uint16{7}},
		{3, 1, []uint16{7}},
		{2, 2, []uint16{7, 11, 13, 14}},
		{2, 3, []uint16{15, 23, 39, 57, 58, 60}},
		{3, 2, []uint16{23, 29, 43, 46, 53, 58}},
		{3, 3, []uint16{79, 121, 151, 186, 295, 316, 457, 466, 484}},
		{2, 4, []uint16{31, 47, 79, 143, 241, 242, 244, 248}},
		{4, 2, []uint16{87, 93, 117, 171, 174, 186, 213, 234}},
		{3, 5, []uint16{1087, 2017, 2143, 3042, 4255, 5092, 8479, 9192, 16927, 17392, 31777, 31810, 31876, 32008, 32272}},
		{5, 3, []uint16{4687, 4729, 5065, 7753, 9367, 9402, 9682, 11922, 18727, 18748, 18916, 20260, 29257, 29842, 31012}},
		{7, 2, []uint16{5463, 5469, 5493, 5589, 5973, 7509, 10923, 10926, 10938, 10986, 11178, 11946, 13653, 15018}},
		{2, 8, []uint16{511, 767, 1279, 2303, 4351, 8447, 16639, 33023, 65281, 65282, 65284, 65288, 65296, 65312, 65344, 65408}},
		{8, 2, []uint16{
			21847, 21853, 21877, 21973, 22357, 23893, 30037, 43691, 43694, 43706, 43754, 43946, 44714, 47786, 54613, 60074,
		}},
		{4, 4, []uint16{
			4383, 4593, 7953, 8751, 8946, 12066, 17487, 17652, 20292, 34959, 35064, 36744, 61713, 61986, 62532, 63624,
		}},
		{1, 15, []uint16{32767}},
		{15, 1, []uint16{32767}},
		{1, 16, []uint16{65535}},
		{16, 1, []uint16{65535}},
	} {
		checkGrid(t, c.rows, c.cols, c.want)
	}
}

// Promise M1: all grids, by the definition, and those just too large or too
// small for one.
func TestGridByDefinition(t *testing.T) {
	for rows := -20; rows <= 40; rows++ {
		for cols := -20; cols <= 40; cols++ {
			if rows >= 1 && cols >= 1 && rows <= 16 && cols <= 16 && rows*cols <= 16 {
				checkGrid(t, rows, cols, slowGrid(rows, cols))
			} else {
				checkNoGrid(t, rows, cols)
			}
		}
	}
}

// Promise M1: a grid has as many sets as voters, but one set if it is a row or
// a column; a row and a column share one voter.
func TestGridNumbers(t *testing.T) {
	for rows := 1; rows <= 16; rows++ {
		for cols := 1; rows*cols <= 16; cols++ {
			list, _ := quorum.Grid(rows, cols)
			want := rows * cols
			if rows == 1 || cols == 1 {
				want = 1
			}
			if len(list) != want {
				t.Errorf("Grid(%d, %d) has %d sets, want %d", rows, cols, len(list), want)
			}
			for _, set := range list {
				if count(set) != rows+cols-1 || int(set) >= 1<<(rows*cols) {
					t.Errorf("Grid(%d, %d) has the set %b", rows, cols, set)
				}
			}
		}
	}
}

// Promise M1: rows and columns must be from 1 to 16, whatever their product is,
// and their product at most MaxNode.
func TestGridRange(t *testing.T) {
	wrong := []int{
		0, -1, -2, -4, -16, -17, math.MinInt, math.MinInt + 1, -1 << 32, -1 << 60,
		17, 18, 32, 64, 257, 1<<16 + 1, 1 << 32, 1<<32 + 1, 1 << 60, 1<<60 + 1, 1 << 62, math.MaxInt - 1, math.MaxInt,
	}
	for _, rows := range wrong {
		for cols := range 18 {
			checkNoGrid(t, rows, cols)
			checkNoGrid(t, cols, rows)
		}
		for _, cols := range wrong {
			checkNoGrid(t, rows, cols)
		}
	}
	for _, sides := range [][2]int{{1, 17}, {2, 9}, {3, 6}, {4, 5}, {2, 16}, {15, 2}, {11, 16}, {16, 16}} {
		checkNoGrid(t, sides[0], sides[1])
		checkNoGrid(t, sides[1], sides[0])
	}
}

// Promise M1: lists that meet, and lists that don't, written out.
func TestMeet(t *testing.T) {
	for _, c := range []struct {
		a, b []uint16
		want bool
	}{
		{[]uint16{3}, []uint16{5}, true},
		{[]uint16{1}, []uint16{2}, false},
		{nil, nil, true},
		{nil, []uint16{}, true},
		{nil, []uint16{0}, true},
		{nil, []uint16{1}, true},
		{[]uint16{}, []uint16{1, 2, 0}, true},
		{[]uint16{0}, []uint16{0}, false},
		{[]uint16{0}, []uint16{1}, false},
		{[]uint16{0}, []uint16{allVoters}, false},
		{[]uint16{allVoters}, []uint16{allVoters}, true},
		{[]uint16{allVoters}, []uint16{1 << 15}, true},
		{[]uint16{1 << 15}, []uint16{1 << 15}, true},
		{[]uint16{1 << 15}, []uint16{1<<15 - 1}, false},
		{[]uint16{1}, []uint16{allVoters - 1}, false},
		{[]uint16{255}, []uint16{255 << 8}, false},
		{[]uint16{3, 5, 6}, []uint16{3, 5, 6}, true},
		{[]uint16{3, 5, 6}, []uint16{6, 6, 3, 5, 3}, true},
		{[]uint16{3, 5, 6}, []uint16{3, 4}, false},
		{[]uint16{3, 5, 6}, []uint16{7}, true},
		{[]uint16{3, 12}, []uint16{5, 6, 9, 10}, true},
		{[]uint16{3, 12}, []uint16{5, 6, 9, 10, 3}, false},
		{[]uint16{3, 12}, []uint16{3, 12}, false},
		{[]uint16{3, 7}, []uint16{4, 3}, false},
		{[]uint16{7, 7, 7}, []uint16{1, 2, 4, 1}, true},
		{[]uint16{1, 2}, []uint16{3, 0}, false},
	} {
		checkMeet(t, c.a, c.b, c.want)
	}
}

// Promise M1: all pairs of lists of many kinds, by the definition.
func TestMeetByDefinition(t *testing.T) {
	lists := someLists()
	for i, a := range lists {
		for _, b := range lists[:i+1] {
			checkMeet(t, a, b, slowMeet(a, b))
		}
	}
	for a := range uint16(32) {
		for b := range uint16(32) {
			checkMeet(t, []uint16{a << 11}, []uint16{b << 11}, slowMeets(a, b))
		}
	}
}

// Promise M1: any two sets of the longest lists may be the only ones that don't
// meet.
func TestMeetEachIndex(t *testing.T) {
	for i := range api.MaxOps {
		a, b := slices.Repeat([]uint16{7}, api.MaxOps), slices.Repeat([]uint16{14}, api.MaxOps)
		checkMeet(t, a, b, true)
		j := (i*7 + 3) % api.MaxOps
		a[i], b[j] = 5, 10
		checkMeet(t, a, b, false)
		checkMeet(t, a[:i], b, true)
		checkMeet(t, a, b[:j], true)
		checkMeet(t, a[i:], b[j:], false)
	}
}

// Promise M1: as many sets as MaxOps may be in both lists, and no more in
// either, whatever the other one is.
func TestMeetRange(t *testing.T) {
	for _, wrong := range tooLong() {
		for _, other := range append(someLists(), tooLong()...) {
			checkNoMeet(t, wrong, other)
		}
	}
	all := slices.Repeat([]uint16{allVoters}, 401)
	checkMeet(t, all[:400], all[:400], true)
	checkNoMeet(t, all, all[:400])
	checkNoMeet(t, all, nil)
}

// Promise M1: lists and voters that are down, written out.
func TestLive(t *testing.T) {
	for _, c := range []struct {
		l    []uint16
		down uint16
		want bool
	}{
		{[]uint16{3, 12}, 1, true},
		{[]uint16{3, 12}, 4, true},
		{[]uint16{3, 12}, 3, true},
		{[]uint16{3, 12}, 5, false},
		{[]uint16{3, 12}, 0, true},
		{[]uint16{3, 12}, allVoters, false},
		{[]uint16{3, 12}, allVoters - 15, true},
		{[]uint16{12, 3, 3}, 10, false},
		{nil, 0, false},
		{nil, 1, false},
		{[]uint16{}, allVoters, false},
		{[]uint16{0}, 0, true},
		{[]uint16{0}, 1, true},
		{[]uint16{0}, allVoters, true},
		{[]uint16{allVoters, 0}, allVoters, true},
		{[]uint16{allVoters}, 0, true},
		{[]uint16{allVoters}, 1, false},
		{[]uint16{allVoters}, 1 << 15, false},
		{[]uint16{1 << 15}, 1 << 15, false},
		{[]uint16{1 << 15}, 1<<15 - 1, true},
		{[]uint16{3, 5, 6}, 1, true},
		{[]uint16{3, 5, 6}, 3, false},
		{[]uint16{1, 2, 4}, 6, true},
		{[]uint16{1, 2, 4}, 7, false},
	} {
		checkLive(t, c.l, c.down, c.want)
	}
}

// Promise M1: lists of many kinds with many voters down, by the definition.
func TestLiveByDefinition(t *testing.T) {
	downs := append(slices.Concat(someLists()...), 0, allVoters)
	slices.Sort(downs)
	downs = slices.Compact(downs)
	for _, l := range someLists() {
		for i := range 300 {
			down := downs[(i*37+len(l))%len(downs)]
			checkLive(t, l, down, slowLive(l, down))
		}
		checkLive(t, l, 0, len(l) > 0)
		checkLive(t, l, allVoters, slices.Contains(l, 0))
	}
}

// Promise M1: each set of the longest lists may be the only one without voters
// that are down.
func TestLiveEachIndex(t *testing.T) {
	for i := range api.MaxOps {
		l := slices.Repeat([]uint16{7}, api.MaxOps)
		checkLive(t, l, 4, false)
		l[i] = 3
		checkLive(t, l, 4, true)
		checkLive(t, l, 5, false)
		checkLive(t, l[:i], 4, false)
		checkLive(t, l[i+1:], 4, false)
		checkLive(t, l[i:], 4, true)
	}
}

// Promise M1: as many sets as MaxOps may be in a list, and no more, whatever
// is down.
func TestLiveRange(t *testing.T) {
	for _, l := range tooLong() {
		for _, down := range []uint16{0, 1, 2, 3, 1 << 15, 255, allVoters} {
			if got, err := quorum.Live(l, down); got || err != api.ErrRange {
				t.Errorf("Live of %d sets, %d down, is %t, %d, want false, ErrRange", len(l), down, got, err)
			}
		}
	}
	checkLive(t, make([]uint16, 400), allVoters, true)
	checkLive(t, slices.Repeat([]uint16{3}, 400), 1, false)
	checkLive(t, slices.Repeat([]uint16{3}, 400), 4, true)
}

// Promise M1: any two majorities meet, and any two sets of a grid; smaller sets
// of voters do not.
func TestQuorumsMeet(t *testing.T) {
	for many := 1; many <= 10; many++ {
		list, _ := quorum.Majorities(many)
		checkMeet(t, list, list, true)
		for _, set := range list {
			checkMeet(t, list, []uint16{^set}, false)
		}
	}
	for rows := 1; rows <= 16; rows++ {
		for cols := 1; rows*cols <= 16; cols++ {
			list, _ := quorum.Grid(rows, cols)
			checkMeet(t, list, list, true)
			for _, set := range list {
				checkMeet(t, list, []uint16{^set}, false)
			}
		}
	}
}

// Promise M1: either some set of a list is without voters that are down, or
// these meet every set of it.
func TestLiveOrMeet(t *testing.T) {
	var lists [][]uint16
	for _, l := range someLists() {
		if len(l) <= 60 {
			lists = append(lists, l)
		}
	}
	for many := 1; many <= 5; many++ {
		majorities, _ := quorum.Majorities(many)
		grid, _ := quorum.Grid(many, 3)
		lists = append(lists, majorities, grid)
	}
	for _, l := range lists {
		for down := 0; down <= allVoters; down += 11 {
			checkLiveOrMeet(t, l, uint16(down))
		}
		checkLiveOrMeet(t, l, 1<<15)
		checkLiveOrMeet(t, l, allVoters-1)
		checkLiveOrMeet(t, l, allVoters)
	}
}

func checkLiveOrMeet(t *testing.T, l []uint16, down uint16) {
	t.Helper()
	live, err := quorum.Live(l, down)
	meet, meetErr := quorum.Meet([]uint16{down}, l)
	if live == meet || err != api.OK || meetErr != api.OK {
		t.Errorf("Live(%v, %d) is %t, %d, and Meet is %t, %d", l, down, live, err, meet, meetErr)
	}
}

// Promise M1: some majority is left as long as fewer than half of the voters
// are down; other voters don't count.
func TestMajoritiesLive(t *testing.T) {
	for many := 1; many <= 10; many++ {
		list, _ := quorum.Majorities(many)
		for down := range 1 << many {
			want := 2*count(uint16(down)) < many
			checkLive(t, list, uint16(down), want)
			checkLive(t, list, uint16(down|1<<many|1<<15), want)
		}
	}
}

// Promise M1: some set of a grid is left as long as some row and some column
// have no voter that is down.
func TestGridLive(t *testing.T) {
	for _, sides := range [][2]int{{1, 1}, {1, 5}, {5, 1}, {2, 2}, {2, 5}, {5, 2}, {3, 3}, {3, 4}, {4, 3}, {4, 4}} {
		rows, cols := sides[0], sides[1]
		list, _ := quorum.Grid(rows, cols)
		for down := 0; down < 1<<(rows*cols); down += 3 {
			inRow, inCol := map[int]bool{}, map[int]bool{}
			for voter := range rows * cols {
				if has(uint16(down), voter) {
					inRow[voter/cols], inCol[voter%cols] = true, true
				}
			}
			checkLive(t, list, uint16(down), len(inRow) < rows && len(inCol) < cols)
		}
	}
}

// Promises M1 and AA2: lists stay as they are, with what lies behind their
// sets, which does not matter.
func TestArguments(t *testing.T) {
	for _, l := range someLists() {
		n := len(l)
		for _, rest := range [][]uint16{{0, 0, 0}, {allVoters, allVoters, allVoters}} {
			a, b := append(slices.Clone(l), rest...), append(backwards(l), rest...)
			wantA, wantB := slices.Clone(a), slices.Clone(b)
			checkMeet(t, a[:n], b[:n], slowMeet(l, l))
			checkLive(t, a[:n], 1, slowLive(l, 1))
			checkLive(t, b[:n], allVoters, slowLive(l, allVoters))
			if !slices.Equal(a, wantA) || !slices.Equal(b, wantB) {
				t.Errorf("arguments changed: %v, %v, want %v, %v", a, b, wantA, wantB)
			}
		}
	}
}

// Promises M1 and AA2: a result is new, and nobody sees what its owner does
// with it.
func TestResults(t *testing.T) {
	for many := 1; many <= 10; many++ {
		first, _ := quorum.Majorities(many)
		second, _ := quorum.Majorities(many)
		clear(first[:cap(first)])
		checkList(t, second, api.OK, slowMajorities(many), "Majorities", many)
		checkMajorities(t, many, slowMajorities(many))
	}
	for rows := 1; rows <= 16; rows++ {
		for cols := 1; rows*cols <= 16; cols++ {
			first, _ := quorum.Grid(rows, cols)
			second, _ := quorum.Grid(rows, cols)
			clear(first[:cap(first)])
			checkList(t, second, api.OK, slowGrid(rows, cols), "Grid", rows, cols)
			checkGrid(t, rows, cols, slowGrid(rows, cols))
		}
	}
}
