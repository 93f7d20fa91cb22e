package stripe_test

import (
	"math"
	"slices"
	"testing"

	"strawloft/api"
	"strawloft/stripe"
)

// maxUnit is the greatest unit of a layout.
const maxUnit = 1 << 20

// greatest is the layout whose objects hold most.
var greatest = api.Layout{Unit: maxUnit, Wide: 100, Deep: 1024}

// spot is an offset in an object.
type spot struct{ object, from int }

// extent is part of an object, as Split returns it: object, offset and length.
type extent api.Extent

// laidOut is the spots of the first bytes of a file, laid out unit by unit as
// the chapter tells it: apart from the program, and without any division.
func laidOut(l api.Layout, long int) []spot {
	var list []spot
	filled := map[int]int{}
	first, column := 0, 0
	for len(list) < long {
		object := first + column
		for range l.Unit {
			list = append(list, spot{object, filled[object]})
			filled[object]++
		}
		column++
		if column == l.Wide {
			column = 0
			if filled[object] == l.Unit*l.Deep {
				first += l.Wide
			}
		}
	}
	return list[:long]
}

// slowExtents is the extents of bytes at spots, byte by byte.
func slowExtents(spots []spot) []extent {
	var list []extent
	for _, s := range spots {
		if last := len(list) - 1; last >= 0 && list[last].Object == s.object && list[last].From+list[last].Long == s.from {
			list[last].Long++
		} else {
			list = append(list, extent{s.object, s.from, 1})
		}
	}
	return list
}

// slowSizes is the sizes of the objects of bytes at spots, byte by byte.
func slowSizes(spots []spot) []int {
	var sizes []int
	for _, s := range spots {
		for len(sizes) <= s.object {
			sizes = append(sizes, 0)
		}
		sizes[s.object] = max(sizes[s.object], s.from+1)
	}
	return sizes
}

// smallLayouts is all layouts with small numbers, and some others with few
// bytes on each object.
func smallLayouts() []api.Layout {
	list := []api.Layout{
		{Unit: 1, Wide: 100, Deep: 2}, {Unit: 2, Wide: 99, Deep: 1}, {Unit: 1, Wide: 1, Deep: 300}, {Unit: 2, Wide: 1, Deep: 150},
		{Unit: 70, Wide: 1, Deep: 2}, {Unit: 70, Wide: 2, Deep: 1}, {Unit: 7, Wide: 11, Deep: 3}, {Unit: 300, Wide: 1, Deep: 1},
	}
	for unit := 1; unit <= 5; unit++ {
		for wide := 1; wide <= 4; wide++ {
			for deep := 1; deep <= 4; deep++ {
				list = append(list, api.Layout{Unit: unit, Wide: wide, Deep: deep})
			}
		}
	}
	return list
}

// variedLayouts is layouts of many sizes, with those at the limits.
func variedLayouts() []api.Layout {
	var list []api.Layout
	for _, unit := range []int{1, 2, 3, 4096, 65537, 999983, maxUnit - 1, maxUnit} {
		for _, wide := range []int{1, 2, 7, 64, 99, 100} {
			for _, deep := range []int{1, 2, 5, 512, 1023, 1024} {
				list = append(list, api.Layout{Unit: unit, Wide: wide, Deep: deep})
			}
		}
	}
	return list
}

// offsets is file offsets at and near the places where something of a layout
// ends: 0, MaxTime, and units, rows and sets in between.
func offsets(l api.Layout) []int {
	var list []int
	row := l.Unit * l.Wide
	for _, step := range []int{l.Unit, row, l.Unit * l.Deep, row * l.Deep} {
		for _, n := range []int{0, 1, 2, 3, 1000, 99999, api.MaxTime/step - 1, api.MaxTime / step} {
			for _, more := range []int{-2, -1, 0, 1, 2, l.Unit / 2} {
				list = append(list, n*step+more)
			}
		}
	}
	list = append(list, api.MaxTime-1, api.MaxTime, api.MaxTime/2, api.MaxTime/3, 123456789012)
	return slices.DeleteFunc(list, func(at int) bool { return at < 0 || at > api.MaxTime })
}

// wrongLayouts is layouts that are not valid: just beyond each limit, and far.
func wrongLayouts() []api.Layout {
	var list []api.Layout
	for _, n := range []int{0, -1, -2, -100, math.MinInt, math.MaxInt, math.MinInt + 1, 1 << 32, 1<<32 + 1, 1 << 62} {
		list = append(list,
			api.Layout{Unit: n, Wide: 3, Deep: 2}, api.Layout{Unit: 2, Wide: n, Deep: 2}, api.Layout{Unit: 2, Wide: 3, Deep: n},
			api.Layout{Unit: n, Wide: n, Deep: n}, api.Layout{Unit: 1, Wide: n, Deep: n}, api.Layout{Unit: n, Wide: n, Deep: 1})
	}
	return append(list, api.Layout{},
		api.Layout{Unit: maxUnit + 1, Wide: 1, Deep: 1}, api.Layout{Unit: maxUnit + 1, Wide: 100, Deep: 1024},
		api.Layout{Unit: 1, Wide: 101, Deep: 1}, api.Layout{Unit: maxUnit, Wide: 101, Deep: 1024}, api.Layout{Unit: 2, Wide: 1024, Deep: 2},
		api.Layout{Unit: 1, Wide: 1, Deep: 1025}, api.Layout{Unit: maxUnit, Wide: 100, Deep: 1025}, api.Layout{Unit: 2, Wide: 2, Deep: maxUnit})
}

// checkWhere checks the object and the offset in it, without an error.
func checkWhere(t *testing.T, l api.Layout, at int, want spot) {
	t.Helper()
	if object, from, err := stripe.Where(l, at); object != want.object || from != want.from || err != api.OK {
		t.Errorf("Where(%v, %d) is %d, %d, %d, want %d, %d, OK", l, at, object, from, err, want.object, want.from)
	}
}

// checkBack checks the result and the error of Back.
func checkBack(t *testing.T, l api.Layout, object, from, want int, wantErr api.Errno) {
	t.Helper()
	if at, err := stripe.Back(l, object, from); at != want || err != wantErr {
		t.Errorf("Back(%v, %d, %d) is %d, %d, want %d, %d", l, object, from, at, err, want, wantErr)
	}
}

// checkSplit checks the extents, without an error.
func checkSplit(t *testing.T, l api.Layout, at, long int, want []extent) {
	t.Helper()
	got, err := stripe.Split(l, at, long)
	same := slices.EqualFunc(got, want, func(a api.Extent, b extent) bool { return extent(a) == b })
	if !same || err != api.OK {
		t.Errorf("Split(%v, %d, %d) is %v, %d, want %v, OK", l, at, long, got, err, want)
	}
}

// checkNoSplit checks that Split has no extents, but an error.
func checkNoSplit(t *testing.T, l api.Layout, at, long int, want api.Errno) {
	t.Helper()
	if got, err := stripe.Split(l, at, long); len(got) != 0 || err != want {
		t.Errorf("Split(%v, %d, %d) is %v, %d, want none, %d", l, at, long, got, err, want)
	}
}

// checkSizes checks the sizes, without an error.
func checkSizes(t *testing.T, l api.Layout, long int, want []int) {
	t.Helper()
	if got, err := stripe.Sizes(l, long); !slices.Equal(got, want) || err != api.OK {
		t.Errorf("Sizes(%v, %d) is %v, %d, want %v, OK", l, long, got, err, want)
	}
}

// checkNoSizes checks that Sizes has no sizes, but an error.
func checkNoSizes(t *testing.T, l api.Layout, long int, want api.Errno) {
	t.Helper()
	if got, err := stripe.Sizes(l, long); len(got) != 0 || err != want {
		t.Errorf("Sizes(%v, %d) is %v, %d, want none, %d", l, long, got, err, want)
	}
}

// Promise F1: layouts are valid up to each limit.
func TestRight(t *testing.T) {
	for _, l := range append(variedLayouts(), smallLayouts()...) {
		if !stripe.Right(l) {
			t.Errorf("Right(%v) is false", l)
		}
	}
}

// Promise F1: layouts beyond a limit are not valid, and each function returns
// that first, whatever else is wrong.
func TestWrongLayoutComesFirst(t *testing.T) {
	for _, l := range wrongLayouts() {
		if stripe.Right(l) {
			t.Errorf("Right(%v) is true", l)
		}
		for _, a := range []int{0, 1, -1, 100, api.MaxTime, api.MaxTime + 1, math.MinInt, math.MaxInt} {
			if object, from, err := stripe.Where(l, a); object != 0 || from != 0 || err != api.ErrForm {
				t.Errorf("Where(%v, %d) is %d, %d, %d, want 0, 0, ErrForm", l, a, object, from, err)
			}
			checkNoSizes(t, l, a, api.ErrForm)
			for _, b := range []int{0, 1, -1, 2000, api.MaxTime, math.MinInt, math.MaxInt} {
				checkBack(t, l, a, b, 0, api.ErrForm)
				checkNoSplit(t, l, a, b, api.ErrForm)
			}
		}
	}
}

// Promise F1: the chapter's layout of two bytes a unit, three objects side by
// side and two units on each, and places computed apart from the program.
func TestWhereAndBack(t *testing.T) {
	small := api.Layout{Unit: 2, Wide: 3, Deep: 2}
	odd := api.Layout{Unit: 999983, Wide: 97, Deep: 1009}
	for _, c := range []struct {
		l    api.Layout
		at   int
		want spot
	}{
		{small, 0, spot{0, 0}}, {small, 1, spot{0, 1}}, {small, 2, spot{1, 0}}, {small, 5, spot{2, 1}},
		{small, 6, spot{0, 2}}, {small, 9, spot{1, 3}}, {small, 15, spot{4, 1}}, {small, 18, spot{3, 2}},
		{small, 11, spot{2, 3}}, {small, 12, spot{3, 0}}, // the last byte of a set, and the first of the next one
		{small, 23, spot{5, 3}}, {small, 24, spot{6, 0}},
		{small, 1000007, spot{250001, 3}},
		{small, api.MaxTime - 1, spot{274877906944, 1}}, {small, api.MaxTime, spot{274877906945, 0}},
		{api.Layout{Unit: 1, Wide: 1, Deep: 1}, api.MaxTime, spot{api.MaxTime, 0}},
		{api.Layout{Unit: 1, Wide: 100, Deep: 1}, api.MaxTime, spot{api.MaxTime, 0}},
		{api.Layout{Unit: 1, Wide: 1, Deep: 1024}, 1023, spot{0, 1023}}, {api.Layout{Unit: 1, Wide: 1, Deep: 1024}, 1024, spot{1, 0}},
		{api.Layout{Unit: 1, Wide: 100, Deep: 1024}, 1000007, spot{907, 784}},
		{api.Layout{Unit: 1, Wide: 100, Deep: 1024}, api.MaxTime, spot{1073741876, 245}},
		{api.Layout{Unit: maxUnit, Wide: 1, Deep: 1}, api.MaxTime - 1, spot{1048575, 1048575}},
		{api.Layout{Unit: maxUnit, Wide: 1, Deep: 1024}, api.MaxTime, spot{1024, 0}},
		{api.Layout{Unit: 4096, Wide: 5, Deep: 16}, 1000007, spot{19, 583}},
		{api.Layout{Unit: 4096, Wide: 5, Deep: 16}, api.MaxTime, spot{16777216, 12288}},
		{odd, 97871336158, spot{96, 1008982846}}, {odd, 97871336159, spot{97, 0}}, {odd, api.MaxTime, spot{1102, 236315774}},
		{greatest, 107374182399, spot{99, 1073741823}}, {greatest, 107374182400, spot{100, 0}},
		{greatest, api.MaxTime - 1, spot{1075, 257949695}}, {greatest, api.MaxTime, spot{1076, 256901120}},
	} {
		checkWhere(t, c.l, c.at, c.want)
		checkBack(t, c.l, c.want.object, c.want.from, c.at, api.OK)
	}
}

// Promise F1: every byte of files that are laid out unit by unit is where Where
// says, and Back leads from there to it.
func TestWhereAndBackByteByByte(t *testing.T) {
	for _, l := range smallLayouts() {
		for at, s := range laidOut(l, 1000) {
			checkWhere(t, l, at, s)
			checkBack(t, l, s.object, s.from, at, api.OK)
		}
	}
}

// Promise F1: Back undoes Where for layouts of all sizes and offsets up to
// MaxTime, and no object has an offset that it does not hold.
func TestBackUndoesWhere(t *testing.T) {
	for _, l := range variedLayouts() {
		for _, at := range offsets(l) {
			object, from, err := stripe.Where(l, at)
			if object < 0 || from < 0 || from >= l.Unit*l.Deep || err != api.OK {
				t.Errorf("Where(%v, %d) is %d, %d, %d", l, at, object, from, err)
			}
			checkBack(t, l, object, from, at, api.OK)
		}
	}
}

// Promise F1: Where undoes Back, for the objects and the offsets in them that
// are at and near the ends, and those far away; where it cannot, the file
// offset is too large.
func TestWhereUndoesBack(t *testing.T) {
	for _, l := range variedLayouts() {
		last := l.Unit*l.Deep - 1
		end, _, _ := stripe.Where(l, api.MaxTime)
		for _, object := range []int{0, 1, l.Wide - 1, l.Wide, 2*l.Wide - 1, 999, 1000000, end - l.Wide, end - 1, end, end + 1, end + l.Wide, 2 * end, api.MaxTime} {
			if object < 0 || object > api.MaxTime {
				continue
			}
			for _, from := range []int{0, 1, l.Unit - 1, l.Unit, last / 2, last - l.Unit, last - 1, last} {
				if from < 0 || from > last {
					continue
				}
				at, err := stripe.Back(l, object, from)
				switch {
				case err == api.OK && at >= 0 && at <= api.MaxTime:
					checkWhere(t, l, at, spot{object, from})
				case err != api.ErrNone || at != 0 || object <= end-l.Wide:
					t.Errorf("Back(%v, %d, %d) is %d, %d", l, object, from, at, err)
				}
			}
		}
	}
}

// Promise F1: offsets of Where are between 0 and MaxTime.
func TestWhereErrors(t *testing.T) {
	for _, l := range append(variedLayouts(), smallLayouts()...) {
		for _, at := range []int{-1, -2, -1000, math.MinInt, api.MaxTime + 1, api.MaxTime + 2, 1 << 41, 1 << 62, math.MaxInt} {
			if object, from, err := stripe.Where(l, at); object != 0 || from != 0 || err != api.ErrRange {
				t.Errorf("Where(%v, %d) is %d, %d, %d, want 0, 0, ErrRange", l, at, object, from, err)
			}
		}
	}
}

// Promise F1: objects of Back are between 0 and MaxTime, and offsets in them on
// one of their units; that comes before file offsets that are too large.
func TestBackRange(t *testing.T) {
	for _, l := range append(variedLayouts(), smallLayouts()...) {
		all := l.Unit * l.Deep
		for _, object := range []int{-1, -2, -l.Wide, math.MinInt, api.MaxTime + 1, 1 << 44, math.MaxInt} {
			for _, from := range []int{0, all - 1, -1, all, math.MaxInt} {
				checkBack(t, l, object, from, 0, api.ErrRange)
			}
		}
		for _, from := range []int{-1, -2, -l.Unit, math.MinInt, all, all + 1, 2 * all, 1 << 50, math.MaxInt} {
			for _, object := range []int{0, 1, l.Wide, 5000, api.MaxTime - 1, api.MaxTime} {
				checkBack(t, l, object, from, 0, api.ErrRange)
			}
		}
	}
}

// Promise F1: places whose file offset is greater than MaxTime are ErrNone: by
// one byte, by a unit, by many sets, and by so much that the offset is not an
// int any more.
func TestBackTooFar(t *testing.T) {
	small := api.Layout{Unit: 2, Wide: 3, Deep: 2}
	odd := api.Layout{Unit: 999983, Wide: 97, Deep: 1009}
	deep := api.Layout{Unit: maxUnit, Wide: 1, Deep: 1024}
	for _, c := range []struct {
		l    api.Layout
		last spot // the place of MaxTime
	}{
		{small, spot{274877906945, 0}}, {odd, spot{1102, 236315774}}, {deep, spot{1024, 0}}, {greatest, spot{1076, 256901120}},
	} {
		checkBack(t, c.l, c.last.object, c.last.from, api.MaxTime, api.OK)
		checkBack(t, c.l, c.last.object, c.last.from+1, 0, api.ErrNone)
		checkBack(t, c.l, c.last.object+1, c.last.from, 0, api.ErrNone)
		checkBack(t, c.l, c.last.object+c.l.Wide, 0, 0, api.ErrNone)
		checkBack(t, c.l, 2*c.last.object, c.l.Unit*c.l.Deep-1, 0, api.ErrNone)
	}
	for _, l := range variedLayouts() {
		if last := l.Unit*l.Deep - 1; last > 0 {
			checkBack(t, l, api.MaxTime, last, 0, api.ErrNone)
		}
	}
	checkBack(t, api.Layout{Unit: 1, Wide: 1, Deep: 1}, api.MaxTime, 0, api.MaxTime, api.OK)
	checkBack(t, deep, 1<<34, 0, 0, api.ErrNone) // would be 2^64
	checkBack(t, deep, 1<<34+3, 17, 0, api.ErrNone)
	checkBack(t, deep, 1<<33, 0, 0, api.ErrNone) // would be 2^63
	checkBack(t, deep, 1<<33-1, 1<<30-1, 0, api.ErrNone)
	checkBack(t, deep, api.MaxTime, 0, 0, api.ErrNone)
	checkBack(t, greatest, 100<<32, 0, 0, api.ErrNone) // would be 25 times 2^64
	checkBack(t, greatest, 100<<32+7, 5, 0, api.ErrNone)
}

// Promise F2: the chapter's layout, and others: ranges within a unit, over
// units, rows and sets.
func TestSplit(t *testing.T) {
	small := api.Layout{Unit: 2, Wide: 3, Deep: 2}
	checkSplit(t, small, 1, 4, []extent{{0, 1, 1}, {1, 0, 2}, {2, 0, 1}})
	checkSplit(t, small, 0, 1, []extent{{0, 0, 1}})
	checkSplit(t, small, 1, 1, []extent{{0, 1, 1}})
	checkSplit(t, small, 0, 2, []extent{{0, 0, 2}})
	checkSplit(t, small, 4, 4, []extent{{2, 0, 2}, {0, 2, 2}})
	checkSplit(t, small, 11, 2, []extent{{2, 3, 1}, {3, 0, 1}})
	checkSplit(t, small, 0, 14, []extent{{0, 0, 2}, {1, 0, 2}, {2, 0, 2}, {0, 2, 2}, {1, 2, 2}, {2, 2, 2}, {3, 0, 2}})
	checkSplit(t, api.Layout{Unit: 1, Wide: 2, Deep: 1}, 1, 3, []extent{{1, 0, 1}, {2, 0, 1}, {3, 0, 1}})
	checkSplit(t, greatest, maxUnit-1, maxUnit+2, []extent{{0, maxUnit - 1, 1}, {1, 0, maxUnit}, {2, 0, 1}})
	checkSplit(t, greatest, 107374182399, 2, []extent{{99, 1073741823, 1}, {100, 0, 1}})
}

// Promise F2: units that follow each other on one object are one extent; such
// on different ones are not, even where each object holds a single unit.
func TestSplitMerges(t *testing.T) {
	single := api.Layout{Unit: 3, Wide: 1, Deep: 4}
	checkSplit(t, single, 0, 12, []extent{{0, 0, 12}})
	checkSplit(t, single, 2, 8, []extent{{0, 2, 8}})
	checkSplit(t, single, 11, 2, []extent{{0, 11, 1}, {1, 0, 1}})
	checkSplit(t, single, 7, 20, []extent{{0, 7, 5}, {1, 0, 12}, {2, 0, 3}})
	checkSplit(t, api.Layout{Unit: 3, Wide: 1, Deep: 1}, 2, 5, []extent{{0, 2, 1}, {1, 0, 3}, {2, 0, 1}})
	checkSplit(t, api.Layout{Unit: 3, Wide: 2, Deep: 1}, 2, 5, []extent{{0, 2, 1}, {1, 0, 3}, {2, 0, 1}})
	checkSplit(t, api.Layout{Unit: 1, Wide: 1, Deep: 1024}, 1000, 400, []extent{{0, 1000, 24}, {1, 0, 376}})
	tall := api.Layout{Unit: maxUnit, Wide: 1, Deep: 1024}
	checkSplit(t, tall, 0, 401*maxUnit-1, []extent{{0, 0, 401*maxUnit - 1}})
	checkSplit(t, tall, 1023*maxUnit+5, 2*maxUnit, []extent{{0, 1023*maxUnit + 5, maxUnit - 5}, {1, 0, maxUnit + 5}})
}

// Promise F2: an empty range has no extents, wherever it is, and a file of no
// byte has no objects.
func TestNoBytes(t *testing.T) {
	for _, l := range append(variedLayouts(), smallLayouts()...) {
		for _, at := range []int{0, 1, l.Unit - 1, l.Unit, l.Unit * l.Deep, l.Unit * l.Wide * l.Deep, api.MaxTime - 1, api.MaxTime} {
			checkSplit(t, l, at, 0, nil)
		}
		checkSizes(t, l, 0, nil)
	}
}

// Promise F2: all ranges of files that are laid out unit by unit have the
// extents that their bytes have one by one.
func TestSplitByteByByte(t *testing.T) {
	const all = 70
	for _, l := range smallLayouts() {
		spots := laidOut(l, all)
		for at := range all {
			for end := at; end <= all; end++ {
				checkSplit(t, l, at, end-at, slowExtents(spots[at:end]))
			}
		}
	}
}

// Promise F2: long ranges, in files laid out unit by unit, from the start on
// and from elsewhere.
func TestSplitLongRanges(t *testing.T) {
	for _, l := range smallLayouts() {
		most := 401*l.Unit - 1
		spots := laidOut(l, 2*most)
		for _, at := range []int{0, 1, l.Unit - 1, l.Unit + 1, most / 2, most} {
			checkSplit(t, l, at, most, slowExtents(spots[at:at+most]))
			checkSplit(t, l, at, most-1, slowExtents(spots[at:at+most-1]))
		}
	}
}

// checkExtents checks that extents are those of a range, by Back: each begins
// where the one before it ends, and none goes on where that one ends in the
// same object.
func checkExtents(t *testing.T, l api.Layout, at, long int, extents []api.Extent) {
	t.Helper()
	end := at + long
	for i, e := range extents {
		if e.Long < 1 || e.Long > end-at {
			t.Fatalf("Split(%v, %d, %d) has %v with %d bytes left", l, end-long, long, e, end-at)
		}
		if i > 0 && extents[i-1].Object == e.Object && extents[i-1].From+extents[i-1].Long == e.From {
			t.Fatalf("Split(%v, %d, %d) has %v behind %v", l, end-long, long, e, extents[i-1])
		}
		checkBack(t, l, e.Object, e.From, at, api.OK)
		checkBack(t, l, e.Object, e.From+e.Long-1, at+e.Long-1, api.OK)
		at += e.Long
	}
	if at != end {
		t.Fatalf("Split(%v, %d, %d) ends at %d", l, end-long, long, at)
	}
}

// Promise F2: ranges of layouts of all sizes, up to MaxTime.
func TestSplitByBack(t *testing.T) {
	for _, l := range variedLayouts() {
		for i, at := range offsets(l) {
			lengths := []int{1, 2, l.Unit, l.Unit + 1, 5*l.Unit + 1, api.MaxTime - at}
			if i%10 == 0 { // only sometimes, because there are many extents
				lengths = append(lengths, 401*l.Unit-1)
			}
			for _, long := range lengths {
				if at+long > api.MaxTime || long/l.Unit > api.MaxOps {
					continue
				}
				extents, err := stripe.Split(l, at, long)
				if err != api.OK {
					t.Fatalf("Split(%v, %d, %d) is %d, want OK", l, at, long, err)
				}
				checkExtents(t, l, at, long, extents)
			}
		}
	}
}

// Promise F2: a range may end at MaxTime, but not one byte behind it, nor so
// far that its end is not an int any more.
func TestSplitAtTheEnd(t *testing.T) {
	for _, l := range append(variedLayouts(), smallLayouts()...) {
		object, from, _ := stripe.Where(l, api.MaxTime-1)
		checkSplit(t, l, api.MaxTime-1, 1, []extent{{object, from, 1}})
		for _, long := range []int{0, 1, 2, l.Unit, 400 * l.Unit, 401*l.Unit - 1} {
			if got, err := stripe.Split(l, api.MaxTime-long, long); err != api.OK {
				t.Errorf("Split(%v, %d, %d) is %v, %d, want OK", l, api.MaxTime-long, long, got, err)
			}
			checkNoSplit(t, l, api.MaxTime-long+1, long, api.ErrRange)
			checkNoSplit(t, l, math.MaxInt-long, long, api.ErrRange)
			checkNoSplit(t, l, math.MaxInt, long, api.ErrRange)
		}
		checkNoSplit(t, l, math.MaxInt, 1, api.ErrRange)
		checkNoSplit(t, l, 1, math.MaxInt, api.ErrRange)
		checkNoSplit(t, l, math.MaxInt, math.MaxInt, api.ErrRange)
	}
	// few enough units, so that only MaxTime is in the way
	checkNoSplit(t, greatest, api.MaxTime-400*maxUnit, 400*maxUnit+1, api.ErrRange)
}

// Promise F2: no more than MaxOps units are allowed, besides a part of one,
// wherever the range begins; neither offset nor length is negative.
func TestSplitErrors(t *testing.T) {
	for _, l := range append(variedLayouts(), smallLayouts()...) {
		for _, at := range []int{0, 1, l.Unit - 1, 12345, api.MaxTime / 2} {
			for _, long := range []int{400 * l.Unit, 401*l.Unit - 1} {
				if got, err := stripe.Split(l, at, long); len(got) == 0 || err != api.OK {
					t.Errorf("Split(%v, %d, %d) is %v, %d, want OK", l, at, long, got, err)
				}
			}
			for _, long := range []int{401 * l.Unit, 401*l.Unit + 1, 402 * l.Unit, 1 << 38, api.MaxTime, math.MaxInt} {
				checkNoSplit(t, l, at, long, api.ErrRange)
			}
			for _, long := range []int{-1, -2, -l.Unit, -at, -500 * l.Unit, math.MinInt} {
				if long < 0 {
					checkNoSplit(t, l, at, long, api.ErrRange)
				}
			}
		}
		for _, at := range []int{-1, -2, -l.Unit, math.MinInt} {
			for _, long := range []int{0, 1, 2, 400 * l.Unit, 401 * l.Unit, -1, math.MinInt, math.MaxInt, -at} {
				checkNoSplit(t, l, at, long, api.ErrRange)
			}
		}
	}
}

// Promise F2: the chapter's layout, and others: the last byte of a unit, of a
// row and of a set, and the first one behind it.
func TestSizes(t *testing.T) {
	small := api.Layout{Unit: 2, Wide: 3, Deep: 2}
	for long, want := range [][]int{
		{}, {1}, {2}, {2, 1}, {2, 2}, {2, 2, 1}, {2, 2, 2}, {3, 2, 2}, {4, 2, 2}, {4, 3, 2}, {4, 4, 2}, {4, 4, 3}, {4, 4, 4},
		{4, 4, 4, 1}, {4, 4, 4, 2}, {4, 4, 4, 2, 1},
	} {
		checkSizes(t, small, long, want)
	}
	checkSizes(t, api.Layout{Unit: 3, Wide: 1, Deep: 4}, 26, []int{12, 12, 2})
	checkSizes(t, api.Layout{Unit: 1, Wide: 100, Deep: 1024}, 400, slices.Repeat([]int{4}, 100))
	checkSizes(t, api.Layout{Unit: 1, Wide: 100, Deep: 1024}, 101, append([]int{2}, slices.Repeat([]int{1}, 99)...))
	checkSizes(t, api.Layout{Unit: maxUnit, Wide: 1, Deep: 1024}, 401*maxUnit-1, []int{401*maxUnit - 1})
	checkSizes(t, api.Layout{Unit: maxUnit, Wide: 100, Deep: 4}, 400*maxUnit, slices.Repeat([]int{4 * maxUnit}, 100))
	checkSizes(t, api.Layout{Unit: maxUnit, Wide: 100, Deep: 4}, 400*maxUnit+1, append(slices.Repeat([]int{4 * maxUnit}, 100), 1))
	checkSizes(t, api.Layout{Unit: maxUnit, Wide: 100, Deep: 1}, 101*maxUnit+7, append(slices.Repeat([]int{maxUnit}, 101), 7))
}

// Promise F2: files of every size up to the greatest one, laid out unit by unit.
func TestSizesByteByByte(t *testing.T) {
	for _, l := range smallLayouts() {
		most := 401*l.Unit - 1
		spots := laidOut(l, most)
		step := 1 + most/500
		for long := 0; long <= most; long += step {
			checkSizes(t, l, long, slowSizes(spots[:long]))
		}
		checkSizes(t, l, most, slowSizes(spots))
	}
}

// Promise F2: together the objects hold the file, with the last byte in the
// place that Where says, for layouts of all sizes.
func TestSizesByWhere(t *testing.T) {
	for _, l := range variedLayouts() {
		for _, long := range []int{1, l.Unit, l.Unit + 1, 99*l.Unit + 3, 100 * l.Unit, 250*l.Unit + 1, 401*l.Unit - 1} {
			if long/l.Unit > api.MaxOps {
				continue
			}
			sizes, err := stripe.Sizes(l, long)
			sum := 0
			for _, size := range sizes {
				sum += size
			}
			object, from, _ := stripe.Where(l, long-1)
			if err != api.OK || sum != long || object >= len(sizes) || sizes[object] != from+1 {
				t.Errorf("Sizes(%v, %d) is %v, %d; the last byte is %d of object %d", l, long, sizes, err, from, object)
			}
		}
	}
}

// Promise F2: the errors of Sizes are those of Split for the range from 0.
func TestSizesErrors(t *testing.T) {
	for _, l := range append(variedLayouts(), smallLayouts()...) {
		for _, long := range []int{400 * l.Unit, 401*l.Unit - 1} {
			if got, err := stripe.Sizes(l, long); len(got) == 0 || err != api.OK {
				t.Errorf("Sizes(%v, %d) is %v, %d, want OK", l, long, got, err)
			}
		}
		for _, long := range []int{
			-1, -2, -l.Unit, math.MinInt, 401 * l.Unit, 401*l.Unit + 1, 402 * l.Unit, api.MaxTime - 1, api.MaxTime, api.MaxTime + 1, math.MaxInt,
		} {
			checkNoSizes(t, l, long, api.ErrRange)
		}
	}
}

// Promises AA1 and AA2: calls give the same results again, each in memory of
// its own, whatever becomes of the earlier ones.
func TestResultsAreNew(t *testing.T) {
	for _, l := range smallLayouts() {
		spots := laidOut(l, 21)
		for range 3 {
			checkSplit(t, l, 1, 20, slowExtents(spots[1:]))
			checkSizes(t, l, 21, slowSizes(spots))
			extents, _ := stripe.Split(l, 1, 20)
			sizes, _ := stripe.Sizes(l, 21)
			clear(extents[:cap(extents)])
			clear(sizes[:cap(sizes)])
		}
	}
}
