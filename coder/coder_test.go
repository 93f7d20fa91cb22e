package coder_test

import (
	"bytes"
	"math"
	"slices"
	"testing"

	"strawloft/api"
	"strawloft/coder"
	"strawloft/curve"
)

// mixed is n rows of long bytes of mixed sizes.
func mixed(n, long, seed int) [][]byte {
	rows := make([][]byte, n)
	for i := range rows {
		for k := range long {
			rows[i] = append(rows[i], byte(i*i*7+i*k*seed+k*13+seed+i*k/5))
		}
	}
	return rows
}

// copied is the rows in new memory.
func copied(rows [][]byte) [][]byte {
	var list [][]byte
	for _, row := range rows {
		list = append(list, bytes.Clone(row))
	}
	return list
}

// allPieces is the data rows and more parity rows, as pieces.
func allPieces(t *testing.T, rows [][]byte, more int) []api.Piece {
	t.Helper()
	parity, err := coder.More(rows, more)
	if err != api.OK || len(parity) != more {
		t.Fatalf("More(%d rows, %d) has %d rows, %d", len(rows), more, len(parity), err)
	}
	var l []api.Piece
	for at, row := range append(copied(rows), copied(parity)...) {
		l = append(l, api.Piece{At: at, Data: row})
	}
	return l
}

// blank is a piece of length 0 for each number.
func blank(numbers ...int) []api.Piece {
	var l []api.Piece
	for _, at := range numbers {
		l = append(l, api.Piece{At: at})
	}
	return l
}

// upTo is the numbers below n.
func upTo(n int) []int {
	var numbers []int
	for i := range n {
		numbers = append(numbers, i)
	}
	return numbers
}

// sameRows reports whether the rows hold the same bytes.
func sameRows(a, b [][]byte) bool {
	return slices.EqualFunc(a, b, bytes.Equal)
}

// checkBack checks that the data rows are want, without an error.
func checkBack(t *testing.T, more int, l []api.Piece, want [][]byte) {
	t.Helper()
	if got, err := coder.Back(len(want), more, l); !sameRows(got, want) || err != api.OK {
		t.Errorf("Back(%d, %d, %v) is %v, %d, want %v, OK", len(want), more, l, got, err, want)
	}
}

// checkRight checks what Right says of the pieces, without an error.
func checkRight(t *testing.T, rows, more int, l []api.Piece, want bool) {
	t.Helper()
	if got, err := coder.Right(rows, more, l); got != want || err != api.OK {
		t.Errorf("Right(%d, %d, %v) is %t, %d, want %t, OK", rows, more, l, got, err, want)
	}
}

// Promise D1: the limits of the numbers of rows, each on its own.
func TestWrong(t *testing.T) {
	for _, rows := range []int{math.MinInt, -100, -1, 0, 1, 2, 50, 99, 100, 101, 200, math.MaxInt} {
		for _, more := range []int{math.MinInt, -100, -1, 0, 1, 2, 50, 99, 100, 101, 200, math.MaxInt} {
			want := api.OK
			if rows < 1 || rows > 100 || more < 0 || more > 100 {
				want = api.ErrRange
			}
			if got := coder.Wrong(rows, more); got != want {
				t.Errorf("Wrong(%d, %d) is %d, want %d", rows, more, got, want)
			}
		}
	}
}

// Promise D1: parity rows, computed apart from the program (by solving the
// linear equations for the coefficients).
func TestMore(t *testing.T) {
	for _, c := range []struct{ rows, want [][]byte }{
		{[][]byte{{9}, {9}}, [][]byte{{9}}},
		{[][]byte{{0}, {9}}, [][]byte{{18}}},
		{[][]byte{{7, 0, 255}}, [][]byte{{7, 0, 255}, {7, 0, 255}, {7, 0, 255}}},
		{[][]byte{{1, 2, 3}, {4, 5, 6}}, [][]byte{{11, 12, 9}, {14, 11, 12}}},
		{[][]byte{{1, 2, 3, 4}, {5, 6, 7, 8}, {9, 10, 11, 12}},
			[][]byte{{13, 14, 15, 0}, {17, 18, 19, 84}, {21, 22, 23, 88}}},
		{[][]byte{{255, 0}, {0, 255}, {128, 1}, {1, 128}},
			[][]byte{{29, 251}, {251, 29}, {181, 45}, {45, 181}}},
		{[][]byte{{0}, {0}, {1}}, [][]byte{{1}, {6}, {6}, {7}, {7}}},
		{[][]byte{{72, 101}, {108, 108}, {111, 33}, {0, 255}, {200, 100}}, [][]byte{{75, 165}, {141, 214}}},
		{[][]byte{{0, 0}, {0, 0}}, [][]byte{{0, 0}, {0, 0}}},
	} {
		for more := range len(c.want) + 1 { // fewer parity rows are the first ones
			want := c.want[:more]
			if got, err := coder.More(c.rows, more); !sameRows(got, want) || err != api.OK {
				t.Errorf("More(%v, %d) is %v, %d, want %v, OK", c.rows, more, got, err, want)
			}
		}
	}
}

// Promise D1: parity of as many rows as there may be, computed apart from the
// program; its numbers go beyond 127, up to 199.
func TestMoreOfManyRows(t *testing.T) {
	rows := make([][]byte, 100)
	for i := range rows {
		rows[i] = []byte{byte(i * 37), byte(i*i + 5)}
	}
	parity, err := coder.More(rows, 100)
	if err != api.OK || len(parity) != 100 {
		t.Fatalf("More of 100 rows has %d rows, %d", len(parity), err)
	}
	for _, c := range []struct {
		at   int
		want []byte
	}{
		{0, []byte{52, 222}}, {1, []byte{254, 138}}, {27, []byte{169, 196}},
		{28, []byte{175, 35}}, {98, []byte{165, 81}}, {99, []byte{209, 211}},
	} {
		if !bytes.Equal(parity[c.at], c.want) {
			t.Errorf("parity row %d is %v, want %v", c.at, parity[c.at], c.want)
		}
	}
}

// Promise D1: at each byte position, one polynomial with at most as many
// coefficients as there are data rows has the bytes of all rows as values.
func TestMoreIsOnThePolynomials(t *testing.T) {
	for _, c := range []struct{ rows, more, long int }{
		{1, 1, 3}, {2, 2, 300}, {3, 100, 9}, {17, 5, 40}, {100, 1, 4}, {99, 100, 3}, {100, 100, 3},
	} {
		l := allPieces(t, mixed(c.rows, c.long, 3), c.more)
		for k := range c.long {
			var xs, ys []byte
			for _, piece := range l {
				xs, ys = append(xs, byte(piece.At)), append(ys, piece.Data[k])
			}
			p, err := curve.Through(xs, ys)
			if err != api.OK || len(p) > c.rows {
				t.Fatalf("%d rows at position %d need %d coefficients, %d", c.rows, k, len(p), err)
			}
		}
	}
}

// Promise D1: all bytes count, whatever their value and position.
func TestMoreOfAllBytes(t *testing.T) {
	var every []byte
	for i := range 256 {
		every = append(every, byte(i))
	}
	rows := [][]byte{make([]byte, 256), every}
	parity, err := coder.More(rows, 1)
	if err != api.OK || len(parity) != 1 {
		t.Fatalf("More has %d rows, %d", len(parity), err)
	}
	for i, got := range parity[0] { // the line through (0, 0) and (1, i)
		if want := curve.At([]byte{0, byte(i)}, 2); got != want {
			t.Errorf("the parity of 0 and %d is %d, want %d", i, got, want)
		}
	}
}

// Promise D1: empty rows have empty parity rows, as many as asked for; nil and
// empty rows are the same.
func TestMoreOfEmptyRows(t *testing.T) {
	for _, rows := range [][][]byte{{nil}, {{}}, {nil, {}}, {{}, nil, nil}, make([][]byte, 100)} {
		for _, more := range []int{0, 1, 100} {
			got, err := coder.More(rows, more)
			if !sameRows(got, make([][]byte, more)) || err != api.OK {
				t.Errorf("More(%v, %d) is %v, %d, want %d empty rows, OK", rows, more, got, err, more)
			}
		}
	}
}

// Promise D1: wrong numbers of rows are ErrRange, even if the rows have
// different lengths.
func TestMoreOfWrongNumbers(t *testing.T) {
	uneven := append(make([][]byte, 100), []byte{1})
	for _, c := range []struct {
		rows [][]byte
		more int
	}{
		{nil, 0}, {nil, 1}, {[][]byte{}, 2}, {[][]byte{}, -1}, {make([][]byte, 101), 1}, {uneven, 0},
		{mixed(2, 3, 1), -1}, {mixed(2, 3, 1), 101}, {mixed(2, 3, 1), math.MaxInt}, {mixed(2, 3, 1), math.MinInt},
		{[][]byte{{1}, {1, 2}}, -1}, {[][]byte{{1}, {1, 2}}, 101}, {mixed(101, 2, 5), 100},
	} {
		if got, err := coder.More(c.rows, c.more); len(got) != 0 || err != api.ErrRange {
			t.Errorf("More(%v, %d) is %v, %d, want none, ErrRange", c.rows, c.more, got, err)
		}
	}
}

// Promise D1: rows of different lengths are ErrForm, whichever is longer, even
// if no parity is asked for and if spare capacity would make them alike.
func TestMoreOfDifferentLengths(t *testing.T) {
	long := []byte{1, 2, 3}
	for _, rows := range [][][]byte{
		{{1}, {1, 2}}, {{1, 2}, {1}}, {nil, {1}}, {{1}, {}}, {{1}, {2}, {3, 4}}, {{1}, {2, 3}, {4}},
		{{1, 2}, {3}, {4, 5}}, {long, long[:2]}, {long[:1], long[:2], long[:1]},
		append(make([][]byte, 99), []byte{1}),
	} {
		for _, more := range []int{0, 1, 100} {
			if got, err := coder.More(rows, more); len(got) != 0 || err != api.ErrForm {
				t.Errorf("More(%v, %d) is %v, %d, want none, ErrForm", rows, more, got, err)
			}
		}
	}
}

// Promise D2: the chapter's example: with two data rows and two parity rows
// any two pieces suffice, in any order. The parity was computed apart from the
// program.
func TestBackOfAnyTwo(t *testing.T) {
	all := [][]byte{{1, 2, 3}, {4, 5, 6}, {11, 12, 9}, {14, 11, 12}}
	for a := range all {
		for b := range all {
			if a == b {
				continue
			}
			l := []api.Piece{{At: a, Data: all[a]}, {At: b, Data: all[b]}}
			checkBack(t, 2, l, all[:2])
			checkRight(t, 2, 2, l, true)
		}
	}
}

// Promise D2: any choice of as many pieces as there are data rows, or of more,
// gives these.
func TestBackOfEveryChoice(t *testing.T) {
	for _, c := range []struct{ rows, more int }{{1, 4}, {2, 5}, {3, 3}, {4, 3}, {5, 1}, {6, 2}, {3, 0}} {
		rows := mixed(c.rows, 5, c.more+2)
		all := allPieces(t, rows, c.more)
		for choice := range 1 << len(all) {
			var l []api.Piece
			for i, piece := range all {
				if choice>>i&1 == 1 {
					l = append(l, piece)
				}
			}
			if len(l) >= c.rows {
				checkBack(t, c.more, l, rows)
				slices.Reverse(l)
				checkBack(t, c.more, l, rows)
				checkRight(t, c.rows, c.more, l, true)
			}
		}
	}
}

// Promise D2: as many rows as there may be come back from parity alone, from
// data alone, and from both in a mixed order.
func TestBackOfManyRows(t *testing.T) {
	rows := mixed(100, 6, 9)
	all := allPieces(t, rows, 100)
	checkBack(t, 100, all[100:], rows)
	checkBack(t, 100, all[:100], rows)
	checkBack(t, 0, all[:100], rows)
	checkBack(t, 100, all, rows)
	var l []api.Piece
	for i := range all {
		l = append(l, all[(i*77+5)%200])
	}
	checkBack(t, 100, l[:100], rows)
	checkBack(t, 100, l[60:160], rows)
	checkRight(t, 100, 100, l, true)
	checkRight(t, 100, 100, l[60:], true)
}

// Promise D2: long rows come back byte by byte.
func TestBackOfLongRows(t *testing.T) {
	rows := mixed(3, 5000, 11)
	all := allPieces(t, rows, 2)
	for _, l := range [][]api.Piece{all[2:], {all[4], all[0], all[3]}, {all[1], all[3], all[2]}} {
		if got, err := coder.Back(3, 2, l); !sameRows(got, rows) || err != api.OK {
			t.Errorf("the long rows do not come back, %d", err)
		}
	}
}

// Promise D2: Back uses the first pieces, in the order of l, and neither
// corrects them nor looks at the bytes of later ones.
func TestBackUsesTheFirstPieces(t *testing.T) {
	all := [][]byte{{1, 2, 3}, {4, 5, 6}, {11, 12, 9}, {14, 11, 12}}
	bad := []byte{77, 88, 99}
	checkBack(t, 2, []api.Piece{{At: 3, Data: all[3]}, {At: 1, Data: all[1]}, {At: 0, Data: bad}}, all[:2])
	checkBack(t, 2, []api.Piece{{At: 3, Data: all[3]}, {At: 2, Data: all[2]}, {At: 1, Data: bad}, {At: 0, Data: bad}}, all[:2])
	checkBack(t, 2, []api.Piece{{At: 1, Data: bad}, {At: 0, Data: all[0]}, {At: 2, Data: all[2]}}, [][]byte{all[0], bad})
	checkBack(t, 2, []api.Piece{{At: 2, Data: []byte{18}}, {At: 0, Data: []byte{0}}, {At: 1, Data: []byte{1}}}, [][]byte{{0}, {9}})
}

// Promise D2: pieces of empty rows give empty rows, all of them; nil and empty
// pieces are the same.
func TestBackOfEmptyRows(t *testing.T) {
	checkBack(t, 0, blank(0), make([][]byte, 1))
	checkBack(t, 2, blank(3, 2), make([][]byte, 2))
	checkBack(t, 2, []api.Piece{{At: 3, Data: []byte{}}, {At: 0}}, make([][]byte, 2))
	checkBack(t, 100, blank(upTo(200)[100:]...), make([][]byte, 100))
	checkRight(t, 2, 2, blank(3, 1, 0), true)
	checkRight(t, 100, 100, blank(upTo(200)...), true)
}

// Promise D2: each error of Back and Right, and which one comes first.
func TestBackErrors(t *testing.T) {
	one, two := []byte{1}, []byte{1, 2}
	for _, c := range []struct {
		rows, more int
		l          []api.Piece
		want       api.Errno
	}{
		{0, 0, nil, api.ErrRange}, {-1, 2, blank(0), api.ErrRange}, {101, 0, blank(upTo(101)...), api.ErrRange},
		{2, -1, blank(0, 1), api.ErrRange}, {2, 101, blank(0, 1), api.ErrRange},
		{math.MinInt, 1, blank(0), api.ErrRange}, {math.MaxInt, 1, blank(0), api.ErrRange},
		{1, math.MinInt, blank(0), api.ErrRange}, {1, math.MaxInt, blank(0), api.ErrRange},
		{0, 2, blank(0, 0), api.ErrRange}, {2, -1, blank(0, 0), api.ErrRange},
		{2, 1, blank(-1, 0), api.ErrRange}, {2, 1, blank(0, -1), api.ErrRange}, {2, 1, blank(0, 3), api.ErrRange},
		{2, 1, blank(0, 1, 3), api.ErrRange}, {2, 1, blank(3), api.ErrRange}, {100, 100, blank(200), api.ErrRange},
		{2, 1, blank(256), api.ErrRange}, {2, 1, blank(0, 257), api.ErrRange},
		{2, 1, blank(math.MinInt), api.ErrRange}, {2, 1, blank(math.MaxInt), api.ErrRange},
		{2, 0, blank(0, 2), api.ErrRange}, {1, 0, blank(0, 1), api.ErrRange},
		{2, 1, blank(0, 0), api.ErrHeld}, {2, 1, blank(2, 1, 2), api.ErrHeld}, {2, 1, blank(0, 1, 1), api.ErrHeld},
		{100, 100, append(blank(upTo(200)...), blank(199)...), api.ErrHeld},
		{3, 1, blank(1, 1), api.ErrHeld}, // also where there are too few
		{2, 1, blank(0, 0, 3), api.ErrHeld}, {2, 1, blank(0, 3, 0), api.ErrRange}, {2, 1, blank(3, 0, 0), api.ErrRange},
		{2, 1, []api.Piece{{At: 1, Data: one}, {At: 1, Data: two}}, api.ErrHeld},
		{2, 1, []api.Piece{{At: 1, Data: one}, {At: 3, Data: two}}, api.ErrRange},
		{1, 0, nil, api.ErrShort}, {1, 0, []api.Piece{}, api.ErrShort}, {2, 1, blank(2), api.ErrShort},
		{100, 100, blank(upTo(99)...), api.ErrShort}, {3, 2, []api.Piece{{At: 0, Data: one}, {At: 1, Data: two}}, api.ErrShort},
		{2, 1, []api.Piece{{At: 0, Data: one}, {At: 1, Data: two}}, api.ErrForm},
		{2, 1, []api.Piece{{At: 0, Data: two}, {At: 2, Data: one}}, api.ErrForm},
		{2, 1, []api.Piece{{At: 0}, {At: 2, Data: one}}, api.ErrForm},
		{2, 1, []api.Piece{{At: 0, Data: two}, {At: 2, Data: two[:1]}}, api.ErrForm},
		{2, 1, []api.Piece{{At: 0, Data: one}, {At: 1, Data: one}, {At: 2, Data: two}}, api.ErrForm},
		{1, 2, []api.Piece{{At: 0, Data: two}, {At: 1, Data: one}, {At: 2, Data: two}}, api.ErrForm},
	} {
		if got, err := coder.Back(c.rows, c.more, c.l); len(got) != 0 || err != c.want {
			t.Errorf("Back(%d, %d, %v) is %v, %d, want none, %d", c.rows, c.more, c.l, got, err, c.want)
		}
		if got, err := coder.Right(c.rows, c.more, c.l); got || err != c.want {
			t.Errorf("Right(%d, %d, %v) is %t, %d, want false, %d", c.rows, c.more, c.l, got, err, c.want)
		}
	}
}

// Promise D2: too few pieces are ErrShort, even if spare capacity holds enough.
func TestTooFewPieces(t *testing.T) {
	all := allPieces(t, mixed(4, 3, 7), 3)
	for n := range 4 {
		l := all[:n]
		if got, err := coder.Back(4, 3, l); len(got) != 0 || err != api.ErrShort {
			t.Errorf("Back of %d pieces of 4 is %v, %d, want none, ErrShort", n, got, err)
		}
		if got, err := coder.Right(4, 3, l); got || err != api.ErrShort {
			t.Errorf("Right of %d pieces of 4 is %t, %d, want false, ErrShort", n, got, err)
		}
	}
}

// Promise D2: one more piece than there are data rows shows every change of
// one byte, whichever piece it is in, and in whatever order they stand.
func TestRightFindsEveryChange(t *testing.T) {
	all := allPieces(t, mixed(3, 4, 5), 3)
	for start := range all {
		l := slices.Concat(all[start:], all[:start])[:4]
		for _, piece := range l {
			for k := range piece.Data {
				for _, change := range []byte{1, 128, 255} {
					piece.Data[k] ^= change
					checkRight(t, 3, 3, l, false)
					checkRight(t, 3, 3, all, false)
					piece.Data[k] ^= change
				}
			}
		}
		checkRight(t, 3, 3, l, true)
	}
}

// Promise D2: pieces as many as data rows always fit, whatever their bytes;
// further ones are compared with what the first ones give.
func TestRightComparesWithTheFirstPieces(t *testing.T) {
	piece := func(at int, c byte) api.Piece { return api.Piece{At: at, Data: []byte{c}} }
	for _, c := range []struct {
		rows, more int
		l          []api.Piece
		want       bool
	}{
		{2, 1, []api.Piece{piece(0, 0), piece(1, 9), piece(2, 18)}, true},
		{2, 1, []api.Piece{piece(0, 0), piece(1, 9), piece(2, 19)}, false},
		{2, 1, []api.Piece{piece(2, 19), piece(1, 9), piece(0, 0)}, false},
		{2, 1, []api.Piece{piece(2, 18), piece(1, 9), piece(0, 0)}, true},
		{2, 1, []api.Piece{piece(2, 19), piece(1, 9)}, true},
		{1, 0, []api.Piece{piece(0, 200)}, true},
		{1, 2, []api.Piece{piece(2, 200), piece(0, 200), piece(1, 200)}, true},
		{1, 2, []api.Piece{piece(2, 200), piece(0, 200), piece(1, 201)}, false},
		{1, 2, []api.Piece{piece(2, 200), piece(0, 201), piece(1, 200)}, false},
	} {
		checkRight(t, c.rows, c.more, c.l, c.want)
	}
}

// Promises AA1 and AA2: a call changes neither its arguments nor what lies in
// their spare capacity, and gives the same result again. Arguments may overlap.
func TestArgumentsAreLeft(t *testing.T) {
	memory := []byte{9, 8, 7, 0, 5, 4, 3, 0}
	before := bytes.Clone(memory)
	rows := [][]byte{memory[:3], memory[2:5], memory[4:7], memory[:3]}
	wantRows := slices.Clone(rows)
	l := []api.Piece{{At: 4, Data: memory[:3]}, {At: 0, Data: memory[1:4]}, {At: 2, Data: memory[:3]}, {At: 3, Data: memory[5:]}, {At: 9}}
	numbers := []int{4, 0, 2, 3, 9}
	for range 3 {
		more, err := coder.More(rows[:3], 4)
		again, errAgain := coder.More(rows[:3], 4)
		if err != api.OK || errAgain != api.OK || !sameRows(more, again) {
			t.Fatalf("More is %v, %d, and called again %v, %d", more, err, again, errAgain)
		}
		back, err := coder.Back(3, 2, l[:4])
		again, errAgain = coder.Back(3, 2, l[:4])
		if err != api.OK || errAgain != api.OK || !sameRows(back, again) {
			t.Fatalf("Back is %v, %d, and called again %v, %d", back, err, again, errAgain)
		}
		checkRight(t, 3, 2, l[:3], true)
		if !bytes.Equal(memory, before) || !sameRows(rows, wantRows) {
			t.Fatalf("the rows are %v in %v now, and were %v in %v", rows, memory, wantRows, before)
		}
		for i, piece := range l {
			if piece.At != numbers[i] || i < 4 && len(piece.Data) != 3 {
				t.Fatalf("piece %d is %v now", i, piece)
			}
		}
	}
}

// Promise AA2: the rows of a result are memory of their own, with their spare
// capacity: they share none with the arguments or with each other.
func TestResultsAreNew(t *testing.T) {
	rows := mixed(3, 4, 8)
	want := copied(rows)
	all := allPieces(t, rows, 3)
	parity, _ := coder.More(rows, 3)
	checkOwn(t, "parity", parity)
	wantPieces := allPieces(t, rows, 3)
	for start := range 4 {
		back, _ := coder.Back(3, 3, all[start:start+3])
		checkOwn(t, "data", back)
		for i, piece := range all {
			if !bytes.Equal(piece.Data, wantPieces[i].Data) {
				t.Fatalf("piece %d changes with the result", i)
			}
		}
	}
	if !sameRows(rows, want) {
		t.Errorf("the data are %v after a change of the result, want %v", rows, want)
	}
	single := [][]byte{{5, 6}}
	parity, _ = coder.More(single, 2)
	clear(single[0])
	if !sameRows(parity, [][]byte{{5, 6}, {5, 6}}) {
		t.Errorf("the parity is %v after a change of the data", parity)
	}
}

// checkOwn writes over each row in turn and checks that the others stay.
func checkOwn(t *testing.T, name string, rows [][]byte) {
	t.Helper()
	for i, row := range rows {
		want := copied(rows)
		whole := row[:cap(row)]
		for k := range whole {
			whole[k] ^= 255
		}
		for j := range rows {
			if j != i && !bytes.Equal(rows[j], want[j]) {
				t.Fatalf("%s row %d changes with row %d", name, j, i)
			}
		}
	}
}
