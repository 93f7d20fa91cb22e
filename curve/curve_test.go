package curve_test

import (
	"bytes"
	"testing"

	"strawloft/api"
	"strawloft/curve"
	"strawloft/gf"
)

// poly is a polynomial for tests: n coefficients of mixed sizes, the last one
// not 0.
func poly(n, seed int) []byte {
	var p []byte
	for i := range n {
		p = append(p, byte(i*i*7+i*seed+seed/3))
	}
	if n > 0 && p[n-1] == 0 {
		p[n-1] = 1
	}
	return p
}

// allBytes is every byte once, in an order that is not the usual one.
func allBytes() []byte {
	var all []byte
	for i := range 256 {
		all = append(all, byte(i*77+5))
	}
	return all
}

// valueByPowers adds up the terms one by one.
func valueByPowers(p []byte, x byte) byte {
	var value byte
	for n, c := range p {
		power, _ := gf.Pow(x, n)
		value ^= gf.Mul(c, power)
	}
	return value
}

func checkPoly(t *testing.T, name string, got, want []byte) {
	t.Helper()
	if !bytes.Equal(got, want) {
		t.Errorf("%s is %v, want %v", name, got, want)
	}
}

// checkThrough checks that the result is want, without an error.
func checkThrough(t *testing.T, xs, ys, want []byte) {
	t.Helper()
	if got, err := curve.Through(xs, ys); !bytes.Equal(got, want) || err != api.OK {
		t.Errorf("Through(%v, %v) is %v, %d, want %v, OK", xs, ys, got, err, want)
	}
}

// checkRefused checks that the result is err, and no polynomial.
func checkRefused(t *testing.T, xs, ys []byte, want api.Errno) {
	t.Helper()
	if got, err := curve.Through(xs, ys); len(got) != 0 || err != want {
		t.Errorf("Through(%v, %v) is %v, %d, want none, %d", xs, ys, got, err, want)
	}
}

// Promise C1: values, computed apart from the program; the empty list is 0
// everywhere, and trailing zeros change nothing.
func TestAt(t *testing.T) {
	for _, c := range []struct {
		p       []byte
		x, want byte
	}{
		{nil, 0, 0}, {nil, 9, 0}, {[]byte{}, 0, 0}, {[]byte{}, 255, 0},
		{[]byte{0}, 7, 0}, {[]byte{0, 0, 0}, 7, 0},
		{[]byte{5}, 0, 5}, {[]byte{5}, 9, 5},
		{[]byte{0, 1}, 0, 0}, {[]byte{0, 1}, 9, 9},
		{[]byte{1, 2, 3}, 0, 1}, {[]byte{1, 2, 3}, 1, 0}, {[]byte{1, 2, 3}, 2, 9},
		{[]byte{7, 0, 5}, 255, 74}, {[]byte{0, 0, 0, 1}, 128, 117},
		{[]byte{200, 100, 50, 25}, 142, 214}, {[]byte{255, 255, 255, 255}, 255, 149},
		{[]byte{3, 1}, 9, 10}, {[]byte{3, 1, 0, 0}, 9, 10},
	} {
		if got := curve.At(c.p, c.x); got != c.want {
			t.Errorf("At(%v, %d) is %d, want %d", c.p, c.x, got, c.want)
		}
	}
}

// Promise C1: At adds up all terms, also of more than 256 coefficients.
func TestAtAddsUpTheTerms(t *testing.T) {
	for _, n := range []int{1, 2, 9, 255, 256, 257, 700} {
		p := poly(n, 11)
		for x := range 256 {
			want := valueByPowers(p, byte(x))
			if got := curve.At(p, byte(x)); got != want {
				t.Fatalf("At of %d coefficients at %d is %d, want %d", n, x, got, want)
			}
		}
	}
}

// Promise C1: sums of empty lists, of different lengths, and with trailing
// zeros, be they given or the sum of equal coefficients.
func TestSum(t *testing.T) {
	for _, c := range []struct{ p, q, want []byte }{
		{nil, nil, nil}, {[]byte{}, nil, nil}, {[]byte{0, 0}, nil, nil}, {[]byte{0}, []byte{0, 0}, nil},
		{[]byte{1, 2}, []byte{4, 8}, []byte{5, 10}},
		{[]byte{1, 2}, []byte{0, 2}, []byte{1}},
		{[]byte{1, 2}, []byte{1, 3}, []byte{0, 1}},
		{[]byte{1, 2, 3}, []byte{1, 2, 3}, nil},
		{[]byte{1, 2, 3, 4}, []byte{5, 0, 3, 4}, []byte{4, 2}},
		{[]byte{1, 0, 0}, nil, []byte{1}}, {[]byte{1, 0, 9}, []byte{}, []byte{1, 0, 9}},
		{[]byte{255}, []byte{1, 2, 3}, []byte{254, 2, 3}},
		{[]byte{1, 2, 3}, []byte{9, 0, 0, 0, 0}, []byte{8, 2, 3}},
	} {
		checkPoly(t, "Sum", curve.Sum(c.p, c.q), c.want)
		checkPoly(t, "Sum the other way round", curve.Sum(c.q, c.p), c.want)
	}
}

// Promise C1: products, computed apart from the program; of empty lists, and
// with trailing zeros.
func TestTimes(t *testing.T) {
	for _, c := range []struct{ p, q, want []byte }{
		{nil, nil, nil}, {nil, []byte{1, 2}, nil}, {[]byte{}, []byte{1, 2}, nil},
		{[]byte{0, 0}, []byte{1, 2}, nil}, {[]byte{0}, []byte{0}, nil}, {[]byte{0, 0}, nil, nil},
		{[]byte{1}, []byte{9, 0, 8}, []byte{9, 0, 8}},
		{[]byte{5}, []byte{7}, []byte{27}},
		{[]byte{0, 1}, []byte{0, 1}, []byte{0, 0, 1}},
		{[]byte{1, 1}, []byte{1, 1}, []byte{1, 0, 1}},
		{[]byte{1, 2}, []byte{3, 4}, []byte{3, 2, 8}},
		{[]byte{255, 255}, []byte{255, 255}, []byte{226, 0, 226}},
		{[]byte{200, 100, 50}, []byte{25, 12}, []byte{218, 100, 50, 69}},
		{[]byte{2, 0, 3}, []byte{0, 4}, []byte{0, 8, 0, 12}},
		{[]byte{3, 7, 0, 0}, []byte{128, 2, 0}, []byte{157, 161, 14}},
	} {
		checkPoly(t, "Times", curve.Times(c.p, c.q), c.want)
		checkPoly(t, "Times the other way round", curve.Times(c.q, c.p), c.want)
	}
}

// Promise C1: sums and products of long polynomials have the sum and the
// product of the values, and products have the sum of the degrees.
func TestSumAndTimesByTheirValues(t *testing.T) {
	for _, n := range []int{1, 2, 30, 257, 600} {
		p, q := poly(n, 3), poly(2*n/3+1, 200)
		sum, product := curve.Sum(p, q), curve.Times(p, q)
		if len(product) != len(p)+len(q)-1 {
			t.Errorf("the product of %d and %d coefficients has %d", len(p), len(q), len(product))
		}
		for x := range 256 {
			a, b := curve.At(p, byte(x)), curve.At(q, byte(x))
			if got := curve.At(sum, byte(x)); got != a^b {
				t.Fatalf("the sum of %d coefficients is %d at %d, want %d", n, got, x, a^b)
			}
			if got, want := curve.At(product, byte(x)), gf.Mul(a, b); got != want {
				t.Fatalf("the product of %d coefficients is %d at %d, want %d", n, got, x, want)
			}
		}
	}
}

// Promise C1: polynomials of any degree are told apart by their coefficients,
// not by their values: X^256 + X is 0 everywhere, and X^3 * X^300 is X^303.
func TestHighDegrees(t *testing.T) {
	high := make([]byte, 257)
	high[1], high[256] = 1, 1
	checkPoly(t, "Sum of X^256 + X and 0", curve.Sum(high, nil), high)
	third, large, want := make([]byte, 4), make([]byte, 301), make([]byte, 304)
	third[3], large[300], want[303] = 1, 1, 1
	checkPoly(t, "X^3 * X^300", curve.Times(third, large), want)
}

// Promise C1: the chapter's example, and polynomials computed apart from the
// program (by solving the linear equations for the coefficients).
func TestThrough(t *testing.T) {
	for _, c := range []struct{ xs, ys, want []byte }{
		{[]byte{0, 1, 2}, []byte{5, 5, 5}, []byte{5}},
		{nil, nil, nil}, {nil, []byte{}, nil}, {[]byte{}, nil, nil}, {[]byte{}, []byte{}, nil},
		{[]byte{0}, []byte{0}, nil}, {[]byte{7}, []byte{0}, nil}, {[]byte{7}, []byte{9}, []byte{9}},
		{[]byte{0, 255}, []byte{0, 0}, nil},
		{[]byte{0, 1}, []byte{3, 5}, []byte{3, 6}},
		{[]byte{0, 1, 2}, []byte{1, 2, 3}, []byte{1, 246, 245}},
		{[]byte{1, 2, 3}, []byte{10, 20, 30}, []byte{0, 10}},
		{[]byte{10, 20, 30}, []byte{10, 20, 30}, []byte{0, 1}},
		{[]byte{2, 4, 6}, []byte{4, 16, 20}, []byte{0, 0, 1}},
		{[]byte{255, 0, 128, 2}, []byte{1, 0, 255, 7}, []byte{0, 53, 197, 194}},
		{[]byte{0, 1, 2, 3}, []byte{0, 0, 0, 9}, []byte{0, 7, 138, 141}},
		{[]byte{3, 0, 2, 1}, []byte{9, 0, 0, 0}, []byte{0, 7, 138, 141}},
	} {
		checkThrough(t, c.xs, c.ys, c.want)
	}
}

// Promise C1: interpolation is unique, so n points of a polynomial with at
// most n coefficients give this polynomial, up to all 256 points.
func TestThroughFindsThePolynomialAgain(t *testing.T) {
	for _, n := range []int{1, 2, 3, 17, 100, 255, 256} {
		for _, degree := range []int{0, n / 2, n - 1} {
			p, xs := poly(degree+1, n), allBytes()[:n]
			var ys []byte
			for _, x := range xs {
				ys = append(ys, curve.At(p, x))
			}
			checkThrough(t, xs, ys, p)
		}
	}
}

// Promise C1: the polynomial meets any points with different xs, has no more
// coefficients than there are points, and the last one is not 0.
func TestThroughMeetsThePoints(t *testing.T) {
	for n := range 257 {
		xs := allBytes()[:n]
		ys := poly(n, n+40)
		p, err := curve.Through(xs, ys)
		if err != api.OK || len(p) > n || len(p) > 0 && p[len(p)-1] == 0 {
			t.Fatalf("Through %d points is %v, %d", n, p, err)
		}
		for i, x := range xs {
			if got := curve.At(p, x); got != ys[i] {
				t.Fatalf("Through %d points is %d at %d, want %d", n, got, x, ys[i])
			}
		}
	}
}

// Promise C1: different lengths are ErrForm, whichever list is longer, even
// if a value occurs twice and if the spare capacity would make them alike.
func TestThroughOfDifferentLengths(t *testing.T) {
	long := []byte{1, 2, 3}
	for _, c := range []struct{ xs, ys []byte }{
		{nil, []byte{0}}, {[]byte{0}, nil}, {[]byte{}, long}, {long, []byte{}},
		{long, long[:2]}, {long[:2], long}, {long[1:], long[:1]},
		{[]byte{1, 1}, []byte{5}}, {[]byte{1, 1}, long}, {[]byte{4, 4, 4}, nil},
		{allBytes(), make([]byte, 257)}, {make([]byte, 512), allBytes()},
	} {
		checkRefused(t, c.xs, c.ys, api.ErrForm)
	}
}

// Promise C1: a value that occurs twice in xs is ErrHeld, wherever it stands
// and whatever the ys, and so are more points than there are bytes.
func TestThroughOfAValueTwice(t *testing.T) {
	for _, c := range []struct{ xs, ys []byte }{
		{[]byte{1, 1}, []byte{5, 5}}, {[]byte{1, 1}, []byte{5, 6}}, {[]byte{0, 0}, []byte{0, 0}},
		{[]byte{255, 255}, []byte{1, 2}}, {[]byte{3, 1, 2, 3}, []byte{1, 2, 3, 4}},
		{[]byte{1, 2, 3, 3}, []byte{1, 2, 3, 4}}, {[]byte{1, 2, 2, 3}, []byte{0, 0, 0, 0}},
		{append(allBytes(), 9), make([]byte, 257)}, {make([]byte, 5000), make([]byte, 5000)},
	} {
		checkRefused(t, c.xs, c.ys, api.ErrHeld)
	}
	for i := range 255 {
		xs := allBytes()
		xs[i] = xs[255]
		checkRefused(t, xs, make([]byte, 256), api.ErrHeld)
	}
}

// Promise C1: only xs must not hold a value twice; ys may, and may be xs.
func TestThroughOfEqualYs(t *testing.T) {
	checkThrough(t, []byte{1, 2, 3}, []byte{8, 8, 8}, []byte{8})
	all := allBytes()
	checkThrough(t, all, all, []byte{0, 1})
	checkThrough(t, all, bytes.Repeat([]byte{77}, 256), []byte{77})
	checkThrough(t, all, make([]byte, 256), nil)
}

// results returns what each function makes of p and q.
func results(p, q []byte) map[string][]byte {
	through, _ := curve.Through(p, q)
	return map[string][]byte{
		"At":      {curve.At(p, 7), curve.At(q, 7)},
		"Sum":     curve.Sum(p, q),
		"Times":   curve.Times(p, q),
		"Through": through,
	}
}

// Promises AA1 and AA2: a call changes neither its arguments nor their spare
// capacity, and gives the same result again. The two arguments may overlap.
func TestArgumentsAreLeft(t *testing.T) {
	memory := []byte{9, 8, 7, 0, 5, 4, 3, 0}
	before := bytes.Clone(memory)
	for _, c := range []struct{ p, q []byte }{
		{memory[:3], memory[3:6]}, {memory[:4], memory[4:]}, {memory[:3], memory[:3]},
		{memory[:4], memory[2:6]}, {memory[:4], nil}, {nil, memory[:2]}, {memory[:0], memory[:5]},
	} {
		again := results(c.p, c.q)
		for name, got := range results(c.p, c.q) {
			checkPoly(t, name+", called again,", again[name], got)
		}
		if !bytes.Equal(memory, before) {
			t.Fatalf("the arguments are %v now, and were %v", memory, before)
		}
	}
}

// Promise AA2: a result keeps no reference to an argument: neither changes if
// the other one is written over.
func TestResultsAreNew(t *testing.T) {
	for _, c := range []struct{ p, q []byte }{
		{[]byte{1, 2, 3}, nil}, {nil, []byte{1, 2, 3}}, {[]byte{1, 2, 3}, []byte{1}},
		{[]byte{1}, []byte{1, 2, 3}}, {[]byte{0, 1, 2}, []byte{0, 1, 7}}, {[]byte{6}, []byte{9}},
	} {
		p, q := bytes.Clone(c.p), bytes.Clone(c.q)
		want, got := results(c.p, c.q), results(p, q)
		clear(p)
		clear(q)
		for name := range got {
			checkPoly(t, name+" after a change of its arguments", got[name], want[name])
			clear(got[name][:cap(got[name])])
		}
		p, q = bytes.Clone(c.p), bytes.Clone(c.q)
		for _, result := range results(p, q) {
			clear(result[:cap(result)])
		}
		checkPoly(t, "the first argument", p, c.p)
		checkPoly(t, "the second argument", q, c.q)
	}
}
