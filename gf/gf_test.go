package gf_test

import (
	"bytes"
	"math"
	"testing"

	"strawloft/api"
	"strawloft/gf"
)

// modulus is X^8 + X^4 + X^3 + X^2 + 1.
const modulus = 0x11d

// longProduct multiplies as on paper: first the whole product, with up to 15
// coefficients, and then a long division by the modulus.
func longProduct(a, b byte) byte {
	product := 0
	for k := range 8 {
		if b>>k&1 == 1 {
			product ^= int(a) << k
		}
	}
	for k := 14; k >= 8; k-- {
		if product>>k&1 == 1 {
			product ^= modulus << (k - 8)
		}
	}
	return byte(product)
}

// Promise B1: products, computed apart from the program.
func TestMul(t *testing.T) {
	for _, c := range []struct{ a, b, want byte }{
		{0, 0, 0}, {0, 255, 0}, {255, 0, 0}, {1, 255, 255}, {255, 1, 255},
		{128, 2, 29}, {2, 128, 29}, {3, 3, 5}, {3, 7, 9}, {142, 2, 1},
		{254, 2, 225}, {83, 202, 143}, {128, 128, 19}, {255, 255, 226},
	} {
		if got := gf.Mul(c.a, c.b); got != c.want {
			t.Errorf("Mul(%d, %d) is %d, want %d", c.a, c.b, got, c.want)
		}
	}
}

// Promise B1: every product is the one that long division leaves.
func TestMulOfAllBytes(t *testing.T) {
	for a := range 256 {
		for b := range 256 {
			want := longProduct(byte(a), byte(b))
			if got := gf.Mul(byte(a), byte(b)); got != want {
				t.Fatalf("Mul(%d, %d) is %d, want %d", a, b, got, want)
			}
		}
	}
}

// Promise B1: GF(256) is a field, so products are associative and distribute
// over sums.
func TestMulHasTheLawsOfAField(t *testing.T) {
	for a := range 256 {
		for b := range 256 {
			for c := 1; c < 256; c += 14 {
				checkLaws(t, byte(a), byte(b), byte(c))
			}
		}
	}
}

func checkLaws(t *testing.T, a, b, c byte) {
	t.Helper()
	if gf.Mul(gf.Mul(a, b), c) != gf.Mul(a, gf.Mul(b, c)) {
		t.Fatalf("the product of %d, %d and %d depends on the order", a, b, c)
	}
	if gf.Mul(a^b, c) != gf.Mul(a, c)^gf.Mul(b, c) {
		t.Fatalf("Mul(%d + %d, %d) is not the sum of the products", a, b, c)
	}
}

// Promise B1: powers, computed apart from the program; exponents 0 and very
// great, also of 0.
func TestPow(t *testing.T) {
	for _, c := range []struct {
		a    byte
		n    int
		want byte
	}{
		{0, 0, 1}, {1, 0, 1}, {2, 0, 1}, {255, 0, 1},
		{0, 1, 0}, {2, 1, 2}, {255, 1, 255},
		{2, 7, 128}, {2, 8, 29}, {3, 5, 51}, {255, 2, 226},
		{2, 254, 142}, {2, 255, 1}, {2, 256, 2}, {255, 255, 1}, {0, 255, 0},
		{7, 1000000007, 179}, {142, 1 << 40, 142},
		{0, math.MaxInt, 0}, {1, math.MaxInt, 1}, {2, math.MaxInt, 204},
		{3, math.MaxInt, 124}, {3, math.MaxInt - 1, 223}, {255, math.MaxInt, 106},
	} {
		if got, err := gf.Pow(c.a, c.n); got != c.want || err != api.OK {
			t.Errorf("Pow(%d, %d) is %d, %d, want %d, OK", c.a, c.n, got, err, c.want)
		}
	}
}

// Promise B1: Pow multiplies n factors.
func TestPowIsARepeatedProduct(t *testing.T) {
	for a := range 256 {
		want := byte(1)
		for n := range 520 {
			if got, err := gf.Pow(byte(a), n); got != want || err != api.OK {
				t.Fatalf("Pow(%d, %d) is %d, %d, want %d, OK", a, n, got, err, want)
			}
			want = longProduct(want, byte(a))
		}
	}
}

// Promise B1: a negative exponent is ErrRange, whatever the base.
func TestPowOfNegativeExponent(t *testing.T) {
	for _, n := range []int{-1, -2, -255, math.MinInt + 1, math.MinInt} {
		for a := range 256 {
			if got, err := gf.Pow(byte(a), n); got != 0 || err != api.ErrRange {
				t.Errorf("Pow(%d, %d) is %d, %d, want 0, ErrRange", a, n, got, err)
			}
		}
	}
}

// Promise B1: inverses, computed apart from the program.
func TestInv(t *testing.T) {
	for _, c := range []struct{ a, want byte }{
		{1, 1}, {2, 142}, {142, 2}, {3, 244}, {29, 131}, {128, 27}, {255, 253},
	} {
		if got, err := gf.Inv(c.a); got != c.want || err != api.OK {
			t.Errorf("Inv(%d) is %d, %d, want %d, OK", c.a, got, err, c.want)
		}
	}
}

// Promise B1: every byte but 0 has an inverse.
func TestInvOfAllBytes(t *testing.T) {
	for a := 1; a < 256; a++ {
		got, err := gf.Inv(byte(a))
		if longProduct(byte(a), got) != 1 || err != api.OK {
			t.Errorf("Inv(%d) is %d, %d: the product is not 1, or there is an error", a, got, err)
		}
	}
	if got, err := gf.Inv(0); got != 0 || err != api.ErrNone {
		t.Errorf("Inv(0) is %d, %d, want 0, ErrNone", got, err)
	}
}

// Promise B1: quotients, computed apart from the program.
func TestDiv(t *testing.T) {
	for _, c := range []struct{ a, b, want byte }{
		{29, 128, 2}, {29, 2, 128}, {0, 1, 0}, {0, 255, 0}, {255, 1, 255},
		{1, 2, 142}, {1, 255, 253}, {7, 7, 1}, {3, 5, 244},
		{200, 100, 2}, {100, 200, 142},
	} {
		if got, err := gf.Div(c.a, c.b); got != c.want || err != api.OK {
			t.Errorf("Div(%d, %d) is %d, %d, want %d, OK", c.a, c.b, got, err, c.want)
		}
	}
}

// Promise B1: every quotient times its divisor is the dividend; nothing is
// divided by 0, not even 0.
func TestDivOfAllBytes(t *testing.T) {
	for a := range 256 {
		if got, err := gf.Div(byte(a), 0); got != 0 || err != api.ErrNone {
			t.Errorf("Div(%d, 0) is %d, %d, want 0, ErrNone", a, got, err)
		}
		for b := 1; b < 256; b++ {
			got, err := gf.Div(byte(a), byte(b))
			if longProduct(got, byte(b)) != byte(a) || err != api.OK {
				t.Fatalf("Div(%d, %d) is %d, %d: the product is another one, or there is an error", a, b, got, err)
			}
		}
	}
}

// Promise B1: logarithms, computed apart from the program; that of 1 is the
// smallest one, 0, and not 255.
func TestLog(t *testing.T) {
	for _, c := range []struct {
		a    byte
		want int
	}{
		{1, 0}, {2, 1}, {4, 2}, {128, 7}, {29, 8}, {3, 25}, {254, 88}, {255, 175}, {142, 254},
	} {
		if got, err := gf.Log(c.a); got != c.want || err != api.OK {
			t.Errorf("Log(%d) is %d, %d, want %d, OK", c.a, got, err, c.want)
		}
	}
}

// Promise B1: every byte but 0 is a power of 2, and its logarithm is the
// first exponent at which it appears.
func TestLogOfAllBytes(t *testing.T) {
	first := map[byte]int{}
	x := byte(1)
	for n := range 600 {
		if _, seen := first[x]; !seen {
			first[x] = n
		}
		x = longProduct(x, 2)
	}
	for a := 1; a < 256; a++ {
		want, found := first[byte(a)]
		if got, err := gf.Log(byte(a)); got != want || err != api.OK || !found {
			t.Errorf("Log(%d) is %d, %d, want %d, OK", a, got, err, want)
		}
	}
	if got, err := gf.Log(0); got != 0 || err != api.ErrNone {
		t.Errorf("Log(0) is %d, %d, want 0, ErrNone", got, err)
	}
}

// Promise B1: dot products, computed apart from the program; nil and empty
// slices are the same.
func TestDot(t *testing.T) {
	for _, c := range []struct {
		a, b []byte
		want byte
	}{
		{nil, nil, 0}, {nil, []byte{}, 0}, {[]byte{}, nil, 0}, {[]byte{}, []byte{}, 0},
		{[]byte{255}, []byte{255}, 226},
		{[]byte{1, 2}, []byte{3, 128}, 30},
		{[]byte{3, 3}, []byte{7, 7}, 0},
		{[]byte{1, 2, 3, 4}, []byte{5, 6, 7, 8}, 32},
		{[]byte{200, 100, 50}, []byte{0, 255, 1}, 78},
	} {
		if got, err := gf.Dot(c.a, c.b); got != c.want || err != api.OK {
			t.Errorf("Dot(%v, %v) is %d, %d, want %d, OK", c.a, c.b, got, err, c.want)
		}
	}
}

// Promise B1: Dot adds up all products of long slices.
func TestDotOfLongSlices(t *testing.T) {
	var a, b []byte
	var want byte
	for i := range 5000 {
		a, b = append(a, byte(i*7+i/256)), append(b, byte(i*11+i/100))
		want ^= longProduct(a[i], b[i])
	}
	if got, err := gf.Dot(a, b); got != want || err != api.OK {
		t.Errorf("Dot of 5000 bytes is %d, %d, want %d, OK", got, err, want)
	}
}

// Promise B1: slices of different lengths are ErrForm, whichever is longer,
// and even if the spare capacity would make them alike.
func TestDotOfDifferentLengths(t *testing.T) {
	long := []byte{1, 2, 3}
	for _, c := range []struct{ a, b []byte }{
		{nil, []byte{0}}, {[]byte{0}, nil}, {[]byte{}, long}, {long, []byte{}},
		{long, long[:2]}, {long[:2], long}, {long[1:], long[:1]},
	} {
		if got, err := gf.Dot(c.a, c.b); got != 0 || err != api.ErrForm {
			t.Errorf("Dot(%v, %v) is %d, %d, want 0, ErrForm", c.a, c.b, got, err)
		}
	}
}

// Promises AA1 and AA2: Dot changes neither its arguments nor their spare
// capacity, may be given one slice twice, and gives the same result again.
func TestDotLeavesItsArguments(t *testing.T) {
	memory := []byte{9, 8, 7, 6, 5, 4}
	before := bytes.Clone(memory)
	once, _ := gf.Dot(memory[:3], memory[:3])
	again, _ := gf.Dot(memory[:3], memory[:3])
	if once != again {
		t.Errorf("Dot is %d first, and then %d", once, again)
	}
	if want := longProduct(9, 9) ^ longProduct(8, 8) ^ longProduct(7, 7); once != want {
		t.Errorf("Dot of a slice with itself is %d, want %d", once, want)
	}
	if !bytes.Equal(memory, before) {
		t.Errorf("Dot has changed its arguments to %v", memory)
	}
}
