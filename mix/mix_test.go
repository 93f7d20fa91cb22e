package mix_test

import (
	"math"
	"testing"

	"strawloft/mix"
)

// ordinary holds integers with few and with many bits, on both sides of the
// shift by 33 bits.
var ordinary = []uint64{
	0, 1, 2, 3, 255, 1<<31 - 1, 1 << 32, 1<<33 - 1, 1 << 33, 1<<34 + 1,
	0x0123456789abcdef, 1<<63 - 1, 1 << 63, math.MaxUint64 - 1, math.MaxUint64,
}

// Promise A1: the values of One, computed apart from the program.
func TestOne(t *testing.T) {
	for _, c := range []struct{ x, want uint64 }{
		{0, 0},
		{1, 0xb456bcfc34c2cb2c},
		{2, 0x3abf2a20650683e7},
		{1 << 33, 0x6b80f8591e1145c3},
		{1 << 63, 0x8f780810af31a493},
		{math.MaxUint64, 0x64b5720b4b825f21},
		{0x0123456789abcdef, 0x87cbfbfe89022cea},
	} {
		if got := mix.One(c.x); got != c.want {
			t.Errorf("One(%#x) is %#x, want %#x", c.x, got, c.want)
		}
	}
}

// Promise A1: Back has an integer of its own for every value of One.
func TestBack(t *testing.T) {
	for _, c := range []struct{ x, want uint64 }{
		{0, 0},
		{0xb456bcfc34c2cb2c, 1},
		{0x6b80f8591e1145c3, 1 << 33},
		{0x64b5720b4b825f21, math.MaxUint64},
		{0x87cbfbfe89022cea, 0x0123456789abcdef},
	} {
		if got := mix.Back(c.x); got != c.want {
			t.Errorf("Back(%#x) is %#x, want %#x", c.x, got, c.want)
		}
	}
}

// Promise A1: One is a bijection, and Back is its inverse on both sides.
func TestOneAndBackUndoEachOther(t *testing.T) {
	for _, x := range ordinary {
		checkBothWays(t, x)
	}
	for bit := range 64 {
		checkBothWays(t, 1<<bit)
		checkBothWays(t, ^uint64(1<<bit))
	}
	x := uint64(1)
	for range 10000 {
		x = x*6364136223846793005 + 1442695040888963407
		checkBothWays(t, x)
	}
}

func checkBothWays(t *testing.T, x uint64) {
	t.Helper()
	if got := mix.Back(mix.One(x)); got != x {
		t.Errorf("Back(One(%#x)) is %#x", x, got)
	}
	if got := mix.One(mix.Back(x)); got != x {
		t.Errorf("One(Back(%#x)) is %#x", x, got)
	}
}

// Promise A1: the values of Two; the order of its arguments matters, and its
// sum wraps around.
func TestTwo(t *testing.T) {
	for _, c := range []struct{ a, b, want uint64 }{
		{0, 0, 0},
		{0, 1, 0xb456bcfc34c2cb2c},
		{1, 0, 0x7d6e4ac38b2b1be2},
		{1, 2, 0x4e0fcd7162342871},
		{2, 1, 0x91dfcba429edc5f2},
		{1, math.MaxUint64, 0xc4d9ef1eddae8c72},
		{math.MaxUint64, math.MaxUint64, 0x991e11b56a74750e},
		{5, 0x299528c82ab3aa8b, 0}, // One(5) and b add up to 2^64
	} {
		if got := mix.Two(c.a, c.b); got != c.want {
			t.Errorf("Two(%#x, %#x) is %#x, want %#x", c.a, c.b, got, c.want)
		}
	}
}

// Promise A1: Two is One of One(a) + b.
func TestTwoIsMadeOfOne(t *testing.T) {
	for _, a := range ordinary {
		for _, b := range ordinary {
			if got, want := mix.Two(a, b), mix.One(mix.One(a)+b); got != want {
				t.Errorf("Two(%#x, %#x) is %#x, want %#x", a, b, got, want)
			}
		}
	}
}

// Promise A1: Text is One of the FNV-1a hash, whose values here are the
// published ones where there are any.
func TestText(t *testing.T) {
	var every [256]byte
	for i := range every {
		every[i] = byte(i)
	}
	for _, c := range []struct {
		s         string
		fnv, want uint64
	}{
		{"", 0xcbf29ce484222325, 0xefd01f60ba992926},
		{"a", 0xaf63dc4c8601ec8c, 0x82a2a958a9bece5b},
		{"b", 0xaf63df4c8601f1a5, 0x6e673288764ad2d0},
		{"foobar", 0x85944171f73967e8, 0x2c22194922d1672b},
		{string(every[:]), 0x4242dc5249c33625, 0x2067db6dbd4efa06},
	} {
		if got := mix.Text(c.s); got != c.want {
			t.Errorf("Text(%q) is %#x, want %#x", c.s, got, c.want)
		}
		if got := mix.Back(mix.Text(c.s)); got != c.fnv {
			t.Errorf("the FNV-1a hash of %q is %#x, want %#x", c.s, got, c.fnv)
		}
	}
}

// Promise A1: Text reads bytes, not characters; bytes 0 count, and bytes that
// are no UTF-8 differ from each other.
func TestTextReadsBytes(t *testing.T) {
	for _, c := range []struct {
		s    string
		want uint64
	}{
		{"\x00", 0xb9034ad37056f5fb},
		{"\x00\x00", 0xdb01c3104e99566d},
		{"\xff", 0x1bbd5c813c69a8d7},
		{"\x80\xfe", 0xf9b64c76fb0e06d6},
		{"\xc3\xa9", 0x9d55ccb9ba86763b},
	} {
		if got := mix.Text(c.s); got != c.want {
			t.Errorf("Text(%q) is %#x, want %#x", c.s, got, c.want)
		}
	}
}

// Promises AA1 and AA5: the same arguments have the same results again.
func TestSameAgain(t *testing.T) {
	one, back, two, text := mix.One(7), mix.Back(7), mix.Two(7, 8), mix.Text("again")
	for _, x := range ordinary {
		mix.One(x)
		mix.Back(x)
		mix.Two(x, x)
		mix.Text("other")
	}
	if mix.One(7) != one || mix.Back(7) != back || mix.Two(7, 8) != two || mix.Text("again") != text {
		t.Error("a result depends on earlier calls")
	}
}
