package pair_test

import (
	"bytes"
	"math"
	"slices"
	"testing"

	"strawloft/api"
	"strawloft/pair"
)

// modulus is X^8 + X^4 + X^3 + X^2 + 1.
const modulus = 0x11d

// longProduct multiplies as on paper: first the whole product, with up to 15
// coefficients, and then a long division by the modulus.
func longProduct(a, b byte) byte {
	product := 0
	for k := range 8 {
		if b>>k&1 == 1 {
			product ^= int(a) << k
		}
	}
	for k := 14; k >= 8; k-- {
		if product>>k&1 == 1 {
			product ^= modulus << (k - 8)
		}
	}
	return byte(product)
}

// slowParities is both parities by their definition, apart from the program.
func slowParities(disks [][]byte) ([]byte, []byte) {
	p, q := make([]byte, len(disks[0])), make([]byte, len(disks[0]))
	power := byte(1)
	for _, disk := range disks {
		for k, c := range disk {
			p[k] ^= c
			q[k] ^= longProduct(c, power)
		}
		power = longProduct(power, 2)
	}
	return p, q
}

// mixed is n disks of long bytes of mixed sizes.
func mixed(n, long, seed int) [][]byte {
	disks := make([][]byte, n)
	for i := range disks {
		for k := range long {
			disks[i] = append(disks[i], byte(i*i*7+i*k*seed+k*13+seed+i*k/5))
		}
	}
	return disks
}

// copied is the disks in new memory.
func copied(disks [][]byte) [][]byte {
	var list [][]byte
	for _, disk := range disks {
		list = append(list, bytes.Clone(disk))
	}
	return list
}

// spoiled is a copy of the disks in which those that are lost have other bytes.
func spoiled(disks [][]byte, lost ...int) [][]byte {
	list := copied(disks)
	for _, i := range lost {
		for k := range list[i] {
			list[i][k] ^= byte(i*5 + k*3 + 1)
		}
	}
	return list
}

// sameDisks reports whether the disks hold the same bytes.
func sameDisks(a, b [][]byte) bool {
	return slices.EqualFunc(a, b, bytes.Equal)
}

// uneven is n disks of which the last one is longer.
func uneven(n int) [][]byte {
	disks := make([][]byte, n)
	disks[n-1] = []byte{1}
	return disks
}

// wrongDisks is disks that no function takes, with their error.
func wrongDisks() []wrongCase {
	long := []byte{1, 2, 3}
	return []wrongCase{
		{nil, api.ErrRange}, {[][]byte{}, api.ErrRange},
		{make([][]byte, 256), api.ErrRange}, {mixed(256, 2, 3), api.ErrRange}, {mixed(257, 1, 3), api.ErrRange},
		{make([][]byte, 1000), api.ErrRange}, {uneven(256), api.ErrRange}, {uneven(2000), api.ErrRange},
		{uneven(2), api.ErrForm}, {uneven(3), api.ErrForm}, {uneven(255), api.ErrForm},
		{[][]byte{{1}, {}}, api.ErrForm}, {[][]byte{{1}, nil}, api.ErrForm}, {[][]byte{{1}, {1, 2}}, api.ErrForm},
		{[][]byte{{1, 2}, {1}}, api.ErrForm}, {[][]byte{{1}, {2, 3}, {4}}, api.ErrForm},
		{[][]byte{{1, 2}, {3}, {4, 5}}, api.ErrForm}, {[][]byte{{1}, {2, 3}, {4, 5}}, api.ErrForm},
		{[][]byte{long, long[:2]}, api.ErrForm}, {[][]byte{long[:2], long}, api.ErrForm},
	}
}

type wrongCase struct {
	disks [][]byte
	want  api.Errno
}

// checkMake checks that the parities are p and q, without an error.
func checkMake(t *testing.T, disks [][]byte, p, q []byte) {
	t.Helper()
	gotP, gotQ, err := pair.Make(disks)
	if !bytes.Equal(gotP, p) || !bytes.Equal(gotQ, q) || err != api.OK {
		t.Errorf("Make(%v) is %v, %v, %d, want %v, %v, OK", disks, gotP, gotQ, err, p, q)
	}
}

// checkOne checks that disk lost is want, without an error.
func checkOne(t *testing.T, disks [][]byte, lost int, p, want []byte) {
	t.Helper()
	if got, err := pair.One(disks, lost, p); !bytes.Equal(got, want) || err != api.OK {
		t.Errorf("One(%v, %d, %v) is %v, %d, want %v, OK", disks, lost, p, got, err, want)
	}
}

// checkTwo checks that the disks a and b are x and y, without an error.
func checkTwo(t *testing.T, disks [][]byte, a, b int, p, q, x, y []byte) {
	t.Helper()
	gotX, gotY, err := pair.Two(disks, a, b, p, q)
	if !bytes.Equal(gotX, x) || !bytes.Equal(gotY, y) || err != api.OK {
		t.Errorf("Two(%v, %d, %d, %v, %v) is %v, %v, %d, want %v, %v, OK", disks, a, b, p, q, gotX, gotY, err, x, y)
	}
}

// checkWho checks the result and the error of Who.
func checkWho(t *testing.T, disks [][]byte, p, q []byte, at, want int, wantErr api.Errno) {
	t.Helper()
	if got, err := pair.Who(disks, p, q, at); got != want || err != wantErr {
		t.Errorf("Who(%v, %v, %v, %d) is %d, %d, want %d, %d", disks, p, q, at, got, err, want, wantErr)
	}
}

// Promise E1: up to 255 disks of one length are right, also without bytes.
func TestWrong(t *testing.T) {
	for _, n := range []int{1, 2, 3, 100, 128, 254, 255} {
		for _, long := range []int{0, 1, 2, 300} {
			if got := pair.Wrong(mixed(n, long, 3)); got != api.OK {
				t.Errorf("Wrong of %d disks of %d bytes is %d, want OK", n, long, got)
			}
		}
	}
	memory := []byte{1, 2, 3, 4}
	for _, disks := range [][][]byte{{nil}, {{}}, {nil, {}}, {{}, nil}, {memory[:1], memory[3:]}, {memory, memory}} {
		if got := pair.Wrong(disks); got != api.OK {
			t.Errorf("Wrong(%v) is %d, want OK", disks, got)
		}
	}
}

// Promise E1: no disk and more than 255 are ErrRange, even with different
// lengths, which are ErrForm otherwise; and each function returns that first,
// whatever else is wrong.
func TestWrongComesFirst(t *testing.T) {
	for _, c := range wrongDisks() {
		if got := pair.Wrong(c.disks); got != c.want {
			t.Errorf("Wrong(%v) is %d, want %d", c.disks, got, c.want)
		}
		if p, q, err := pair.Make(c.disks); len(p) != 0 || len(q) != 0 || err != c.want {
			t.Errorf("Make(%v) is %v, %v, %d, want none, none, %d", c.disks, p, q, err, c.want)
		}
		for _, p := range [][]byte{nil, {1}, {1, 2}, {1, 2, 3, 4}} {
			for _, i := range []int{0, 1, -1, 255, 256, math.MinInt, math.MaxInt} {
				if row, err := pair.One(c.disks, i, p); len(row) != 0 || err != c.want {
					t.Errorf("One(%v, %d, %v) is %v, %d, want none, %d", c.disks, i, p, row, err, c.want)
				}
				for _, b := range []int{0, 1, 400} {
					x, y, err := pair.Two(c.disks, i, b, p, p)
					if len(x) != 0 || len(y) != 0 || err != c.want {
						t.Errorf("Two(%v, %d, %d, %v, %v) is %v, %v, %d, want none, none, %d", c.disks, i, b, p, p, x, y, err, c.want)
					}
				}
				checkWho(t, c.disks, p, p, i, 0, c.want)
			}
		}
	}
}

// Promise E1: the chapter's example, and parities computed apart from the
// program.
func TestMake(t *testing.T) {
	for _, c := range []struct {
		disks [][]byte
		p, q  []byte
	}{
		{[][]byte{{1}, {2}, {4}}, []byte{7}, []byte{21}},
		{[][]byte{{9, 0, 255}}, []byte{9, 0, 255}, []byte{9, 0, 255}},
		{[][]byte{{0}, {255}}, []byte{255}, []byte{227}},
		{[][]byte{{5}, {5}}, []byte{0}, []byte{15}},
		{[][]byte{{1, 2, 3}, {4, 5, 6}}, []byte{5, 7, 5}, []byte{9, 8, 15}},
		{[][]byte{{255, 0}, {0, 255}, {128, 1}, {1, 128}}, []byte{126, 126}, []byte{205, 147}},
		{[][]byte{{72, 101}, {108, 108}, {111, 33}, {0, 255}, {200, 100}}, []byte{131, 179}, []byte{45, 156}},
		{[][]byte{{0}, {0}, {0}, {0}, {0}, {0}, {0}, {0}, {1}}, []byte{1}, []byte{29}},
		{[][]byte{{0}, {0}, {0}, {0}, {0}, {0}, {0}, {0}, {255}}, []byte{255}, []byte{196}},
		{slices.Repeat([][]byte{{128}}, 12), []byte{0}, []byte{189}},
		{[][]byte{{0, 0}, {0, 0}}, []byte{0, 0}, []byte{0, 0}},
	} {
		checkMake(t, c.disks, c.p, c.q)
	}
}

// Promise E1: parities of as many disks as there may be, computed apart from
// the program. The weight of the last disk is 142.
func TestMakeOfManyDisks(t *testing.T) {
	disks := make([][]byte, 255)
	for i := range disks {
		disks[i] = []byte{byte(i * 37), byte(i*i + 5), byte(255 - i)}
	}
	checkMake(t, disks, []byte{219, 6, 0}, []byte{27, 136, 172})
	checkMake(t, slices.Repeat([][]byte{{1}}, 255), []byte{1}, []byte{0})
	checkMake(t, slices.Repeat([][]byte{{1}}, 254), []byte{0}, []byte{142})
	single := slices.Repeat([][]byte{{0}}, 255)
	single[254] = []byte{200}
	checkMake(t, single, []byte{200}, []byte{100})
}

// Promise E1: P is the plain sum and Q the sum of the products with the powers
// of 2, for every number of disks and for all bytes of long disks.
func TestMakeByTheDefinition(t *testing.T) {
	for n := 1; n <= 255; n++ {
		disks := mixed(n, 4, n)
		p, q := slowParities(disks)
		checkMake(t, disks, p, q)
	}
	var every []byte
	for i := range 5000 {
		every = append(every, byte(i))
	}
	for before := range 12 {
		disks := append(slices.Repeat([][]byte{make([]byte, 5000)}, before), every)
		p, q := slowParities(disks)
		checkMake(t, disks, p, q)
	}
}

// Promise E1: disks without bytes have parities without bytes, and are found
// again without an error; nil and empty disks are the same.
func TestDisksWithoutBytes(t *testing.T) {
	for _, disks := range [][][]byte{{nil}, {{}}, {nil, {}}, {{}, nil, nil}, make([][]byte, 255)} {
		last := len(disks) - 1
		checkMake(t, disks, nil, nil)
		for _, p := range [][]byte{nil, {}} {
			checkOne(t, disks, 0, p, nil)
			checkOne(t, disks, last, p, nil)
			if last > 0 {
				checkTwo(t, disks, last, 0, p, nil, nil, nil)
				checkTwo(t, disks, 0, 1, []byte{}, p, nil, nil)
			}
		}
	}
}

// Promise E1: One finds every disk again, whatever stands in its place.
func TestOne(t *testing.T) {
	checkOne(t, [][]byte{{1}, {0}, {4}}, 1, []byte{7}, []byte{2})
	checkOne(t, [][]byte{{1}, {255}, {4}}, 1, []byte{7}, []byte{2})
	checkOne(t, [][]byte{{77, 88}}, 0, []byte{3, 200}, []byte{3, 200})
	for _, n := range []int{1, 2, 3, 17, 254, 255} {
		disks := mixed(n, 5, n+2)
		p, _ := slowParities(disks)
		for lost := range disks {
			checkOne(t, disks, lost, p, disks[lost])
			checkOne(t, spoiled(disks, lost), lost, p, disks[lost])
		}
	}
}

// Promise E1: One returns the disk for which P is p, whichever p that is.
func TestOneForAnyParity(t *testing.T) {
	disks := mixed(4, 256, 9)
	p := make([]byte, 256)
	for i := range p {
		p[i] = byte(i)
	}
	for lost := range disks {
		row, err := pair.One(disks, lost, p)
		if err != api.OK {
			t.Fatalf("One of disk %d is %d, want OK", lost, err)
		}
		list := slices.Clone(disks)
		list[lost] = row
		if got, _ := slowParities(list); !bytes.Equal(got, p) {
			t.Errorf("with disk %d the first parity is %v", lost, got)
		}
	}
}

// Promise E1: each error of One, and which one comes first.
func TestOneErrors(t *testing.T) {
	three := [][]byte{{1, 2}, {3, 4}, {5, 6}}
	right := []byte{7, 0}
	for _, c := range []struct {
		disks [][]byte
		lost  int
		p     []byte
		want  api.Errno
	}{
		{three, -1, right, api.ErrNone}, {three, 3, right, api.ErrNone}, {three, 255, right, api.ErrNone},
		{three, 256, right, api.ErrNone}, {three, math.MinInt, right, api.ErrNone}, {three, math.MaxInt, right, api.ErrNone},
		{three[:1], 1, right, api.ErrNone}, {three[:2], 2, right, api.ErrNone}, {make([][]byte, 255), 255, nil, api.ErrNone},
		{three, 3, nil, api.ErrNone}, {three, -1, []byte{1, 2, 3}, api.ErrNone}, // also where p is wrong
		{three, 0, nil, api.ErrForm}, {three, 1, []byte{}, api.ErrForm}, {three, 2, []byte{7}, api.ErrForm},
		{three, 0, right[:1], api.ErrForm}, {three, 0, []byte{7, 0, 0}, api.ErrForm},
		{[][]byte{nil}, 0, []byte{0}, api.ErrForm}, {make([][]byte, 255), 254, []byte{0}, api.ErrForm},
	} {
		if got, err := pair.One(c.disks, c.lost, c.p); len(got) != 0 || err != c.want {
			t.Errorf("One(%v, %d, %v) is %v, %d, want none, %d", c.disks, c.lost, c.p, got, err, c.want)
		}
	}
}

// Promise E1: Two finds any two disks of small arrays again, in the order asked
// for, whatever stands in their places.
func TestTwo(t *testing.T) {
	checkTwo(t, [][]byte{{0}, {0}, {4}}, 0, 1, []byte{7}, []byte{21}, []byte{1}, []byte{2})
	checkTwo(t, [][]byte{{9}, {8}, {4}}, 1, 0, []byte{7}, []byte{21}, []byte{2}, []byte{1})
	checkTwo(t, [][]byte{{0}, {2}, {0}}, 2, 0, []byte{7}, []byte{21}, []byte{4}, []byte{1})
	for _, n := range []int{2, 3, 4, 9, 20} {
		disks := mixed(n, 5, n+2)
		p, q := slowParities(disks)
		for a := range disks {
			for b := range disks {
				if a != b {
					checkTwo(t, disks, a, b, p, q, disks[a], disks[b])
					checkTwo(t, spoiled(disks, a, b), a, b, p, q, disks[a], disks[b])
				}
			}
		}
	}
}

// Promise E1: of as many disks as there may be, each one is found again together
// with several others, near and far.
func TestTwoOfManyDisks(t *testing.T) {
	disks := mixed(255, 3, 7)
	p, q := slowParities(disks)
	for a := range disks {
		for _, b := range []int{0, 1, 7, 8, 127, 128, 200, 253, 254, (a + 1) % 255, (a + 51) % 255, (a + 85) % 255} {
			if a != b {
				checkTwo(t, spoiled(disks, a, b), a, b, p, q, disks[a], disks[b])
			}
		}
	}
}

// Promise E1: Two returns the disks for which the parities are p and q,
// whichever these are, byte by byte.
func TestTwoForAnyParities(t *testing.T) {
	const long = 1 << 16
	disks := mixed(4, long, 9)
	p, q := make([]byte, long), make([]byte, long)
	for k := range p {
		p[k], q[k] = byte(k), byte(k>>8)
	}
	for _, c := range []struct{ a, b int }{{0, 1}, {3, 1}, {2, 3}, {2, 0}} {
		x, y, err := pair.Two(disks, c.a, c.b, p, q)
		if err != api.OK {
			t.Fatalf("Two of the disks %d and %d is %d, want OK", c.a, c.b, err)
		}
		list := slices.Clone(disks)
		list[c.a], list[c.b] = x, y
		gotP, gotQ := slowParities(list)
		if !bytes.Equal(gotP, p) || !bytes.Equal(gotQ, q) {
			t.Errorf("with the disks %d and %d the parities are other ones", c.a, c.b)
		}
	}
}

// Promise E1: each error of Two, and which one comes first.
func TestTwoErrors(t *testing.T) {
	three := [][]byte{{1, 2}, {3, 4}, {5, 6}}
	p, q, long := []byte{7, 0}, []byte{1, 8}, []byte{1, 8, 0}
	for _, c := range []struct {
		disks [][]byte
		a, b  int
		p, q  []byte
		want  api.Errno
	}{
		{three, -1, 0, p, q, api.ErrNone}, {three, 0, -1, p, q, api.ErrNone}, {three, 3, 0, p, q, api.ErrNone},
		{three, 0, 3, p, q, api.ErrNone}, {three, 3, 4, p, q, api.ErrNone}, {three, 0, 256, p, q, api.ErrNone},
		{three, math.MinInt, 1, p, q, api.ErrNone}, {three, 1, math.MaxInt, p, q, api.ErrNone},
		{three[:1], 0, 1, p, q, api.ErrNone}, {three[:2], 2, 1, p, q, api.ErrNone},
		{make([][]byte, 255), 255, 0, nil, nil, api.ErrNone}, {make([][]byte, 255), 0, 255, nil, nil, api.ErrNone},
		{three, 3, 3, p, q, api.ErrNone}, {three, -1, -1, p, q, api.ErrNone}, // also where a is b
		{three, 0, 3, nil, long, api.ErrNone}, {three, -1, 2, long, nil, api.ErrNone},
		{three, 0, 0, p, q, api.ErrHeld}, {three, 1, 1, p, q, api.ErrHeld}, {three, 2, 2, p, q, api.ErrHeld},
		{three[:1], 0, 0, p, q, api.ErrHeld}, {make([][]byte, 255), 254, 254, nil, nil, api.ErrHeld},
		{three, 1, 1, nil, q, api.ErrHeld}, {three, 1, 1, p, long, api.ErrHeld}, // also where p or q is wrong
		{three, 0, 1, nil, q, api.ErrForm}, {three, 0, 1, p, nil, api.ErrForm}, {three, 1, 0, []byte{}, []byte{}, api.ErrForm},
		{three, 0, 2, p[:1], q, api.ErrForm}, {three, 0, 2, p, q[:1], api.ErrForm},
		{three, 2, 1, long, q, api.ErrForm}, {three, 2, 1, p, long, api.ErrForm}, {three, 2, 1, long, long, api.ErrForm},
		{make([][]byte, 2), 0, 1, []byte{0}, nil, api.ErrForm}, {make([][]byte, 2), 0, 1, nil, []byte{0}, api.ErrForm},
	} {
		x, y, err := pair.Two(c.disks, c.a, c.b, c.p, c.q)
		if len(x) != 0 || len(y) != 0 || err != c.want {
			t.Errorf("Two(%v, %d, %d, %v, %v) is %v, %v, %d, want none, none, %d", c.disks, c.a, c.b, c.p, c.q, x, y, err, c.want)
		}
	}
}

// Promise E1: equal disks, even in the same memory, are disks like others.
func TestOneDiskInTwoPlaces(t *testing.T) {
	disk := []byte{5, 0, 255}
	disks := [][]byte{disk, disk, disk}
	checkMake(t, disks, disk, []byte{27, 0, 199})
	checkOne(t, disks, 2, disk, disk)
	checkTwo(t, disks, 2, 0, disk, []byte{27, 0, 199}, disk, disk)
	checkWho(t, disks, disk, []byte{27, 0, 199}, 1, 0, api.ErrNone)
	checkWho(t, disks, []byte{4, 0, 255}, []byte{25, 0, 199}, 0, 1, api.OK)
}

// Promise E2: the bytes 1, 2, 4 with one corrupt byte, or none.
func TestWho(t *testing.T) {
	right := [][]byte{{1}, {2}, {4}}
	checkWho(t, right, []byte{7}, []byte{21}, 0, 0, api.ErrNone)
	checkWho(t, right, []byte{6}, []byte{21}, 0, -1, api.OK)
	checkWho(t, right, []byte{7}, []byte{20}, 0, -2, api.OK)
	checkWho(t, [][]byte{{0}, {2}, {4}}, []byte{7}, []byte{21}, 0, 0, api.OK)
	checkWho(t, [][]byte{{1}, {3}, {4}}, []byte{7}, []byte{21}, 0, 1, api.OK)
	checkWho(t, [][]byte{{1}, {2}, {255}}, []byte{7}, []byte{21}, 0, 2, api.OK)
	checkWho(t, [][]byte{{200}}, []byte{9}, []byte{9}, 0, 0, api.OK)
	checkWho(t, [][]byte{{200}}, []byte{9}, []byte{200}, 0, -1, api.OK)
	checkWho(t, [][]byte{{200}}, []byte{200}, []byte{9}, 0, -2, api.OK)
	checkWho(t, [][]byte{{200}}, []byte{9}, []byte{8}, 0, 0, api.ErrSum)
}

// Promise E2: every change of a single byte of small arrays is found, whatever
// it is in, at its position and at no other.
func TestWhoFindsEveryChange(t *testing.T) {
	const long = 3
	for _, n := range []int{1, 2, 3, 9, 20} {
		disks := mixed(n, long, n+5)
		p, q := slowParities(disks)
		for at := range long {
			for change := 1; change < 256; change++ {
				for i := range disks {
					disks[i][at] ^= byte(change)
					checkWho(t, disks, p, q, at, i, api.OK)
					checkWho(t, disks, p, q, (at+1)%long, 0, api.ErrNone)
					disks[i][at] ^= byte(change)
				}
				p[at] ^= byte(change)
				checkWho(t, disks, p, q, at, -1, api.OK)
				p[at] ^= byte(change)
				q[at] ^= byte(change)
				checkWho(t, disks, p, q, at, -2, api.OK)
				q[at] ^= byte(change)
			}
			checkWho(t, disks, p, q, at, 0, api.ErrNone)
		}
	}
}

// Promise E2: changes of both parities are those of a disk, if there is one
// with the right weight; with 255 disks there always is.
func TestWhoOfBothParities(t *testing.T) {
	for _, n := range []int{1, 2, 8, 9, 200, 254, 255} {
		disks := mixed(n, 1, 4)
		p, q := slowParities(disks)
		for change := 1; change < 256; change += 3 {
			weighted := byte(change)
			for i := range 255 {
				badP, badQ := []byte{p[0] ^ byte(change)}, []byte{q[0] ^ weighted}
				if i < n {
					checkWho(t, disks, badP, badQ, 0, i, api.OK)
				} else {
					checkWho(t, disks, badP, badQ, 0, 0, api.ErrSum)
				}
				weighted = longProduct(weighted, 2)
			}
		}
	}
}

// Promise E2: two corrupt disks of an array that is full look like a third one,
// but are ErrSum where that one is missing, and one of the parities if they
// cancel each other in the other.
func TestWhoOfTwoCorruptDisks(t *testing.T) {
	disks := slices.Repeat([][]byte{{0}}, 30)
	disks[0], disks[1] = []byte{1}, []byte{3} // P: 1 + 3 = 2, Q: 1 + 6 = 7, and 7 / 2 is 2^197
	zero := []byte{0}
	checkWho(t, disks, zero, zero, 0, 0, api.ErrSum)
	full := append(disks, slices.Repeat([][]byte{{0}}, 225)...)
	checkWho(t, full, zero, zero, 0, 197, api.OK)
	checkWho(t, full[:197], zero, zero, 0, 0, api.ErrSum)
	checkWho(t, full[:198], zero, zero, 0, 197, api.OK)
	checkWho(t, [][]byte{{2}, {1}}, zero, zero, 0, -1, api.OK)
	checkWho(t, [][]byte{{5}, {5}}, zero, zero, 0, -2, api.OK)
}

// Promise E2: each error of Who, and which one comes first.
func TestWhoErrors(t *testing.T) {
	disks := [][]byte{{1, 2}, {3, 4}}
	p, q, bad, long := []byte{2, 6}, []byte{7, 10}, []byte{100, 100}, []byte{2, 6, 0}
	for _, c := range []struct {
		disks [][]byte
		p, q  []byte
		at    int
		want  api.Errno
	}{
		{disks, nil, q, 0, api.ErrForm}, {disks, p, nil, 0, api.ErrForm}, {disks, []byte{}, []byte{}, 1, api.ErrForm},
		{disks, p[:1], q, 0, api.ErrForm}, {disks, p, q[:1], 0, api.ErrForm},
		{disks, long, q, 0, api.ErrForm}, {disks, p, long, 1, api.ErrForm}, {disks, long, long, 2, api.ErrForm},
		{disks, p[:1], q, 2, api.ErrForm}, {disks, p, long, -1, api.ErrForm}, // also where at is wrong
		{make([][]byte, 2), nil, []byte{0}, 0, api.ErrForm}, {make([][]byte, 2), []byte{0}, nil, 0, api.ErrForm},
		{disks, p, q, -1, api.ErrRange}, {disks, p, q, 2, api.ErrRange}, {disks, p, q, 256, api.ErrRange},
		{disks, p, q, math.MinInt, api.ErrRange}, {disks, p, q, math.MaxInt, api.ErrRange},
		{disks, bad, bad, 2, api.ErrRange}, {disks, bad, q, -1, api.ErrRange}, // also where bytes are
		{make([][]byte, 2), nil, nil, 0, api.ErrRange}, {[][]byte{nil}, nil, []byte{}, -1, api.ErrRange},
		{make([][]byte, 255), []byte{}, nil, 0, api.ErrRange},
		{disks, p, q, 0, api.ErrNone}, {disks, p, q, 1, api.ErrNone},
		{disks, bad, bad, 0, api.ErrSum}, {disks, bad, bad, 1, api.ErrSum},
	} {
		checkWho(t, c.disks, c.p, c.q, c.at, 0, c.want)
	}
}

// results is what the functions make of three disks, row by row.
func results(t *testing.T, disks [][]byte, p, q []byte) [][]byte {
	t.Helper()
	madeP, madeQ, wrongMake := pair.Make(disks)
	one, wrongOne := pair.One(disks, 1, p)
	x, y, wrongTwo := pair.Two(disks, 2, 0, p, q)
	if wrongMake != api.OK || wrongOne != api.OK || wrongTwo != api.OK {
		t.Fatalf("Make, One and Two have the errors %d, %d and %d", wrongMake, wrongOne, wrongTwo)
	}
	return [][]byte{madeP, madeQ, one, x, y}
}

// Promises AA1 and AA2: a call changes neither its arguments nor what lies in
// their spare capacity, and gives the same result again. Arguments may overlap.
func TestArgumentsAreLeft(t *testing.T) {
	memory := []byte{9, 8, 7, 0, 5, 4, 3, 0, 1}
	before := bytes.Clone(memory)
	disks := [][]byte{memory[:3], memory[2:5], memory[4:7], memory[:3]}
	wantDisks := slices.Clone(disks)
	p, q := memory[1:4], memory[5:8]
	first := results(t, disks[:3], p, q)
	who, wrong := pair.Who(disks[:3], p, q, 1)
	for range 3 {
		if again := results(t, disks[:3], p, q); !sameDisks(again, first) {
			t.Fatalf("the results are %v first, and then %v", first, again)
		}
		checkWho(t, disks[:3], p, q, 1, who, wrong)
		if !bytes.Equal(memory, before) || !sameDisks(disks, wantDisks) {
			t.Fatalf("the disks are %v in %v now, and were %v in %v", disks, memory, wantDisks, before)
		}
	}
}

// Promise AA2: results are memory of their own, with their spare capacity: they
// share none with the arguments or with each other.
func TestResultsAreNew(t *testing.T) {
	disks := append(mixed(2, 4, 8), make([]byte, 4))
	wantDisks := copied(disks)
	p, q := slowParities(disks)
	wantP, wantQ := bytes.Clone(p), bytes.Clone(q)
	rows := results(t, disks, p, q)
	for i, row := range rows {
		want := copied(rows)
		whole := row[:cap(row)]
		for k := range whole {
			whole[k] ^= 255
		}
		for j := range rows {
			if j != i && !bytes.Equal(rows[j], want[j]) {
				t.Fatalf("result %d changes with result %d", j, i)
			}
		}
	}
	if !sameDisks(disks, wantDisks) || !bytes.Equal(p, wantP) || !bytes.Equal(q, wantQ) {
		t.Fatalf("the arguments change with the results")
	}
	rows = results(t, disks, p, q)
	want := copied(rows)
	for _, row := range append(disks, p, q) {
		clear(row)
	}
	if !sameDisks(rows, want) {
		t.Errorf("the results change with the arguments")
	}
	single := []byte{5, 6} // P, Q and the disk are the same bytes
	first, second, _ := pair.Make([][]byte{single})
	lost, _ := pair.One([][]byte{{0, 0}}, 0, single)
	clear(single)
	for _, row := range [][]byte{first, second, lost} {
		if !bytes.Equal(row, []byte{5, 6}) {
			t.Errorf("a result is %v after a change of the only disk", row)
		}
	}
}
