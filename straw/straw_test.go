package straw_test

import (
	"cmp"
	"math"
	"math/big"
	"slices"
	"testing"

	"strawloft/api"
	"strawloft/mix"
	"strawloft/straw"
)

// maxWeight is the greatest weight of an item, and maxDraw the greatest draw.
const (
	maxWeight = 100
	maxDraw   = 1 << 16
)

// item is an item, in fewer words.
func item(id, weight int) api.Weighted {
	return api.Weighted{Id: id, Weight: weight}
}

// drawn is an item of which the draw matters and not the id.
type drawn struct{ draw, weight int }

// slowDraw is the draw by its definition.
func slowDraw(key uint64, id int) int {
	return int(mix.Two(key, uint64(id))/(1<<48)) + 1
}

// raised is n to the power of exponent, times 2^16 to the power of blank.
func raised(n, exponent, blank int) *big.Int {
	power := new(big.Int).Exp(big.NewInt(int64(n)), big.NewInt(int64(exponent)), nil)
	return power.Mul(power, new(big.Int).Exp(big.NewInt(maxDraw), big.NewInt(int64(blank)), nil))
}

// compare is 1 if item a's power is greater than that of item b, 0 if both are
// equal, and otherwise -1, by the chapter, with integers of any size: both
// powers are multiplied by 2^16 to the power of both weights.
func compare(a, b drawn) int {
	return raised(a.draw, b.weight, a.weight).Cmp(raised(b.draw, a.weight, b.weight))
}

// slowLonger reports whether an item has a longer straw than another one.
func slowLonger(key uint64, a, b api.Weighted) bool {
	order := compare(drawn{slowDraw(key, a.Id), a.Weight}, drawn{slowDraw(key, b.Id), b.Weight})
	return order > 0 || order == 0 && a.Id < b.Id
}

// slowSome is all items with positive weight, in the order of decreasing
// straws: each one has its place by how many others are longer.
func slowSome(key uint64, l []api.Weighted) []int {
	rest := slices.DeleteFunc(slices.Clone(l), func(a api.Weighted) bool { return a.Weight <= 0 })
	ids := make([]int, len(rest))
	for _, a := range rest {
		place := 0
		for _, b := range rest {
			if a != b && slowLonger(key, b, a) {
				place++
			}
		}
		ids[place] = a.Id
	}
	return ids
}

// keyFor is the key with which an id is mixed to a hash.
func keyFor(hash uint64, id int) uint64 {
	return mix.Back(mix.Back(hash) - uint64(id))
}

// tableKey is the key of table.
const tableKey = 5

// table is, for each draw, ids of items that draw it for tableKey, increasing.
func table() [][]int {
	ids := make([][]int, maxDraw+1)
	for id := range 1 << 21 {
		draw := slowDraw(tableKey, id)
		ids[draw] = append(ids[draw], id)
	}
	return ids
}

// someItems is n items with different weights from 0 to 100.
func someItems(n int) []api.Weighted {
	l := []api.Weighted{
		item(7, 3), item(0, 100), item(api.MaxTime, 1), item(3, 0), item(12, 50), item(1, 2), item(api.MaxTime-1, 99), item(2, 2),
		item(1<<32, 17), item(5, 0), item(6, 100), item(1<<32+5, 33), item(99, 1), item(4, 64), item(8, 10), item(9, 5),
	}
	return l[:n]
}

// lists is valid lists of items of many kinds.
func lists() [][]api.Weighted {
	list := [][]api.Weighted{
		{}, {item(7, 3)}, {item(0, 0)}, {item(0, 1)}, {item(api.MaxTime, 100)}, {item(1, 0), item(2, 0), item(3, 0)},
		{item(0, 1), item(1, 1), item(2, 1)}, {item(0, 1), item(1, 2), item(2, 4)}, {item(0, 100), item(1, 1), item(2, 1), item(3, 1)},
		{item(5, 10), item(api.MaxTime, 10), item(7, 0), item(3, 20)}, {item(4, 0), item(8, 1)}, {item(8, 1), item(4, 0)},
	}
	for n := range api.MaxNode + 1 {
		var same, light, heavy, rising []api.Weighted
		for i := range n {
			same = append(same, item(50-i, 13))
			light = append(light, item(1000+i*i, 1))
			heavy = append(heavy, item(api.MaxTime-i, 100-i%2))
			rising = append(rising, item(i*i, 7*i%101))
		}
		list = append(list, someItems(n), same, light, heavy, rising)
	}
	return list
}

// keys is keys of many kinds.
func keys() []uint64 {
	list := []uint64{0, 1, 2, 3, 1 << 32, 1 << 40, 1<<63 - 1, 1 << 63, math.MaxUint64 - 1, math.MaxUint64}
	for n := range uint64(10) {
		list = append(list, 4+n*n*n, mix.One(n+9))
	}
	return list
}

// wrongLists is lists that are not valid, with what is wrong with them first.
func wrongLists() map[api.Errno][][]api.Weighted {
	wrong := map[api.Errno][][]api.Weighted{
		api.ErrRange: {
			append(someItems(16), item(77, 1)), append(someItems(16), item(7, 3)), append(someItems(16), item(-1, 1)), make([]api.Weighted, 17),
			make([]api.Weighted, 400), {item(4, 1), item(5, 101), item(4, 1)}, {item(-1, 1), item(-1, 1)}, {item(-4, 1), item(4, 1), item(4, 1)},
			{item(4, 101), item(4, 101)}, {item(4, 1), item(4, 101)}, {item(4, 1), item(4, -1)}, {item(api.MaxTime+1, 0), item(api.MaxTime+1, 0)},
		},
		api.ErrHeld: {
			{item(7, 0), item(7, 0)}, {item(7, 1), item(7, 1)}, {item(7, 1), item(7, 2)}, {item(7, 0), item(7, 100)}, {item(7, 100), item(7, 0)},
			{item(4, 1), item(4, 1), item(5, 101)}, {item(4, 1), item(4, 1), item(-1, 1)}, {item(4, 1), item(4, 2), item(api.MaxTime+1, 3)},
			{item(0, 1), item(0, 1)}, {item(api.MaxTime, 1), item(1, 1), item(api.MaxTime, 1)}, make([]api.Weighted, 16),
		},
	}
	for i := range 4 {
		for _, n := range []int{-1, -2, -api.MaxTime, api.MaxTime + 1, 1 << 62, math.MaxInt, math.MinInt} {
			wrong[api.ErrRange] = append(wrong[api.ErrRange], slices.Insert(someItems(3), i, item(n, 1)))
		}
		for _, n := range []int{-1, -2, -100, 101, 102, 1 << 32, 1<<32 + 1, math.MaxInt, math.MinInt} {
			wrong[api.ErrRange] = append(wrong[api.ErrRange], slices.Insert(someItems(3), i, item(44, n)))
		}
	}
	return wrong
}

// checkWrong checks what is wrong with a list.
func checkWrong(t *testing.T, l []api.Weighted, want api.Errno) {
	t.Helper()
	if got := straw.Wrong(l); got != want {
		t.Errorf("Wrong(%v) is %d, want %d", l, got, want)
	}
}

// checkDraw checks a draw.
func checkDraw(t *testing.T, key uint64, id, want int) {
	t.Helper()
	if got := straw.Draw(key, id); got != want {
		t.Errorf("Draw(%#x, %d) is %d, want %d", key, id, got, want)
	}
}

// checkChoose checks the result and the error of Choose.
func checkChoose(t *testing.T, key uint64, l []api.Weighted, want int, wantErr api.Errno) {
	t.Helper()
	if got, err := straw.Choose(key, l); got != want || err != wantErr {
		t.Errorf("Choose(%#x, %v) is %d, %d, want %d, %d", key, l, got, err, want, wantErr)
	}
}

// checkSome checks the items, as many as are wanted, without an error.
func checkSome(t *testing.T, key uint64, l []api.Weighted, want []int) {
	t.Helper()
	if got, err := straw.Some(key, l, len(want)); !slices.Equal(got, want) || err != api.OK {
		t.Errorf("Some(%#x, %v, %d) is %v, %d, want %v, OK", key, l, len(want), got, err, want)
	}
}

// checkNoSome checks that Some has no items, but an error.
func checkNoSome(t *testing.T, key uint64, l []api.Weighted, many int, want api.Errno) {
	t.Helper()
	if got, err := straw.Some(key, l, many); len(got) != 0 || err != want {
		t.Errorf("Some(%#x, %v, %d) is %v, %d, want none, %d", key, l, many, got, err, want)
	}
}

// checkAll checks the order of all items with positive weight, and the first
// one, with an error for one more.
func checkAll(t *testing.T, key uint64, l []api.Weighted, want []int) {
	t.Helper()
	checkSome(t, key, l, want)
	if len(want) == 0 {
		checkChoose(t, key, l, 0, api.ErrNone)
	} else {
		checkChoose(t, key, l, want[0], api.OK)
	}
	if len(want) < api.MaxNode {
		checkNoSome(t, key, l, len(want)+1, api.ErrShort)
	}
}

// checkPair checks which of two items with given draws has the longer straw,
// if the first one has the smaller id and if it has the greater one.
func checkPair(t *testing.T, ids [][]int, a, b drawn, want int) {
	t.Helper()
	if got := compare(a, b); got != want {
		t.Fatalf("%v to %v is %d by the definition, want %d", a, b, got, want)
	}
	low, high := ids[a.draw][0], ids[a.draw][len(ids[a.draw])-1]
	lower, higher := ids[b.draw][0], ids[b.draw][len(ids[b.draw])-1]
	if low >= higher || high <= lower {
		t.Fatalf("the items that draw %d and %d are too few", a.draw, b.draw)
	}
	for _, c := range [][2]api.Weighted{{item(low, a.weight), item(higher, b.weight)}, {item(high, a.weight), item(lower, b.weight)}} {
		order := []int{c[0].Id, c[1].Id}
		if want < 0 || want == 0 && c[1].Id < c[0].Id {
			slices.Reverse(order)
		}
		checkAll(t, tableKey, c[:], order)
		checkAll(t, tableKey, []api.Weighted{c[1], c[0]}, order)
	}
}

// Promise H1: lists are valid that have up to 16 items, with different ids
// from 0 to MaxTime and weights from 0 to 100.
func TestWrong(t *testing.T) {
	checkWrong(t, nil, api.OK)
	for _, l := range lists() {
		checkWrong(t, l, api.OK)
	}
	for _, id := range []int{0, 1, api.MaxTime - 1, api.MaxTime} {
		for weight := range maxWeight + 1 {
			checkWrong(t, []api.Weighted{item(id, weight)}, api.OK)
			checkWrong(t, []api.Weighted{item(8, weight), item(id, 1), item(9, weight)}, api.OK)
		}
		for _, weight := range []int{-1, 101, -100, 200, math.MaxInt, math.MinInt} {
			checkWrong(t, []api.Weighted{item(id, weight)}, api.ErrRange)
		}
	}
	for _, id := range []int{-1, api.MaxTime + 1, math.MaxInt, math.MinInt} {
		for _, weight := range []int{0, 1, 100, 101, -1} {
			checkWrong(t, []api.Weighted{item(id, weight)}, api.ErrRange)
		}
	}
}

// Promise H1: the number of items is checked first, and then each item, its
// numbers before its id among those before it.
func TestWrongOrder(t *testing.T) {
	for want, list := range wrongLists() {
		for _, l := range list {
			checkWrong(t, l, want)
		}
	}
	for n := range 40 {
		l := make([]api.Weighted, n)
		for i := range l {
			l[i] = item(i, 5)
		}
		want := api.OK
		if n > 16 {
			want = api.ErrRange
		}
		checkWrong(t, l, want)
	}
}

// Promise H1: an id that occurs twice, wherever it does, with any weights.
func TestWrongTwice(t *testing.T) {
	for n := 2; n <= api.MaxNode; n++ {
		for i := range n {
			for j := range i {
				l := someItems(n)
				l[i].Id = l[j].Id
				checkWrong(t, l, api.ErrHeld)
				l[i].Weight = l[j].Weight
				checkWrong(t, l, api.ErrHeld)
				l[i].Weight = maxWeight + 1
				checkWrong(t, l, api.ErrRange)
			}
		}
	}
}

// Promises H1 and H2: of a list that is not valid, Choose and Some say what
// Wrong says, whatever else is wrong.
func TestNotValid(t *testing.T) {
	for want, list := range wrongLists() {
		for _, l := range list {
			for _, key := range []uint64{0, 1, math.MaxUint64} {
				checkChoose(t, key, l, 0, want)
				for _, many := range []int{0, 1, 2, 16, 17, -1, math.MaxInt, math.MinInt} {
					checkNoSome(t, key, l, many, want)
				}
			}
		}
	}
}

// Promise H1: draws computed apart from the program.
func TestDraw(t *testing.T) {
	for _, c := range []struct {
		key      uint64
		id, want int
	}{
		{0, 0, 1}, {0, 1, 46167}, {1, 0, 32111}, {1, 1, 54563}, {1, 2, 19984}, {2, 7, 60477}, {7, 5, 27924},
		{math.MaxUint64, api.MaxTime, 42480}, {1 << 63, api.MaxTime - 1, 29275}, {12345, 1 << 32, 53875}, {0, api.MaxTime + 1, 37040},
		{3, math.MaxInt, 50158}, {0, -1, 25782}, {0, -2, 14982}, {5, -7, 7150}, {math.MaxUint64, math.MinInt, 9948},
	} {
		checkDraw(t, c.key, c.id, c.want)
	}
}

// Promise H1: draws of all ids, also negative ones, and just at and beside the
// hashes where they change.
func TestDrawByDefinition(t *testing.T) {
	ids := []int{0, 1, 2, 77, api.MaxTime, api.MaxTime + 1, math.MaxInt, -1, -2, -77, -api.MaxTime, math.MinInt, math.MinInt + 1}
	for _, id := range ids {
		for _, key := range keys() {
			checkDraw(t, key, id, slowDraw(key, id))
		}
		for draw := 1; draw <= maxDraw; draw += 257 {
			first := uint64(draw-1) << 48
			checkDraw(t, keyFor(first, id), id, draw)
			checkDraw(t, keyFor(first+1<<47, id), id, draw)
			checkDraw(t, keyFor(first+1<<48-1, id), id, draw)
		}
		for _, c := range []struct {
			hash uint64
			want int
		}{
			{0, 1}, {1, 1}, {1<<48 - 1, 1}, {1 << 48, 2}, {1 << 63, 1<<15 + 1}, {1<<63 - 1, 1 << 15},
			{0xffff << 48, maxDraw}, {0xffff<<48 - 1, maxDraw - 1}, {math.MaxUint64, maxDraw},
		} {
			checkDraw(t, keyFor(c.hash, id), id, c.want)
		}
	}
}

// Promises H1 and H2: items computed apart from the program.
func TestComputedApart(t *testing.T) {
	const first, last = 0, math.MaxUint64
	for _, c := range []struct {
		key  uint64
		l    []api.Weighted
		want []int
	}{
		{first, []api.Weighted{item(7, 3)}, []int{7}},
		{first, []api.Weighted{item(0, 1), item(1, 1), item(2, 1)}, []int{1, 2, 0}},
		{1, []api.Weighted{item(0, 1), item(1, 1), item(2, 1)}, []int{1, 0, 2}},
		{3, []api.Weighted{item(0, 1), item(1, 1), item(2, 1)}, []int{2, 0, 1}},
		{1, []api.Weighted{item(0, 1), item(1, 2), item(2, 4)}, []int{1, 2, 0}},
		{2, []api.Weighted{item(0, 1), item(1, 2), item(2, 4)}, []int{2, 1, 0}},
		{3, []api.Weighted{item(0, 1), item(1, 2), item(2, 4)}, []int{2, 1, 0}},
		{last, []api.Weighted{item(0, 1), item(1, 2), item(2, 4)}, []int{0, 1, 2}},
		{first, []api.Weighted{item(0, 100), item(1, 1), item(2, 1), item(3, 1)}, []int{0, 1, 2, 3}},
		{3, []api.Weighted{item(0, 100), item(1, 1), item(2, 1), item(3, 1)}, []int{2, 0, 1, 3}},
		{last, []api.Weighted{item(0, 100), item(1, 1), item(2, 1), item(3, 1)}, []int{0, 3, 1, 2}},
		{1, []api.Weighted{item(5, 10), item(api.MaxTime, 10), item(7, 0), item(3, 20)}, []int{api.MaxTime, 3, 5}},
		{2, []api.Weighted{item(5, 10), item(api.MaxTime, 10), item(7, 0), item(3, 20)}, []int{3, api.MaxTime, 5}},
		{1 << 40, []api.Weighted{item(5, 10), item(api.MaxTime, 10), item(7, 0), item(3, 20)}, []int{5, api.MaxTime, 3}},
	} {
		checkAll(t, c.key, c.l, c.want)
	}
	var l []api.Weighted
	for i := range 15 {
		l = append(l, item(i*i, 7*i))
	}
	l = append(l, item(225, 4))
	checkAll(t, 0, l, []int{100, 36, 49, 196, 81, 25, 121, 64, 169, 144, 9, 16, 1, 4, 225})
	checkAll(t, 1, l, []int{144, 121, 169, 196, 16, 49, 36, 64, 100, 1, 81, 4, 25, 9, 225})
	checkAll(t, 1<<40, l, []int{196, 225, 16, 81, 36, 121, 64, 1, 144, 100, 9, 49, 169, 25, 4})
	checkAll(t, last, l, []int{16, 121, 25, 196, 100, 49, 169, 1, 64, 144, 81, 225, 36, 4, 9})
}

// Promises H1 and H2: many lists and keys, by the definition.
func TestByDefinition(t *testing.T) {
	for _, l := range lists() {
		for _, key := range keys() {
			checkAll(t, key, l, slowSome(key, l))
		}
	}
}

// Promise H1: with equal weights, the greatest draw has the longest straw.
func TestEqualWeights(t *testing.T) {
	for weight := 1; weight <= maxWeight; weight++ {
		l := someItems(16)
		for i := range l {
			l[i].Weight = weight
		}
		for _, key := range keys() {
			byDraw := slices.Clone(l)
			slices.SortFunc(byDraw, func(a, b api.Weighted) int {
				return cmp.Or(slowDraw(key, b.Id)-slowDraw(key, a.Id), a.Id-b.Id)
			})
			var want []int
			for _, a := range byDraw {
				want = append(want, a.Id)
			}
			checkSome(t, key, l, want)
		}
	}
}

// Promise H1: equal draws that are less than 2^16 have longer straws with a
// greater weight; with equal weights, the smaller id counts.
func TestEqualDraws(t *testing.T) {
	ids := table()
	for _, draw := range []int{1, 2, 3, 255, 256, 257, 9999, 32767, 32768, 32769, 65534, 65535} {
		for weight := 1; weight <= maxWeight; weight++ {
			checkPair(t, ids, drawn{draw, weight}, drawn{draw, weight}, 0)
			for _, less := range []int{1, weight / 2, weight - 1} {
				if less > 0 && less < weight {
					checkPair(t, ids, drawn{draw, weight}, drawn{draw, less}, 1)
					checkPair(t, ids, drawn{draw, less}, drawn{draw, weight}, -1)
				}
			}
		}
		checkEqual(t, draw, ids[draw], func(int) int { return 37 })
	}
}

// checkEqual checks the order of up to 16 items that draw the same and have
// equal straws: by their ids, however they are arranged.
func checkEqual(t *testing.T, draw int, ids []int, weight func(i int) int) {
	t.Helper()
	ids = ids[:min(len(ids), api.MaxNode)]
	var l []api.Weighted
	for i, id := range ids {
		l = append(l, item(id, weight(i)))
	}
	for range ids {
		l = append(l[1:], l[0])
		checkAll(t, tableKey, l, ids)
	}
	slices.Reverse(l)
	checkAll(t, tableKey, l, ids)
}

// Promise H1: draws of 2^16 have straws that are equal, with all weights, and
// are longer than all others.
func TestGreatestDraws(t *testing.T) {
	ids := table()
	for u := 1; u <= maxWeight; u++ {
		for v := 1; v <= maxWeight; v++ {
			checkPair(t, ids, drawn{maxDraw, u}, drawn{maxDraw, v}, 0)
			checkPair(t, ids, drawn{maxDraw, u}, drawn{maxDraw - 1, v}, 1)
		}
		for _, draw := range []int{1, 2, 256, 32768, 65534} {
			checkPair(t, ids, drawn{maxDraw, 1}, drawn{draw, u}, 1)
			checkPair(t, ids, drawn{draw, u}, drawn{maxDraw, 100}, -1)
		}
	}
	for _, weight := range []func(i int) int{
		func(i int) int { return 1 }, func(i int) int { return 100 }, func(i int) int { return i + 1 },
		func(i int) int { return 100 - i }, func(i int) int { return 1 + 99*(i%2) }, func(i int) int { return 1 + i*i*31%100 },
	} {
		checkEqual(t, maxDraw, ids[maxDraw], weight)
	}
}

// Promise H1: the least draws, which have the longest rows of digits.
func TestLeastDraws(t *testing.T) {
	ids := table()
	for u := 1; u <= maxWeight; u++ {
		for v := 1; v <= maxWeight; v++ {
			checkPair(t, ids, drawn{1, u}, drawn{1, v}, cmp.Compare(u, v))
			checkPair(t, ids, drawn{1, u}, drawn{2, v}, cmp.Compare(15*u, 16*v))
			checkPair(t, ids, drawn{2, u}, drawn{4, v}, cmp.Compare(14*u, 15*v))
		}
	}
}

// Promise H1: straws that are exactly equal though neither the draws nor the
// weights are: a draw to the power of n, and n times the weight; a step of one
// draw up or down decides.
func TestEqualPowers(t *testing.T) {
	ids := table()
	checkPair(t, ids, drawn{256, 2}, drawn{4096, 1}, 0)
	checkPair(t, ids, drawn{1, 100}, drawn{256, 50}, 0)
	checkPair(t, ids, drawn{9, 100}, drawn{768, 50}, 0)
	checkPair(t, ids, drawn{65025, 40}, drawn{65280, 20}, 0)
	checkPair(t, ids, drawn{27648, 99}, drawn{36864, 66}, 0)
	for bits := 1; bits <= 8; bits++ {
		for root := 1; root < 1<<bits; root += 2 {
			powers := equalPowers(root, bits)
			for _, a := range powers {
				for _, b := range powers {
					checkBeside(t, ids, a, b)
				}
			}
		}
	}
}

// equalPowers is the powers of root / 2^bits that are draws, with the weights
// that make their straws equal.
func equalPowers(root, bits int) []drawn {
	var powers []drawn
	draw := 1
	for n := 1; n*bits <= 16; n++ {
		draw *= root
		powers = append(powers, drawn{draw << (16 - n*bits), n})
	}
	return powers
}

// checkBeside checks two items with equal straws, with their weights as they
// are and as great as can be, and what lies beside them.
func checkBeside(t *testing.T, ids [][]int, a, b drawn) {
	t.Helper()
	times := maxWeight / max(a.weight, b.weight)
	checkPair(t, ids, a, b, 0)
	a.weight, b.weight = a.weight*times, b.weight*times
	checkPair(t, ids, a, b, 0)
	checkPair(t, ids, drawn{a.draw + 1, a.weight}, b, 1)
	checkPair(t, ids, a, drawn{b.draw + 1, b.weight}, -1)
	if a.weight < maxWeight {
		checkPair(t, ids, drawn{a.draw, a.weight + 1}, b, 1)
	}
	if a.draw > 1 {
		checkPair(t, ids, drawn{a.draw - 1, a.weight}, b, -1)
	}
}

// Promise H1: 16 items with 16 draws and 16 weights, the straws of which are
// all equal, come in the order of their ids, between a longer one and shorter
// ones.
func TestManyEqualPowers(t *testing.T) {
	ids := table()
	for times := 1; times <= 6; times++ {
		for n := range 4 {
			var l []api.Weighted
			for _, power := range equalPowers(1, 1) {
				l = append(l, item(ids[power.draw][n*power.weight%7], power.weight*times))
			}
			want := slowSome(tableKey, l)
			if !slices.IsSorted(want) || len(want) != api.MaxNode {
				t.Fatalf("the straws of %v are not equal", l)
			}
			checkAll(t, tableKey, l, want)
			slices.Reverse(l)
			checkAll(t, tableKey, l, want)
			l[3].Weight++
			l[8].Weight--
			checkAll(t, tableKey, l, slowSome(tableKey, l))
		}
	}
}

// Promise H1: straws that differ by as little as is possible with these draws
// and weights, found apart from the program.
func TestAlmostEqual(t *testing.T) {
	ids := table()
	for _, c := range []struct{ less, more drawn }{
		{drawn{35050, 10}, drawn{12096, 27}}, {drawn{64907, 3}, drawn{52330, 70}}, {drawn{40384, 34}, drawn{39813, 35}},
		{drawn{42006, 16}, drawn{32708, 25}}, {drawn{13158, 67}, drawn{50350, 11}}, {drawn{65455, 1}, drawn{64014, 19}},
		{drawn{46889, 45}, drawn{38071, 73}}, {drawn{23333, 12}, drawn{25430, 11}}, {drawn{54925, 67}, drawn{56840, 54}},
	} {
		checkPair(t, ids, c.less, c.more, -1)
		checkPair(t, ids, c.more, c.less, 1)
	}
	for weight := 1; 2*weight <= maxWeight; weight++ {
		checkPair(t, ids, drawn{65534, 2 * weight}, drawn{65535, weight}, -1)
		checkPair(t, ids, drawn{65535, 2 * weight}, drawn{65535, 2*weight - 1}, 1)
	}
}

// Promise H1: all pairs of weights, with many draws.
func TestAllWeights(t *testing.T) {
	ids := table()
	for _, draws := range [][2]int{{65535, 65534}, {65535, 1}, {40000, 50000}, {32768, 32769}} {
		for u := 1; u <= maxWeight; u++ {
			for v := 1; v <= maxWeight; v++ {
				a, b := drawn{draws[0], u}, drawn{draws[1], v}
				checkPair(t, ids, a, b, compare(a, b))
			}
		}
	}
}

// Promise H2: items of weight 0 are never chosen, even with the longest draw.
func TestWeightZero(t *testing.T) {
	ids := table()
	for _, draw := range []int{1, 2, 32768, maxDraw - 1, maxDraw} {
		idle := item(ids[draw][0], 0)
		checkAll(t, tableKey, []api.Weighted{idle}, nil)
		checkAll(t, tableKey, []api.Weighted{idle, item(ids[5][0], 0)}, nil)
		for _, weight := range []int{1, 50, 100} {
			a, b := item(ids[1][1], weight), item(ids[maxDraw][1], weight)
			checkAll(t, tableKey, []api.Weighted{idle, a}, []int{a.Id})
			checkAll(t, tableKey, []api.Weighted{a, idle}, []int{a.Id})
			checkAll(t, tableKey, []api.Weighted{a, idle, b}, []int{b.Id, a.Id})
			checkAll(t, tableKey, []api.Weighted{idle, b, item(ids[maxDraw][2], 0), a}, []int{b.Id, a.Id})
		}
	}
	for n := range api.MaxNode + 1 {
		l := someItems(n)
		for i := range l {
			l[i].Weight = 0
		}
		for _, key := range keys() {
			checkAll(t, key, l, nil)
		}
		if n > 0 {
			l[n/2].Weight = 1
			checkAll(t, 9, l, []int{l[n/2].Id})
		}
	}
}

// Promise H2: no items have no longest straw, and no more than 0 of them.
func TestNoItems(t *testing.T) {
	for _, l := range [][]api.Weighted{nil, {}} {
		for _, key := range keys() {
			checkChoose(t, key, l, 0, api.ErrNone)
			checkSome(t, key, l, nil)
			for many := 1; many <= api.MaxNode; many++ {
				checkNoSome(t, key, l, many, api.ErrShort)
			}
		}
	}
}

// Promise H2: from 0 items to as many as have a positive weight may be had;
// others up to 16 are too many, and all other numbers are wrong, even if there
// are not enough.
func TestSomeNumbers(t *testing.T) {
	for _, l := range lists() {
		all := slowSome(6, l)
		for many := range api.MaxNode + 1 {
			if many <= len(all) {
				checkSome(t, 6, l, all[:many])
			} else {
				checkNoSome(t, 6, l, many, api.ErrShort)
			}
		}
		for _, many := range []int{17, 18, 400, 1 << 32, 1<<32 + 1, math.MaxInt, -1, -2, -16, -17, math.MinInt} {
			checkNoSome(t, 6, l, many, api.ErrRange)
		}
	}
}

// Promise H2: Choose and Some agree: the first item of Some is that of Choose,
// and each other one is that of Choose without those before it, or with weight
// 0 for these.
func TestChooseAndSome(t *testing.T) {
	for _, l := range lists() {
		for _, key := range keys()[:8] {
			checkChooseAndSome(t, key, l)
		}
	}
}

func checkChooseAndSome(t *testing.T, key uint64, l []api.Weighted) {
	t.Helper()
	all := len(slowSome(key, l))
	ids, err := straw.Some(key, l, all)
	if len(ids) != all || err != api.OK {
		t.Fatalf("Some(%#x, %v, %d) is %v, %d, want OK", key, l, all, ids, err)
	}
	rest, idle := slices.Clone(l), slices.Clone(l)
	for n, id := range ids {
		checkChoose(t, key, rest, id, api.OK)
		checkChoose(t, key, idle, id, api.OK)
		checkSome(t, key, l, ids[:n])
		checkSome(t, key, rest, ids[n:])
		chosen := func(a api.Weighted) bool { return a.Id == id }
		idle[slices.IndexFunc(idle, chosen)].Weight = 0
		rest = slices.DeleteFunc(rest, chosen)
	}
	checkChoose(t, key, rest, 0, api.ErrNone)
	checkChoose(t, key, idle, 0, api.ErrNone)
}

// Promise H2: the order of the list does not matter.
func TestAnyOrder(t *testing.T) {
	for _, l := range lists() {
		for _, key := range []uint64{0, 7, math.MaxUint64} {
			want := slowSome(key, l)
			turned := slices.Clone(l)
			for range l {
				turned = append(turned[1:], turned[0])
				checkAll(t, key, turned, want)
			}
			slices.Reverse(turned)
			checkAll(t, key, turned, want)
		}
	}
}

// Promise H2: an item that becomes heavier only attracts keys, and so does one
// that is added.
func TestOnlyAttracts(t *testing.T) {
	l := someItems(8)
	for key := range uint64(300) {
		was, _ := straw.Choose(key, l)
		for i := range l {
			for _, weight := range []int{l[i].Weight + 1, l[i].Weight + 20, maxWeight} {
				heavier := slices.Clone(l)
				heavier[i].Weight = min(weight, maxWeight)
				now, err := straw.Choose(key, heavier)
				if err != api.OK || now != was && now != l[i].Id {
					t.Errorf("key %d goes from %d to %d, %d, as %d gets weight %d", key, was, now, err, l[i].Id, weight)
				}
			}
		}
		now, err := straw.Choose(key, append(slices.Clone(l), item(66, 60)))
		if err != api.OK || now != was && now != 66 {
			t.Errorf("key %d goes from %d to %d, %d, as an item is added", key, was, now, err)
		}
	}
}

// Promises H1 and H2: items are chosen about as often as their weights say.
func TestShares(t *testing.T) {
	had := map[int]int{}
	for key := range uint64(15000) {
		id, _ := straw.Choose(key, []api.Weighted{item(1, 1), item(2, 2), item(3, 0), item(4, 4), item(8, 8)})
		had[id]++
	}
	for _, weight := range []int{1, 2, 4, 8} {
		if n := had[weight]; n < 950*weight || n > 1050*weight {
			t.Errorf("weight %d has %d of 15000 keys, want about %d", weight, n, 1000*weight)
		}
	}
	if had[3] != 0 {
		t.Errorf("weight 0 has %d keys", had[3])
	}
}

// Promise AA2: arguments stay as they are, with what lies behind them, which
// does not matter.
func TestArgumentsStay(t *testing.T) {
	for _, l := range lists() {
		for _, last := range []api.Weighted{item(1<<33, 100), item(-1, 1), item(7, 3)} {
			whole := append(slices.Clone(l), last, last, last)
			checkWrong(t, whole[:len(l)], api.OK)
			for _, key := range []uint64{0, 3, math.MaxUint64} {
				checkAll(t, key, whole[:len(l)], slowSome(key, l))
			}
			if !slices.Equal(whole, append(slices.Clone(l), last, last, last)) {
				t.Errorf("the list %v became %v", l, whole)
			}
		}
	}
}

// Promises AA1 and AA2: results are new, and calls give the same ones again.
func TestResultsAreNew(t *testing.T) {
	for _, l := range lists() {
		all := slowSome(2, l)
		mine := slices.Clone(l)
		first, _ := straw.Some(2, mine, len(all))
		second, _ := straw.Some(2, mine, len(all))
		clear(first[:cap(first)])
		if !slices.Equal(mine, l) || !slices.Equal(second, all) {
			t.Errorf("Some of %v has results that share memory", l)
		}
		clear(mine)
		if !slices.Equal(second, all) {
			t.Errorf("Some of %v changed with the list", l)
		}
		checkAll(t, 2, l, all)
	}
}
