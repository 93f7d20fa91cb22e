package ring_test

import (
	"math"
	"slices"
	"testing"

	"strawloft/api"
	"strawloft/mix"
	"strawloft/ring"
)

// maxEach is the greatest number of tokens that Make gives to a node.
const maxEach = 20

// twins is pairs of nodes that have tokens at equal positions: those of the
// second one, from the token with the given number on, are those of the first
// one from its start on.
var twins = []struct{ first, second, from int }{
	{766665435163, 37979, 3}, {939678520044, 828539, 11}, {382705511841, 1842067, 6}, {2316767, 574494964198, 12},
}

// token is a token, in fewer words.
func token(at uint64, id int) api.Token {
	return api.Token{At: at, Id: id}
}

// before reports whether a token comes before another one, as the chapter
// sorts them.
func before(a, b api.Token) bool {
	return a.At < b.At || a.At == b.At && a.Id < b.Id
}

// slowMake is the ring of nodes by its definition, sorted by insertion.
func slowMake(ids []int, each int) []api.Token {
	var l []api.Token
	for _, id := range ids {
		for n := range each {
			next := token(mix.Two(uint64(id), uint64(n)), id)
			i := 0
			for i < len(l) && before(l[i], next) {
				i++
			}
			l = slices.Insert(l, i, next)
		}
	}
	return l
}

// slowTurn is the ids of all tokens in the order in which a key meets them,
// found without a search: those at or after its hash, and then the others.
func slowTurn(l []api.Token, key uint64) []int {
	var after, others []int
	for _, token := range l {
		if token.At >= mix.One(key) {
			after = append(after, token.Id)
		} else {
			others = append(others, token.Id)
		}
	}
	return append(after, others...)
}

// slowNodes is the different nodes of a ring in the order in which a key meets
// them.
func slowNodes(l []api.Token, key uint64) []int {
	var nodes []int
	met := map[int]bool{}
	for _, id := range slowTurn(l, key) {
		if !met[id] {
			nodes = append(nodes, id)
		}
		met[id] = true
	}
	return nodes
}

// slowWithout is the tokens of a ring that have another id.
func slowWithout(l []api.Token, id int) []api.Token {
	return slices.DeleteFunc(slices.Clone(l), func(t api.Token) bool { return t.Id == id })
}

// someIds is n different nodes.
func someIds(n int) []int {
	ids := []int{0, api.MaxTime, 37979, 766665435163, 1, 828539, 939678520044, api.MaxTime - 1, 2, 7, 5, 3, 12, 11, 1 << 32, 1<<32 + 5}
	return ids[:n]
}

// rings is valid rings of many kinds: those of Make, and others.
func rings() [][]api.Token {
	list := [][]api.Token{
		{}, {token(0, 0)}, {token(0, -1)}, {token(math.MaxUint64, math.MaxInt)}, {token(1<<63, math.MinInt)},
		{token(0, 5), token(9, 6)}, {token(4, 1), token(4, 2), token(4, 3)}, {token(4, 7), token(4, 7), token(4, 7)},
		{token(0, 1), token(0, 2), token(math.MaxUint64, 1), token(math.MaxUint64, 2)},
		{token(1<<63-1, 9), token(1<<63, 8), token(1<<63, 9), token(1<<63+1, 7)},
		{token(1, 3), token(1, 3), token(1<<62, -4), token(1<<62, 3), token(3<<62, -4), token(3<<62, 5), token(3<<62, 5)},
		full(1), full(2), full(3), full(17), full(api.MaxOps), full(1)[:399], slices.Repeat([]api.Token{token(77, 77)}, api.MaxOps),
	}
	for _, n := range []int{1, 2, 3, 7, 15, 16} {
		for _, each := range []int{1, 2, 5, 19, 20} {
			list = append(list, slowMake(someIds(n), each))
		}
	}
	for _, pair := range twins {
		list = append(list, slowMake([]int{pair.first, pair.second}, maxEach))
	}
	return list
}

// full is a ring of as many tokens as are allowed, of a number of nodes, two
// at each position.
func full(nodes int) []api.Token {
	var l []api.Token
	for i := range uint64(api.MaxOps / 2) {
		a, b := int(2*i)%nodes, int(2*i+1)%nodes
		l = append(l, token(i<<56+i, min(a, b)), token(i<<56+i, max(a, b)))
	}
	return l
}

// wrongRings is rings that are not valid: not sorted, somewhere, or with one
// token too many.
func wrongRings() [][]api.Token {
	list := [][]api.Token{
		{token(2, 1), token(1, 1)}, {token(2, 1), token(1, 2)}, {token(1, 2), token(1, 1)}, {token(0, 0), token(0, -1)},
		{token(1<<63, 1), token(1, 1)}, {token(math.MaxUint64, 1), token(0, 1)}, {token(1<<63, 1), token(1<<63-1, 1)},
		{token(5, 0), token(5, math.MinInt)}, {token(5, math.MaxInt), token(5, math.MinInt)}, {token(1<<32, 1), token(1, 1)},
		{token(1, 1), token(2, 1), token(4, 1), token(3, 1)}, {token(2, 1), token(1, 1), token(3, 1), token(4, 1)},
		{token(1, 1), token(3, 1), token(2, 1), token(4, 1)}, {token(1, 1), token(1, 3), token(1, 2), token(1, 4)},
		slices.Repeat([]api.Token{token(0, 0)}, api.MaxOps+1), slices.Repeat([]api.Token{token(9, 9)}, 2*api.MaxOps),
	}
	for _, nodes := range []int{1, 16, api.MaxOps} {
		list = append(list, append(full(nodes), token(math.MaxUint64, api.MaxOps)))
		for _, i := range []int{0, 1, 198, 398} {
			l := append(full(nodes), token(math.MaxUint64, api.MaxOps))[1:]
			l[i], l[i+1] = token(l[i+1].At+1, l[i+1].Id), l[i]
			list = append(list, l)
		}
	}
	return list
}

// keys is keys whose hashes are at, just before and just behind each token of
// a ring, at both ends of all positions, and anywhere.
func keys(l []api.Token) []uint64 {
	list := []uint64{0, 1, 2, 1 << 40, math.MaxUint64, mix.Back(0), mix.Back(1), mix.Back(math.MaxUint64), mix.Back(1 << 63), mix.Back(1<<63 - 1)}
	for _, token := range l {
		list = append(list, mix.Back(token.At-1), mix.Back(token.At), mix.Back(token.At+1))
	}
	for n := range uint64(20) {
		list = append(list, 3+n*n*n)
	}
	return list
}

// checkMake checks the ring, without an error.
func checkMake(t *testing.T, ids []int, each int, want []api.Token) {
	t.Helper()
	if got, err := ring.Make(ids, each); !slices.Equal(got, want) || err != api.OK {
		t.Errorf("Make(%v, %d) is %v, %d, want %v, OK", ids, each, got, err, want)
	}
}

// checkNoMake checks that Make has no ring, but an error.
func checkNoMake(t *testing.T, ids []int, each int, want api.Errno) {
	t.Helper()
	if got, err := ring.Make(ids, each); len(got) != 0 || err != want {
		t.Errorf("Make(%v, %d) is %v, %d, want none, %d", ids, each, got, err, want)
	}
}

// checkRight checks whether a ring is valid.
func checkRight(t *testing.T, l []api.Token, want bool) {
	t.Helper()
	if got := ring.Right(l); got != want {
		t.Errorf("Right(%v) is %t, want %t", l, got, want)
	}
}

// checkFind checks the result and the error of Find.
func checkFind(t *testing.T, l []api.Token, key uint64, want int, wantErr api.Errno) {
	t.Helper()
	if got, err := ring.Find(l, key); got != want || err != wantErr {
		t.Errorf("Find(%v, %#x) is %d, %d, want %d, %d; the hash is %#x", l, key, got, err, want, wantErr, mix.One(key))
	}
}

// checkSome checks the nodes, as many as are wanted, without an error.
func checkSome(t *testing.T, l []api.Token, key uint64, want []int) {
	t.Helper()
	if got, err := ring.Some(l, key, len(want)); !slices.Equal(got, want) || err != api.OK {
		t.Errorf("Some(%v, %#x, %d) is %v, %d, want %v, OK; the hash is %#x", l, key, len(want), got, err, want, mix.One(key))
	}
}

// checkNoSome checks that Some has no nodes, but an error.
func checkNoSome(t *testing.T, l []api.Token, key uint64, many int, want api.Errno) {
	t.Helper()
	if got, err := ring.Some(l, key, many); len(got) != 0 || err != want {
		t.Errorf("Some(%v, %#x, %d) is %v, %d, want none, %d", l, key, many, got, err, want)
	}
}

// checkWithout checks the ring, without an error.
func checkWithout(t *testing.T, l []api.Token, id int, want []api.Token) {
	t.Helper()
	if got, err := ring.Without(l, id); !slices.Equal(got, want) || err != api.OK {
		t.Errorf("Without(%v, %d) is %v, %d, want %v, OK", l, id, got, err, want)
	}
}

// Promise G1: rings computed apart from the program.
func TestMake(t *testing.T) {
	checkMake(t, []int{0}, 1, []api.Token{token(0, 0)})
	checkMake(t, []int{0, 1, 2}, 2, []api.Token{
		token(0, 0), token(0x2f001c5a9cf66fa8, 2), token(0x7d6e4ac38b2b1be2, 1),
		token(0x91dfcba429edc5f2, 2), token(0xb456bcfc34c2cb2c, 0), token(0xd522b5d820b5e72f, 1),
	})
	checkMake(t, []int{5, 7, api.MaxTime}, 2, []api.Token{
		token(0x0123e153b8ba50cc, 5), token(0x16531304d8af5066, 5), token(0x467e3aa6b1574cd9, api.MaxTime),
		token(0x5226c30177216e75, 7), token(0xda22418695c8a687, 7), token(0xf689a853cf78d01c, api.MaxTime),
	})
	checkMake(t, []int{7, 5, 3}, 3, []api.Token{
		token(0x0123e153b8ba50cc, 5), token(0x16531304d8af5066, 5), token(0x5226c30177216e75, 7),
		token(0x6b4d9fd2ed4b2ff3, 5), token(0x79a93482f6c9fc85, 3), token(0x868cb52c18dfba19, 7),
		token(0xac7cb627ca2f4a0c, 3), token(0xda22418695c8a687, 7), token(0xff79e27de779026f, 3),
	})
}

// Promise G1: rings of all numbers of nodes and tokens, up to 16 and 20, by
// their definition.
func TestMakeByDefinition(t *testing.T) {
	for n := range api.MaxNode + 1 {
		for each := 1; each <= maxEach; each++ {
			want := slowMake(someIds(n), each)
			if len(want) != n*each {
				t.Fatalf("%d nodes have %d tokens, want %d each", n, len(want), each)
			}
			checkMake(t, someIds(n), each, want)
			checkRight(t, want, true)
		}
	}
}

// Promise G1: a ring does not depend on the order of the nodes.
func TestMakeInAnyOrder(t *testing.T) {
	for n := range api.MaxNode + 1 {
		ids := someIds(n)
		want := slowMake(ids, 5)
		slices.Reverse(ids)
		checkMake(t, ids, 5, want)
		slices.Sort(ids)
		checkMake(t, ids, 5, want)
	}
}

// Promise G1: no nodes have an empty ring, however many tokens each has.
func TestMakeNoIds(t *testing.T) {
	for each := 1; each <= maxEach; each++ {
		checkMake(t, nil, each, nil)
		checkMake(t, []int{}, each, nil)
	}
}

// Promise G1: tokens of two nodes at equal positions are all kept, and are
// sorted by the nodes.
func TestMakeEqualPositions(t *testing.T) {
	checkMake(t, []int{766665435163, 37979}, 4, []api.Token{
		token(0x151dfb7a1bab9ce8, 37979), token(0x2cfb6d6ec562c083, 37979),
		token(0x3cb653e9c436a2dd, 766665435163), token(0x45f8e2cdb0e86f4c, 37979),
		token(0x45f8e2cdb0e86f4c, 766665435163), token(0x62c6bdd737b381db, 766665435163),
		token(0x95991fff3e28da3c, 766665435163), token(0xeee8307212d7f596, 37979),
	})
	for _, pair := range twins {
		for each := 1; each <= maxEach; each++ {
			want := slowMake([]int{pair.first, pair.second}, each)
			equal := 0
			for i := 1; i < len(want); i++ {
				if want[i-1].At == want[i].At {
					equal++
				}
			}
			if equal != max(0, each-pair.from) {
				t.Errorf("%d and %d have %d equal positions of %d", pair.first, pair.second, equal, each)
			}
			checkMake(t, []int{pair.first, pair.second}, each, want)
			checkMake(t, []int{pair.second, pair.first}, each, want)
		}
	}
}

// Promise G1: at most 16 nodes, with 1 to 20 tokens each.
func TestMakeNumbers(t *testing.T) {
	seventeen := append(someIds(16), 99)
	for _, each := range []int{1, 2, 10, 20} {
		if l, err := ring.Make(someIds(16), each); len(l) != 16*each || err != api.OK {
			t.Errorf("Make of 16 nodes and %d tokens is %v, %d, want OK", each, l, err)
		}
		checkNoMake(t, seventeen, each, api.ErrRange)
		checkNoMake(t, append(seventeen, 100), each, api.ErrRange)
		checkNoMake(t, make([]int, 1000), each, api.ErrRange)
	}
	for _, each := range []int{0, 21, -1, 22, -20, 400, 1 << 32, 1<<32 + 1, 1<<62 + 1, math.MaxInt, math.MinInt, math.MinInt + 1} {
		for _, n := range []int{0, 1, 2, 16} {
			checkNoMake(t, someIds(n), each, api.ErrRange)
		}
		checkNoMake(t, seventeen, each, api.ErrRange)
	}
}

// Promise G1: nodes are from 0 to MaxTime, and none occurs twice.
func TestMakeIds(t *testing.T) {
	for _, id := range []int{0, 1, api.MaxTime - 1, api.MaxTime} {
		checkMake(t, []int{id}, 3, slowMake([]int{id}, 3))
	}
	for _, id := range []int{-1, -2, api.MaxTime + 1, -api.MaxTime, 1 << 62, math.MaxInt, math.MinInt} {
		for i := range 5 {
			checkNoMake(t, slices.Insert([]int{4, 0, 6, api.MaxTime}, i, id), 2, api.ErrRange)
		}
		checkNoMake(t, []int{id}, 1, api.ErrRange)
	}
	for n := 1; n < api.MaxNode; n++ {
		for i := range n {
			checkNoMake(t, append(someIds(n), someIds(n)[i]), 1, api.ErrHeld)
			checkNoMake(t, slices.Insert(someIds(n), i, someIds(n)[n-1]), maxEach, api.ErrHeld)
		}
	}
	checkNoMake(t, make([]int, 16), 1, api.ErrHeld)
}

// Promise G1: the numbers are checked before the nodes, and these one by one.
func TestMakeOrderOfErrors(t *testing.T) {
	checkNoMake(t, []int{4, 4}, 0, api.ErrRange)
	checkNoMake(t, []int{4, 4}, 21, api.ErrRange)
	checkNoMake(t, make([]int, 17), 1, api.ErrRange)
	checkNoMake(t, []int{4, 4, -1}, 1, api.ErrHeld)
	checkNoMake(t, []int{4, 4, api.MaxTime + 1}, 1, api.ErrHeld)
	checkNoMake(t, []int{4, -1, 4}, 1, api.ErrRange)
	checkNoMake(t, []int{-1, 4, 4}, 1, api.ErrRange)
	checkNoMake(t, []int{-1, -1}, 1, api.ErrRange)
	checkNoMake(t, []int{api.MaxTime + 1, api.MaxTime + 1}, 1, api.ErrRange)
	checkNoMake(t, []int{0, 1, 2, 1, math.MaxInt, 2}, 20, api.ErrHeld)
}

// Promise G1: rings are valid that have up to MaxOps tokens, sorted by their
// positions, unsigned, and then by their nodes, whatever these are; tokens may
// be equal.
func TestRight(t *testing.T) {
	checkRight(t, nil, true)
	for _, l := range rings() {
		checkRight(t, l, true)
	}
	for _, l := range wrongRings() {
		checkRight(t, l, false)
	}
	for _, n := range []int{399, 400, 401, 402} {
		checkRight(t, make([]api.Token, n), n <= 400)
	}
}

// Promise G1: a ring in which any two neighbours that differ are exchanged is
// not valid.
func TestRightOfExchanged(t *testing.T) {
	for _, l := range rings() {
		for i := 1; i < len(l); i++ {
			wrong := slices.Clone(l)
			wrong[i-1], wrong[i] = l[i], l[i-1]
			checkRight(t, wrong, l[i-1] == l[i])
		}
	}
}

// Promise G1: Without leaves out all tokens of a node, wherever they are, and
// no others.
func TestWithout(t *testing.T) {
	l := []api.Token{token(1, 5), token(3, 6), token(3, 7), token(3, 7), token(8, 5), token(9, -2), token(9, 5)}
	checkWithout(t, l, 5, []api.Token{token(3, 6), token(3, 7), token(3, 7), token(9, -2)})
	checkWithout(t, l, 6, []api.Token{token(1, 5), token(3, 7), token(3, 7), token(8, 5), token(9, -2), token(9, 5)})
	checkWithout(t, l, 7, []api.Token{token(1, 5), token(3, 6), token(8, 5), token(9, -2), token(9, 5)})
	checkWithout(t, l, -2, []api.Token{token(1, 5), token(3, 6), token(3, 7), token(3, 7), token(8, 5), token(9, 5)})
	for _, l := range rings() {
		for _, id := range append(slowNodes(l, 0), 0, 5, -1, 4, api.MaxTime) {
			checkWithout(t, l, id, slowWithout(l, id))
		}
	}
}

// Promise G1: Without a node that has no tokens, any number, a ring is as it
// was; without its only node, it is empty.
func TestWithoutNoneOrAll(t *testing.T) {
	for _, l := range rings() {
		for _, id := range []int{-7, 400, 3000, api.MaxTime + 1, math.MaxInt - 1, math.MinInt + 1} {
			checkWithout(t, l, id, l)
		}
	}
	checkWithout(t, nil, 0, nil)
	checkWithout(t, []api.Token{token(0, 0)}, 0, nil)
	checkWithout(t, []api.Token{token(3, -9)}, -9, nil)
	checkWithout(t, full(1), 0, nil)
	checkWithout(t, slices.Repeat([]api.Token{token(1, math.MaxInt)}, 5), math.MaxInt, nil)
	for each := 1; each <= maxEach; each++ {
		checkWithout(t, slowMake([]int{8}, each), 8, nil)
	}
}

// Promise G1: the ring of some nodes without one of them is that of the others.
func TestWithoutAndMake(t *testing.T) {
	for n := 1; n <= api.MaxNode; n++ {
		for i, id := range someIds(n) {
			l, _ := ring.Make(someIds(n), 7)
			want, _ := ring.Make(slices.Delete(someIds(n), i, i+1), 7)
			checkWithout(t, l, id, want)
		}
	}
}

// Promises G1 and G2: of a ring that is not valid, each function says so,
// whatever else is wrong; a ring of one token less than that is fine.
func TestNotValid(t *testing.T) {
	for _, l := range wrongRings() {
		for _, id := range []int{0, 1, 9, -1, math.MaxInt} {
			if got, err := ring.Without(l, id); len(got) != 0 || err != api.ErrForm {
				t.Errorf("Without(%v, %d) is %v, %d, want none, ErrForm", l, id, got, err)
			}
		}
		for _, key := range keys(l[:2]) {
			checkFind(t, l, key, 0, api.ErrForm)
			for _, many := range []int{0, 1, 2, 16, 17, -1, math.MaxInt, math.MinInt} {
				checkNoSome(t, l, key, many, api.ErrForm)
			}
		}
	}
	for _, l := range [][]api.Token{full(1), full(16), full(api.MaxOps)} {
		checkFind(t, l, 0, 0, api.OK)
		checkSome(t, l, 0, []int{0})
	}
}

// Promise G2: a key belongs to the token at its hash, or the first one behind
// that, and behind the last token to the first one.
func TestFind(t *testing.T) {
	l := []api.Token{token(10, 5), token(20, 6), token(1<<63, 7), token(1<<63+9, -8)}
	for _, c := range []struct {
		hash uint64
		want int
	}{
		{0, 5}, {9, 5}, {10, 5}, {11, 6}, {19, 6}, {20, 6}, {21, 7}, {1<<63 - 1, 7}, {1 << 63, 7},
		{1<<63 + 1, -8}, {1<<63 + 9, -8}, {1<<63 + 10, 5}, {math.MaxUint64 - 1, 5}, {math.MaxUint64, 5},
	} {
		checkFind(t, l, mix.Back(c.hash), c.want, api.OK)
	}
	checkFind(t, []api.Token{token(0, 5), token(9, 6)}, 0, 5, api.OK)
	checkFind(t, []api.Token{token(0, 5), token(9, 6)}, 1, 5, api.OK) // behind both
	edge := []api.Token{token(0, 1), token(math.MaxUint64, 2)}
	checkFind(t, edge, mix.Back(0), 1, api.OK)
	checkFind(t, edge, mix.Back(1), 2, api.OK)
	checkFind(t, edge, mix.Back(math.MaxUint64), 2, api.OK)
	for _, hash := range []uint64{0, 6, 7, 8, 1 << 63, math.MaxUint64} {
		checkFind(t, []api.Token{token(7, 42)}, mix.Back(hash), 42, api.OK)
	}
}

// Promise G2: keys in a ring computed apart from the program: One(1) is
// 0xb456bcfc34c2cb2c, the place of node 0's second token; One(2) is
// 0x3abf2a20650683e7.
func TestFindInMade(t *testing.T) {
	l, _ := ring.Make([]int{0, 1, 2}, 2)
	checkFind(t, l, 0, 0, api.OK)
	checkFind(t, l, 1, 0, api.OK)
	checkFind(t, l, 2, 1, api.OK)
	checkFind(t, l, mix.Back(0xb456bcfc34c2cb2d), 1, api.OK)
	checkFind(t, l, mix.Back(0xd522b5d820b5e72f), 1, api.OK)
	checkFind(t, l, mix.Back(0xd522b5d820b5e730), 0, api.OK)
	checkFind(t, l, mix.Back(0x2f001c5a9cf66fa7), 2, api.OK)
	checkFind(t, l, mix.Back(1), 2, api.OK)
}

// Promise G2: of tokens at one position the first one counts, that of the
// smallest node, however many there are.
func TestFindEqualPositions(t *testing.T) {
	l := []api.Token{token(5, 3), token(5, 3), token(5, 4), token(9, -6), token(9, 0), token(9, 2), token(9, 2)}
	for _, c := range []struct {
		hash uint64
		want int
	}{{0, 3}, {4, 3}, {5, 3}, {6, -6}, {8, -6}, {9, -6}, {10, 3}, {math.MaxUint64, 3}} {
		checkFind(t, l, mix.Back(c.hash), c.want, api.OK)
	}
	for n := 1; n <= 40; n++ {
		var same []api.Token
		for id := range n {
			same = append(same, token(1<<63, id-7))
		}
		for _, hash := range []uint64{0, 1<<63 - 1, 1 << 63, 1<<63 + 1} {
			checkFind(t, same, mix.Back(hash), -7, api.OK)
		}
	}
	for _, pair := range twins {
		twin, _ := ring.Make([]int{pair.first, pair.second}, maxEach)
		key := mix.Back(mix.Two(uint64(pair.first), 0))
		checkFind(t, twin, key, min(pair.first, pair.second), api.OK)
		checkSome(t, twin, key, []int{min(pair.first, pair.second), max(pair.first, pair.second)})
	}
}

// Promise G2: keys at and beside each token of many rings, by the definition.
func TestFindByDefinition(t *testing.T) {
	for _, l := range rings() {
		for _, key := range keys(l) {
			if len(l) == 0 {
				checkFind(t, l, key, 0, api.ErrNone)
			} else {
				checkFind(t, l, key, slowTurn(l, key)[0], api.OK)
			}
		}
	}
}

// Promise G2: a ring without tokens has no node for a key, and no more than 0
// of them.
func TestNoTokens(t *testing.T) {
	for _, l := range [][]api.Token{nil, {}} {
		for _, key := range keys(nil) {
			checkFind(t, l, key, 0, api.ErrNone)
			checkSome(t, l, key, nil)
			for many := 1; many <= api.MaxNode; many++ {
				checkNoSome(t, l, key, many, api.ErrShort)
			}
			for _, many := range []int{-1, 17, math.MinInt, math.MaxInt} {
				checkNoSome(t, l, key, many, api.ErrRange)
			}
		}
	}
}

// Promise G2: different nodes from the one that Find uses on, around the end
// of the ring, each where it occurs first.
func TestSome(t *testing.T) {
	l := []api.Token{token(10, 5), token(20, 6), token(30, 5), token(40, 5), token(50, 7), token(50, 8), token(60, 6)}
	for _, c := range []struct {
		hash uint64
		want []int
	}{
		{0, []int{5, 6, 7, 8}}, {10, []int{5, 6, 7, 8}}, {11, []int{6, 5, 7, 8}}, {20, []int{6, 5, 7, 8}},
		{21, []int{5, 7, 8, 6}}, {31, []int{5, 7, 8, 6}}, {40, []int{5, 7, 8, 6}}, {41, []int{7, 8, 6, 5}},
		{50, []int{7, 8, 6, 5}}, {51, []int{6, 5, 7, 8}}, {60, []int{6, 5, 7, 8}}, {61, []int{5, 6, 7, 8}},
		{math.MaxUint64, []int{5, 6, 7, 8}},
	} {
		for many := range 5 {
			checkSome(t, l, mix.Back(c.hash), c.want[:many])
		}
		checkNoSome(t, l, mix.Back(c.hash), 5, api.ErrShort)
	}
	made, _ := ring.Make([]int{0, 1, 2}, 2)
	checkSome(t, made, 0, []int{0, 2, 1})
	checkSome(t, made, 1, []int{0, 1, 2})
	checkSome(t, made, 2, []int{1, 2, 0})
	checkSome(t, made, mix.Back(0xd522b5d820b5e730), []int{0, 2, 1})
}

// Promise G2: all numbers of nodes, from 0 to those that the ring has, and one
// more, in many rings and for keys everywhere, by the definition.
func TestSomeByDefinition(t *testing.T) {
	for _, l := range rings() {
		for _, key := range keys(l) {
			nodes := slowNodes(l, key)
			for many := range min(len(nodes), api.MaxNode) + 1 {
				checkSome(t, l, key, nodes[:many])
			}
			for many := len(nodes) + 1; many <= api.MaxNode; many++ {
				checkNoSome(t, l, key, many, api.ErrShort)
			}
		}
	}
}

// Promise G2: from 0 to MaxNode nodes may be asked for, also of a ring that
// has more or fewer.
func TestSomeNumbers(t *testing.T) {
	for _, l := range rings() {
		for _, many := range []int{17, 18, 400, 1 << 32, math.MaxInt, -1, -2, -16, -17, math.MinInt} {
			checkNoSome(t, l, 3, many, api.ErrRange)
		}
		checkSome(t, l, 3, nil)
	}
	for _, nodes := range []int{16, 17, 400} {
		if got, err := ring.Some(full(nodes), 0, 16); len(got) != 16 || err != api.OK {
			t.Errorf("Some 16 of %d nodes is %v, %d, want OK", nodes, got, err)
		}
	}
	fifteen, _ := ring.Make(someIds(15), maxEach)
	checkNoSome(t, fifteen, 0, 16, api.ErrShort)
	checkNoSome(t, fifteen, 0, 17, api.ErrRange)
}

// Promise G2: Find and Some agree: the first node of Some is that of Find, and
// each other one is that of Find in the ring without those before it.
func TestFindAndSome(t *testing.T) {
	for _, l := range rings() {
		for _, key := range keys(l) {
			checkFindAndSome(t, l, key)
		}
	}
}

func checkFindAndSome(t *testing.T, l []api.Token, key uint64) {
	t.Helper()
	all := min(len(slowNodes(l, key)), api.MaxNode)
	nodes, err := ring.Some(l, key, all)
	if len(nodes) != all || err != api.OK {
		t.Fatalf("Some(%v, %#x, %d) is %v, %d, want OK", l, key, all, nodes, err)
	}
	rest := l
	for i, id := range nodes {
		checkFind(t, rest, key, id, api.OK)
		checkSome(t, l, key, nodes[:i])
		rest, _ = ring.Without(rest, id)
	}
	if all < api.MaxNode {
		checkFind(t, rest, key, 0, api.ErrNone)
		checkNoSome(t, l, key, all+1, api.ErrShort)
	}
}

// Promises G1 and G2: a node that goes moves its own keys, and no others; each
// node has some.
func TestOnlyOwnKeysMove(t *testing.T) {
	l, _ := ring.Make(someIds(16), maxEach)
	had := map[int]int{}
	for key := range uint64(1000) {
		id, _ := ring.Find(l, key)
		had[id]++
		for _, gone := range someIds(16) {
			rest, _ := ring.Without(l, gone)
			now, err := ring.Find(rest, key)
			if err != api.OK || (now == id) != (gone != id) {
				t.Errorf("key %d goes from %d to %d, %d, without %d", key, id, now, err, gone)
			}
		}
	}
	if len(had) != 16 {
		t.Errorf("only %d nodes have keys: %v", len(had), had)
	}
}

// Promise AA2: arguments stay as they are, with what lies behind them, which
// does not matter.
func TestArgumentsStay(t *testing.T) {
	for _, l := range rings() {
		for _, last := range []api.Token{token(0, math.MinInt), token(math.MaxUint64, math.MaxInt)} {
			whole := append(slices.Clone(l), last, last, last)
			part := whole[:len(l)]
			checkRight(t, part, true)
			checkFindAndSome(t, part, 1)
			checkFindAndSome(t, part, mix.Back(math.MaxUint64))
			for _, id := range append(slowNodes(l, 0), 4) {
				checkWithout(t, part, id, slowWithout(l, id))
			}
			if !slices.Equal(whole, append(slices.Clone(l), last, last, last)) {
				t.Errorf("the ring %v became %v", l, whole)
			}
		}
	}
	for n := range api.MaxNode {
		ids := someIds(16)
		checkMake(t, ids[:n], 3, slowMake(someIds(n), 3))
		if !slices.Equal(ids, someIds(16)) {
			t.Errorf("the nodes %v became %v", someIds(16), ids)
		}
	}
}

// Promises AA1 and AA2: results do not change with the arguments, nor these
// with the results, and calls give the same results again.
func TestResultsAreNew(t *testing.T) {
	for _, l := range rings() {
		for _, id := range append(slowNodes(l, 0), 4) {
			mine := slices.Clone(l)
			rest, _ := ring.Without(mine, id)
			nodes, _ := ring.Some(mine, 0, 0)
			clear(rest[:cap(rest)])
			clear(nodes[:cap(nodes)])
			if !slices.Equal(mine, l) {
				t.Errorf("a result of Without(%v, %d) is part of the ring", l, id)
			}
			rest, _ = ring.Without(mine, id)
			clear(mine)
			if !slices.Equal(rest, slowWithout(l, id)) {
				t.Errorf("Without(%v, %d) became %v", l, id, rest)
			}
		}
	}
	for range 3 {
		ids := someIds(16)
		l, _ := ring.Make(ids, 4)
		nodes, _ := ring.Some(l, 0, 16)
		clear(ids)
		if !slices.Equal(l, slowMake(someIds(16), 4)) || !slices.Equal(nodes, slowNodes(l, 0)) {
			t.Error("a ring changed with its nodes")
		}
		clear(l[:cap(l)])
		clear(nodes[:cap(nodes)])
	}
}
