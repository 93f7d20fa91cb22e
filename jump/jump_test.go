package jump_test

import (
	"math"
	"math/big"
	"slices"
	"testing"

	"strawloft/api"
	"strawloft/jump"
)

// maxBuckets is the greatest number of buckets.
const maxBuckets = 1 << 20

// keyFactor is what a key is multiplied by before each jump.
const keyFactor uint64 = 2862933555777941757

// lastKeys is keys that visit the last one of all buckets.
var lastKeys = []uint64{1222550, 2396124, 3214223}

// uneven is jumps to whole quotients that come out too small if the bucket is
// multiplied by a quotient of floats.
var uneven = []struct{ bucket, divisor, next int }{
	{48, 49 << 12, 1 << 19}, {48, 49 << 20, 1 << 11}, {48, 49 << 24, 1 << 7}, {48, 49 << 25, 1 << 6},
	{97, 49 << 13, 1 << 19}, {97, 49 << 24, 1 << 8}, {97, 49 << 25, 1 << 7},
}

// power2 is 2 to the power of n.
func power2(n uint) *big.Int {
	return new(big.Int).Lsh(big.NewInt(1), n)
}

// slowStep is the key of the next jump and its divisor, by the chapter, with
// integers of any size.
func slowStep(key *big.Int) (*big.Int, *big.Int) {
	factor := new(big.Int).SetUint64(keyFactor)
	key = new(big.Int).Mul(key, factor)
	key.Add(key, big.NewInt(1)).Mod(key, power2(64))
	divisor := new(big.Int).Div(key, power2(33))
	return key, divisor.Add(divisor, big.NewInt(1))
}

// slowVisits is all buckets that a key visits, up to the first one that is not
// less than maxBuckets, with it.
func slowVisits(key uint64) []*big.Int {
	state, divisor := new(big.Int).SetUint64(key), new(big.Int)
	list := []*big.Int{big.NewInt(0)}
	for list[len(list)-1].Cmp(big.NewInt(maxBuckets)) < 0 {
		state, divisor = slowStep(state)
		bucket := new(big.Int).Add(list[len(list)-1], big.NewInt(1))
		bucket.Mul(bucket, power2(31))
		list = append(list, bucket.Div(bucket, divisor))
	}
	return list
}

// below is the visited buckets that are less than many.
func below(visits []*big.Int, many int) []int {
	var list []int
	for _, bucket := range visits {
		if bucket.Cmp(big.NewInt(int64(many))) < 0 {
			list = append(list, int(bucket.Int64()))
		}
	}
	return list
}

// keyBefore is the key that becomes the given one in one jump.
func keyBefore(state uint64) uint64 {
	inverse := keyFactor // of an odd number: right in 3 bits, and each turn doubles them
	for range 5 {
		inverse *= 2 - keyFactor*inverse
	}
	return (state - 1) * inverse
}

// keyWith is a key whose first jump has a divisor, with the lower bits given.
func keyWith(divisor int, lower uint64) uint64 {
	return keyBefore(uint64(divisor-1)<<33 | lower)
}

// keyThrough is a key whose first jump leads to a bucket, and whose second one
// has a divisor.
func keyThrough(bucket, divisor int) uint64 {
	for lower := uint64(0); ; lower++ {
		key := keyBefore(keyWith(divisor, lower))
		if slowVisits(key)[1].Cmp(big.NewInt(int64(bucket))) == 0 {
			return key
		}
	}
}

// keys is keys of many kinds.
func keys() []uint64 {
	list := []uint64{
		0, 1, 2, 3, 7, 12345, 1<<31 - 1, 1 << 31, 1 << 32, 1<<33 - 1, 1 << 33, 1<<33 + 1, 1<<63 - 1, 1 << 63, 1<<63 + 1,
		0x0123456789abcdef, math.MaxUint64 - 1, math.MaxUint64, keyBefore(0), keyBefore(1), keyBefore(math.MaxUint64),
	}
	for _, divisor := range divisors() {
		list = append(list, keyWith(divisor, 0), keyWith(divisor, 1<<33-1))
	}
	for n := range uint64(20) {
		list = append(list, 4+n*n*n, n*0x9e3779b97f4a7c15)
	}
	return append(list, lastKeys...)
}

// divisors is divisors of a jump: the least and the greatest one, and ones at
// and beside which the first jump leads elsewhere.
func divisors() []int {
	return []int{
		1, 2, 3, 1023, 1024, 1025, 2047, 2048, 2049, 2050, 4095, 4096, 4097, 1 << 20, 1<<20 + 1, 1 << 29, 1<<29 + 1,
		1<<31/3 - 1, 1 << 31 / 3, 1<<31/3 + 1, 1<<30 - 1, 1 << 30, 1<<30 + 1, 1<<31 - 2, 1<<31 - 1, 1 << 31,
	}
}

// numbers is numbers of buckets: small ones, great ones, and powers of 2 with
// those beside them.
func numbers() []int {
	list := []int{5, 6, 10, 100, 666, 1000, 100001, 400000, 1000000}
	for n := 1; n <= maxBuckets; n *= 2 {
		list = append(list, max(1, n-1), n, min(n+1, maxBuckets))
	}
	return list
}

// checkBucket checks the bucket, without an error.
func checkBucket(t *testing.T, key uint64, many, want int) {
	t.Helper()
	if got, err := jump.Bucket(key, many); got != want || err != api.OK {
		t.Errorf("Bucket(%#x, %d) is %d, %d, want %d, OK", key, many, got, err, want)
	}
}

// checkJumps checks the buckets, without an error.
func checkJumps(t *testing.T, key uint64, many int, want []int) {
	t.Helper()
	if got, err := jump.Jumps(key, many); !slices.Equal(got, want) || err != api.OK {
		t.Errorf("Jumps(%#x, %d) is %v, %d, want %v, OK", key, many, got, err, want)
	}
}

// checkBoth checks the visited buckets and the last one of them.
func checkBoth(t *testing.T, key uint64, many int, want []int) {
	t.Helper()
	checkJumps(t, key, many, want)
	checkBucket(t, key, many, want[len(want)-1])
}

// checkRange checks that there are no buckets, but ErrRange.
func checkRange(t *testing.T, key uint64, many int) {
	t.Helper()
	if got, err := jump.Bucket(key, many); got != 0 || err != api.ErrRange {
		t.Errorf("Bucket(%#x, %d) is %d, %d, want 0, ErrRange", key, many, got, err)
	}
	if got, err := jump.Jumps(key, many); len(got) != 0 || err != api.ErrRange {
		t.Errorf("Jumps(%#x, %d) is %v, %d, want none, ErrRange", key, many, got, err)
	}
}

// Promise I1: buckets computed apart from the program.
func TestBucket(t *testing.T) {
	for _, c := range []struct {
		key        uint64
		many, want int
	}{
		{42, 57, 43}, {0xdead10cc, 1, 0}, {0xdead10cc, 666, 361}, {256, 1024, 520}, {2, 100001, 80343}, {2201, 100001, 22152},
		{2202, 100001, 15018}, {10863919174838991, 11, 6}, {2016238256797177309, 11, 3}, {1673758223894951030, 11, 5},
		{0, maxBuckets, 0}, {1, maxBuckets, 985611}, {1, 985611, 94075}, {7, 100, 97}, {7, 12, 11}, {7, 11, 0},
		{1 << 33, 1000, 993}, {1<<63 - 1, maxBuckets, 622539}, {1 << 63, maxBuckets, 802256}, {math.MaxUint64, maxBuckets, 589430},
		{1222550, maxBuckets, maxBuckets - 1}, {1222550, maxBuckets - 1, 278346},
	} {
		checkBucket(t, c.key, c.many, c.want)
	}
}

// Promise I1: visited buckets computed apart from the program.
func TestJumps(t *testing.T) {
	for _, c := range []struct {
		key  uint64
		many int
		want []int
	}{
		{0, maxBuckets, []int{0}},
		{1, maxBuckets, []int{0, 6, 17, 42, 43, 45, 55, 192, 261, 493, 549, 1160, 2323, 8421, 21134, 94075, 985611}},
		{2, 100001, []int{0, 3, 6, 15, 30, 31, 46, 62, 338, 1046, 3927, 80343}},
		{7, 100, []int{0, 11, 13, 26, 89, 94, 97}},
		{1<<33 - 1, 100, []int{0, 1, 8, 11, 13, 22, 32, 99}},
		{1 << 33, 1000, []int{0, 16, 33, 42, 91, 148, 268, 340, 784, 993}},
		{1 << 63, 108, []int{0, 1, 3, 4, 5, 12, 27, 84, 107}},
		{1 << 63, 107, []int{0, 1, 3, 4, 5, 12, 27, 84}},
		{math.MaxUint64 - 1, 2000, []int{0, 1, 3, 10, 34, 35, 137, 150, 382}},
		{math.MaxUint64, 3, []int{0, 1, 2}},
		{math.MaxUint64, maxBuckets, []int{0, 1, 2, 7, 9, 10, 92, 248, 295, 313, 1921, 5934, 13242, 18311, 119375, 208580, 589430}},
		{1222550, maxBuckets, []int{0, 1, 8, 29, 30, 85, 254, 533, 67914, 278346, maxBuckets - 1}},
	} {
		checkBoth(t, c.key, c.many, c.want)
	}
}

// Promise I1: visited buckets by the chapter's formula.
func TestByDefinition(t *testing.T) {
	for _, key := range keys() {
		visits := slowVisits(key)
		for _, many := range numbers() {
			checkBoth(t, key, many, below(visits, many))
		}
		for many := 1; many <= 70; many++ {
			checkBoth(t, key, many, below(visits, many))
		}
	}
	for key := range uint64(3000) {
		checkBoth(t, key, maxBuckets, below(slowVisits(key), maxBuckets))
	}
}

// Promise I1: there are from 1 to 2^20 buckets.
func TestNumbers(t *testing.T) {
	for _, key := range keys() {
		for _, many := range []int{
			0, -1, -2, -100, -maxBuckets, 1 - maxBuckets, math.MinInt, math.MinInt + 1, maxBuckets + 1, maxBuckets + 2, 2 * maxBuckets,
			1 << 31, 1 << 32, 1<<32 + 1, 1<<32 + 100, api.MaxTime, 1 << 62, math.MaxInt - 1, math.MaxInt,
		} {
			checkRange(t, key, many)
		}
		visits := slowVisits(key)
		for _, many := range []int{1, 2, maxBuckets - 1, maxBuckets} {
			checkBoth(t, key, many, below(visits, many))
		}
	}
}

// Promise I1: all keys belong to the only bucket.
func TestOneBucket(t *testing.T) {
	for _, key := range keys() {
		checkBoth(t, key, 1, []int{0})
	}
	for key := range uint64(1000) {
		checkBoth(t, key*key*key, 1, []int{0})
	}
}

// Promise I1: of many buckets, the last one is visited by some keys, and there
// is none behind it.
func TestLastBucket(t *testing.T) {
	for _, key := range lastKeys {
		visits := slowVisits(key)
		checkBucket(t, key, maxBuckets, maxBuckets-1)
		checkBoth(t, key, maxBuckets, below(visits, maxBuckets))
		checkBoth(t, key, maxBuckets-1, below(visits, maxBuckets-1))
		checkRange(t, key, maxBuckets+1)
	}
}

// Promise I1: first jumps with all kinds of divisors, whatever the lower bits
// of the key.
func TestFirstJump(t *testing.T) {
	for _, divisor := range divisors() {
		want := 1 << 31 / divisor
		for _, lower := range []uint64{0, 1, 1 << 32, 1<<33 - 2, 1<<33 - 1} {
			key := keyWith(divisor, lower)
			if got := slowVisits(key)[1]; got.Cmp(big.NewInt(int64(want))) != 0 {
				t.Fatalf("key %#x visits %v first, want %d", key, got, want)
			}
			checkBoth(t, key, min(want, maxBuckets), []int{0})
			if want < maxBuckets {
				checkBoth(t, key, want+1, []int{0, want})
			}
		}
	}
}

// Promise I1: the shortest first jump leads to bucket 1, also if it is short
// of 2 by as little as can be; the longest one leads behind all buckets, also
// if only by 1, and the longest other one does not.
func TestShortestAndLongest(t *testing.T) {
	for _, divisor := range []int{1 << 31, 1<<31 - 1, 1<<30 + 1} {
		key := keyWith(divisor, 5)
		checkBoth(t, key, 1, []int{0})
		checkBoth(t, key, 2, []int{0, 1})
		checkBoth(t, key, maxBuckets, below(slowVisits(key), maxBuckets))
	}
	checkBoth(t, keyWith(1<<30, 5), 2, []int{0})
	checkBoth(t, keyWith(1<<30, 5), 3, []int{0, 2})
	for _, divisor := range []int{1, 2, 3, 2047, 2048} {
		for _, many := range []int{1, 2, 1000, maxBuckets - 1, maxBuckets} {
			checkBoth(t, keyWith(divisor, 5), many, []int{0})
		}
	}
	checkJumps(t, keyWith(2049, 5), 1048064, []int{0})
	checkJumps(t, keyWith(2049, 5), 1048065, []int{0, 1048064})
}

// Promise I1: later jumps with the least divisors and the greatest ones.
func TestSecondJump(t *testing.T) {
	for _, bucket := range []int{1, 2, 3, 10, 31} {
		for _, divisor := range []int{1 << 31, 1<<31 - 1} {
			key := keyThrough(bucket, divisor)
			checkBoth(t, key, bucket, []int{0})
			checkBoth(t, key, bucket+1, []int{0, bucket})
			checkBoth(t, key, bucket+2, []int{0, bucket, bucket + 1})
		}
		for _, divisor := range []int{1, 2, 2047, 2048} {
			checkBoth(t, keyThrough(bucket, divisor), maxBuckets, []int{0, bucket})
		}
	}
}

// Promise I1: the bucket is rounded down from the exact quotient: whole ones
// stay, where a product of a rounded quotient is less.
func TestExact(t *testing.T) {
	for _, c := range uneven {
		if float := int(float64(c.bucket+1) * (float64(1<<31) / float64(c.divisor))); float != c.next-1 {
			t.Errorf("from %d by %d, floats lead to %d, want %d", c.bucket, c.divisor, float, c.next-1)
		}
		key := keyThrough(c.bucket, c.divisor)
		checkBoth(t, key, c.bucket+1, []int{0, c.bucket})
		checkBoth(t, key, c.next, []int{0, c.bucket})
		checkBoth(t, key, c.next+1, []int{0, c.bucket, c.next})
		key = keyThrough(c.bucket, c.divisor+1)
		less := (c.bucket + 1) << 31 / (c.divisor + 1)
		checkBoth(t, key, less, []int{0, c.bucket})
		checkBoth(t, key, less+1, []int{0, c.bucket, less})
	}
}

// Promise I1: visited buckets begin with 0, increase and are less than many.
func TestIncreasing(t *testing.T) {
	for _, key := range keys() {
		for _, many := range numbers() {
			l, err := jump.Jumps(key, many)
			if len(l) == 0 || l[0] != 0 || l[len(l)-1] >= many || err != api.OK {
				t.Fatalf("Jumps(%#x, %d) is %v, %d", key, many, l, err)
			}
			for i := 1; i < len(l); i++ {
				if l[i] <= l[i-1] {
					t.Errorf("Jumps(%#x, %d) is %v, which does not increase", key, many, l)
				}
			}
		}
	}
}

// Promise I1: Bucket and Jumps agree: a bucket is reached as soon as there are
// more buckets than its number, and is kept up to the next one.
func TestBucketAndJumps(t *testing.T) {
	for _, key := range keys() {
		l, err := jump.Jumps(key, maxBuckets)
		if err != api.OK {
			t.Fatalf("Jumps(%#x, %d) is %v, %d", key, maxBuckets, l, err)
		}
		for i, bucket := range l {
			checkBoth(t, key, bucket+1, l[:i+1])
			checkBoth(t, key, min(bucket+2, maxBuckets), below(slowVisits(key), min(bucket+2, maxBuckets)))
			if i > 0 {
				checkBoth(t, key, bucket, l[:i])
			}
		}
		checkBoth(t, key, maxBuckets, l)
	}
}

// Promise I1: a bucket that is added gets keys from all others, and no key
// moves but to it.
func TestOnlyToTheNewBucket(t *testing.T) {
	for key := range uint64(500) {
		was := 0
		for many := 1; many <= 200; many++ {
			now, err := jump.Bucket(key, many)
			if err != api.OK || now != was && now != many-1 {
				t.Errorf("key %d goes from %d to %d, %d, of %d buckets", key, was, now, err, many)
			}
			was = now
		}
	}
}

// Promise I1: the buckets have about as many keys each.
func TestShares(t *testing.T) {
	had := map[int]int{}
	for key := range uint64(20000) {
		bucket, _ := jump.Bucket(key*0x9e3779b97f4a7c15, 10)
		had[bucket]++
	}
	for bucket := range 10 {
		if n := had[bucket]; n < 1850 || n > 2150 {
			t.Errorf("bucket %d has %d of 20000 keys, want about 2000", bucket, n)
		}
	}
}

// Promises AA1 and AA2: results are new, and calls give the same ones again.
func TestResultsAreNew(t *testing.T) {
	for _, key := range keys() {
		want := below(slowVisits(key), 5000)
		first, _ := jump.Jumps(key, 5000)
		second, _ := jump.Jumps(key, 5000)
		clear(first[:cap(first)])
		if !slices.Equal(second, want) {
			t.Errorf("Jumps(%#x, 5000) has results that share memory", key)
		}
		checkBoth(t, key, 5000, want)
		checkRange(t, key, 0)
		checkBoth(t, key, 5000, want)
	}
}
