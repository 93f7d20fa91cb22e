// Package mix: bits that are mixed; see doc/01-mix.md.
package mix

// The factors of One, and their inverses modulo 2^64, which Back needs.
const (
	firstFactor   uint64 = 0xff51afd7ed558ccd
	secondFactor  uint64 = 0xc4ceb9fe1a85ec53
	firstInverse  uint64 = 0x4f74430c22a54005
	secondInverse uint64 = 0x9cb4b2f8129337db
)

// The start and the factor of the FNV-1a hash.
const (
	textStart  uint64 = 0xcbf29ce484222325
	textFactor uint64 = 0x100000001b3
)

// fold undoes itself: its shift is at least half of the 64 bits, so that a
// second fold adds the same upper bits again.
func fold(x uint64) uint64 {
	return x ^ x>>33
}

// One returns the hash of x; different integers have different hashes.
func One(x uint64) uint64 {
	return fold(fold(fold(x)*firstFactor) * secondFactor)
}

// Back returns the integer whose hash is x: it undoes the steps of One in
// reverse order.
func Back(x uint64) uint64 {
	return fold(fold(fold(x)*secondInverse) * firstInverse)
}

// Two returns the hash of a and b, in this order.
func Two(a, b uint64) uint64 {
	return One(One(a) + b)
}

// Text returns the hash of the bytes of s.
func Text(s string) uint64 {
	state := textStart
	for i := range len(s) {
		state = (state ^ uint64(s[i])) * textFactor
	}
	return One(state)
}
