package pair

import (
	"slices"

	"strawloft/gf"
)

// base is what the weights of the disks are powers of.
const base = 2

// sum returns the sum of the disks but those that are lost.
func sum(disks [][]byte, lost ...int) []byte {
	row := make([]byte, len(disks[0]))
	for i, disk := range disks {
		if !slices.Contains(lost, i) {
			add(row, disk)
		}
	}
	return row
}

// weightedSum returns the sum of the disks but those that are lost, each
// multiplied by its weight. It goes from the last disk to the first one,
// because then each step needs only a product with the base.
func weightedSum(disks [][]byte, lost ...int) []byte {
	row := make([]byte, len(disks[0]))
	for i := len(disks) - 1; i >= 0; i-- {
		for k, c := range row {
			row[k] = gf.Mul(c, base)
		}
		if !slices.Contains(lost, i) {
			add(row, disks[i])
		}
	}
	return row
}

// add adds other to row, which is as long.
func add(row, other []byte) {
	for k, c := range other {
		row[k] ^= c
	}
}

// column returns the disks with nothing but their bytes at a position.
func column(disks [][]byte, at int) [][]byte {
	list := make([][]byte, len(disks))
	for i, disk := range disks {
		list[i] = disk[at : at+1]
	}
	return list
}

// weight returns by what the bytes of disk i are multiplied.
func weight(i int) byte {
	w, _ := gf.Pow(base, i) // the number of a disk is not negative
	return w
}

// corrupt returns the number of the disk of which a change of one byte changes
// the sum by plain and the weighted sum by weighted, neither of which is 0. By
// its weight there always is such a number, but perhaps not such a disk.
func corrupt(plain, weighted byte) int {
	w, _ := gf.Div(weighted, plain)
	i, _ := gf.Log(w)
	return i
}

// apart returns the rows x and y with x + y = plain and u*x + v*y = weighted,
// for u and v that differ. Adding v times the first equation to the second one
// leaves (u + v)*x on the left.
func apart(plain, weighted []byte, u, v byte) ([]byte, []byte) {
	x, y := make([]byte, len(plain)), make([]byte, len(plain))
	scale, _ := gf.Inv(u ^ v) // not 0, because u and v differ
	for k, c := range plain {
		x[k] = gf.Mul(weighted[k]^gf.Mul(c, v), scale)
		y[k] = c ^ x[k]
	}
	return x, y
}
