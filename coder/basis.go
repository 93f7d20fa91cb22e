package coder

import (
	"strawloft/api"
	"strawloft/gf"
)

// perPiece holds a byte for each piece of a basis.
type perPiece [maxRows]byte

// basis determines every row: it has as many pieces as there are data rows,
// with different numbers and equally long. Each row is a sum of multiples of
// the pieces (Lagrange interpolation). The multiples are the same for all byte
// positions, so no polynomial has to be computed for each of these.
type basis struct {
	pieces []api.Piece
	// scales has the inverse of the product of the differences between a
	// piece's number and the numbers of the others.
	scales perPiece
}

// newBasis returns the basis of at most maxRows pieces.
func newBasis(pieces []api.Piece) basis {
	b := basis{pieces: pieces}
	for i, piece := range pieces {
		product := byte(1)
		for j, other := range pieces {
			if j != i {
				product = gf.Mul(product, byte(piece.At^other.At))
			}
		}
		b.scales[i], _ = gf.Inv(product) // not 0, because the numbers differ
	}
	return b
}

// rows returns the rows from number from up to number to, which is left out.
func (b *basis) rows(from, to int) [][]byte {
	list := make([][]byte, 0, to-from)
	for at := from; at < to; at++ {
		list = append(list, b.row(at))
	}
	return list
}

// row returns the row with number at, in new memory.
func (b *basis) row(at int) []byte {
	row := make([]byte, len(b.pieces[0].Data))
	weights := b.weights(at)
	for i, piece := range b.pieces {
		addMultiple(row, piece.Data, weights[i])
	}
	return row
}

// weights returns by what each piece is multiplied in the row with number at:
// the value there of the polynomial that is 1 at the piece's number and 0 at
// the numbers of the others. Going up and then down collects the differences
// to the others without those to the piece itself, which may be 0.
func (b *basis) weights(at int) perPiece {
	weights := b.scales
	before, after := byte(1), byte(1)
	for i, piece := range b.pieces {
		weights[i] = gf.Mul(weights[i], before)
		before = gf.Mul(before, byte(at^piece.At))
	}
	for i := len(b.pieces) - 1; i >= 0; i-- {
		weights[i] = gf.Mul(weights[i], after)
		after = gf.Mul(after, byte(at^b.pieces[i].At))
	}
	return weights
}

// addMultiple adds factor * data to row, which is as long as data.
func addMultiple(row, data []byte, factor byte) {
	if factor == 0 {
		return
	}
	products := productsOf(factor)
	for i, c := range data {
		row[i] ^= products[c]
	}
}

// productsOf returns the products of factor and each byte, because to look
// them up is quicker than to multiply. The product with a sum is the sum of
// the products, so those with single bits give all the others.
func productsOf(factor byte) [256]byte {
	var products [256]byte
	for bit := 1; bit < len(products); bit *= 2 {
		product := gf.Mul(factor, byte(bit))
		for i := range bit {
			products[bit+i] = products[i] ^ product
		}
	}
	return products
}
