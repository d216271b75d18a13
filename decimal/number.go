package decimal

import (
	"math"
	"math/bits"

	"scrivener/api"
)

// wide is a whole number of 128 digits, without a sign.
type wide struct{ high, low uint64 }

func product(a, b uint64) wide {
	high, low := bits.Mul64(a, b)
	return wide{high, low}
}

// plus is a sum that has to fit.
func (w wide) plus(x wide) wide {
	low, carry := bits.Add64(w.low, x.low, 0)
	high, _ := bits.Add64(w.high, x.high, carry)
	return wide{high, low}
}

// minus tells also whether x was the greater one: then there is no answer.
func (w wide) minus(x wide) (rest wide, below bool) {
	low, borrow := bits.Sub64(w.low, x.low, 0)
	high, borrow := bits.Sub64(w.high, x.high, borrow)
	return wide{high, low}, borrow != 0
}

// tenth is w divided by ten, and what is left.
func (w wide) tenth() (wide, uint64) {
	high, left := w.high/10, w.high%10
	low, left := bits.Div64(left, w.low, 10)
	return wide{high, low}, left
}

// number is size divided by ten as often as scale says, with its sign apart.
// Of those that come of a value size has one word, and scale is MaxScale at most:
// so what is reckoned of two of them fits, before its least form too.
type number struct {
	below bool
	size  wide
	scale int
}

func numberOf(n, scale int) number {
	if n < 0 {
		// The least int has no size as an int: it is turned round as a uint64.
		return number{true, wide{low: -uint64(n)}, scale}
	}
	return number{false, wide{low: uint64(n)}, scale}
}

func (n number) plus(x number) number {
	scale := max(n.scale, x.scale)
	a, b := n.sizeAt(scale), x.sizeAt(scale)
	if n.below == x.below {
		return number{n.below, a.plus(b), scale}
	}
	if rest, below := a.minus(b); !below {
		return number{n.below, rest, scale}
	}
	rest, _ := b.minus(a)
	return number{x.below, rest, scale}
}

func (n number) minus(x number) number { return n.plus(x.turned()) }

func (n number) times(x number) number {
	return number{n.below != x.below, product(n.size.low, x.size.low), n.scale + x.scale}
}

func (n number) turned() number {
	n.below = !n.below
	return n
}

// sizeAt is the size that a number of one word has with a scale that is not below its own.
func (n number) sizeAt(scale int) wide {
	return product(n.size.low, tens(scale-n.scale))
}

// least is the least form.
func (n number) least() number {
	// Nought is a multiple of ten for ever, and a scale may be of any size.
	if n.size == (wide{}) {
		return number{}
	}
	for n.scale > 0 {
		tenth, left := n.size.tenth()
		if left != 0 {
			break
		}
		n.size = tenth
		n.scale--
	}
	return n
}

// value is a number in its least form, if that is a value.
func (n number) value() (api.Value, api.Errno) {
	n = n.least()
	most, size := uint64(math.MaxInt64), n.size.low
	if n.below {
		most++
	}
	if n.scale > api.MaxScale || n.size.high != 0 || size > most {
		return api.Value{}, api.ErrRange
	}
	if n.below {
		size = -size
	}
	kind := api.Int
	if n.scale > 0 {
		kind = api.Decimal
	}
	return api.Value{Kind: kind, Int: int(size), Scale: n.scale}, api.OK
}

// tens is ten to the power of a scale. That of MaxScale fits.
func tens(scale int) uint64 {
	power := uint64(1)
	for range scale {
		power *= 10
	}
	return power
}
