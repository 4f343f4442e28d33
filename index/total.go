package index

import (
	"math"
	"math/bits"
)

// total is a sum of ints, exact in 128 bits with sign: Sizes near int's bounds
// may be taken off again, which a sum that stays within int could not undo.
type total struct {
	high int64
	low  uint64
}

// of is n as a total.
func of(n int) total {
	return total{high: int64(n) >> 63, low: uint64(n)}
}

// plus is the sum of both.
func (t total) plus(n int) total {
	add := of(n)
	low, carry := bits.Add64(t.low, add.low, 0)
	return total{high: t.high + add.high + int64(carry), low: low}
}

// less is the difference of both.
func (t total) less(n int) total {
	sub := of(n)
	low, borrow := bits.Sub64(t.low, sub.low, 0)
	return total{high: t.high - sub.high - int64(borrow), low: low}
}

// nearest is the int that is nearest to t.
func (t total) nearest() int {
	switch n := int(t.low); {
	case of(n) == t:
		return n
	case t.high < 0:
		return math.MinInt
	default:
		return math.MaxInt
	}
}
