// Package field: numbers by a prime: see doc/01-field.md.
package field

import (
	"math/bits"

	"goldmill/api"
)

// maxRoot is how often 2 divides P - 1: no root of 1 has a greater power of two as its order.
const maxRoot = 32

// generator has every number but 0 among its powers, so roots of each order, too.
const generator uint64 = 7

// low masks the lower half of a word; it is 2^64 by P, too.
const low uint64 = 1<<32 - 1

// Norm tells the rest of a by P: P3.
func Norm(a uint64) uint64 {
	// One step is enough: 2^64 is less than twice P.
	if a >= api.P {
		return a - api.P
	}
	return a
}

// Add tells the sum of a and b by P: P3.
func Add(a, b uint64) uint64 {
	x, y := Norm(a), Norm(b)
	// Held against what is missing to P, as the sum itself may not fit in a word.
	missing := api.P - y
	if x >= missing {
		return x - missing
	}
	return x + y
}

// Sub tells the difference of a and b by P: P3.
func Sub(a, b uint64) uint64 {
	x, y := Norm(a), Norm(b)
	if x >= y {
		return x - y
	}
	return api.P - (y - x)
}

// Mul tells the product of a and b by P: P3.
func Mul(a, b uint64) uint64 {
	hi, lo := bits.Mul64(a, b)
	// By P, 2^64 is 2^32 - 1 and 2^96 is -1: so the lower half of hi counts 2^32 - 1 times
	// (which fits in a word), and its upper half is taken away.
	return Add(Sub(lo, hi>>32), (hi&low)*low)
}

// Pow tells a times itself, n times, by P; 1 of n = 0: P3.
func Pow(a, n uint64) uint64 {
	result := uint64(1)
	square := a
	for ; n > 0; n >>= 1 {
		if n&1 == 1 {
			result = Mul(result, square)
		}
		square = Mul(square, square)
	}
	return result
}

// Inv tells the number by which a has the product 1; ErrNone of 0: P3.
func Inv(a uint64) (uint64, api.Errno) {
	if Norm(a) == 0 {
		return 0, api.ErrNone
	}
	// P is a prime: the power P - 1 of a is 1, so the one below it is the inverse.
	return Pow(a, api.P-2), api.OK
}

// Root tells a root of 1 of the order 2^k; ErrArg, if k is not from 0 to 32: P4.
func Root(k int) (uint64, api.Errno) {
	if k < 0 || k > maxRoot {
		return 0, api.ErrArg
	}
	return Pow(generator, (api.P-1)>>k), api.OK
}
