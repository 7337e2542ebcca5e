// Package real is layer 1: numbers of 64 bits, told apart. See shared/doc/01-real.md.
package real

import "math"

// nanBits are the bits of the one NaN that stands for all of them.
const nanBits uint64 = 0x7ff8000000000001

// The kinds of numbers, in the order in which they stand.
const (
	kindNaN = iota
	kindMinusInfinity
	kindBelowZero
	kindMinusZero
	kindPlusZero
	kindAboveZero
	kindPlusInfinity
)

// Canon answers the one NaN of any NaN, else the number itself.
func Canon(f float64) float64 {
	if math.IsNaN(f) {
		return math.Float64frombits(nanBits)
	}
	return f
}

// Same tells whether a and b are both NaN, or both the same number.
func Same(a, b float64) bool { return Bits(a) == Bits(b) }

// Kind tells which kind of number f is, from 0 (NaN) to 6 (plus infinity).
func Kind(f float64) int {
	kind := kindNaN
	// The kinds are asked in their order, so each one may lean on those ahead of it not having fitted.
chain:
	for ; kind < kindPlusInfinity; kind++ {
		switch kind {
		case kindNaN:
			if math.IsNaN(f) {
				break chain
			}
		case kindMinusInfinity:
			if f < -math.MaxFloat64 {
				break chain
			}
		case kindBelowZero:
			if f < 0 {
				break chain
			}
		case kindMinusZero:
			if f == 0 && math.Signbit(f) {
				break chain
			}
		case kindPlusZero:
			if f == 0 {
				break chain
			}
		case kindAboveZero:
			if f <= math.MaxFloat64 {
				break chain
			}
		}
	}
	return kind
}

// Order answers -1, 0 or 1, as a stands ahead of b, is the same, or stands behind.
func Order(a, b float64) int {
	ka, kb := Kind(a), Kind(b)
	// By value alone a NaN would stand nowhere, and the zeros would be the same.
	switch {
	case ka < kb || a < b:
		return -1
	case ka > kb || a > b:
		return 1
	}
	return 0
}

// Add answers the sum of a and b, rounded once.
func Add(a, b float64) float64 {
	// Without the conversions a product that is handed in could be fused with the sum, and lose its own rounding.
	return Canon(float64(a) + float64(b))
}

// Bits answers the bits of Canon of f.
func Bits(f float64) uint64 { return math.Float64bits(Canon(f)) }
