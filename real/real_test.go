package real

import (
	"math"
	"math/big"
	"testing"
)

const oneNaN uint64 = 0x7ff8000000000001

// nans are NaNs of many bits: quiet and signalling, of either sign.
func nans() []float64 {
	var l []float64
	for _, b := range []uint64{
		oneNaN,
		0x7ff8000000000000,
		0x7ff8000000000002,
		0x7ff0000000000001,
		0x7ff7ffffffffffff,
		0x7fffffffffffffff,
		0xfff8000000000001,
		0xfff8000000000000,
		0xfff8000000000007,
		0xfff0000000000001,
		0xffffffffffffffff,
	} {
		l = append(l, math.Float64frombits(b))
	}
	return l
}

type known struct {
	f    float64
	bits uint64
	kind int
}

// row is numbers in their order, each once, with the bits and kinds that were worked out by hand.
func row() []known {
	return []known{
		{math.NaN(), oneNaN, 0},
		{math.Inf(-1), 0xfff0000000000000, 1},
		{-math.MaxFloat64, 0xffefffffffffffff, 2},
		{math.Float64frombits(0xffeffffffffffffe), 0xffeffffffffffffe, 2},
		{-2, 0xc000000000000000, 2},
		{-1.5, 0xbff8000000000000, 2},
		{-1, 0xbff0000000000000, 2},
		{-0x1p-1022, 0x8010000000000000, 2},
		{-0x0.fffffffffffffp-1022, 0x800fffffffffffff, 2},
		{-2 * math.SmallestNonzeroFloat64, 0x8000000000000002, 2},
		{-math.SmallestNonzeroFloat64, 0x8000000000000001, 2},
		{math.Copysign(0, -1), 0x8000000000000000, 3},
		{0, 0, 4},
		{math.SmallestNonzeroFloat64, 1, 5},
		{2 * math.SmallestNonzeroFloat64, 2, 5},
		{0x0.fffffffffffffp-1022, 0x000fffffffffffff, 5},
		{0x1p-1022, 0x0010000000000000, 5},
		{0.1, 0x3fb999999999999a, 5},
		{1, 0x3ff0000000000000, 5},
		{math.Float64frombits(0x3ff0000000000001), 0x3ff0000000000001, 5},
		{3, 0x4008000000000000, 5},
		{math.Float64frombits(0x7feffffffffffffe), 0x7feffffffffffffe, 5},
		{math.MaxFloat64, 0x7fefffffffffffff, 5},
		{math.Inf(1), 0x7ff0000000000000, 6},
	}
}

// all is the row, behind all the other NaNs.
func all() []float64 {
	l := nans()
	for _, k := range row() {
		l = append(l, k.f)
	}
	return l
}

// raw tells bits apart that Bits would make one.
func raw(f float64) uint64 { return math.Float64bits(f) }

// P1.1: all NaNs become one, and nothing else is changed.
func TestCanonAndBits(t *testing.T) {
	for _, f := range nans() {
		if !math.IsNaN(f) {
			t.Fatalf("%x is no NaN", raw(f))
		}
		if got := raw(Canon(f)); got != oneNaN {
			t.Errorf("Canon of the NaN %x: %x", raw(f), got)
		}
		if got := Bits(f); got != oneNaN {
			t.Errorf("Bits of the NaN %x: %x", raw(f), got)
		}
	}
	for _, k := range row() {
		if got := raw(Canon(k.f)); got != k.bits {
			t.Errorf("Canon of %v: %x, not %x", k.f, got, k.bits)
		}
		if got := Bits(k.f); got != k.bits {
			t.Errorf("Bits of %v: %x, not %x", k.f, got, k.bits)
		}
	}
}

// P1.2: both NaN, or the same number; the zeros are two.
func TestSame(t *testing.T) {
	for _, a := range nans() {
		for _, b := range nans() {
			if !Same(a, b) {
				t.Errorf("the NaNs %x and %x are not the same", raw(a), raw(b))
			}
		}
		for _, k := range row()[1:] {
			if Same(a, k.f) || Same(k.f, a) {
				t.Errorf("the NaN %x is the same as %v", raw(a), k.f)
			}
		}
	}
	for i, a := range row() {
		for j, b := range row() {
			if Same(a.f, b.f) != (i == j) {
				t.Errorf("Same of %v and %v: %v", a.f, b.f, i != j)
			}
		}
	}
}

// P1.2: the seven kinds.
func TestKind(t *testing.T) {
	for _, f := range nans() {
		if got := Kind(f); got != 0 {
			t.Errorf("Kind of the NaN %x: %d", raw(f), got)
		}
	}
	for _, k := range row() {
		if got := Kind(k.f); got != k.kind {
			t.Errorf("Kind of %v: %d, not %d", k.f, got, k.kind)
		}
	}
}

// P1.3: NaN ahead of all, then by value, -0 ahead of +0.
func TestOrder(t *testing.T) {
	for i, a := range row() {
		for j, b := range row() {
			want := 0
			if i < j {
				want = -1
			}
			if i > j {
				want = 1
			}
			if got := Order(a.f, b.f); got != want {
				t.Errorf("Order of %v and %v: %d, not %d", a.f, b.f, got, want)
			}
		}
	}
}

// P1.3: a NaN stands ahead of all others, whatever its bits and its sign.
func TestOrderOfNaNs(t *testing.T) {
	for _, a := range nans() {
		for _, b := range nans() {
			if got := Order(a, b); got != 0 {
				t.Errorf("Order of the NaNs %x and %x: %d", raw(a), raw(b), got)
			}
		}
		for _, k := range row()[1:] {
			if Order(a, k.f) != -1 || Order(k.f, a) != 1 {
				t.Errorf("Order of the NaN %x and %v: %d, back %d", raw(a), k.f, Order(a, k.f), Order(k.f, a))
			}
		}
	}
}

type sum struct{ a, b, want float64 }

// sums are worked out by hand, from the bits.
func sums() []sum {
	minus, nan := math.Copysign(0, -1), math.Float64frombits(oneNaN)
	inf, least, most := math.Inf(1), math.SmallestNonzeroFloat64, math.MaxFloat64
	return []sum{
		{1, 2, 3},
		{1.5, -4, -2.5},
		{0.1, 0.2, math.Float64frombits(0x3fd3333333333334)},
		{1, -1, 0},
		{minus, minus, minus},
		{minus, 0, 0},
		{0, 0, 0},
		{5, minus, 5},
		{inf, -inf, nan},
		{inf, inf, inf},
		{-inf, -inf, -inf},
		{inf, -most, inf},
		{-inf, most, -inf},
		{nan, 1, nan},
		{nan, inf, nan},
		{math.Float64frombits(0xfff0000000000001), 1, nan},
		{math.Float64frombits(0xfff8000000000007), math.Float64frombits(0x7ff8000000000003), nan},
		// What lies midway between two numbers goes to the even one.
		{1, 0x1p-53, 1},
		{1, 0x1.8p-53, math.Float64frombits(0x3ff0000000000001)},
		{math.Float64frombits(0x3ff0000000000001), 0x1p-53, math.Float64frombits(0x3ff0000000000002)},
		{0x1p53, 1, 0x1p53},
		{0x1p53, 3, 0x1p53 + 4},
		// The smallest numbers add up exactly.
		{least, least, 2 * least},
		{least, -least, 0},
		{0x1p-1022, -least, 0x0.fffffffffffffp-1022},
		{0x0.fffffffffffffp-1022, least, 0x1p-1022},
		{1, least, 1},
		// What is beyond the largest number by half a step, or by more, is infinite.
		{most, most, inf},
		{-most, -most, -inf},
		{most, 0x1p970, inf},
		{most, 0x1.fffffffffffffp969, most},
		{-most, -0x1p970, -inf},
		{-most, -0x1.fffffffffffffp969, -most},
		{most, -most, 0},
	}
}

// P1.4: Canon of the sum, rounded once.
func TestAdd(t *testing.T) {
	for _, s := range sums() {
		if got := Add(s.a, s.b); raw(got) != raw(s.want) {
			t.Errorf("Add of %v and %v: %v (%x), not %v (%x)", s.a, s.b, got, raw(got), s.want, raw(s.want))
		}
	}
}

// P1.4: sums of finite numbers against sums that are exact till they are rounded.
func TestAddAgainstExactSums(t *testing.T) {
	state := uint64(1)
	next := func() float64 {
		for {
			state = state*6364136223846793005 + 1442695040888963407
			// Exponents that are near to one another make most sums round.
			f := math.Float64frombits(state&^(0x7ff<<52) | (1000+state>>58)<<52)
			if state>>40&7 == 0 {
				f = math.Float64frombits(state * 0x9e3779b97f4a7c15)
			}
			if !math.IsNaN(f) && !math.IsInf(f, 0) {
				return f
			}
		}
	}
	for range 20000 {
		a, b := next(), next()
		exact := new(big.Float).SetPrec(2200).SetFloat64(a)
		exact.Add(exact, new(big.Float).SetFloat64(b))
		want, _ := exact.Float64()
		if got := Add(a, b); raw(got) != raw(want) {
			t.Fatalf("Add of %x and %x: %x, not %x", raw(a), raw(b), raw(got), raw(want))
		}
	}
}

// P1.4: what is handed in was rounded before; a sum of a product doesn't undo that.
func TestAddOfProduct(t *testing.T) {
	for i := range 100 {
		f := 1 + float64(i+1)*0x1p-52
		product := float64(f * f)
		if got := Add(f*f, -product); raw(got) != 0 {
			t.Errorf("%v times itself, less that: %v", f, got)
		}
	}
}

// P1.5: of three in a row the first stands ahead of the last, or is the same.
func TestOrderIsOne(t *testing.T) {
	l := all()
	for _, a := range l {
		for _, b := range l {
			if Order(a, b) != -Order(b, a) || (Order(a, b) == 0) != Same(a, b) {
				t.Fatalf("Order of %x and %x: %d, back %d", raw(a), raw(b), Order(a, b), Order(b, a))
			}
			for _, c := range l {
				if Order(a, b) <= 0 && Order(b, c) <= 0 && Order(a, c) != min(Order(a, b), Order(b, c)) {
					t.Fatalf("Order of %x, %x and %x is none", raw(a), raw(b), raw(c))
				}
			}
		}
	}
}

// P1.5: which number comes first does not matter; +0 changes -0 alone.
func TestAddAsAWhole(t *testing.T) {
	for _, a := range all() {
		want := Bits(a)
		if raw(a) == 1<<63 {
			want = 0
		}
		if raw(Add(a, 0)) != want || raw(Add(0, a)) != want {
			t.Errorf("Add of %x and +0: %x, the other way %x", raw(a), raw(Add(a, 0)), raw(Add(0, a)))
		}
		for _, b := range all() {
			if raw(Add(a, b)) != raw(Add(b, a)) {
				t.Errorf("Add of %x and %x: %x, the other way %x", raw(a), raw(b), raw(Add(a, b)), raw(Add(b, a)))
			}
		}
	}
}
