package cell

import (
	"fmt"
	"math"
	"math/big"
	"regexp"
	"strings"
	"testing"

	"cortege/api"
)

const (
	oneNaN    uint64 = 0x7ff8000000000001
	minusZero uint64 = 1 << 63
	most      uint64 = 0x7fefffffffffffff
	least     uint64 = 1
	inf       uint64 = 0x7ff0000000000000
	minusInf  uint64 = 0xfff0000000000000
)

func of(bits uint64) float64 { return math.Float64frombits(bits) }

// has is a cell with the number of these bits.
func has(bits uint64) api.Cell { return api.Cell{Found: true, Value: of(bits)} }

// without is a cell with nothing, but a Value of these bits.
func without(bits uint64) api.Cell { return api.Cell{Value: of(bits)} }

func get() api.Cmd               { return api.Cmd{Kind: api.Get, Key: "k"} }
func put(bits uint64) api.Cmd    { return api.Cmd{Kind: api.Put, Key: "k", Value: of(bits)} }
func del() api.Cmd               { return api.Cmd{Kind: api.Delete, Key: "k"} }
func add(bits uint64) api.Cmd    { return api.Cmd{Kind: api.Add, Key: "k", Value: of(bits)} }
func num(f float64) uint64       { return math.Float64bits(f) }
func showCell(c api.Cell) string { return fmt.Sprintf("{%v %x}", c.Found, num(c.Value)) }

func showCmd(x api.Cmd) string { return fmt.Sprintf("{%d %.40q %x}", x.Kind, x.Key, num(x.Value)) }

// equal tells whether two cells are the same to the bit.
func equal(a, b api.Cell) bool { return a.Found == b.Found && num(a.Value) == num(b.Value) }

func equalCmd(a, b api.Cmd) bool {
	return a.Kind == b.Kind && a.Key == b.Key && num(a.Value) == num(b.Value)
}

// nans are NaNs of many bits: quiet and signalling, of either sign.
func nans() []uint64 {
	return []uint64{
		oneNaN, 0x7ff8000000000000, 0x7ff8000000000002, 0x7ff0000000000001, 0x7ff7ffffffffffff, 0x7fffffffffffffff,
		0xfff8000000000001, 0xfff8000000000000, 0xfff8000000000007, 0xfff0000000000001, 0xffffffffffffffff,
	}
}

type value struct {
	bits uint64
	text string
}

// numbers are others than NaN, each once, with their texts that were worked out by hand.
func numbers() []value {
	return []value{
		{0, "0"}, {minusZero, "-0"}, {inf, "inf"}, {minusInf, "-inf"},
		{most, "9007199254740991p971"}, {minusZero | most, "-9007199254740991p971"},
		{most - 1, "4503599627370495p972"}, {minusZero | most - 1, "-4503599627370495p972"},
		{least, "1p-1074"}, {minusZero | least, "-1p-1074"}, {2, "1p-1073"}, {minusZero | 3, "-3p-1074"},
		{0x000fffffffffffff, "4503599627370495p-1074"}, {0x0010000000000000, "1p-1022"}, {0x8010000000000000, "-1p-1022"},
		{0x3ff0000000000000, "1p0"}, {0xbff0000000000000, "-1p0"}, {0x4000000000000000, "1p1"}, {0xc000000000000000, "-1p1"},
		{0x3ff8000000000000, "3p-1"}, {0xbff8000000000000, "-3p-1"}, {0xc020000000000000, "-1p3"}, {0x4008000000000000, "3p0"},
		{0x3ff0000000000001, "4503599627370497p-52"}, {0x3ca0000000000000, "1p-53"}, {0xbca0000000000000, "-1p-53"},
		{0x3fb999999999999a, "3602879701896397p-55"}, {0x3fc999999999999a, "3602879701896397p-54"},
		{0x4340000000000000, "1p53"}, {0xc340000000000000, "-1p53"}, {0x4340000000000001, "4503599627370497p1"},
		{0x7c90000000000000, "1p970"}, {0xfc90000000000000, "-1p970"}, {0x7c8fffffffffffff, "9007199254740991p917"},
	}
}

// all are the bits of all numbers, and of NaNs.
func all() []uint64 {
	l := nans()
	for _, v := range numbers() {
		l = append(l, v.bits)
	}
	return l
}

// cells are all numbers, and nothing with the Values of all.
func cells() []api.Cell {
	var l []api.Cell
	for _, b := range all() {
		l = append(l, has(b), without(b))
	}
	return l
}

// may are commands that may be, of all kinds.
func may() []api.Cmd {
	l := []api.Cmd{get(), del()}
	for _, b := range all() {
		l = append(l, put(b), add(b))
	}
	return l
}

// mayNot are commands that may not be, for one cause or for several.
func mayNot() []api.Cmd {
	l := []api.Cmd{{}}
	for _, b := range all() {
		for _, k := range []int{0, 5, -1, 6, -2, -4, 1<<8 + 1, 1<<16 + 2, 1<<32 + 3, 1<<32 + 4, math.MinInt, math.MinInt + 2, math.MinInt + 4, math.MaxInt} {
			l = append(l, api.Cmd{Kind: k, Key: "k", Value: of(b)}, api.Cmd{Kind: k, Value: of(b)})
		}
		for _, key := range []string{
			"", "thirteen13cha", "0000000000000", strings.Repeat("a", 257), "A", "Z", " ", "a ", " a", "a\x00", "\x00", "`", "{", "/", ":", "-", "a-b",
			"\x80", "\xff", "é", "٣", "１",
		} {
			for _, k := range []int{api.Get, api.Put, api.Delete, api.Add} {
				l = append(l, api.Cmd{Kind: k, Key: key, Value: of(b)})
			}
		}
		if b != 0 {
			l = append(l, api.Cmd{Kind: api.Get, Key: "k", Value: of(b)}, api.Cmd{Kind: api.Delete, Key: "k", Value: of(b)})
		}
	}
	return l
}

var rightKey = regexp.MustCompile(`\A[a-z0-9]{1,12}\z`)

// canon is layer 1's Canon, told by the bits.
func canon(f float64) float64 {
	if num(f)&^minusZero > inf {
		return of(oneNaN)
	}
	return f
}

// sum is made exactly, and then rounded once.
func sum(a, b float64) float64 {
	switch {
	case math.IsNaN(a) || math.IsNaN(b):
		return of(oneNaN)
	case math.IsInf(a, 0) && math.IsInf(b, 0) && a != b:
		return of(oneNaN)
	case math.IsInf(a, 0):
		return a
	case math.IsInf(b, 0):
		return b
	case num(a) == minusZero && num(b) == minusZero:
		return a
	}
	exact := new(big.Float).SetPrec(2200).SetFloat64(a)
	exact.Add(exact, new(big.Float).SetFloat64(b))
	if exact.Sign() == 0 {
		return 0
	}
	f, _ := exact.Float64()
	return f
}

// model is what Do must answer, told once more by the document's words.
func model(c api.Cell, x api.Cmd) (api.Cell, api.Cell) {
	was := api.Cell{}
	if c.Found {
		was = api.Cell{Found: true, Value: canon(c.Value)}
	}
	if !rightKey.MatchString(x.Key) {
		return was, api.Cell{}
	}
	bare := num(x.Value) == 0
	switch {
	case x.Kind == api.Get && bare:
		return was, was
	case x.Kind == api.Put:
		return api.Cell{Found: true, Value: canon(x.Value)}, was
	case x.Kind == api.Delete && bare:
		return api.Cell{}, was
	case x.Kind == api.Add:
		now := api.Cell{Found: true, Value: sum(was.Value, x.Value)}
		return now, now
	}
	return was, api.Cell{}
}

// check holds Do against what it must answer.
func check(t *testing.T, c api.Cell, x api.Cmd, wantNow, wantTold api.Cell) {
	t.Helper()
	if now, told := Do(c, x); !equal(now, wantNow) || !equal(told, wantTold) {
		t.Errorf("%s of %s: %s, told %s, not %s, told %s", showCmd(x), showCell(c), showCell(now), showCell(told), showCell(wantNow), showCell(wantTold))
	}
}

// P12.1: the four kinds on nothing and on a number.
func TestDo(t *testing.T) {
	nothing, two, half := api.Cell{}, has(num(2)), has(num(1.5))
	check(t, nothing, get(), nothing, nothing)
	check(t, two, get(), two, two)
	check(t, nothing, put(num(1.5)), half, nothing)
	check(t, two, put(num(1.5)), half, two)
	check(t, two, put(num(2)), two, two)
	check(t, nothing, del(), nothing, nothing)
	check(t, two, del(), nothing, two)
	check(t, nothing, add(num(1.5)), half, half)
	check(t, two, add(num(1.5)), has(num(3.5)), has(num(3.5)))
	check(t, two, add(num(-2)), has(0), has(0))
	// The examples of the chapter.
	check(t, nothing, add(num(1)), has(num(1)), has(num(1)))
	c, told := Do(nothing, put(0xfff8000000000007))
	if !equal(c, has(oneNaN)) || !equal(told, nothing) {
		t.Error("put of NaN:", showCell(c), showCell(told))
	}
	check(t, c, add(num(1)), has(oneNaN), has(oneNaN))
}

// P12.1: sums that were worked out by hand, in either order.
func TestDoSums(t *testing.T) {
	for _, s := range []struct{ a, b, want uint64 }{
		{num(1), num(2), num(3)},
		{num(1.5), num(-4), num(-2.5)},
		// What is beyond a number's bits is rounded.
		{num(0.1), num(0.2), 0x3fd3333333333334},
		{num(1), num(0x1.8p-53), 0x3ff0000000000001},
		{num(1), least, num(1)},
		{num(1), minusZero | least, num(1)},
		// What is midway between two numbers goes to the even one.
		{num(1), num(0x1p-53), num(1)},
		{0x3ff0000000000001, num(0x1p-53), 0x3ff0000000000002},
		{num(0x1p53), num(1), num(0x1p53)},
		{num(0x1p53), num(3), num(0x1p53 + 4)},
		{num(-0x1p53), num(-1), num(-0x1p53)},
		{num(-0x1p53), num(-3), num(-0x1p53 - 4)},
		// The least numbers add up exactly.
		{least, least, 2},
		{0x000fffffffffffff, least, 0x0010000000000000},
		{0x0010000000000000, minusZero | least, 0x000fffffffffffff},
		// What leaves the range is infinite.
		{most, most, inf},
		{minusZero | most, minusZero | most, minusInf},
		{most, num(0x1p970), inf},
		{most, num(0x1.fffffffffffffp969), most},
		{minusZero | most, num(-0x1p970), minusInf},
		{minusZero | most, num(-0x1.fffffffffffffp969), minusZero | most},
		// Of two that are each other's the sum is +0.
		{num(1), num(-1), 0},
		{num(0.1), num(-0.1), 0},
		{most, minusZero | most, 0},
		{least, minusZero | least, 0},
		{0, minusZero, 0},
		{minusZero, minusZero, minusZero},
		{0, 0, 0},
		{num(5), minusZero, num(5)},
		{num(5), 0, num(5)},
		{inf, inf, inf},
		{minusInf, minusInf, minusInf},
		{inf, minusInf, oneNaN},
		{inf, minusZero | most, inf},
		{minusInf, most, minusInf},
		{inf, 0, inf},
		{minusInf, minusZero, minusInf},
		{oneNaN, num(1), oneNaN},
		{0x7ff0000000000001, minusInf, oneNaN},
		{0xffffffffffffffff, 0x7fffffffffffffff, oneNaN},
		{0xfff8000000000007, 0, oneNaN},
	} {
		check(t, has(s.a), add(s.b), has(s.want), has(s.want))
		check(t, has(s.b), add(s.a), has(s.want), has(s.want))
	}
}

// P12.1: a number that is added to nothing is added to +0, so -0 becomes +0, and else it is that number.
func TestDoAddToNothing(t *testing.T) {
	check(t, api.Cell{}, add(minusZero), has(0), has(0))
	check(t, has(0), add(minusZero), has(0), has(0))
	check(t, has(minusZero), add(minusZero), has(minusZero), has(minusZero))
	check(t, has(minusZero), add(0), has(0), has(0))
	for _, b := range all() {
		want := num(canon(of(b)))
		if b == minusZero {
			want = 0
		}
		for _, junk := range all() {
			check(t, without(junk), add(b), has(want), has(want))
		}
	}
}

// P12.1: what is put is there as it is, the zeros apart, all NaNs one.
func TestDoPut(t *testing.T) {
	for _, v := range numbers() {
		check(t, api.Cell{}, put(v.bits), has(v.bits), api.Cell{})
		check(t, has(num(7)), put(v.bits), has(v.bits), has(num(7)))
	}
	for _, b := range nans() {
		check(t, api.Cell{}, put(b), has(oneNaN), api.Cell{})
		check(t, has(b), put(num(7)), has(num(7)), has(oneNaN))
	}
}

// P12.1: each cell under each command that may be, numbers and NaNs of all bits, whatever stands with nothing.
func TestDoOfAll(t *testing.T) {
	for _, c := range cells() {
		for _, x := range may() {
			now, told := model(c, x)
			check(t, c, x, now, told)
		}
	}
}

// P12.1: where nothing was, what stands as its Value counts as +0, and is not told.
func TestDoWithoutFound(t *testing.T) {
	for _, b := range all() {
		check(t, without(b), get(), api.Cell{}, api.Cell{})
		check(t, without(b), put(num(3)), has(num(3)), api.Cell{})
		check(t, without(b), del(), api.Cell{}, api.Cell{})
		check(t, without(b), add(num(3)), has(num(3)), has(num(3)))
		check(t, without(b), api.Cmd{}, api.Cell{}, api.Cell{})
		check(t, without(b), api.Cmd{Kind: api.Add, Value: 3}, api.Cell{}, api.Cell{})
	}
}

// P12.1: a command that may not be leaves what was there, and tells nothing.
func TestDoOfCommandsThatMayNotBe(t *testing.T) {
	for _, x := range mayNot() {
		for _, b := range all() {
			check(t, has(b), x, has(num(canon(of(b)))), api.Cell{})
			check(t, without(b), x, api.Cell{}, api.Cell{})
		}
	}
}

// P12.1: which bytes a key may have, wherever they stand, and how many; where one may not be, nothing is done.
func TestDoOfAllKeys(t *testing.T) {
	for b := range 256 {
		for n := range api.MaxKey + 2 {
			for at := range n {
				key := strings.Repeat("k", at) + string([]byte{byte(b)}) + strings.Repeat("7", n-at-1)
				now, told := has(num(5)), has(num(5))
				if !rightKey.MatchString(key) {
					now, told = has(num(2)), api.Cell{}
				}
				check(t, has(num(2)), api.Cmd{Kind: api.Add, Key: key, Value: 3}, now, told)
			}
		}
	}
}

// P12.1: cells and commands of chance, some of which may not be.
func TestDoOfChance(t *testing.T) {
	d := dice(12)
	passed, added := 0, 0
	for range 60000 {
		c, x := d.cell(), d.cmd()
		now, told := model(c, x)
		check(t, c, x, now, told)
		if !told.Found && c.Found {
			passed++
		}
		if x.Kind == api.Add && told.Found {
			added++
		}
	}
	if passed < 2000 || added < 2000 {
		t.Error("too few of a sort:", passed, added)
	}
}

// Nothing is kept: what Do answers does not hang on the calls ahead of it.
func TestDoKeepsNothing(t *testing.T) {
	d := dice(5)
	for range 2000 {
		c, x := d.cell(), d.cmd()
		now, told := Do(c, x)
		for range 3 {
			Do(d.cell(), d.cmd())
			Fold([]api.Cmd{d.cmd(), d.cmd()})
		}
		check(t, c, x, now, told)
	}
}

// P12.2: both nothing, or the same number; nothing has no number, whatever its Value.
func TestSame(t *testing.T) {
	for _, a := range all() {
		for _, b := range all() {
			if !Same(without(a), without(b)) {
				t.Errorf("nothing (%x) and nothing (%x) are not the same", a, b)
			}
			if Same(without(a), has(b)) || Same(has(b), without(a)) {
				t.Errorf("nothing (%x) and %x are the same", a, b)
			}
			want := num(canon(of(a))) == num(canon(of(b)))
			if Same(has(a), has(b)) != want {
				t.Errorf("Same of %x and %x: %v", a, b, !want)
			}
		}
	}
}

// P12.2: what the edges are worth, by hand.
func TestSameByHand(t *testing.T) {
	for _, s := range []struct {
		a, b api.Cell
		want bool
	}{
		{api.Cell{}, api.Cell{}, true},
		{api.Cell{}, has(0), false},
		{api.Cell{}, has(oneNaN), false},
		{api.Cell{}, without(minusZero), true},
		{without(oneNaN), without(num(1)), true},
		{without(num(1)), has(num(1)), false},
		{has(0), has(0), true},
		{has(minusZero), has(minusZero), true},
		{has(0), has(minusZero), false},
		{has(num(1)), has(num(1)), true},
		{has(num(1)), has(0x3ff0000000000001), false},
		{has(num(1)), has(num(-1)), false},
		{has(inf), has(inf), true},
		{has(inf), has(minusInf), false},
		{has(inf), has(oneNaN), false},
		{has(oneNaN), has(0xfff0000000000001), true},
		{has(0x7ff8000000000000), has(0xffffffffffffffff), true},
	} {
		if Same(s.a, s.b) != s.want || Same(s.b, s.a) != s.want {
			t.Errorf("Same of %s and %s: %v, back %v", showCell(s.a), showCell(s.b), Same(s.a, s.b), Same(s.b, s.a))
		}
	}
}

// P12.2: none of nothing, whatever its Value; else the number's text.
func TestText(t *testing.T) {
	texts := map[string]bool{}
	for _, v := range numbers() {
		if got := Text(has(v.bits)); got != v.text {
			t.Errorf("Text of %x: %q, not %q", v.bits, got, v.text)
		}
		if got := Text(without(v.bits)); got != "none" {
			t.Errorf("Text of nothing (%x): %q", v.bits, got)
		}
		texts[v.text] = true
	}
	for _, b := range nans() {
		if got := Text(has(b)); got != "nan" {
			t.Errorf("Text of the NaN %x: %q", b, got)
		}
		if got := Text(without(b)); got != "none" {
			t.Errorf("Text of nothing (%x): %q", b, got)
		}
	}
	if got := Text(api.Cell{}); got != "none" {
		t.Errorf("Text of nothing: %q", got)
	}
	if len(texts) != len(numbers()) {
		t.Error("two numbers have one text")
	}
}

// P12.2: cells have one text just if they are the same.
func TestTextAndSame(t *testing.T) {
	for _, a := range cells() {
		for _, b := range cells() {
			if Same(a, b) != (Text(a) == Text(b)) {
				t.Errorf("%s and %s: Same %v, %q, %q", showCell(a), showCell(b), Same(a, b), Text(a), Text(b))
			}
		}
	}
}

// folded is what Fold must answer: of all of l by model.
func folded(l []api.Cmd) api.Cell {
	c := api.Cell{}
	for _, x := range l {
		c, _ = model(c, x)
	}
	return c
}

// P12.3: lists by hand.
func TestFold(t *testing.T) {
	other := api.Cmd{Kind: api.Add, Key: "other", Value: 2}
	wrong := []api.Cmd{{}, {Kind: 5, Key: "k", Value: 9}, {Kind: api.Put, Key: "K", Value: 9}, {Kind: api.Delete, Key: "k", Value: of(minusZero)}, {Kind: api.Add, Value: 9}}
	for _, s := range []struct {
		l    []api.Cmd
		want api.Cell
	}{
		{nil, api.Cell{}},
		{[]api.Cmd{}, api.Cell{}},
		{[]api.Cmd{get()}, api.Cell{}},
		{[]api.Cmd{del()}, api.Cell{}},
		{[]api.Cmd{put(minusZero)}, has(minusZero)},
		{[]api.Cmd{add(minusZero)}, has(0)},
		{[]api.Cmd{put(0xffffffffffffffff)}, has(oneNaN)},
		{[]api.Cmd{get(), add(num(1))}, has(num(1))},
		{[]api.Cmd{del(), add(num(1))}, has(num(1))},
		{[]api.Cmd{put(num(2)), add(num(1))}, has(num(3))},
		{[]api.Cmd{add(num(2)), add(num(1))}, has(num(3))},
		{[]api.Cmd{add(num(2)), put(num(1))}, has(num(1))},
		{[]api.Cmd{add(num(2)), get()}, has(num(2))},
		{[]api.Cmd{put(num(2)), del()}, api.Cell{}},
		{[]api.Cmd{put(num(2)), del(), add(minusZero)}, has(0)},
		{[]api.Cmd{put(oneNaN), add(num(1))}, has(oneNaN)},
		{[]api.Cmd{put(oneNaN), del(), add(num(1))}, has(num(1))},
		{[]api.Cmd{add(inf), add(minusInf)}, has(oneNaN)},
		// Keys do not matter.
		{[]api.Cmd{add(num(1)), other, put(num(4)), other}, has(num(6))},
		{[]api.Cmd{add(num(1)), {Kind: api.Delete, Key: "other"}}, api.Cell{}},
		{[]api.Cmd{{Kind: api.Put, Key: "a", Value: 1}, {Kind: api.Get, Key: "b"}, {Kind: api.Add, Key: "c", Value: 2}}, has(num(3))},
		// The order does: sums are rounded one by one.
		{[]api.Cmd{add(num(1)), add(num(0x1p53)), add(num(-0x1p53))}, has(0)},
		{[]api.Cmd{add(num(0x1p53)), add(num(-0x1p53)), add(num(1))}, has(num(1))},
		{[]api.Cmd{add(most), add(most), add(minusZero | most)}, has(inf)},
		{[]api.Cmd{add(most), add(minusZero | most), add(most)}, has(most)},
		{[]api.Cmd{put(minusZero), add(0)}, has(0)},
		{[]api.Cmd{add(0), put(minusZero)}, has(minusZero)},
		// Commands that may not be leave what is there.
		{wrong, api.Cell{}},
		{append([]api.Cmd{put(num(3))}, wrong...), has(num(3))},
		{append(append([]api.Cmd{add(num(3))}, wrong...), add(num(2))), has(num(5))},
	} {
		if got := Fold(s.l); !equal(got, s.want) {
			t.Errorf("Fold of %v: %s, not %s", s.l, showCell(got), showCell(s.want))
		}
	}
}

// P12.3: each command alone is one that finds nothing.
func TestFoldOfOne(t *testing.T) {
	for _, x := range append(may(), mayNot()...) {
		want, _ := model(api.Cell{}, x)
		if got := Fold([]api.Cmd{x}); !equal(got, want) {
			t.Errorf("Fold of %s: %s, not %s", showCmd(x), showCell(got), showCell(want))
		}
	}
}

// P12.3: lists of chance, one command after the other.
func TestFoldOfChance(t *testing.T) {
	d := dice(3)
	for range 4000 {
		l := make([]api.Cmd, d.below(20))
		for i := range l {
			l[i] = d.cmd()
		}
		want := folded(l)
		if got := Fold(l); !equal(got, want) {
			t.Fatalf("Fold of %v: %s, not %s", l, showCell(got), showCell(want))
		}
	}
}

// P12.3: of many commands all are done.
func TestFoldOfMany(t *testing.T) {
	const n = 1 << 20
	l := make([]api.Cmd, n)
	for i := range l {
		l[i] = add(num(1))
	}
	if got := Fold(l); !equal(got, has(num(n))) {
		t.Error("Fold of many:", showCell(got))
	}
	tenth := 0.0
	for i := range l {
		l[i] = add(num(0.1))
		tenth += 0.1
	}
	if got := Fold(l); !equal(got, has(num(tenth))) {
		t.Errorf("Fold of many tenths: %s, not %x", showCell(got), num(tenth))
	}
	l[n-1] = del()
	if got := Fold(l); !equal(got, api.Cell{}) {
		t.Error("Fold of many and a delete:", showCell(got))
	}
}

// Fold leaves what it is handed as it was, its spare room too, and does not keep it.
func TestFoldLeavesItsList(t *testing.T) {
	d := dice(8)
	for range 500 {
		room := make([]api.Cmd, 12)
		for i := range room {
			room[i] = d.cmd()
		}
		before := append([]api.Cmd{}, room...)
		l := room[2 : 2+d.below(8)]
		got := Fold(l)
		for i := range room {
			if !equalCmd(room[i], before[i]) {
				t.Fatalf("the command %d became %s, it was %s", i, showCmd(room[i]), showCmd(before[i]))
			}
		}
		for i := range l {
			l[i] = put(num(77))
		}
		if again := Fold(before[2 : 2+len(l)]); !equal(again, got) {
			t.Fatalf("Fold of the same list: %s, at first %s", showCell(again), showCell(got))
		}
	}
}

// P12.4: behind Put, or Delete, it does not matter what was there.
func TestBehindPutAndDelete(t *testing.T) {
	l := []api.Cmd{del()}
	for _, b := range all() {
		l = append(l, put(b))
	}
	for _, x := range l {
		want, _ := Do(api.Cell{}, x)
		for _, c := range cells() {
			if got, _ := Do(c, x); !equal(got, want) {
				t.Errorf("%s behind %s: %s, behind nothing %s", showCmd(x), showCell(c), showCell(got), showCell(want))
			}
		}
	}
}

// P12.4: a Fold hangs on what stands from the last Put or Delete on, and on nothing ahead.
func TestFoldBehindPutAndDelete(t *testing.T) {
	d := dice(4)
	for range 3000 {
		x := del()
		if d.below(2) == 0 {
			x = put(d.number())
		}
		tail := []api.Cmd{x}
		for range d.below(5) {
			tail = append(tail, d.cmd())
		}
		var head []api.Cmd
		for range d.below(6) {
			head = append(head, d.cmd())
		}
		got, want := Fold(append(head, tail...)), Fold(tail)
		if !equal(got, want) {
			t.Fatalf("%v behind %v: %s, alone %s", tail, head, showCell(got), showCell(want))
		}
	}
}

// thrower is numbers of chance that are the same in every run.
type thrower struct{ state uint64 }

func dice(seed uint64) *thrower { return &thrower{seed*0x9e3779b97f4a7c15 + 1} }

func (d *thrower) next() uint64 {
	d.state = d.state*6364136223846793005 + 1442695040888963407
	return (d.state ^ d.state>>29) * 0xbf58476d1ce4e5b9
}

func (d *thrower) below(n int) int { return int(d.next() >> 33 % uint64(n)) }

// number is one of the known ones, or one of near powers, whose sums are rounded, or any.
func (d *thrower) number() uint64 {
	l := all()
	switch d.below(3) {
	case 0:
		return l[d.below(len(l))]
	case 1:
		return d.next()&^(0x7ff<<52) | uint64(1000+d.below(60))<<52
	}
	return d.next()
}

func (d *thrower) cell() api.Cell {
	if d.below(4) == 0 {
		return without(d.number())
	}
	return has(d.number())
}

// cmd is one that may be, mostly.
func (d *thrower) cmd() api.Cmd {
	keys := []string{"k", "other", "0", "twelve12char", "a7"}
	x := api.Cmd{Kind: 1 + d.below(4), Key: keys[d.below(len(keys))]}
	if x.Kind == api.Put || x.Kind == api.Add {
		x.Value = of(d.number())
	}
	switch d.below(24) {
	case 0:
		x.Kind = int(d.next())
	case 1:
		x.Key = ""
	case 2:
		x.Key += "-"
	case 3:
		x.Key += "0123456789ab"
	case 4:
		x.Value = of(d.number())
	}
	return x
}
