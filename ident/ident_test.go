package ident

import (
	"math"
	"regexp"
	"slices"
	"strconv"
	"strings"
	"testing"

	"cortege/api"
)

type number struct {
	n   int
	may bool
}

// reps and slots are numbers at both ends of what may be, just beyond, and far out of range.
func reps() []number {
	return []number{
		{math.MinInt, false}, {math.MinInt + 3, false}, {math.MinInt32, false}, {-1 << 8, false}, {-8, false}, {-7, false}, {-1, false},
		{0, true}, {1, true}, {2, true}, {6, true}, {7, true},
		{8, false}, {9, false}, {17, false}, {1 << 8, false}, {1<<8 + 1, false}, {math.MaxInt32, false}, {1 << 32, false}, {1<<32 + 2, false}, {math.MaxInt - 1, false}, {math.MaxInt, false},
	}
}

func slots() []number {
	return []number{
		{math.MinInt, false}, {math.MinInt + 3, false}, {math.MinInt32, false}, {-1048577, false}, {-1048576, false}, {-2, false}, {-1, false}, {0, false},
		{1, true}, {2, true}, {9, true}, {10, true}, {17, true}, {100, true}, {65536, true}, {999999, true}, {1000000, true}, {1048575, true}, {1048576, true},
		{1048577, false}, {1048578, false}, {9999999, false}, {math.MaxInt32, false}, {1 << 32, false}, {1<<32 + 1, false}, {math.MaxInt - 1, false}, {math.MaxInt, false},
	}
}

// row is ids in their order, each once, most of which may not be.
func row() []api.Id {
	var l []api.Id
	for _, rep := range reps() {
		for _, slot := range slots() {
			l = append(l, api.Id{Rep: rep.n, Slot: slot.n})
		}
	}
	return l
}

// at makes ids of the places that they have in the row.
func at(places ...int) []api.Id {
	var l []api.Id
	for _, place := range places {
		l = append(l, row()[place])
	}
	return l
}

// dice answers numbers from 0 to n - 1 that look like chance, the same ones each time.
func dice(seed uint64) func(n int) int {
	return func(n int) int {
		seed = seed*6364136223846793005 + 1442695040888963407
		return int(seed>>33) % n
	}
}

// lists gives lists of many lengths, with ids of the row, many of them more than once, in any order.
func lists(f func(l []api.Id)) {
	roll, ids := dice(3), row()
	for n := range 120 {
		for _, from := range []int{1, 2, 5, 30, len(ids)} {
			start := roll(len(ids) - from + 1)
			var l []api.Id
			for range n {
				l = append(l, ids[start+roll(from)])
			}
			f(l)
		}
	}
}

// P3.1: which id may be, and the Rep's error ahead of the Slot's.
func TestCheck(t *testing.T) {
	for _, rep := range reps() {
		for _, slot := range slots() {
			want := api.OK
			if !slot.may {
				want = api.ErrSlot
			}
			if !rep.may {
				want = api.ErrRep
			}
			if got := Check(api.Id{Rep: rep.n, Slot: slot.n}); got != want {
				t.Errorf("Check of %d.%d: %d, not %d", rep.n, slot.n, int(got), int(want))
			}
		}
	}
}

// P3.1: by Rep, then by Slot, as numbers, whatever they are.
func TestCompare(t *testing.T) {
	ids := row()
	for i, a := range ids {
		for j, b := range ids {
			want := 0
			if i < j {
				want = -1
			}
			if i > j {
				want = 1
			}
			if got := Compare(a, b); got != want {
				t.Fatalf("Compare of %v and %v: %d, not %d", a, b, got, want)
			}
		}
	}
}

type known struct {
	id   api.Id
	text string
}

func knowns() []known {
	return []known{
		{api.Id{Rep: 2, Slot: 17}, "2.17"},
		{api.Id{Rep: 0, Slot: 1}, "0.1"},
		{api.Id{Rep: 7, Slot: 1}, "7.1"},
		{api.Id{Rep: 1, Slot: 9}, "1.9"},
		{api.Id{Rep: 1, Slot: 10}, "1.10"},
		{api.Id{Rep: 3, Slot: 999}, "3.999"},
		{api.Id{Rep: 4, Slot: 1000}, "4.1000"},
		{api.Id{Rep: 5, Slot: 65536}, "5.65536"},
		{api.Id{Rep: 6, Slot: 1000000}, "6.1000000"},
		{api.Id{Rep: 0, Slot: 1048576}, "0.1048576"},
		{api.Id{Rep: 7, Slot: 1048575}, "7.1048575"},
		{api.Id{Rep: 7, Slot: 1048576}, "7.1048576"},
	}
}

// form is that of all texts of ids, but that their Slots may be too large.
var form = regexp.MustCompile(`\A([0-7])\.([1-9][0-9]{0,6})\z`)

// wantRead tells whether s is an id's text, and of which.
func wantRead(s string) (api.Id, bool) {
	parts := form.FindStringSubmatch(s)
	if parts == nil {
		return api.Id{}, false
	}
	slot, err := strconv.ParseUint(parts[2], 10, 32)
	if err != nil || slot > 1048576 {
		return api.Id{}, false
	}
	return api.Id{Rep: int(parts[1][0] - '0'), Slot: int(slot)}, true
}

// mustRead asks for what wantRead tells, and for nothing beside an error.
func mustRead(t *testing.T, s string) bool {
	t.Helper()
	want, ok := wantRead(s)
	e := api.OK
	if !ok {
		e = api.ErrForm
	}
	if id, got := Read(s); got != e || id != want {
		t.Errorf("Read of %.40q (%d bytes): %v, error %d, not %v, error %d", s, len(s), id, int(got), want, int(e))
	}
	return ok
}

// mustRefuse asks for the error, and holds the test's own reading to it, too.
func mustRefuse(t *testing.T, s string) {
	t.Helper()
	if mustRead(t, s) {
		t.Errorf("%.40q is an id's text", s)
	}
}

// P3.2: texts that were worked out by hand, both ways.
func TestTextAndRead(t *testing.T) {
	for _, k := range knowns() {
		if got := Text(k.id); got != k.text {
			t.Errorf("Text of %v: %q, not %q", k.id, got, k.text)
		}
		if id, e := Read(k.text); e != api.OK || id != k.id {
			t.Errorf("Read of %q: %v, error %d, not %v", k.text, id, int(e), k.id)
		}
	}
}

// P3.2: just the ids that may be have a text.
func TestTextOfNoId(t *testing.T) {
	for _, rep := range reps() {
		for _, slot := range slots() {
			id := api.Id{Rep: rep.n, Slot: slot.n}
			if got := Text(id); (got != "") != (rep.may && slot.may) {
				t.Errorf("Text of %v: %q", id, got)
			}
		}
	}
}

// P3.2: Read of Text is the id, of all Reps and Slots of all sizes.
func TestReadOfText(t *testing.T) {
	for rep := range 8 {
		for slot := 1; slot <= 1048576; slot += 1 + slot/600 {
			id := api.Id{Rep: rep, Slot: slot}
			s := string(rune('0'+rep)) + "." + strconv.FormatUint(uint64(slot), 10)
			if got := Text(id); got != s {
				t.Fatalf("Text of %v: %q", id, got)
			}
			if got, e := Read(s); e != api.OK || got != id {
				t.Fatalf("Read of %q: %v, error %d", s, got, int(e))
			}
		}
	}
}

// P3.2: texts that are almost an id's.
func TestReadOfNoText(t *testing.T) {
	for _, s := range []string{
		// Nothing at all, or a part alone.
		"", ".", "1", "17", "1.", ".1", "..", "0", "0.", ".0", "-", "+", "-.", ".-",
		// Noughts ahead.
		"01.1", "00.1", "07.1", "1.01", "1.001", "1.0000001", "1.00000001", "1.01048576", "1.00", "00.01", "0000001.1",
		// A sign.
		"+1.1", "1.+1", "-1.1", "1.-1", "-0.1", "+0.1", "+1.+1", "1.-0", "--1.1", "1-.1", "1.1-", "-1.-1", "\u22121.1",
		// A point too many, too few, elsewhere, or another one.
		"1.1.1", "1..1", ".1.1", "1.1.", "..1.1", "11", "1,1", "1:1", "1-1", "1/1", "1\u00b71", "1\uff0e1", "1p1", "1 1",
		// Other letters, and other forms of numbers.
		"a.1", "1.a", "x.1", "1.x", "A.B", "1.1a", "a1.1", "0x1.1", "1.0x1", "1.0b1", "1.0o1", "1.1e1", "1.1f", "1.1_0", "1_0.1", "1.1e0", "\u0661.1", "1.\u0661", "\uff11.1", "1.\uff11", "1.\xb2", "1\xff.1", "nan.1", "1.inf", "r1.1", "(1.1)", "\"1.1\"",
		// What stands around it, or in it.
		" 1.1", "1.1 ", "1 .1", "1. 1", "\t1.1", "1.1\n", "1.1\r\n", "\x001.1", "1.1\x00", "1.\x001", "\ufeff1.1", "1.1,", "1.1 1.2",
		// Ids that may not be, by a little and by much.
		"0.0", "1.0", "7.0", "8.1", "9.1", "8.0", "10.1", "12.17", "70.1", "99.1", "255.1", "256.1", "1.1048577", "1.1048580", "1.1050000", "1.1100000", "1.2000000", "1.9999999", "1.10485760", "1.10000000", "8.1048577",
		// Numbers that no int holds, or that wrap round to one that may be.
		"1.2147483647", "1.2147483649", "1.4294967295", "1.4294967296", "1.4294967297", "4294967297.1", "1.9223372036854775807", "1.9223372036854775808", "1.18446744073709551617", "18446744073709551617.1", "1.-9223372036854775809", "1.99999999999999999999", "99999999999999999999.1",
	} {
		mustRefuse(t, s)
	}
}

// P3.2: texts that go on and on.
func TestReadOfLongTexts(t *testing.T) {
	for _, n := range []int{7, 8, 9, 10, 20, 100, 1 << 20} {
		noughts, ones := strings.Repeat("0", n), strings.Repeat("1", n)
		for _, s := range []string{
			noughts, ones, "1." + noughts, "1." + noughts + "1", noughts + ".1", noughts + "1.1", ones + ".1", ones + "." + ones, "8." + ones, "1.1" + noughts,
			strings.Repeat(".", n), strings.Repeat("1.", n), strings.Repeat("-", n) + "1.1", "1.1" + strings.Repeat(" ", n), strings.Repeat("\xff", n), strings.Repeat("a", n) + ".1",
		} {
			mustRefuse(t, s)
		}
		mustRead(t, "1."+ones)
	}
}

// P3.2: all short texts of some letters.
func TestReadOfAllShortTexts(t *testing.T) {
	texts, read := []string{""}, 0
	for range 6 {
		var longer []string
		for _, s := range texts {
			for _, c := range "-+01789." {
				longer = append(longer, s+string(c))
			}
		}
		for _, s := range longer {
			if mustRead(t, s) {
				read++
			}
		}
		texts = longer
	}
	// Reps 0, 1, 7, and Slots of 1 to 4 digits, the first of them no nought.
	if want := 3 * (4 + 4*5 + 4*25 + 4*125); read != want {
		t.Errorf("%d of the texts are an id's, not %d", read, want)
	}
}

// P3.2: texts in which one byte was changed, taken out or put in.
func TestReadOfChangedTexts(t *testing.T) {
	for _, k := range knowns() {
		for at := range len(k.text) + 1 {
			ahead, behind := k.text[:at], k.text[at:]
			for c := range 256 {
				put := string([]byte{byte(c)})
				mustRead(t, ahead+put+behind)
				if behind != "" {
					mustRead(t, ahead+put+behind[1:])
				}
			}
			if behind != "" {
				mustRead(t, ahead+behind[1:])
			}
		}
	}
}

// P3.3: each behind the one ahead of it, and no two the same.
func TestRising(t *testing.T) {
	last := len(row()) - 1
	for _, c := range []struct {
		l    []api.Id
		want bool
	}{
		{nil, true},
		{[]api.Id{}, true},
		{at(0), true},
		{at(last), true},
		{[]api.Id{{Rep: 2, Slot: 17}}, true},
		{at(0, last), true},
		{at(last, 0), false},
		{at(5, 5), false},
		{[]api.Id{{Rep: 1, Slot: 1}, {Rep: 1, Slot: 1}}, false},
		{[]api.Id{{Rep: 1, Slot: 2}, {Rep: 1, Slot: 1}}, false},
		{[]api.Id{{Rep: 1, Slot: 1}, {Rep: 1, Slot: 2}}, true},
		{[]api.Id{{Rep: 1, Slot: 9}, {Rep: 1, Slot: 10}}, true},
		{[]api.Id{{Rep: 1, Slot: 9}, {Rep: 2, Slot: 1}}, true},
		{[]api.Id{{Rep: 2, Slot: 1}, {Rep: 1, Slot: 9}}, false},
		{[]api.Id{{Rep: 1, Slot: 9}, {Rep: 2, Slot: 9}}, true},
		// Ids that may not be stand in the order, too.
		{[]api.Id{{Rep: -1, Slot: 5}, {Rep: 0, Slot: 0}, {Rep: 8, Slot: -3}}, true},
		{[]api.Id{{Rep: -1, Slot: -1}, {Rep: -1, Slot: -1}}, false},
		{[]api.Id{{Rep: math.MaxInt, Slot: 1}, {Rep: math.MinInt, Slot: 1}}, false},
		{[]api.Id{{Rep: 1, Slot: math.MaxInt}, {Rep: 1, Slot: math.MinInt}}, false},
		// The one place that is wrong is the first, the last, or one between.
		{at(1, 0, 2, 3, 4), false},
		{at(0, 1, 1, 3, 4), false},
		{at(0, 1, 3, 2, 4), false},
		{at(0, 1, 2, 4, 3), false},
		{at(0, 1, 2, 3, 3), false},
		{at(0, 1, 2, 3, 4), true},
		{at(4, 3, 2, 1, 0), false},
	} {
		if got := Rising(c.l); got != c.want {
			t.Errorf("Rising of %v: %v", c.l, got)
		}
	}
	if !Rising(row()) {
		t.Error("the row is not rising")
	}
}

// P3.3: in order, each once; ids that may not be are no others.
func TestSorted(t *testing.T) {
	for _, c := range []struct{ l, want []api.Id }{
		{nil, nil},
		{[]api.Id{}, nil},
		{[]api.Id{{Rep: 2, Slot: 17}}, []api.Id{{Rep: 2, Slot: 17}}},
		{at(0), at(0)},
		{at(7, 7), at(7)},
		{at(7, 7, 7, 7), at(7)},
		{at(1, 0), at(0, 1)},
		{at(0, 1), at(0, 1)},
		{at(5, 4, 3, 2, 1, 0), at(0, 1, 2, 3, 4, 5)},
		{at(3, 1, 3, 2, 1, 3), at(1, 2, 3)},
		{[]api.Id{{Rep: 2, Slot: 1}, {Rep: 0, Slot: 9}, {Rep: 2, Slot: 1}, {Rep: 0, Slot: 3}}, []api.Id{{Rep: 0, Slot: 3}, {Rep: 0, Slot: 9}, {Rep: 2, Slot: 1}}},
		{[]api.Id{{Rep: 1, Slot: 10}, {Rep: 1, Slot: 9}}, []api.Id{{Rep: 1, Slot: 9}, {Rep: 1, Slot: 10}}},
		{[]api.Id{{Rep: 9, Slot: 0}, {}, {Rep: -1, Slot: 5}, {}, {Rep: 9, Slot: 0}}, []api.Id{{Rep: -1, Slot: 5}, {}, {Rep: 9, Slot: 0}}},
		{[]api.Id{{Rep: math.MaxInt}, {Rep: math.MinInt}, {Rep: math.MaxInt}}, []api.Id{{Rep: math.MinInt}, {Rep: math.MaxInt}}},
		{[]api.Id{{Rep: 1, Slot: math.MaxInt}, {Rep: 1, Slot: math.MinInt}}, []api.Id{{Rep: 1, Slot: math.MinInt}, {Rep: 1, Slot: math.MaxInt}}},
	} {
		if got := Sorted(c.l); !slices.Equal(got, c.want) {
			t.Errorf("Sorted of %v: %v, not %v", c.l, got, c.want)
		}
	}
	falling := row()
	slices.Reverse(falling)
	if !slices.Equal(Sorted(falling), row()) {
		t.Error("Sorted of the falling row is not the row")
	}
}

// P3.3: what is handed in is not changed, its spare room neither, and what comes is new memory.
func TestSortedLeavesWhatItIsGiven(t *testing.T) {
	for n := range 12 {
		// The list falls, has ids twice, and has more ids in its spare room.
		room := at(9, 8, 8, 7, 6, 6, 6, 5, 4, 3, 2, 1, 0, 0, 1, 2)
		before := slices.Clone(room)
		first, second := Sorted(room[:n]), Sorted(room[:n])
		want := slices.Clone(first)
		if !slices.Equal(room, before) {
			t.Fatalf("Sorted of the first %d changed the list to %v", n, room)
		}
		first = first[:cap(first)]
		for i := range first {
			first[i] = api.Id{Rep: 3, Slot: 33}
		}
		_ = append(second, api.Id{Rep: 4, Slot: 44})
		if !slices.Equal(room, before) {
			t.Errorf("what Sorted of the first %d answers shares the list's memory", n)
		}
		if !slices.Equal(second, want) {
			t.Errorf("two answers of Sorted of the first %d share their memory", n)
		}
		for i := range room {
			room[i] = api.Id{Rep: 5, Slot: 55}
		}
		if !slices.Equal(second, want) {
			t.Errorf("what Sorted of the first %d answered changed with the list", n)
		}
	}
}

// P3.3: at each place, in any order, and whatever the id is.
func TestHas(t *testing.T) {
	roll, ids := dice(4), row()
	for i := len(ids) - 1; i > 0; i-- {
		j := roll(i + 1)
		ids[i], ids[j] = ids[j], ids[i]
	}
	for i, id := range ids {
		if !Has(ids, id) || !Has(ids[i:], id) || !Has(ids[:i+1], id) {
			t.Fatalf("Has of %v: not there", id)
		}
		if Has(ids[:i], id) || Has(ids[i+1:], id) {
			t.Fatalf("Has of %v: there, beside itself", id)
		}
	}
}

// P3.3: what has just one of the two numbers, or both the other way round, is another id.
func TestHasNot(t *testing.T) {
	l := []api.Id{{Rep: 2, Slot: 17}, {Rep: 1, Slot: 5}, {Rep: 2, Slot: 17}, {Rep: 7, Slot: 2}}
	for _, id := range []api.Id{{}, {Rep: 2, Slot: 5}, {Rep: 1, Slot: 17}, {Rep: 5, Slot: 1}, {Rep: 2, Slot: 7}, {Rep: 2, Slot: 16}, {Rep: 2, Slot: 18}, {Rep: -2, Slot: -17}, {Rep: 2 + 1<<32, Slot: 17}, {Rep: 2, Slot: 17 + 1<<32}} {
		if Has(l, id) {
			t.Errorf("Has of %v: there", id)
		}
	}
	// The zero value is no id of an empty list, nor of its spare room.
	if Has(nil, api.Id{}) || Has([]api.Id{}, api.Id{}) || Has(make([]api.Id, 0, 4), api.Id{}) || Has(l[:0], l[0]) {
		t.Error("an empty list has an id")
	}
}

// P3.4: rising, with all that the list has, and nothing else.
func TestSortedAsAWhole(t *testing.T) {
	lists(func(l []api.Id) {
		sorted := Sorted(l)
		if !Rising(sorted) {
			t.Fatalf("Sorted of %v is not rising: %v", l, sorted)
		}
		there := map[api.Id]bool{}
		for _, id := range l {
			there[id] = true
			if !Has(sorted, id) {
				t.Fatalf("Sorted of %v has no %v", l, id)
			}
		}
		for _, id := range sorted {
			if !there[id] || !Has(l, id) {
				t.Fatalf("Sorted of %v has %v", l, id)
			}
		}
		if len(sorted) != len(there) || !slices.Equal(Sorted(sorted), sorted) {
			t.Fatalf("Sorted of %v: %v", l, sorted)
		}
		if Rising(l) != slices.Equal(l, sorted) {
			t.Fatalf("Rising of %v: %v", l, Rising(l))
		}
	})
}
