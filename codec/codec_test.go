package codec

import (
	"encoding/binary"
	"fmt"
	"hash/fnv"
	"math"
	"slices"
	"strings"
	"testing"
	"unsafe"

	"cortege/api"
	"cortege/record"
)

const (
	oneNaN    uint64 = 0x7ff8000000000001
	minusZero uint64 = 1 << 63
	// mostKey is a key of as many bytes as there may be.
	mostKey = "abcdefghij01"
)

func id(rep, slot int) api.Id { return api.Id{Rep: rep, Slot: slot} }

func ids(l ...api.Id) []api.Id { return l }

func cmds(l ...api.Cmd) []api.Cmd { return l }

func get(key string) api.Cmd { return api.Cmd{Kind: api.Get, Key: key} }

func del(key string) api.Cmd { return api.Cmd{Kind: api.Delete, Key: key} }

// with is a command whose value has these bits.
func with(kind int, key string, bits uint64) api.Cmd {
	return api.Cmd{Kind: kind, Key: key, Value: math.Float64frombits(bits)}
}

// slots gives n ids of a replica in a row.
func slots(rep, first, n int) []api.Id {
	var l []api.Id
	for i := range n {
		l = append(l, id(rep, first+i))
	}
	return l
}

// good is a record that may be, in new memory each time.
func good() api.Record {
	return api.Record{
		Id: id(3, 300), Seq: 20000,
		Deps:  ids(id(0, 127), id(1, 128), id(3, 299), id(3, 16384), id(7, 1<<20)),
		Batch: cmds(get("a"), with(api.Put, "b2", 0x3ff8000000000000), del(mostKey), with(api.Add, "dd", minusZero)),
	}
}

// but is the good record with one change.
func but(change func(*api.Record)) api.Record {
	r := good()
	change(&r)
	return r
}

// someBits gives those of numbers at the edges: zeros, the least and the greatest ones, infinities, NaNs.
func someBits() []uint64 {
	l := []uint64{0, minusZero, 1, minusZero | 1, 0x000fffffffffffff, 0x0010000000000000, 0x3ff0000000000000, 0xbff8000000000000, 0x7fefffffffffffff, 0xffefffffffffffff, 0x7ff0000000000000, 0xfff0000000000000, oneNaN}
	return append(l, otherNaNs()...)
}

// otherNaNs gives bits of NaNs that are not the one.
func otherNaNs() []uint64 {
	return []uint64{0x7ff8000000000000, 0x7ff8000000000002, 0x7ff0000000000001, 0x7fffffffffffffff, 0xfff8000000000001, 0xfff8000000000000, 0xfff0000000000001, 0xffffffffffffffff, 0x7ff4000000000000}
}

// isNaN tells by the bits alone.
func isNaN(bits uint64) bool { return bits<<1 > 0x7ff0000000000000<<1 }

// numberOf tells a number's bytes.
func numberOf(n uint64) string { return string(binary.AppendUvarint(nil, n)) }

// textOf tells a text's bytes.
func textOf(s string) string { return numberOf(uint64(len(s))) + s }

// eightOf tells eight bytes of a number.
func eightOf(n uint64) string { return string(binary.BigEndian.AppendUint64(nil, n)) }

// sealed tells s with its digest behind it.
func sealed(s string) string {
	sum := fnv.New64a()
	sum.Write([]byte(s))
	return s + eightOf(sum.Sum64())
}

// A field is what stands by itself in a record's bytes.
type field struct {
	// what it is: rep, slot, seq, deps, batch, kind, key or bits.
	what  string
	bytes string
}

// fieldsOf tells a record's bytes, not sealed, field by field.
func fieldsOf(r api.Record) []field {
	var l []field
	number := func(what string, n int) { l = append(l, field{what, numberOf(uint64(n))}) }
	number("rep", r.Id.Rep)
	number("slot", r.Id.Slot)
	number("seq", r.Seq)
	number("deps", len(r.Deps))
	for _, dep := range r.Deps {
		number("rep", dep.Rep)
		number("slot", dep.Slot)
	}
	number("batch", len(r.Batch))
	for _, c := range r.Batch {
		number("kind", c.Kind)
		l = append(l, field{"key", textOf(c.Key)})
		if c.Kind == 2 || c.Kind == 4 {
			bits := math.Float64bits(c.Value)
			if isNaN(bits) {
				bits = oneNaN
			}
			l = append(l, field{"bits", eightOf(bits)})
		}
	}
	return l
}

func joined(l []field) string {
	text := ""
	for _, f := range l {
		text += f.bytes
	}
	return text
}

// plain tells a record's bytes, not sealed.
func plain(r api.Record) string { return joined(fieldsOf(r)) }

// equal tells whether two records are the same to the bit.
func equal(a, b api.Record) bool {
	return a.Id == b.Id && a.Seq == b.Seq && slices.Equal(a.Deps, b.Deps) && slices.EqualFunc(a.Batch, b.Batch, func(one, other api.Cmd) bool {
		return one.Kind == other.Kind && one.Key == other.Key && math.Float64bits(one.Value) == math.Float64bits(other.Value)
	})
}

// deep is a record in new memory, to the bit.
func deep(r api.Record) api.Record {
	return api.Record{Id: r.Id, Seq: r.Seq, Deps: slices.Clone(r.Deps), Batch: slices.Clone(r.Batch)}
}

// canonical is a record in new memory, whose NaNs are the one.
func canonical(r api.Record) api.Record {
	c := deep(r)
	for at := range c.Batch {
		if math.IsNaN(c.Batch[at].Value) {
			c.Batch[at].Value = math.Float64frombits(oneNaN)
		}
	}
	return c
}

// spread is a record with its lists' spare room.
func spread(r api.Record) api.Record {
	return api.Record{Id: r.Id, Seq: r.Seq, Deps: r.Deps[:cap(r.Deps)], Batch: r.Batch[:cap(r.Batch)]}
}

// show tells a record by its values' bits, too, since zeros and NaNs look alike.
func show(r api.Record) string {
	text := fmt.Sprintf("%v, Seq %d, %d Deps %.300v, %d commands", r.Id, r.Seq, len(r.Deps), fmt.Sprint(r.Deps), len(r.Batch))
	for _, c := range r.Batch {
		text += fmt.Sprintf(" {%d %.40q %x}", c.Kind, c.Key, math.Float64bits(c.Value))
	}
	return text
}

// roomed is bytes with so much spare room behind them, in which something stands.
func roomed(s string, spare int) []byte {
	b := append(make([]byte, 0, len(s)+spare), s...)
	fill(b[len(b):cap(b)], 0xee)
	return b
}

func fill(b []byte, with byte) {
	for at := range b {
		b[at] = with
	}
}

// room is all that a list's memory has, its spare room too.
func room(b []byte) []byte { return b[:cap(b)] }

// dice answers numbers from 0 to n - 1 that look like chance, the same ones each time.
func dice(seed uint64) func(n int) int {
	return func(n int) int {
		seed = seed*6364136223846793005 + 1442695040888963407
		return int(seed>>33) % n
	}
}

// edgeNumbers gives numbers from least to most: both of these, those near them, and those where a number has a byte more.
func edgeNumbers(least, most int) []int {
	var l []int
	for _, n := range []int{0, 1, 2, 6, 7, 8, 126, 127, 128, 129, 255, 256, 300, 16382, 16383, 16384, 16385, 1<<20 - 1, 1 << 20, 1<<21 - 1, 1 << 21, 1<<28 - 1, 1 << 28, 1<<30 - 1, 1 << 30} {
		if least <= n && n <= most {
			l = append(l, n)
		}
	}
	return l
}

// goods gives records that may be: those at the edges of each field, and many others.
func goods() []api.Record {
	l := []api.Record{
		{Id: id(1, 2), Seq: 3}, {Id: id(0, 1), Seq: 1}, {Id: id(7, 1<<20), Seq: 1 << 30}, good(),
		{Id: id(1, 2), Seq: 3, Deps: ids(), Batch: cmds()}, {Id: id(1, 2), Seq: 3, Deps: make([]api.Id, 0, 9), Batch: make([]api.Cmd, 0, 9)},
		{Id: id(1, 2), Seq: 3, Deps: ids(id(1, 1))}, {Id: id(1, 2), Seq: 3, Batch: cmds(get("a"))}, {Id: id(1, 2), Seq: 3, Deps: ids(id(7, 1<<20)), Batch: cmds(del("z"))},
		{Id: id(7, 1), Seq: 1 << 30, Deps: slots(7, 1<<20-15, 16), Batch: slices.Repeat(cmds(with(api.Put, mostKey, oneNaN)), 8)},
		but(func(r *api.Record) { r.Deps = nil }), but(func(r *api.Record) { r.Batch = nil }), but(func(r *api.Record) { r.Deps, r.Batch = r.Deps[:2], r.Batch[1:3] }),
	}
	for rep := range 8 {
		for _, slot := range edgeNumbers(1, 1<<20) {
			if one := id(rep, slot); !slices.Contains(good().Deps, one) {
				l = append(l, api.Record{Id: one, Seq: 1}, but(func(r *api.Record) { r.Id = one }), api.Record{Id: id(3, 77), Seq: 1, Deps: ids(one)})
			}
		}
	}
	for _, seq := range edgeNumbers(1, 1<<30) {
		l = append(l, api.Record{Id: id(1, 2), Seq: seq}, but(func(r *api.Record) { r.Seq = seq }))
	}
	for n := range 17 {
		l = append(l, api.Record{Id: id(1, 2), Seq: 3, Deps: slots(5, 120, n)}, but(func(r *api.Record) { r.Deps = slots(4, 16380, n) }))
	}
	return append(l, goodBatches()...)
}

// goodBatches gives records that may be, with all kinds, keys and values in all places.
func goodBatches() []api.Record {
	var l []api.Record
	for n := range 9 {
		for _, c := range cmds(get("a"), del("9"), with(api.Put, "k", minusZero), with(api.Add, mostKey, oneNaN)) {
			l = append(l, but(func(r *api.Record) { r.Batch = slices.Repeat(cmds(c), n) }))
		}
	}
	for _, bits := range someBits() {
		for _, kind := range []int{api.Put, api.Add} {
			l = append(l, api.Record{Id: id(1, 2), Seq: 3, Batch: cmds(with(kind, "v", bits))}, but(func(r *api.Record) { r.Batch[1], r.Batch[3] = with(kind, "w", bits), with(kind, "w", bits) }))
		}
	}
	for n := 1; n <= 12; n++ {
		for _, key := range []string{strings.Repeat("z", n), strings.Repeat("0", n), mostKey[12-n:]} {
			l = append(l, api.Record{Id: id(1, 2), Seq: 3, Batch: cmds(get(key))}, but(func(r *api.Record) { r.Batch[1].Key, r.Batch[2].Key = key, key }))
		}
	}
	return append(l, manyGoods(1, 300)...)
}

// manyGoods gives n records that may be, each field of which is any.
func manyGoods(seed uint64, n int) []api.Record {
	roll := dice(seed)
	anyOf := func(least, most int) int {
		edges := edgeNumbers(least, most)
		return []int{edges[roll(len(edges))], least + roll(most-least+1)}[roll(2)]
	}
	var l []api.Record
	for len(l) < n {
		r := api.Record{Id: id(roll(8), anyOf(1, 1<<20)), Seq: anyOf(1, 1<<30)}
		last := id(0, 0)
		for range roll(17) {
			last = id(last.Rep+roll(8)/7, max(1, (last.Slot+1+roll(3)*roll(40000))%(1<<20)))
			r.Deps = append(r.Deps, last)
		}
		for range roll(9) {
			c := api.Cmd{Kind: 1 + roll(4), Key: mostKey[roll(12):]}
			if c.Kind%2 == 0 {
				c.Value = math.Float64frombits(someBits()[roll(len(someBits()))])
			}
			r.Batch = append(r.Batch, c)
		}
		if record.Check(r) == api.OK {
			l = append(l, r)
		}
	}
	return l
}

// P11.1: Encode of the chapter's example, and of some others, bytes written out.
func TestEncodeOfSome(t *testing.T) {
	for _, p := range []struct {
		r    api.Record
		want string
	}{
		{api.Record{Id: id(1, 2), Seq: 3}, "\x01\x02\x03\x00\x00"},
		{api.Record{Id: id(0, 1), Seq: 1}, "\x00\x01\x01\x00\x00"},
		{api.Record{Id: id(7, 1<<20), Seq: 1 << 30}, "\x07\x80\x80\x40\x80\x80\x80\x80\x04\x00\x00"},
		{api.Record{Id: id(1, 300), Seq: 128, Deps: ids(id(0, 127), id(7, 16384))}, "\x01\xac\x02\x80\x01\x02\x00\x7f\x07\x80\x80\x01\x00"},
		{api.Record{Id: id(1, 2), Seq: 127, Batch: cmds(get("a"))}, "\x01\x02\x7f\x00\x01\x01\x01a"},
		{api.Record{Id: id(1, 2), Seq: 16383, Batch: cmds(del(mostKey), with(api.Put, "b", minusZero), with(api.Add, "c0", 0xffffffffffffffff))}, "\x01\x02\xff\x7f\x00\x03\x03\x0cabcdefghij01\x02\x01b\x80\x00\x00\x00\x00\x00\x00\x00\x04\x02c0\x7f\xf8\x00\x00\x00\x00\x00\x01"},
		{api.Record{Id: id(1, 2), Seq: 3, Batch: cmds(with(api.Put, "x", 0x0123456789abcdef))}, "\x01\x02\x03\x00\x01\x02\x01x\x01\x23\x45\x67\x89\xab\xcd\xef"},
	} {
		b, e := Encode(p.r)
		if string(b) != sealed(p.want) || e != api.OK || Size(p.r) != len(p.want)+8 {
			t.Errorf("Encode of %s: %x, %d, Size %d", show(p.r), b, int(e), Size(p.r))
		}
	}
	b, _ := Encode(api.Record{Id: id(1, 2), Seq: 3})
	if string(b) != "\x01\x02\x03\x00\x00\x0f\x59\x49\xbf\x4f\x5f\xf9\x63" || len(b) != 13 {
		t.Errorf("Encode of the example: %x", b)
	}
}

// P11.1: Encode of all that may be, and its Size.
func TestEncode(t *testing.T) {
	for _, r := range goods() {
		want := sealed(plain(r))
		b, e := Encode(r)
		if string(b) != want || e != api.OK {
			t.Errorf("Encode of %s: %x, %d, not %x", show(r), b, int(e), want)
		}
		if got := Size(r); got != len(want) {
			t.Errorf("Size of %s: %d, not %d", show(r), got, len(want))
		}
	}
}

// P11.1: lists without an element, nil or empty, make the same bytes; so do all NaNs.
func TestEncodeOfLikes(t *testing.T) {
	want, _ := Encode(api.Record{Id: id(1, 2), Seq: 3})
	for _, deps := range [][]api.Id{nil, {}, slots(1, 1, 4)[:0]} {
		for _, batch := range [][]api.Cmd{nil, {}, cmds(get("a"))[:0]} {
			if b, e := Encode(api.Record{Id: id(1, 2), Seq: 3, Deps: deps, Batch: batch}); string(b) != string(want) || e != api.OK {
				t.Errorf("without an element: %x, %d", b, int(e))
			}
		}
	}
	value := func(bits uint64) string {
		b, _ := Encode(but(func(r *api.Record) { r.Batch[1] = with(api.Put, "n", bits) }))
		return string(b)
	}
	for _, bits := range otherNaNs() {
		if value(bits) != value(oneNaN) {
			t.Errorf("the NaN %x has other bytes", bits)
		}
	}
	if value(0) == value(minusZero) {
		t.Error("+0 and -0 have the same bytes")
	}
}

// bads gives records that may not be, at least one for each of record.Check's errors, and with several of these the first.
func bads() map[api.Errno][]api.Record {
	long := func(c api.Cmd) api.Record {
		return but(func(r *api.Record) { r.Batch = slices.Repeat(cmds(c), 9) })
	}
	l := map[api.Errno][]api.Record{
		api.ErrRep:  {but(func(r *api.Record) { r.Id.Rep = 8 }), but(func(r *api.Record) { r.Id = id(-1, 0) }), but(func(r *api.Record) { r.Deps[1].Rep = math.MinInt }), but(func(r *api.Record) { r.Deps[4].Rep = 8 }), {Id: id(math.MaxInt, 0)}, {Id: id(8, 1), Deps: make([]api.Id, 17), Batch: make([]api.Cmd, 9)}},
		api.ErrSlot: {{}, but(func(r *api.Record) { r.Id.Slot = 0 }), but(func(r *api.Record) { r.Id.Slot = 1<<20 + 1 }), but(func(r *api.Record) { r.Deps[0].Slot = -1 }), but(func(r *api.Record) { r.Id, r.Seq = id(7, math.MinInt), 0 })},
		api.ErrSeq:  {{Id: id(1, 2)}, but(func(r *api.Record) { r.Seq = 0 }), but(func(r *api.Record) { r.Seq = 1<<30 + 1 }), but(func(r *api.Record) { r.Seq, r.Deps[0].Rep = -1, 9 }), but(func(r *api.Record) { r.Seq = math.MinInt })},
		api.ErrDeps: {but(func(r *api.Record) { r.Deps = slots(5, 1, 17) }), but(func(r *api.Record) { r.Deps = make([]api.Id, 17) }), but(func(r *api.Record) { r.Deps, r.Batch = make([]api.Id, 1000), make([]api.Cmd, 9) })},
		api.ErrSelf: {but(func(r *api.Record) { r.Deps[2] = r.Id }), {Id: id(1, 2), Seq: 3, Deps: ids(id(1, 2)), Batch: cmds(api.Cmd{})}, but(func(r *api.Record) { r.Deps[3] = r.Id })},
		api.ErrOrder: {but(func(r *api.Record) { slices.Reverse(r.Deps) }), but(func(r *api.Record) { r.Deps[1] = r.Deps[0] }),
			but(func(r *api.Record) { r.Deps[4], r.Batch = id(3, 16383), slices.Repeat(r.Batch, 9) })},
		api.ErrLen: {long(get("a")), long(api.Cmd{}), long(with(api.Put, "", oneNaN)), but(func(r *api.Record) { r.Batch = make([]api.Cmd, 1000) })},
	}
	for _, c := range cmds(api.Cmd{}, api.Cmd{Kind: 5, Key: "a"}, api.Cmd{Kind: -1, Key: "a"}, api.Cmd{Kind: math.MinInt, Key: "a"}, api.Cmd{Kind: 1<<32 + 1, Key: "a"}, get(""), del(mostKey+"2"), with(api.Put, "A", 0), with(api.Add, "a b", 0), get("\xff"),
		with(api.Get, "a", 1), with(api.Get, "a", minusZero), with(api.Get, "a", oneNaN), with(api.Delete, "a", minusZero), with(api.Delete, "a", 0x3ff0000000000000), with(api.Delete, "a", 0xffffffffffffffff)) {
		for at := range 4 {
			l[api.ErrCmd] = append(l[api.ErrCmd], but(func(r *api.Record) { r.Batch[at] = c }))
		}
	}
	return l
}

// P11.1: Encode of what may not be tells record.Check's error, and no bytes; Size tells 0.
func TestEncodeOfBad(t *testing.T) {
	for want, l := range bads() {
		for _, r := range l {
			b, e := Encode(r)
			if len(b) != 0 || e != want || e != record.Check(r) {
				t.Errorf("Encode of %s: %x, %d, not %d", show(r), b, int(e), int(want))
			}
			if got := Size(r); got != 0 {
				t.Errorf("Size of %s: %d", show(r), got)
			}
		}
	}
	for _, bits := range someBits() {
		for _, kind := range []int{api.Get, api.Delete} {
			want := api.ErrCmd
			if bits == 0 {
				want = api.OK
			}
			if b, e := Encode(but(func(r *api.Record) { r.Batch[0] = with(kind, "a", bits) })); e != want || len(b) == 0 != (e != api.OK) {
				t.Errorf("Encode of the kind %d with the bits %x: %x, %d", kind, bits, b, int(e))
			}
		}
	}
}

// mustDecode holds Decode of bytes as they stand against what is wanted, whatever the spare room has, and that it leaves these as they were.
func mustDecode(t *testing.T, s string, want api.Record, wantErr api.Errno) {
	t.Helper()
	for _, spare := range []int{0, 1, 8, 60} {
		in := roomed(s, spare)
		all := string(room(in))
		got, e := Decode(in)
		if !equal(got, want) || e != wantErr {
			t.Errorf("Decode of %x: %.600s, %d, not %.600s, %d", s, show(got), int(e), show(want), int(wantErr))
		}
		if string(room(in)) != all || len(in) != len(s) {
			t.Errorf("Decode of %x has changed it", s)
		}
	}
}

// mustRefuse holds Decode of bytes that are sealed here against the error that is wanted.
func mustRefuse(t *testing.T, s string, want api.Errno) {
	t.Helper()
	mustDecode(t, sealed(s), api.Record{}, want)
}

// P11.2: Decode of some bytes, written out.
func TestDecodeOfSome(t *testing.T) {
	mustDecode(t, "\x01\x02\x03\x00\x00\x0f\x59\x49\xbf\x4f\x5f\xf9\x63", api.Record{Id: id(1, 2), Seq: 3}, api.OK)
	mustDecode(t, sealed("\x07\x80\x80\x40\x80\x80\x80\x80\x04\x00\x00"), api.Record{Id: id(7, 1<<20), Seq: 1 << 30}, api.OK)
	mustDecode(t, sealed("\x01\xac\x02\x80\x01\x02\x00\x7f\x07\x80\x80\x01\x00"), api.Record{Id: id(1, 300), Seq: 128, Deps: ids(id(0, 127), id(7, 16384))}, api.OK)
	mustDecode(t, sealed("\x01\x02\x03\x00\x02\x03\x01a\x04\x02b0\x7f\xf8\x00\x00\x00\x00\x00\x01"), api.Record{Id: id(1, 2), Seq: 3, Batch: cmds(del("a"), with(api.Add, "b0", oneNaN))}, api.OK)
}

// P11.2: digest.Open's error is told ahead of all that the bytes are, and of all that they are not.
func TestDecodeOfUnsealed(t *testing.T) {
	if r, e := Decode(nil); !equal(r, api.Record{}) || e != api.ErrEnd {
		t.Error("Decode of nil:", show(r), int(e))
	}
	whole := sealed("\x01\x02\x03\x00\x00")
	for n := range 8 {
		for _, s := range []string{whole[:n], whole[13-n:], sealed("")[:n], strings.Repeat("\x00", n), strings.Repeat("\xff", n)} {
			mustDecode(t, s, api.Record{}, api.ErrEnd)
		}
		if r, e := Decode([]byte(whole)[:n]); !equal(r, api.Record{}) || e != api.ErrEnd {
			t.Error("Decode of bytes with more in their spare room:", n, show(r), int(e))
		}
	}
	for _, s := range append([]string{"", "\x01\x02\x03\x00\x00", "\x01\x02\x03\x00\x00\x00", "\x09\x02\x03\x00\x00", "\x80", "\x80\x00", plain(good())}, faultyTexts()...) {
		for _, sum := range []string{"\x00\x00\x00\x00\x00\x00\x00\x00", strings.Repeat("\xff", 8), sealed(s + "x")[len(s)+1:], sealed("another")[7:]} {
			mustDecode(t, s+sum, api.Record{}, api.ErrSum)
		}
	}
	mustRefuse(t, "", api.ErrEnd)
	mustDecode(t, whole[1:], api.Record{}, api.ErrSum)
	mustDecode(t, whole+"\x00", api.Record{}, api.ErrSum)
	mustDecode(t, sealed(whole), api.Record{}, api.ErrForm)
}

// faultyTexts gives bytes, not sealed, with one fault of each kind.
func faultyTexts() []string {
	var l []string
	for _, f := range faults() {
		for at, one := range fieldsOf(good()) {
			if s, ok := spoilt(fieldsOf(good()), at, f); ok && strings.Contains(f.in, one.what) {
				l = append(l, s)
			}
		}
	}
	return l
}

// P11.2: bytes that end in each place, with their own digest.
func TestDecodeOfCut(t *testing.T) {
	for _, r := range goods()[:60] {
		all := plain(r)
		for end := range len(all) {
			mustRefuse(t, all[:end], api.ErrEnd)
		}
	}
	for _, r := range goodBatches() {
		all := plain(r)
		for _, end := range []int{0, 1, len(all) / 2, len(all) - 9, len(all) - 8, len(all) - 7, len(all) - 2, len(all) - 1} {
			if 0 <= end && end < len(all) {
				mustRefuse(t, all[:end], api.ErrEnd)
			}
		}
	}
	fields := fieldsOf(good())
	for at := range fields {
		mustRefuse(t, joined(fields[:at]), api.ErrEnd)
	}
}

// A fault is what stands in a field's place instead of it; just, with no byte behind it, or ahead of what stood behind the field.
type fault struct {
	name string
	// in is in which fields' places it is told so.
	in    string
	bytes string
	want  api.Errno
}

// numbers are the fields that are one number.
const numbers = "rep slot seq deps batch kind"

// faults gives those that are told as they stand, whatever stands behind.
func faults() []fault {
	high := func(n int) string { return strings.Repeat("\x80", n) }
	l := []fault{
		{"0 in two bytes", numbers + " key", "\x80\x00", api.ErrForm}, {"1 in two bytes", numbers + " key", "\x81\x00", api.ErrForm}, {"5 in three bytes", numbers + " key", "\x85\x80\x00", api.ErrForm}, {"0 in ten bytes", numbers + " key", high(9) + "\x00", api.ErrForm},
		{"2^64", numbers + " key", high(9) + "\x02", api.ErrForm}, {"ten bytes, and more", numbers + " key", high(10), api.ErrForm}, {"above 2^64", numbers + " key", strings.Repeat("\xff", 9) + "\x7f", api.ErrForm},
		{"a Kind of 0", "kind", "\x00", api.ErrCmd}, {"a Kind of 5", "kind", "\x05", api.ErrCmd}, {"a Kind of 127", "kind", "\x7f", api.ErrCmd}, {"a Kind of 257", "kind", numberOf(257), api.ErrCmd}, {"a Kind of 2^30", "kind", numberOf(1 << 30), api.ErrCmd},
		{"17 Deps", "deps", "\x11", api.ErrDeps}, {"128 Deps", "deps", "\x80\x01", api.ErrDeps}, {"256 Deps", "deps", numberOf(256), api.ErrDeps}, {"2^30 Deps", "deps", numberOf(1 << 30), api.ErrDeps},
		{"9 commands", "batch", "\x09", api.ErrLen}, {"17 commands", "batch", "\x11", api.ErrLen}, {"256 commands", "batch", numberOf(256), api.ErrLen}, {"2^30 commands", "batch", numberOf(1 << 30), api.ErrLen},
		{"a Key of 13 bytes", "key", "\x0dabcdefghij012", api.ErrLong}, {"a Key of 13 bytes, none of them there", "key", "\x0d", api.ErrLong}, {"a Key of 128 bytes", "key", "\x80\x01abc", api.ErrLong}, {"a Key of 2^30 bytes", "key", numberOf(1 << 30), api.ErrLong}, {"a Key of 2^30 + 1 bytes", "key", numberOf(1<<30 + 1), api.ErrLong}, {"a Key of 2^64 - 1 bytes", "key", numberOf(math.MaxUint64), api.ErrLong},
	}
	for _, n := range []uint64{1<<30 + 1, 1 << 31, 1 << 32, 1<<32 + 1, 1 << 63, math.MaxUint64} {
		l = append(l, fault{fmt.Sprint("a number of ", n), numbers, numberOf(n), api.ErrRange})
	}
	for _, bits := range otherNaNs() {
		l = append(l, fault{fmt.Sprintf("the NaN %x", bits), "bits", eightOf(bits), api.ErrForm})
	}
	return l
}

// spoilt tells the bytes with the fault in the place of the field, if the fault may stand there.
func spoilt(l []field, at int, f fault) (string, bool) {
	if !slices.Contains(strings.Fields(f.in), l[at].what) {
		return "", false
	}
	l = slices.Clone(l)
	l[at].bytes = f.bytes
	return joined(l), true
}

// P11.2: each fault in each place, with all behind it, with nothing, with a piece, and with more; it is told ahead of what comes.
func TestDecodeOfFaults(t *testing.T) {
	for _, r := range []api.Record{good(), {Id: id(1, 2), Seq: 3}, {Id: id(0, 1), Seq: 1, Deps: slots(7, 3, 16), Batch: slices.Repeat(cmds(with(api.Put, mostKey, minusZero)), 8)}} {
		fields := fieldsOf(r)
		for _, f := range faults() {
			for at := range fields {
				s, ok := spoilt(fields, at, f)
				if !ok {
					continue
				}
				end := len(joined(fields[:at])) + len(f.bytes)
				for _, b := range []string{s, s[:end], s + "\x00", s[:end] + "\x80", s[:end] + strings.Repeat("\xff", 30), s[:end] + strings.Repeat("\x00\x01", 600)} {
					mustRefuse(t, b, f.want)
				}
			}
		}
	}
}

// P11.2: of two faults the one that stands ahead is told, whichever they are, and behind it a cut, too.
func TestDecodeOfTwoFaults(t *testing.T) {
	fields, told := fieldsOf(good()), 0
	for one := range fields {
		for _, f := range faults() {
			s, ok := spoilt(fields, one, f)
			if !ok {
				continue
			}
			for other := one + 1; other < len(fields); other++ {
				for at, g := range faults() {
					second := slices.Clone(fields)
					second[one].bytes = f.bytes
					b, ok := spoilt(second, other, g)
					if !ok || (one+other+at)%3 > 0 {
						continue
					}
					if r, e := Decode([]byte(sealed(b))); !equal(r, api.Record{}) || e != f.want {
						t.Fatalf("%s at the field %d, %s at %d: %s, %d", f.name, one, g.name, other, show(r), int(e))
					}
					told++
				}
			}
			mustRefuse(t, s[:max(len(s)-5, len(joined(fields[:one]))+len(f.bytes))], f.want)
		}
	}
	if told < 5000 {
		t.Error("too few pairs of faults:", told)
	}
}

// P11.2: numbers of up to 2^30 are none of the bytes' faults, but may be the record's, which is told at last.
func TestDecodeOfGreatNumbers(t *testing.T) {
	fields := fieldsOf(good())
	check := func(at int, n uint64, want api.Errno) {
		t.Helper()
		l := slices.Clone(fields)
		l[at].bytes = numberOf(n)
		mustRefuse(t, joined(l), want)
		// Bytes that are left, or that are not there, are told ahead of it.
		mustRefuse(t, joined(l)+"\x00", api.ErrForm)
		mustRefuse(t, joined(l)[:len(joined(l))-1], api.ErrEnd)
	}
	for at, f := range fields {
		for _, n := range []uint64{1<<20 + 1, 1 << 29, 1<<30 - 1, 1 << 30} {
			switch f.what {
			case "rep":
				check(at, n, api.ErrRep)
			case "slot":
				check(at, n, api.ErrSlot)
			case "seq":
				mustDecode(t, sealed(joined(slices.Concat(fields[:at], []field{{"seq", numberOf(n)}}, fields[at+1:]))), but(func(r *api.Record) { r.Seq = int(n) }), api.OK)
			}
		}
		switch f.what {
		case "rep":
			check(at, 8, api.ErrRep)
		case "slot":
			check(at, 0, api.ErrSlot)
		case "seq":
			check(at, 0, api.ErrSeq)
		}
	}
}

// P11.2: Keys that say more bytes than there are, by one and by far, and those that are both too long and end too early.
func TestDecodeOfKeys(t *testing.T) {
	head := "\x01\x02\x03\x00\x01\x01"
	mustRefuse(t, head, api.ErrEnd)
	for n := 1; n <= 12; n++ {
		for there := range n {
			mustRefuse(t, head+numberOf(uint64(n))+mostKey[:there], api.ErrEnd)
		}
		mustDecode(t, sealed(head+numberOf(uint64(n))+mostKey[:n]), api.Record{Id: id(1, 2), Seq: 3, Batch: cmds(get(mostKey[:n]))}, api.OK)
		mustRefuse(t, head+numberOf(uint64(n))+mostKey[:n]+"a", api.ErrForm)
	}
	for _, n := range []uint64{13, 14, 127, 128, 255, 256, 268, 1 << 20, 1 << 30, 1<<30 + 1, 1 << 32, 1<<32 + 1, 1 << 63, 1<<63 + 1, math.MaxUint64 - 1, math.MaxUint64} {
		for _, there := range []int{0, 1, 12, 13, 14, 300} {
			mustRefuse(t, head+numberOf(n)+strings.Repeat("a", there), api.ErrLong)
		}
	}
	// A Key of no byte, or of bytes that may not be in one, is the record's fault alone: told behind all others.
	for _, key := range []string{"", "A", "a b", "\x00", "\xff\xfe", "é", "get", "a-b", strings.Repeat("_", 12)} {
		want, r := api.ErrCmd, api.Record{}
		if key == "get" {
			want, r = api.OK, api.Record{Id: id(1, 2), Seq: 3, Batch: cmds(get(key))}
		}
		mustDecode(t, sealed(head+textOf(key)), r, want)
		mustRefuse(t, head+textOf(key)+"\x00", api.ErrForm)
		mustRefuse(t, "\x01\x02\x03\x00\x02\x01"+textOf(key), api.ErrEnd)
		mustRefuse(t, "\x01\x02\x03\x00\x02\x01"+textOf(key)+"\x05", api.ErrCmd)
		mustRefuse(t, "\x01\x02\x03\x00\x01\x02"+textOf(key)+"\x7f\xf8\x00\x00\x00\x00\x00\x00", api.ErrForm)
		mustRefuse(t, "\x08\x02\x03\x00\x01\x01"+textOf(key), api.ErrRep)
	}
}

// P11.2: bits of all lengths, and of all numbers; those of a NaN are of the one alone.
func TestDecodeOfBits(t *testing.T) {
	for kind := 1; kind <= 4; kind++ {
		head := "\x01\x02\x03\x00\x01" + numberOf(uint64(kind)) + "\x01a"
		for _, bits := range someBits() {
			eight := eightOf(bits)
			if kind%2 == 1 {
				mustDecode(t, sealed(head), api.Record{Id: id(1, 2), Seq: 3, Batch: cmds(api.Cmd{Kind: kind, Key: "a"})}, api.OK)
				mustRefuse(t, head+eight, api.ErrForm)
				continue
			}
			for n := range 8 {
				mustRefuse(t, head+eight[:n], api.ErrEnd)
			}
			mustRefuse(t, head+eight+"\x00", api.ErrForm)
			if isNaN(bits) && bits != oneNaN {
				mustRefuse(t, head+eight, api.ErrForm)
			} else {
				mustDecode(t, sealed(head+eight), api.Record{Id: id(1, 2), Seq: 3, Batch: cmds(with(kind, "a", bits))}, api.OK)
			}
		}
	}
}

// P11.2: bytes that are left in the end, behind any record, one and many.
func TestDecodeOfLeft(t *testing.T) {
	for _, r := range goods()[:80] {
		for _, left := range []string{"\x00", "\x80", "\xff", "a", "\x00\x00", plain(r), sealed(plain(r)), strings.Repeat("\x80", 10), strings.Repeat("\x00", 300)} {
			mustRefuse(t, plain(r)+left, api.ErrForm)
		}
	}
}

// P11.2: record.Check's errors of what stands right, and several at once in its order.
func TestDecodeOfBadRecords(t *testing.T) {
	kinds := map[api.Errno]int{}
	for want, l := range bads() {
		for _, r := range l {
			if fits(r) {
				mustRefuse(t, plain(r), want)
				mustRefuse(t, plain(r)+"\x01", api.ErrForm)
				kinds[want]++
			}
		}
	}
	for _, e := range []api.Errno{api.ErrRep, api.ErrSlot, api.ErrSeq, api.ErrSelf, api.ErrOrder, api.ErrCmd} {
		if kinds[e] < 2 {
			t.Error("too few bytes with the error", int(e))
		}
	}
	spoils := []func(r *api.Record){
		func(r *api.Record) { r.Id.Rep = 8 }, func(r *api.Record) { r.Id.Slot = 0 }, func(r *api.Record) { r.Seq = 0 }, func(r *api.Record) { r.Deps[0].Rep = 9 },
		func(r *api.Record) { r.Deps[1].Slot = 1<<20 + 1 }, func(r *api.Record) { r.Deps[2] = r.Id }, func(r *api.Record) { r.Deps[4] = id(1, 1) }, func(r *api.Record) { r.Batch[0].Key = "" },
	}
	for which := 1; which < 1<<len(spoils); which++ {
		r := good()
		for at, spoil := range spoils {
			if which>>at&1 == 1 {
				spoil(&r)
			}
		}
		mustRefuse(t, plain(r), record.Check(r))
	}
}

// fits tells whether a record's numbers, counts, kinds and keys' lengths may stand in bytes; its own faults are others.
func fits(r api.Record) bool {
	l := []int{r.Id.Rep, r.Id.Slot, r.Seq}
	for _, dep := range r.Deps {
		l = append(l, dep.Rep, dep.Slot)
	}
	return slices.Min(l) >= 0 && slices.Max(l) <= 1<<30 && len(r.Deps) <= 16 && len(r.Batch) <= 8 && !slices.ContainsFunc(r.Batch, func(c api.Cmd) bool {
		return c.Kind < 1 || c.Kind > 4 || len(c.Key) > 12 || c.Kind%2 == 1 && math.Float64bits(c.Value) != 0
	})
}

// model goes through bytes by itself; the first error stays.
type model struct {
	s   string
	err api.Errno
}

func (m *model) fail(e api.Errno) {
	if m.err == api.OK {
		m.err = e
	}
}

// digits takes a number of any size below 2^64.
func (m *model) digits() uint64 {
	n, count := binary.Uvarint([]byte(m.s))
	switch {
	case m.err != api.OK:
		return 0
	case count < 0 || count == 0 && len(m.s) >= 10 || count > 1 && m.s[count-1] == 0:
		m.fail(api.ErrForm)
		return 0
	case count == 0:
		m.fail(api.ErrEnd)
		return 0
	}
	m.s = m.s[count:]
	return n
}

// upTo takes a number; above most it is another error, above 2^30 ErrRange.
func (m *model) upTo(most uint64, above api.Errno) int {
	n := m.digits()
	if n > 1<<30 {
		m.fail(api.ErrRange)
	} else if n > most {
		m.fail(above)
	}
	if m.err != api.OK {
		return 0
	}
	return int(n)
}

func (m *model) command() api.Cmd {
	c := api.Cmd{Kind: m.upTo(4, api.ErrCmd)}
	if c.Kind == 0 {
		m.fail(api.ErrCmd)
	}
	length := m.digits()
	if length > 12 {
		m.fail(api.ErrLong)
	}
	if m.err == api.OK && length > uint64(len(m.s)) {
		m.fail(api.ErrEnd)
	}
	if m.err != api.OK {
		return c
	}
	c.Key, m.s = m.s[:length], m.s[length:]
	if c.Kind%2 == 1 {
		return c
	}
	if len(m.s) < 8 {
		m.fail(api.ErrEnd)
		return c
	}
	bits := binary.BigEndian.Uint64([]byte(m.s))
	if isNaN(bits) && bits != oneNaN {
		m.fail(api.ErrForm)
	}
	c.Value, m.s = math.Float64frombits(bits), m.s[8:]
	return c
}

// wantDecode works out what bytes, not sealed, are.
func wantDecode(s string) (api.Record, api.Errno) {
	m := &model{s: s}
	var r api.Record
	r.Id.Rep = m.upTo(1<<30, api.ErrRange)
	r.Id.Slot = m.upTo(1<<30, api.ErrRange)
	r.Seq = m.upTo(1<<30, api.ErrRange)
	for range m.upTo(16, api.ErrDeps) {
		rep := m.upTo(1<<30, api.ErrRange)
		r.Deps = append(r.Deps, id(rep, m.upTo(1<<30, api.ErrRange)))
	}
	for range m.upTo(8, api.ErrLen) {
		r.Batch = append(r.Batch, m.command())
	}
	if len(m.s) > 0 {
		m.fail(api.ErrForm)
	}
	if m.err == api.OK {
		m.err = record.Check(r)
	}
	if m.err != api.OK {
		return api.Record{}, m.err
	}
	return r, api.OK
}

// P11.2, P11.3: bytes near a record's, with fields that are other ones, doubled, left out, or moved, and any bytes; what is a record has these bytes alone.
func TestDecodeOfAny(t *testing.T) {
	roll, told, l := dice(7), map[api.Errno]int{}, manyGoods(2, 200)
	for _, bad := range bads() {
		for _, r := range bad {
			if fits(r) {
				l = append(l, r)
			}
		}
	}
	for range 40000 {
		s := changedFields(roll, fieldsOf(l[roll(len(l))]))
		want, e := wantDecode(s)
		got, gotErr := Decode([]byte(sealed(s)))
		if !equal(got, want) || gotErr != e {
			t.Fatalf("Decode of %x: %s, %d, not %s, %d", s, show(got), int(gotErr), show(want), int(e))
		}
		if b, again := Encode(got); gotErr == api.OK && (again != api.OK || string(b) != sealed(s)) {
			t.Fatalf("Encode of what %x is: %x, %d", s, b, int(again))
		}
		told[e]++
	}
	for _, e := range []api.Errno{api.OK, api.ErrForm, api.ErrEnd, api.ErrLen, api.ErrSelf, api.ErrRep, api.ErrSlot, api.ErrSeq, api.ErrDeps, api.ErrOrder, api.ErrCmd, api.ErrLong, api.ErrRange} {
		if told[e] < 20 {
			t.Errorf("the bytes are too much alike: %d times the error %d", told[e], int(e))
		}
	}
}

// changedFields changes a record's fields a little, mostly once, and may cut the bytes, or put one in.
func changedFields(roll func(int) int, l []field) string {
	for range roll(3) {
		at, other := roll(len(l)), roll(len(l))
		switch roll(5) {
		case 0:
			l = slices.Insert(l, at, l[other])
		case 1:
			l[at], l[other] = l[other], l[at]
		case 2:
			l[at].bytes = faults()[roll(len(faults()))].bytes
		case 3:
			l[at].bytes = numberOf(uint64(roll(1 << (1 + roll(31)))))
		case 4:
			if len(l) > 1 {
				l = slices.Delete(l, at, at+1)
			}
		}
	}
	b := []byte(joined(l))
	switch at := roll(len(b) + 1); roll(8) {
	case 0:
		b = b[:at]
	case 1:
		b = slices.Insert(b, at, byte(roll(256)))
	case 2:
		if at < len(b) {
			b[at] = byte(roll(256))
		}
	}
	return string(b)
}

// P11.3: Decode of Encode is the same record, to the bit but for NaNs, which are the one; and Encode of that the same bytes.
func TestDecodeOfEncoded(t *testing.T) {
	for _, r := range append(goods(), manyGoods(3, 2000)...) {
		b, e := Encode(r)
		if e != api.OK {
			t.Fatalf("Encode of %s: %d", show(r), int(e))
		}
		got, e := Decode(b)
		if e != api.OK || !record.Same(got, r) || !equal(got, canonical(r)) {
			t.Fatalf("Decode of what %s is encoded as: %s, %d", show(r), show(got), int(e))
		}
		if again, e := Encode(got); string(again) != string(b) || e != api.OK || Size(got) != len(b) {
			t.Fatalf("%s, encoded, decoded and encoded again: %x, %d, not %x", show(r), again, int(e), b)
		}
	}
}

// P11.3: records that are not the same have other bytes.
func TestEncodeTellsApart(t *testing.T) {
	seen := map[string]api.Record{}
	for _, r := range append(goods(), manyGoods(4, 2000)...) {
		b, _ := Encode(r)
		if other, ok := seen[string(b)]; ok && !record.Same(r, other) {
			t.Errorf("%s and %s have the same bytes", show(r), show(other))
		}
		seen[string(b)] = r
	}
}

// P11.3: with one byte changed, any of them, to any other value, there is no record.
func TestDecodeOfChanged(t *testing.T) {
	for _, r := range append(goods()[:25], manyGoods(5, 12)...) {
		b, _ := Encode(r)
		for at := range b {
			for other := 1; other < 256; other++ {
				b[at] ^= byte(other)
				if got, e := Decode(b); !equal(got, api.Record{}) || e != api.ErrSum {
					t.Fatalf("Decode of %s encoded, with its byte %d changed: %s, %d", show(r), at, show(got), int(e))
				}
				b[at] ^= byte(other)
			}
		}
		if got, e := Decode(b); e != api.OK || !record.Same(got, r) {
			t.Fatalf("Decode of %s encoded: %s, %d", show(r), show(got), int(e))
		}
	}
	for _, r := range goods() {
		b, _ := Encode(r)
		for _, at := range []int{0, 1, len(b) - 9, len(b) - 8, len(b) - 7, len(b) - 6, len(b) - 5, len(b) - 4, len(b) - 3, len(b) - 2, len(b) - 1} {
			b[at] ^= 1
			mustDecode(t, string(b), api.Record{}, api.ErrSum)
			b[at] ^= 1
		}
	}
}

// handed gives records whose lists have spare room in which something stands, and some without.
func handed() []api.Record {
	return []api.Record{
		good(), {Id: id(1, 2), Seq: 3}, {}, but(func(r *api.Record) { r.Deps, r.Batch = r.Deps[:2], r.Batch[:2] }), but(func(r *api.Record) { r.Deps, r.Batch = r.Deps[:0], r.Batch[:0] }), but(func(r *api.Record) { r.Deps, r.Batch = r.Deps[1:3:4], r.Batch[1:2:3] }),
		{Id: id(1, 2), Seq: 3, Deps: slots(4, 1, 40)[:16], Batch: slices.Repeat(cmds(with(api.Put, "n", 0xfff0000000000001)), 20)[:8]},
		{Id: id(1, 2), Seq: 3, Deps: slots(4, 1, 40)[:17], Batch: slices.Repeat(cmds(api.Cmd{}), 20)[:9]},
	}
}

// Rule 4: Encode and Size change nothing of what is handed in, its spare room neither, and no NaN's bits.
func TestEncodeLeavesAll(t *testing.T) {
	for _, r := range handed() {
		ahead, deps, batch := deep(spread(r)), len(r.Deps), len(r.Batch)
		b, _ := Encode(r)
		Size(r)
		fill(room(b), 0x55)
		_ = append(b, "behind"...)
		if !equal(spread(r), ahead) || len(r.Deps) != deps || len(r.Batch) != batch {
			t.Errorf("it was changed, or its spare room: %s", show(r))
		}
	}
}

// Rule 4: what Encode handed out stays, whatever is written into what was handed in, into another answer, or behind either's end.
func TestEncodedIsNew(t *testing.T) {
	for _, r := range handed() {
		want, _ := Encode(r)
		text := string(want)
		got, _ := Encode(r)
		other, _ := Encode(r)
		spoil(r)
		if string(got) != text {
			t.Errorf("what was written into what was handed in is seen in the answer: %x", got)
		}
		fill(room(other), 0x55)
		one, two := append(got, "1111"...), append(want, "2222"...)
		if string(got) != text || string(one) != text+"1111" || string(two) != text+"2222" {
			t.Errorf("what was written into one answer, or behind it, is seen in another one: %x", got)
		}
	}
}

// spoil writes all over a record's lists, their spare room too.
func spoil(r api.Record) {
	for at := range r.Deps[:cap(r.Deps)] {
		r.Deps[:cap(r.Deps)][at] = id(-5, -6)
	}
	for at := range r.Batch[:cap(r.Batch)] {
		r.Batch[:cap(r.Batch)][at] = api.Cmd{Kind: -7, Key: "spoilt", Value: -8}
	}
}

// Rule 4: what Decode handed out stays, whatever is written into the bytes, into another answer, or behind either's end; nor do the bytes change.
func TestDecodedIsNew(t *testing.T) {
	for _, r := range append(manyGoods(6, 60), good(), api.Record{Id: id(1, 2), Seq: 3}) {
		for _, spare := range []int{0, 5, 300} {
			want := canonical(r)
			in := roomed(sealed(plain(r)), spare)
			all := string(room(in))
			got, _ := Decode(in)
			other, _ := Decode(in)
			third, _ := Decode(in)
			spoil(other)
			third.Deps, third.Batch = append(third.Deps, id(9, 9)), append(third.Batch, get("behind"))
			if string(room(in)) != all || !equal(got, want) {
				t.Fatalf("what was written into an answer, or behind it, is seen elsewhere: %s", show(got))
			}
			grown := api.Record{Id: got.Id, Seq: got.Seq, Deps: append(got.Deps, id(8, 8)), Batch: append(got.Batch, get("grown"))}
			fill(room(in), 0xaa)
			if !equal(got, want) || third.Deps[len(r.Deps)] != id(9, 9) || grown.Deps[len(r.Deps)] != id(8, 8) || third.Batch[len(r.Batch)] != get("behind") || grown.Batch[len(r.Batch)] != get("grown") {
				t.Fatalf("what was written into the bytes, or behind an answer, is seen in an answer: %s", show(got))
			}
		}
	}
}

// Rule 4: a key that was decoded is no piece of the bytes, nor of a longer text, nor of another answer's.
func TestDecodedKeysAreNew(t *testing.T) {
	b := []byte(sealed(plain(good())))
	one, _ := Decode(b)
	other, _ := Decode(b)
	for at := range one.Batch {
		key := unsafe.StringData(one.Batch[at].Key)
		place := uintptr(unsafe.Pointer(key))
		first := uintptr(unsafe.Pointer(&b[0]))
		if first <= place && place < first+uintptr(len(b)) {
			t.Errorf("the key %q stands in the bytes", one.Batch[at].Key)
		}
		if len(one.Batch[at].Key) > 1 && key == unsafe.StringData(other.Batch[at].Key) {
			t.Errorf("the key %q is another answer's", one.Batch[at].Key)
		}
	}
}

// Rules 1 and 5: an error does not linger, and no call hangs on an earlier one.
func TestKeepsNothing(t *testing.T) {
	for range 3 {
		mustRefuse(t, "\x01\x02\x03\x11", api.ErrDeps)
		mustDecode(t, sealed(plain(good())), good(), api.OK)
		mustDecode(t, "short", api.Record{}, api.ErrEnd)
		mustDecode(t, sealed("\x01\x02\x03\x00\x00"), api.Record{Id: id(1, 2), Seq: 3}, api.OK)
		mustRefuse(t, plain(good())+"\x00", api.ErrForm)
		if b, e := Encode(api.Record{}); len(b) != 0 || e != api.ErrSlot || Size(api.Record{}) != 0 {
			t.Errorf("Encode of no record: %x, %d", b, int(e))
		}
		if b, e := Encode(good()); string(b) != sealed(plain(good())) || e != api.OK {
			t.Errorf("Encode of %s: %x, %d", show(good()), b, int(e))
		}
	}
}
