package digest

import (
	"bytes"
	"encoding/binary"
	"fmt"
	"hash/fnv"
	"math"
	"math/big"
	"slices"
	"strings"
	"testing"

	"cortege/api"
	"cortege/wire"
)

const greatest uint64 = math.MaxUint64

// sumOf works the digest out as the chapter says it, with a number of any size, and tells at how many bytes the product left 64 bits.
func sumOf(s string) (uint64, int) {
	sum, _ := new(big.Int).SetString("cbf29ce484222325", 16)
	factor, _ := new(big.Int).SetString("100000001b3", 16)
	top := new(big.Int).Lsh(big.NewInt(1), 64)
	left := 0
	for at := range len(s) {
		sum.Xor(sum, big.NewInt(int64(s[at])))
		if sum.Mul(sum, factor); sum.Cmp(top) >= 0 {
			left++
		}
		sum.Mod(sum, top)
	}
	return sum.Uint64(), left
}

// eightOf tells a number's eight bytes, the highest one first.
func eightOf(n uint64) string { return string(binary.BigEndian.AppendUint64(nil, n)) }

// sealOf tells what s is sealed as.
func sealOf(s string) string {
	sum, _ := sumOf(s)
	return s + eightOf(sum)
}

// dice answers numbers that look like chance, the same ones each time.
func dice(seed uint64) func() uint64 {
	return func() uint64 {
		seed ^= seed << 13
		seed ^= seed >> 7
		seed ^= seed << 17
		return seed * 0x2545f4914f6cdd1d
	}
}

// anyBytes is a text of n bytes, every byte from 0 to 255 among them where there is room.
func anyBytes(n int) string {
	b := make([]byte, n)
	for at := range b {
		b[at] = byte(255 - at*7)
	}
	return string(b)
}

// texts gives bytes of lengths at the edges, with any values, and some that are themselves sealed, or a digest.
func texts() []string {
	l := []string{"", "\x00", "a", "\x80", "\xff", "ab", "ba", "abc", "abc\x00", "foobar", "12345678", "\xcb\xf2\x9c\xe4\x84\x22\x23\x25", "\x25\x23\x22\x84\xe4\x9c\xf2\xcb", sealOf("a"), sealOf(sealOf("abc"))}
	for _, n := range []int{1, 2, 6, 7, 8, 9, 10, 15, 16, 17, 63, 64, 65, 255, 256, 257, 5000} {
		l = append(l, anyBytes(n), strings.Repeat("\x00", n), strings.Repeat("\xff", n))
	}
	return l
}

// show tells bytes, the first of many.
func show[T string | []byte](b T) string {
	return fmt.Sprintf("%d bytes %x", len(b), b[:min(40, len(b))])
}

// roomed is bytes with so much spare room behind them, in which something stands.
func roomed(s string, room int) []byte {
	b := append(make([]byte, 0, len(s)+room), s...)
	fill(b[len(b):cap(b)], 0xee)
	return b
}

func fill(b []byte, with byte) {
	for at := range b {
		b[at] = with
	}
}

// room is all that a list's memory has, its spare room too.
func room(b []byte) []byte { return b[:cap(b)] }

// mustOf holds Of against what is wanted, whatever stands in the spare room, and that it leaves its bytes as they were.
func mustOf(t *testing.T, s string, want uint64) {
	t.Helper()
	for _, spare := range []int{0, 1, 8, 9} {
		in := roomed(s, spare)
		if got := Of(in); got != want {
			t.Errorf("Of of %s: %#x, not %#x", show(s), got, want)
		}
		if string(in) != s || bytes.Count(room(in)[len(s):], []byte{0xee}) != cap(in)-len(s) {
			t.Errorf("Of of %s has changed it", show(s))
		}
	}
}

// P10.1: Of at the chapter's examples and at some others, digests written out.
func TestOfSome(t *testing.T) {
	if got := Of(nil); got != 0xcbf29ce484222325 {
		t.Errorf("Of of nil: %#x", got)
	}
	for s, want := range map[string]uint64{
		"": 0xcbf29ce484222325, "a": 0xaf63dc4c8601ec8c, "b": 0xaf63df4c8601f1a5, "\x00": 0xaf63bd4c8601b7df, "fo": 0x08985907b541d342, "foo": 0xdcb27518fed9d577, "foobar": 0x85944171f73967e8,
	} {
		mustOf(t, s, want)
	}
}

// P10.1: Of of no byte, of one of each value, of two of each, and of many lengths.
func TestOf(t *testing.T) {
	check := func(s string) {
		t.Helper()
		want, _ := sumOf(s)
		other := fnv.New64a()
		other.Write([]byte(s))
		if want != other.Sum64() {
			t.Fatalf("the test's own digest of %s: %#x, not %#x", show(s), want, other.Sum64())
		}
		mustOf(t, s, want)
	}
	for _, s := range texts() {
		check(s)
	}
	for one := range 256 {
		check(string([]byte{byte(one)}))
		for two := range 256 {
			if s := string([]byte{byte(one), byte(two)}); Of([]byte(s)) != ((0xcbf29ce484222325^uint64(one))*0x100000001b3^uint64(two))*0x100000001b3 {
				t.Errorf("Of of %s: %#x", show(s), Of([]byte(s)))
			}
		}
	}
	check(anyBytes(300000))
	check(strings.Repeat("\x00", 300000))
}

// P10.1: Of of bytes at each of which the product leaves 64 bits.
func TestOfWraps(t *testing.T) {
	for _, s := range []string{"a", "foobar", anyBytes(256), anyBytes(1000), strings.Repeat("\xff", 1000), strings.Repeat("\x00", 1000)} {
		want, left := sumOf(s)
		if left != len(s) {
			t.Fatalf("the product leaves 64 bits at %d bytes alone of %s", left, show(s))
		}
		mustOf(t, s, want)
	}
}

// P10.1: bytes that differ in their order, in one byte, in bytes of 0 at the end or ahead, have other digests.
func TestOfTellsApart(t *testing.T) {
	seen := map[uint64]string{}
	for _, s := range []string{"ab", "ba", "abc", "acb", "bac", "bca", "cab", "cba", "abd", "Abc", "abc\x00", "abc\x00\x00", "\x00abc", "ab\x00c", "bc", "\xe1bc", "abcabc", "aabbcc", "\x01\x00", "\x00\x01", "\x01\x00\x00"} {
		if other, ok := seen[Of([]byte(s))]; ok {
			t.Errorf("%q and %q have one digest", other, s)
		}
		seen[Of([]byte(s))] = s
	}
	zeros := map[uint64]int{}
	for n := range 300 {
		zeros[Of(make([]byte, n))] = n
	}
	if len(zeros) != 300 {
		t.Errorf("bytes of 0, 0 to 299 of them, have %d digests", len(zeros))
	}
}

// P10.1: Of of a long text, one byte of which is another one, near its beginning, its middle, its end.
func TestOfLong(t *testing.T) {
	b := []byte(anyBytes(1 << 20))
	was := Of(b)
	for _, at := range []int{0, 1, 7, 8, 1 << 10, 1 << 19, 1<<20 - 9, 1<<20 - 2, 1<<20 - 1} {
		for _, other := range []byte{1, 128, 255} {
			b[at] ^= other
			if Of(b) == was {
				t.Errorf("Of of %d bytes does not tell the byte at %d", len(b), at)
			}
			b[at] ^= other
		}
	}
	if Of(b) != was {
		t.Error("Of of the same bytes has another digest the next time")
	}
}

// numbers gives those at the edges of bytes, on both sides of each power of 2, and many of every length.
func numbers() []uint64 {
	l := []uint64{0, 1, 255, 256, 1 << 63, greatest, greatest - 1, 0x0123456789abcdef, 0xfedcba9876543210, 0xcbf29ce484222325, 0x100000001b3}
	roll := dice(10)
	for bits := range 64 {
		power := uint64(1) << bits
		l = append(l, power-1, power, power+1, -power, roll()>>bits)
	}
	return l
}

// P10.1: Mix at some numbers, digests written out.
func TestMixOfSome(t *testing.T) {
	for _, c := range []struct{ a, b, want uint64 }{
		{0, 0, 0x88201fb960ff6465}, {0, 1, 0x88201eb960ff62b2}, {1, 0, 0xf4b5ca5bcc646e52}, {0, 255, 0x882010b960ff4ae8}, {255, 0, 0x0a4fc7d8852d7488},
		{0, 256, 0x881cb9b960fc813c}, {256, 0, 0x6f7afeb5ddaf421c}, {0, 1 << 63, 0x0abc9b33e95a53e5}, {1 << 63, 0, 0x072b03c2eb8b84e5}, {0, greatest, 0x821e65573beff6dd},
		{greatest, 0, 0x780d5836696931dd}, {greatest, greatest, 0xd6607508f5a1e855}, {1, 2, 0xf4b5c85bcc646aec},
	} {
		if got := Mix(c.a, c.b); got != c.want {
			t.Errorf("Mix of %d and %d: %#x, not %#x", c.a, c.b, got, c.want)
		}
	}
}

// P10.1: Mix is the digest of the first number's bytes and, behind them, those of the second one.
func TestMix(t *testing.T) {
	for _, a := range numbers() {
		for _, b := range numbers() {
			got, want := Mix(a, b), Of([]byte(eightOf(a)+eightOf(b)))
			if got != want || got != Of(wire.Eight(wire.Eight(nil, a), b)) || got != Mix(a, b) {
				t.Errorf("Mix of %d and %d: %#x, not %#x", a, b, got, want)
			}
			if a != b && got == Mix(b, a) {
				t.Errorf("Mix of %d and %d does not tell which is first", a, b)
			}
		}
		if Mix(a, a) == a || Mix(a, a) == 0 {
			t.Errorf("Mix of %d twice: %#x", a, Mix(a, a))
		}
	}
	for _, a := range []uint64{0, 1, 255, 256, 1 << 63, greatest} {
		for _, b := range []uint64{0, 1, 255, 256, 1 << 63, greatest} {
			if want, _ := sumOf(eightOf(a) + eightOf(b)); Mix(a, b) != want {
				t.Errorf("Mix of %d and %d: %#x, not %#x", a, b, Mix(a, b), want)
			}
		}
	}
}

// P10.2: Seal at some bytes, written out.
func TestSealOfSome(t *testing.T) {
	for s, want := range map[string]string{
		"":       "\xcb\xf2\x9c\xe4\x84\x22\x23\x25",
		"a":      "a\xaf\x63\xdc\x4c\x86\x01\xec\x8c",
		"\x00":   "\x00\xaf\x63\xbd\x4c\x86\x01\xb7\xdf",
		"foobar": "foobar\x85\x94\x41\x71\xf7\x39\x67\xe8",
	} {
		if got := Seal([]byte(s)); string(got) != want {
			t.Errorf("Seal of %q: %x, not %x", s, got, want)
		}
	}
	if got := Seal(nil); string(got) != "\xcb\xf2\x9c\xe4\x84\x22\x23\x25" {
		t.Errorf("Seal of nil: %x", got)
	}
}

// ins gives what is handed in, in new memory each time: s with spare room and without, and nil.
func ins(s string) [][]byte {
	var l [][]byte
	for _, spare := range []int{0, 1, 7, 8, 9, 16, 400} {
		l = append(l, roomed(s, spare))
	}
	if s == "" {
		l = append(l, nil, []byte{})
	}
	return l
}

// P10.2: Seal lays the digest's eight bytes, the highest first, behind b, and leaves b and its spare room as they were.
func TestSeal(t *testing.T) {
	for _, s := range texts() {
		for _, b := range ins(s) {
			all := string(room(b))
			if got := Seal(b); string(got) != sealOf(s) || string(got) != string(wire.Eight([]byte(s), Of(b))) {
				t.Errorf("Seal of %s: %s", show(s), show(got))
			}
			if string(b) != s || string(room(b)) != all {
				t.Errorf("Seal of %s with room for %d: what was handed in has turned", show(s), cap(b)-len(b))
			}
		}
	}
}

// P10.2: what was sealed can be sealed again, and is opened so often.
func TestSealOfSealed(t *testing.T) {
	for _, s := range texts() {
		b, was := []byte(s), []string{}
		for range 5 {
			was = append(was, string(b))
			b = Seal(b)
			if string(b) != sealOf(was[len(was)-1]) {
				t.Errorf("Seal of %s: %s", show(was[len(was)-1]), show(b))
			}
		}
		for _, want := range slices.Backward(was) {
			mustOpen(t, string(b), want, api.OK)
			b, _ = Open(b)
		}
	}
}

// mustOpen holds Open against what is wanted, and that it leaves its bytes as they were, its spare room too.
func mustOpen(t *testing.T, s string, want string, wantErr api.Errno) {
	t.Helper()
	for _, spare := range []int{0, 8, 20} {
		in := roomed(s, spare)
		got, e := Open(in)
		if string(got) != want || e != wantErr {
			t.Errorf("Open of %s: %s, %d, not %s, %d", show(s), show(got), int(e), show(want), int(wantErr))
		}
		if string(in) != s || bytes.Count(room(in)[len(s):], []byte{0xee}) != spare {
			t.Errorf("Open of %s has changed it", show(s))
		}
	}
}

// P10.2: Open of fewer than eight bytes, even if what is lacking stands in the spare room.
func TestOpenOfShort(t *testing.T) {
	if b, e := Open(nil); len(b) != 0 || e != api.ErrEnd {
		t.Error("Open of nil:", b, int(e))
	}
	for n := range 8 {
		for _, all := range []string{sealOf(""), sealOf("a"), sealOf(anyBytes(20)), "\x00\x00\x00\x00\x00\x00\x00\x00", strings.Repeat("\xff", 8)} {
			mustOpen(t, all[:n], "", api.ErrEnd)
			mustOpen(t, all[len(all)-n:], "", api.ErrEnd)
			b := []byte(all)[:n]
			if got, e := Open(b); len(got) != 0 || e != api.ErrEnd || string(b[:len(all)]) != all {
				t.Errorf("Open of %d bytes with more in the spare room: %x, %d", n, got, int(e))
			}
		}
	}
	for one := range 256 {
		mustOpen(t, string([]byte{byte(one)}), "", api.ErrEnd)
	}
}

// P10.2: Open of eight bytes: those of nothing's digest, and others.
func TestOpenOfEight(t *testing.T) {
	nothing := "\xcb\xf2\x9c\xe4\x84\x22\x23\x25"
	mustOpen(t, nothing, "", api.OK)
	for _, s := range []string{"\x25\x23\x22\x84\xe4\x9c\xf2\xcb", "\x00\x00\x00\x00\x00\x00\x00\x00", strings.Repeat("\xff", 8), "\xcb\xf2\x9c\xe4\x84\x22\x23\x24", "\xca\xf2\x9c\xe4\x84\x22\x23\x25", "\xaf\x63\xdc\x4c\x86\x01\xec\x8c", "12345678"} {
		mustOpen(t, s, "", api.ErrSum)
	}
	changes(nothing, func(s string, at int) { mustOpen(t, s, "", api.ErrSum) })
}

// reversed is s with its last byte first.
func reversed(s string) string {
	b := []byte(s)
	slices.Reverse(b)
	return string(b)
}

// P10.2: Open of bytes whose last eight are another digest, or the right one in another order, or in another place.
func TestOpenOfOthers(t *testing.T) {
	for _, s := range texts() {
		sealed := sealOf(s)
		sum := sealed[len(s):]
		mustOpen(t, sealed, s, api.OK)
		for _, other := range texts() {
			if other != s {
				mustOpen(t, s+sealOf(other)[len(other):], "", api.ErrSum)
			}
		}
		mustOpen(t, s+reversed(sum), "", api.ErrSum)
		mustOpen(t, s+sum[4:]+sum[:4], "", api.ErrSum)
		mustOpen(t, s+strings.Repeat("\x00", 8), "", api.ErrSum)
		mustOpen(t, s+strings.Repeat("\xff", 8), "", api.ErrSum)
		own, _ := sumOf(s)
		for _, n := range []uint64{own + 1, own - 1, -own, ^own, own << 32, own >> 32, own ^ 1<<63} {
			mustOpen(t, s+eightOf(n), "", api.ErrSum)
		}
		if s != "" {
			mustOpenSo(t, sum+s)
			mustOpenSo(t, reversed(sealed))
		}
	}
}

// wantOpen works Open out from what would be sealed.
func wantOpen(s string) (string, api.Errno) {
	switch end := len(s) - 8; {
	case end < 0:
		return "", api.ErrEnd
	case sealOf(s[:end]) != s:
		return "", api.ErrSum
	default:
		return s[:end], api.OK
	}
}

// mustOpenSo holds Open against what is worked out.
func mustOpenSo(t *testing.T, s string) {
	t.Helper()
	want, e := wantOpen(s)
	mustOpen(t, s, want, e)
}

// changes gives s with one byte changed, each of them in turn, to each other value.
func changes(s string, each func(changed string, at int)) {
	for at := range len(s) {
		b := []byte(s)
		for other := 1; other < 256; other++ {
			b[at] = s[at] ^ byte(other)
			each(string(b), at)
		}
	}
}

// P10.3: with one byte changed, any of them, to any other value, what was sealed is not opened.
func TestOpenOfChanged(t *testing.T) {
	for _, s := range texts() {
		if len(s) > 300 {
			continue
		}
		changes(string(Seal([]byte(s))), func(changed string, at int) {
			if got, e := Open([]byte(changed)); len(got) != 0 || e != api.ErrSum {
				t.Errorf("Open of %s sealed, with its byte %d changed: %s, %d", show(s), at, show(got), int(e))
			}
		})
	}
}

// P10.3: with one byte of a long text changed, what was sealed is not opened.
func TestOpenOfLongChanged(t *testing.T) {
	s := anyBytes(70000)
	sealed := Seal([]byte(s))
	for at := 0; at < len(sealed); at += 499 {
		for _, place := range []int{at, len(sealed) - 1 - at} {
			sealed[place] ^= byte(at%255 + 1)
			if got, e := Open(sealed); len(got) != 0 || e != api.ErrSum {
				t.Errorf("Open of %s sealed, with its byte %d changed: %s, %d", show(s), place, show(got), int(e))
			}
			sealed[place] ^= byte(at%255 + 1)
		}
	}
	mustOpen(t, string(sealed), s, api.OK)
}

// P10.2: one byte less, of any place, one byte more behind, ahead or between, and two bytes in each other's place, are told.
func TestOpenOfCut(t *testing.T) {
	for _, s := range texts() {
		if len(s) > 300 {
			continue
		}
		sealed := sealOf(s)
		for at := range len(sealed) {
			less := sealed[:at] + sealed[at+1:]
			want, e := wantOpen(less)
			if e == api.OK {
				t.Fatalf("%s sealed is so with a byte less, too: %s", show(s), show(want))
			}
			mustOpen(t, less, "", e)
			mustOpenSo(t, sealed[:at])
			mustOpenSo(t, sealed[at:])
		}
		for more := range 256 {
			mustOpen(t, sealed+string([]byte{byte(more)}), "", api.ErrSum)
			mustOpen(t, string([]byte{byte(more)})+sealed, "", api.ErrSum)
			mustOpen(t, s+string([]byte{byte(more)})+sealed[len(s):], "", api.ErrSum)
		}
		for at := 1; at < len(sealed); at++ {
			if b := []byte(sealed); b[at] != b[at-1] {
				b[at], b[at-1] = b[at-1], b[at]
				mustOpen(t, string(b), "", api.ErrSum)
			}
		}
		mustOpen(t, sealed+sealed, "", api.ErrSum)
	}
}

// P10.3: whatever was sealed is opened as it was, and sealed so again.
func TestOpenOfSealed(t *testing.T) {
	check := func(s string) {
		t.Helper()
		sealed := Seal([]byte(s))
		got, e := Open(sealed)
		if string(got) != s || e != api.OK {
			t.Errorf("Open of %s sealed: %s, %d", show(s), show(got), int(e))
		}
		if string(Seal(got)) != string(sealed) {
			t.Errorf("%s, sealed, opened and sealed again, is another one", show(s))
		}
	}
	for _, s := range texts() {
		check(s)
	}
	for one := range 256 {
		check(string([]byte{byte(one)}))
		for two := range 256 {
			check(string([]byte{byte(one), byte(two)}))
		}
	}
	roll := dice(3)
	for n := range 600 {
		b := make([]byte, n)
		for at := range b {
			b[at] = byte(roll() >> 32)
		}
		check(string(b))
	}
	check(anyBytes(1 << 20))
}

// P10.2: bytes that come as they like are opened just if they are what was sealed.
func TestOpenOfAny(t *testing.T) {
	roll := dice(4)
	for range 20000 {
		b := make([]byte, roll()%24)
		for at := range b {
			b[at] = byte(roll() >> 32)
		}
		mustOpenSo(t, string(b))
		if len(b) < 8 {
			continue
		}
		s := string(b[:len(b)-8])
		sealed := sealOf(s)
		mustOpen(t, sealed, s, api.OK)
		// One bit of the eight alone is another one.
		bit := roll() % 64
		changed := []byte(sealed)
		changed[len(s)+int(bit/8)] ^= 1 << (bit % 8)
		mustOpen(t, string(changed), "", api.ErrSum)
	}
}

// made is one of the calls that hand a list out, and what it hands out of what is handed in.
type made struct {
	name string
	do   func(b []byte) []byte
	in   string
	want string
}

func mades() []made {
	var l []made
	for _, s := range texts() {
		l = append(l, made{"Seal of " + show(s), Seal, s, sealOf(s)})
		l = append(l, made{"Open of sealed " + show(s), func(b []byte) []byte { got, _ := Open(b); return got }, sealOf(s), s})
	}
	return l
}

// P10.2: what is written into the answer, or into what was handed in, spare room too, is not seen in the other one.
func TestAnswersAreNew(t *testing.T) {
	for _, m := range mades() {
		for _, b := range ins(m.in) {
			all := string(room(b))
			got, other := m.do(b), m.do(b)
			if string(got) != m.want {
				t.Errorf("%s: %s", m.name, show(got))
			}
			fill(room(got), 0x55)
			if string(room(b)) != all {
				t.Errorf("%s: what was written into the answer is seen in what was handed in", m.name)
			}
			if string(other) != m.want {
				t.Errorf("%s: what was written into one answer is seen in another one", m.name)
			}
			fill(room(b), 0xaa)
			if string(other) != m.want || bytes.Count(room(got), []byte{0x55}) != cap(got) {
				t.Errorf("%s: what was written into what was handed in is seen in the answer", m.name)
			}
		}
	}
}

// P10.2: what is laid behind the answer's end, or behind that of what was handed in, is not seen behind the other one's.
func TestAnswersGrowByThemselves(t *testing.T) {
	for _, m := range mades() {
		for _, b := range ins(m.in) {
			all := string(room(b))
			got, other := m.do(b), m.do(b)
			one := append(got, strings.Repeat("1", 500)...)
			two := append(other, strings.Repeat("2", 500)...)
			if string(room(b)) != all || string(got) != m.want || string(one) != m.want+strings.Repeat("1", 500) {
				t.Errorf("%s: what was laid behind an answer is seen elsewhere", m.name)
			}
			_ = append(b, strings.Repeat("3", 500)...)
			if string(one) != m.want+strings.Repeat("1", 500) || string(two) != m.want+strings.Repeat("2", 500) {
				t.Errorf("%s: what was laid behind what was handed in is seen in the answer", m.name)
			}
			// As few as the spare room takes, too: then nothing moves.
			for _, few := range []int{1, 8} {
				got := m.do(b)
				_ = append(got, strings.Repeat("4", few)...)
				if now := m.do(b); string(now) != m.want {
					t.Errorf("%s: what was laid behind an answer is seen in what was handed in", m.name)
				}
			}
		}
	}
}

// Rules 1 and 5: an error does not linger, and no call hangs on an earlier one.
func TestOpenKeepsNothing(t *testing.T) {
	for range 3 {
		mustOpen(t, "short", "", api.ErrEnd)
		mustOpen(t, sealOf("abc"), "abc", api.OK)
		mustOpen(t, "abc12345678", "", api.ErrSum)
		mustOpen(t, sealOf(""), "", api.OK)
		if Of([]byte("a")) != 0xaf63dc4c8601ec8c || Mix(1, 2) != 0xf4b5c85bcc646aec {
			t.Error("Of or Mix hangs on what was opened ahead of it")
		}
	}
}
