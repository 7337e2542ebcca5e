package wire

import (
	"bytes"
	"encoding/binary"
	"fmt"
	"math"
	"math/big"
	"slices"
	"strings"
	"testing"

	"cortege/api"
)

const greatest uint64 = math.MaxUint64

// highs is n bytes of 128: digits of 0, behind each of which another one comes.
func highs(n int) string { return strings.Repeat("\x80", n) }

// digitsOf tells a number's bytes by division of a number of any size.
func digitsOf(n uint64) string {
	rest, digit, base := new(big.Int).SetUint64(n), new(big.Int), big.NewInt(128)
	var text []byte
	for {
		rest.DivMod(rest, base, digit)
		if rest.Sign() == 0 {
			return string(append(text, byte(digit.Int64())))
		}
		text = append(text, byte(digit.Int64()+128))
	}
}

// eightOf tells a number's eight bytes.
func eightOf(n uint64) string { return string(new(big.Int).SetUint64(n).FillBytes(make([]byte, 8))) }

// textOf tells a text's bytes.
func textOf(s string) string { return digitsOf(uint64(len(s))) + s }

// dice answers numbers that look like chance, the same ones each time.
func dice(seed uint64) func() uint64 {
	return func() uint64 {
		seed ^= seed << 13
		seed ^= seed >> 7
		seed ^= seed << 17
		return seed * 0x2545f4914f6cdd1d
	}
}

// numbers gives those on both sides of each power of 2 and of each byte's edge, and many of every length.
func numbers() []uint64 {
	l := []uint64{0, 1, 127, 128, 300, greatest - 1, greatest, 0x0123456789abcdef, 0xfedcba9876543210}
	roll := dice(9)
	for bits := range 64 {
		power := uint64(1) << bits
		l = append(l, power-2, power-1, power, power+1, power*127, -power)
		for range 20 {
			l = append(l, roll()>>bits)
		}
	}
	return l
}

// anyBytes is a text of n bytes, every byte from 0 to 255 among them where there is room.
func anyBytes(n int) string {
	b := make([]byte, n)
	for at := range b {
		b[at] = byte(255 - at*7)
	}
	return string(b)
}

// texts gives texts of lengths at the edges, with any bytes in them.
func texts() []string {
	l := []string{"", "\x00", "\x80", "\xff", "abc", "é\u4e16", "\xc3\x28\xed\xa0\x80", "\x03abc", textOf(textOf("x"))}
	for _, n := range []int{1, 2, 7, 8, 9, 126, 127, 128, 129, 255, 256, 300, 16383, 16384, 16385, 70000} {
		l = append(l, anyBytes(n), strings.Repeat("\x00", n), strings.Repeat("\xff", n))
	}
	return l
}

// show tells bytes, the first of many.
func show[T string | []byte](b T) string {
	return fmt.Sprintf("%d bytes %x", len(b), b[:min(40, len(b))])
}

// P9.1: Put at the chapter's example and at each length's first and last number, bytes written out.
func TestPutOfSome(t *testing.T) {
	for _, c := range []struct {
		n    uint64
		want string
	}{
		{300, "\xac\x02"}, {0, "\x00"}, {1, "\x01"}, {127, "\x7f"}, {128, "\x80\x01"}, {129, "\x81\x01"}, {255, "\xff\x01"}, {256, "\x80\x02"},
		{1<<14 - 1, "\xff\x7f"}, {1 << 14, "\x80\x80\x01"}, {1<<21 - 1, "\xff\xff\x7f"}, {1 << 21, "\x80\x80\x80\x01"}, {1<<28 - 1, "\xff\xff\xff\x7f"}, {1 << 28, "\x80\x80\x80\x80\x01"},
		{1<<35 - 1, "\xff\xff\xff\xff\x7f"}, {1 << 35, highs(5) + "\x01"}, {1<<42 - 1, "\xff\xff\xff\xff\xff\x7f"}, {1 << 42, highs(6) + "\x01"},
		{1<<49 - 1, "\xff\xff\xff\xff\xff\xff\x7f"}, {1 << 49, highs(7) + "\x01"}, {1<<56 - 1, "\xff\xff\xff\xff\xff\xff\xff\x7f"}, {1 << 56, highs(8) + "\x01"},
		{1<<63 - 1, "\xff\xff\xff\xff\xff\xff\xff\xff\x7f"}, {1 << 63, highs(9) + "\x01"}, {1<<63 + 1, "\x81" + highs(8) + "\x01"},
		{greatest - 1, "\xfe\xff\xff\xff\xff\xff\xff\xff\xff\x01"}, {greatest, "\xff\xff\xff\xff\xff\xff\xff\xff\xff\x01"},
	} {
		if got := Put(nil, c.n); string(got) != c.want {
			t.Errorf("Put of %d: %x, not %x", c.n, got, c.want)
		}
	}
}

// P9.1: Put of numbers of every length.
func TestPut(t *testing.T) {
	for _, n := range numbers() {
		got := string(Put(nil, n))
		if got != digitsOf(n) || got != string(binary.AppendUvarint(nil, n)) {
			t.Errorf("Put of %d: %x, not %x", n, got, digitsOf(n))
		}
	}
}

// P9.1: PutText of no byte, of some, and of so many that their number has more digits.
func TestPutText(t *testing.T) {
	for s, want := range map[string]string{"": "\x00", "abc": "\x03abc", "\x00": "\x01\x00", "\xff\x80": "\x02\xff\x80", anyBytes(127): "\x7f" + anyBytes(127), anyBytes(128): "\x80\x01" + anyBytes(128), anyBytes(16383): "\xff\x7f" + anyBytes(16383), anyBytes(16384): "\x80\x80\x01" + anyBytes(16384)} {
		if got := PutText(nil, s); string(got) != want {
			t.Errorf("PutText of %s: %s", show(s), show(got))
		}
	}
	for _, s := range texts() {
		if got := PutText(nil, s); string(got) != textOf(s) {
			t.Errorf("PutText of %s: %s", show(s), show(got))
		}
	}
}

// P9.1: Eight lays the highest byte first, whatever the number.
func TestEight(t *testing.T) {
	for n, want := range map[uint64]string{0: "\x00\x00\x00\x00\x00\x00\x00\x00", 1: "\x00\x00\x00\x00\x00\x00\x00\x01", 256: "\x00\x00\x00\x00\x00\x00\x01\x00", 0x0102030405060708: "\x01\x02\x03\x04\x05\x06\x07\x08", 1 << 63: "\x80\x00\x00\x00\x00\x00\x00\x00", greatest: "\xff\xff\xff\xff\xff\xff\xff\xff"} {
		if got := Eight(nil, n); string(got) != want {
			t.Errorf("Eight of %d: %x, not %x", n, got, want)
		}
	}
	for _, n := range numbers() {
		if got := string(Eight(nil, n)); got != eightOf(n) {
			t.Errorf("Eight of %d: %x", n, got)
		}
	}
}

// put is one of the calls that lay something behind bytes, and what it lays there.
type put struct {
	name string
	do   func(b []byte) []byte
	laid string
}

func puts() []put {
	var l []put
	for _, n := range []uint64{0, 1, 127, 128, 300, 1 << 35, 1 << 63, greatest} {
		l = append(l, put{fmt.Sprint("Put of ", n), func(b []byte) []byte { return Put(b, n) }, digitsOf(n)})
		l = append(l, put{fmt.Sprint("Eight of ", n), func(b []byte) []byte { return Eight(b, n) }, eightOf(n)})
	}
	for _, s := range []string{"", "a", "abc", anyBytes(7), anyBytes(127), anyBytes(128), anyBytes(16384)} {
		l = append(l, put{"PutText of " + show(s), func(b []byte) []byte { return PutText(b, s) }, textOf(s)})
	}
	return l
}

// roomed is bytes with so much spare room behind them, in which something stands.
func roomed(s string, room int) []byte {
	b := append(make([]byte, 0, len(s)+room), s...)
	fill(b[len(b):cap(b)], 0xee)
	return b
}

// heads gives what may stand ahead, in new memory each time: nothing, and bytes with spare room and without.
func heads() [][]byte {
	l := [][]byte{nil, {}}
	for _, s := range []string{"", "\x00", "\x80", "\xff\xff", "abcdefg", "12345678", anyBytes(300)} {
		for _, room := range []int{0, 1, 2, 7, 8, 9, 10, 11, 200, 40000} {
			l = append(l, roomed(s, room))
		}
	}
	return l
}

func fill(b []byte, with byte) {
	for at := range b {
		b[at] = with
	}
}

// room is all that a list's memory has, its spare room too.
func room(b []byte) []byte { return b[:cap(b)] }

// P9.1: b stands ahead as it was, and neither it nor its spare room turns.
func TestPutsBehindBytes(t *testing.T) {
	for _, p := range puts() {
		for _, b := range heads() {
			ahead, all := string(b), string(room(b))
			got := p.do(b)
			if string(got) != ahead+p.laid {
				t.Errorf("%s behind %s: %s", p.name, show(ahead), show(got))
			}
			if string(b) != ahead || string(room(b)) != all {
				t.Errorf("%s behind %s with room for %d: what was handed in has turned", p.name, show(ahead), cap(b)-len(ahead))
			}
		}
	}
}

// P9.1: what is written into the answer, or into what was handed in, spare room too, is not seen in the other one.
func TestPutsAreNew(t *testing.T) {
	for _, p := range puts() {
		for _, b := range heads() {
			ahead, all := string(b), string(room(b))
			got, other := p.do(b), p.do(b)
			fill(room(got), 0x55)
			if string(room(b)) != all {
				t.Errorf("%s behind %s: what was written into the answer is seen in what was handed in", p.name, show(ahead))
			}
			if string(other) != ahead+p.laid {
				t.Errorf("%s behind %s: what was written into one answer is seen in another one", p.name, show(ahead))
			}
			fill(room(b), 0xaa)
			if string(other) != ahead+p.laid || bytes.Count(room(got), []byte{0x55}) != cap(got) {
				t.Errorf("%s behind %s: what was written into what was handed in is seen in the answer", p.name, show(ahead))
			}
		}
	}
}

// P9.1: what is laid behind the answer's end, or behind that of what was handed in, is not seen behind the other one's.
func TestPutsGrowByThemselves(t *testing.T) {
	for _, p := range puts() {
		for _, b := range heads() {
			ahead, all := string(b), string(room(b))
			got, other := p.do(b), p.do(b)
			one := append(got, strings.Repeat("1", 60)...)
			two := append(other, strings.Repeat("2", 60)...)
			if string(room(b)) != all || string(got) != ahead+p.laid || string(one) != ahead+p.laid+strings.Repeat("1", 60) {
				t.Errorf("%s behind %s: what was laid behind an answer is seen elsewhere", p.name, show(ahead))
			}
			_ = append(b, strings.Repeat("3", 60)...)
			if string(one) != ahead+p.laid+strings.Repeat("1", 60) || string(two) != ahead+p.laid+strings.Repeat("2", 60) {
				t.Errorf("%s behind %s: what was laid behind what was handed in is seen in the answer", p.name, show(ahead))
			}
		}
	}
}

// mustGet holds Get against what is wanted, and that it leaves its bytes as they were.
func mustGet(t *testing.T, b string, n uint64, count int, want api.Errno) {
	t.Helper()
	// What stands in the spare room is none of it.
	in := append([]byte(b), "\x00\x01\x00\x01"...)[:len(b)]
	gotN, gotCount, e := Get(in)
	if gotN != n || gotCount != count || e != want {
		t.Errorf("Get of %s: %d, %d, %d, not %d, %d, %d", show(b), gotN, gotCount, int(e), n, count, int(want))
	}
	if string(in) != b || string(in[:len(b)+4]) != b+"\x00\x01\x00\x01" {
		t.Errorf("Get of %s has changed it", show(b))
	}
}

// behinds gives what may stand behind: nothing, numbers' bytes, texts, digits of every kind, many bytes.
func behinds() []string {
	return []string{"", "\x00", "\x01", "\x7f", "\x80", "\xff", "z", "\x80\x00", "\xff\xff", digitsOf(300), digitsOf(greatest), textOf("abc"), eightOf(1 << 63), highs(12), strings.Repeat("\xff", 12), strings.Repeat("\x00", 12), anyBytes(1000)}
}

// P9.2: Get of bytes that begin with a number's, and how many these are.
func TestGet(t *testing.T) {
	mustGet(t, "\xac\x02", 300, 2, api.OK)
	mustGet(t, "\x00", 0, 1, api.OK)
	mustGet(t, "\x7f", 127, 1, api.OK)
	mustGet(t, "\x80\x01", 128, 2, api.OK)
	mustGet(t, highs(8)+"\x01", 1<<56, 9, api.OK)
	mustGet(t, highs(9)+"\x01", 1<<63, 10, api.OK)
	mustGet(t, strings.Repeat("\xff", 9)+"\x01", greatest, 10, api.OK)
	mustGet(t, strings.Repeat("\xff", 8)+"\x7f", 1<<63-1, 9, api.OK)
	for _, n := range numbers() {
		for _, behind := range behinds() {
			mustGet(t, digitsOf(n)+behind, n, len(digitsOf(n)), api.OK)
		}
	}
}

// P9.2: bytes that end ahead of the last digit, after each number of digits; nil has none.
func TestGetOfEnded(t *testing.T) {
	if n, count, e := Get(nil); n != 0 || count != 0 || e != api.ErrEnd {
		t.Error("Get of nil:", n, count, int(e))
	}
	for digits := range 10 {
		for _, digit := range []string{"\x80", "\x81", "\xaa", "\xff"} {
			mustGet(t, strings.Repeat(digit, digits), 0, 0, api.ErrEnd)
		}
		mustGet(t, highs(digits)+"\x01", 1<<(7*digits), digits+1, api.OK)
	}
	for _, n := range numbers() {
		all := digitsOf(n)
		for end := range len(all) {
			mustGet(t, all[:end], 0, 0, api.ErrEnd)
		}
	}
}

// P9.2: bytes that are not as few as can be, at each length; a single 0 is, whatever stands behind.
func TestGetOfTooMany(t *testing.T) {
	for digits := 1; digits < 10; digits++ {
		for _, digit := range []string{"\x80", "\x81", "\xaa", "\xff"} {
			for _, behind := range behinds() {
				mustGet(t, strings.Repeat(digit, digits)+"\x00"+behind, 0, 0, api.ErrForm)
			}
		}
	}
	for _, behind := range behinds() {
		mustGet(t, "\x80\x00"+behind, 0, 0, api.ErrForm)
		mustGet(t, "\x85\x80\x00"+behind, 0, 0, api.ErrForm)
		mustGet(t, "\x80\x85\x00"+behind, 0, 0, api.ErrForm)
		mustGet(t, "\x00"+behind, 0, 1, api.OK)
		mustGet(t, "\x80\x80\x01"+behind, 1<<14, 3, api.OK)
	}
}

// P9.2: a tenth byte above 1 is ErrForm, whatever comes, and even if nothing does.
func TestGetOfTooGreat(t *testing.T) {
	for _, nine := range []string{highs(9), strings.Repeat("\xff", 9), "\x81\x82\x83\x84\x85\x86\x87\x88\x89", highs(8) + "\xff", "\xff" + highs(8)} {
		mustGet(t, nine, 0, 0, api.ErrEnd)
		for tenth := range 256 {
			for _, behind := range behinds() {
				b := nine + string([]byte{byte(tenth)}) + behind
				if tenth == 1 {
					n, _ := binary.Uvarint([]byte(b))
					mustGet(t, b, n, 10, api.OK)
				} else {
					mustGet(t, b, 0, 0, api.ErrForm)
				}
			}
		}
	}
	for digits := 10; digits < 30; digits++ {
		mustGet(t, highs(digits), 0, 0, api.ErrForm)
		mustGet(t, highs(digits)+"\x00", 0, 0, api.ErrForm)
		mustGet(t, highs(digits)+"\x01", 0, 0, api.ErrForm)
	}
	// A tenth byte that is none of the number's is not asked.
	mustGet(t, highs(8)+"\x01\x02", 1<<56, 9, api.OK)
	mustGet(t, "\x05"+strings.Repeat("\xff", 20), 5, 1, api.OK)
}

// wantGet works out Get with a number of any size.
func wantGet(b string) (uint64, int, api.Errno) {
	last := slices.IndexFunc([]byte(b), func(c byte) bool { return c < 128 })
	if last < 0 && len(b) < 10 {
		return 0, 0, api.ErrEnd
	}
	if last < 0 {
		return 0, 0, api.ErrForm
	}
	sum, base := new(big.Int), big.NewInt(128)
	for at := last; at >= 0; at-- {
		sum.Mul(sum, base).Add(sum, big.NewInt(int64(b[at]%128)))
	}
	if !sum.IsUint64() || digitsOf(sum.Uint64()) != b[:last+1] {
		return 0, 0, api.ErrForm
	}
	return sum.Uint64(), last + 1, api.OK
}

// P9.2: all bytes of up to two, and many longer ones.
func TestGetOfAny(t *testing.T) {
	check := func(b []byte) {
		n, count, e := wantGet(string(b))
		mustGet(t, string(b), n, count, e)
	}
	for one := range 256 {
		check([]byte{byte(one)})
		for two := range 256 {
			check([]byte{byte(one), byte(two)})
		}
	}
	edges, roll := []byte{0, 1, 2, 127, 128, 128, 129, 200, 254, 255, 255}, dice(2)
	for range 200000 {
		b := make([]byte, roll()%14)
		ended := int(roll() % 14)
		for at := range b {
			b[at] = edges[roll()%uint64(len(edges))]
			if at < ended {
				b[at] |= 128
			}
		}
		check(b)
	}
}

// mustGetText holds GetText against what is wanted, and that it leaves its bytes as they were.
func mustGetText(t *testing.T, b string, most int, text string, count int, want api.Errno) {
	t.Helper()
	// The spare room has what would end a text that ends too early.
	in := append([]byte(b), "\x00aaaaaaaa"...)[:len(b)]
	got, gotCount, e := GetText(in, most)
	if got != text || gotCount != count || e != want {
		t.Errorf("GetText of %s, at most %d: %s, %d, %d, not %s, %d, %d", show(b), most, show(got), gotCount, int(e), show(text), count, int(want))
	}
	if string(in) != b || string(in[:len(b)+9]) != b+"\x00aaaaaaaa" {
		t.Errorf("GetText of %s has changed it", show(b))
	}
}

// P9.3: GetText of whole texts, with room for more, for just as many, for one less, and for none.
func TestGetText(t *testing.T) {
	mustGetText(t, "\x03abcd", 3, "abc", 4, api.OK)
	mustGetText(t, "\x00", 0, "", 1, api.OK)
	mustGetText(t, "\x00a", 0, "", 1, api.OK)
	for _, s := range texts() {
		b, n := textOf(s), len(s)
		for _, behind := range []string{"", "\x00", "\xff", "abc", digitsOf(greatest), textOf("xyz"), anyBytes(500)} {
			for _, most := range []int{n, n + 1, n + 1000, math.MaxInt32, 1 << 32, math.MaxInt - 1, math.MaxInt} {
				mustGetText(t, b+behind, most, s, len(b), api.OK)
			}
			for _, most := range []int{n - 1, -1, -2, -n - 1, math.MinInt32, -1 << 32, math.MinInt + 1, math.MinInt, n/2 - 1} {
				mustGetText(t, b+behind, most, "", 0, api.ErrLong)
			}
		}
	}
}

// P9.3: with most below 0 even a text of no byte is too long, and Get's error comes first.
func TestGetTextOfLess(t *testing.T) {
	for _, most := range []int{math.MinInt, math.MinInt + 1, -1 << 32, -2, -1} {
		mustGetText(t, "\x00", most, "", 0, api.ErrLong)
		mustGetText(t, "\x01", most, "", 0, api.ErrLong)
		mustGetText(t, "\x01a", most, "", 0, api.ErrLong)
		mustGetText(t, digitsOf(greatest), most, "", 0, api.ErrLong)
		mustGetText(t, digitsOf(1<<63), most, "", 0, api.ErrLong)
		mustGetText(t, "", most, "", 0, api.ErrEnd)
		mustGetText(t, "\x80", most, "", 0, api.ErrEnd)
		mustGetText(t, "\x80\x00", most, "", 0, api.ErrForm)
	}
}

// P9.3: Get's error of the length, whatever most is.
func TestGetTextOfNoNumber(t *testing.T) {
	for _, most := range []int{math.MinInt, -1, 0, 1, 127, 128, 1 << 20, math.MaxInt} {
		mustGetText(t, "", most, "", 0, api.ErrEnd)
		for digits := 1; digits < 10; digits++ {
			mustGetText(t, highs(digits), most, "", 0, api.ErrEnd)
			mustGetText(t, highs(digits)+"\x00", most, "", 0, api.ErrForm)
			mustGetText(t, highs(digits)+"\x00abc", most, "", 0, api.ErrForm)
		}
		for _, tenth := range []string{"\x00", "\x02", "\x7f", "\x80", "\x81", "\xff"} {
			mustGetText(t, highs(9)+tenth, most, "", 0, api.ErrForm)
			mustGetText(t, highs(9)+tenth+"abc", most, "", 0, api.ErrForm)
		}
	}
	if s, count, e := GetText(nil, 5); s != "" || count != 0 || e != api.ErrEnd {
		t.Error("GetText of nil:", s, count, int(e))
	}
}

// P9.3: a text that says more than there is, by one and by far; where it is too long, too, that is told.
func TestGetTextOfEnded(t *testing.T) {
	for _, length := range []uint64{1, 2, 3, 127, 128, 129, 16384, 1<<31 - 1, 1 << 31, 1<<32 - 1, 1 << 32, 1<<32 + 1, 1<<63 - 1, 1 << 63, 1<<63 + 1, greatest - 1, greatest} {
		for _, there := range []int{0, 1, 2, 126, 127, 128, 200} {
			if uint64(there) >= length {
				continue
			}
			b := digitsOf(length) + anyBytes(there)
			for _, most := range []int{math.MinInt, -1, 0, 1, there, there + 1, 127, 128, 16384, math.MaxInt32 - 1, math.MaxInt32, 1 << 31, 1<<32 - 1, 1 << 32, math.MaxInt - 1, math.MaxInt} {
				want := api.ErrEnd
				if big.NewInt(int64(most)).Cmp(new(big.Int).SetUint64(length)) < 0 {
					want = api.ErrLong
				}
				mustGetText(t, b, most, "", 0, want)
			}
		}
	}
	for _, s := range texts() {
		if s != "" {
			b := textOf(s)
			mustGetText(t, b[:len(b)-1], len(s), "", 0, api.ErrEnd)
			mustGetText(t, b[:len(b)-1], len(s)-1, "", 0, api.ErrLong)
			mustGetText(t, b[:len(b)-len(s)], math.MaxInt, "", 0, api.ErrEnd)
		}
	}
}

// P9.3: what is written into the bytes later is not seen in the text that was got.
func TestGetTextIsNew(t *testing.T) {
	for _, s := range texts() {
		b := append([]byte(textOf(s)), "behind"...)
		got, _, _ := GetText(b, len(s))
		fill(room(b), 0x55)
		if got != s {
			t.Errorf("what was written into the bytes is seen in the text of %s", show(s))
		}
	}
}

// P9.3: GetEight of 0 to 7 bytes, of eight, and of more.
func TestGetEight(t *testing.T) {
	if n, e := GetEight(nil); n != 0 || e != api.ErrEnd {
		t.Error("GetEight of nil:", n, int(e))
	}
	for _, all := range []string{"\x01\x02\x03\x04\x05\x06\x07\x08", "\x80\x00\x00\x00\x00\x00\x00\x01", "\x7f\xff\xff\xff\xff\xff\xff\xff", "\x00\x00\x00\x00\x00\x00\x00\x00", strings.Repeat("\xff", 8)} {
		for n := range 8 {
			// The spare room has the bytes that are lacking.
			b := []byte(all)[:n]
			if got, e := GetEight(b); got != 0 || e != api.ErrEnd || string(b[:8]) != all {
				t.Errorf("GetEight of %s: %d, %d", show(b), got, int(e))
			}
		}
		for _, behind := range behinds() {
			b := []byte(all + behind)
			if got, e := GetEight(b); got != binary.BigEndian.Uint64(b) || e != api.OK || string(b) != all+behind {
				t.Errorf("GetEight of %s: %d, %d", show(b), got, int(e))
			}
		}
	}
	for n, b := range map[uint64]string{0x0102030405060708: "\x01\x02\x03\x04\x05\x06\x07\x08\x09", 1 << 63: "\x80\x00\x00\x00\x00\x00\x00\x00", 1: "\x00\x00\x00\x00\x00\x00\x00\x01\xff", greatest: strings.Repeat("\xff", 9)} {
		if got, e := GetEight([]byte(b)); got != n || e != api.OK {
			t.Errorf("GetEight of %x: %d, %d, not %d", b, got, int(e), n)
		}
	}
}

// P9.4: whatever number was put is got as it was, whatever stands ahead and behind.
func TestNumbersComeBack(t *testing.T) {
	for _, n := range numbers() {
		for _, behind := range behinds() {
			b := append(Put([]byte("ahead"), n), behind...)
			got, count, e := Get(b[5:])
			if got != n || string(b[5+count:]) != behind || e != api.OK {
				t.Errorf("%d, with %s behind, came back as %d, %d, %d", n, show(behind), got, count, int(e))
			}
			b = append(Eight([]byte("ahead"), n), behind...)
			if got, e := GetEight(b[5:]); got != n || e != api.OK {
				t.Errorf("%d in eight bytes, with %s behind, came back as %d, %d", n, show(behind), got, int(e))
			}
		}
	}
}

// P9.4: whatever text was put is got as it was, whatever stands ahead and behind.
func TestTextsComeBack(t *testing.T) {
	for _, s := range texts() {
		for _, behind := range behinds() {
			b := append(PutText([]byte("ahead"), s), behind...)
			got, count, e := GetText(b[5:], len(s))
			if got != s || string(b[5+count:]) != behind || e != api.OK {
				t.Errorf("%s, with %s behind, came back as %s, %d, %d", show(s), show(behind), show(got), count, int(e))
			}
		}
	}
}

// P9.4: what was put one behind the other is got one behind the other.
func TestRowsComeBack(t *testing.T) {
	roll := dice(4)
	for range 2000 {
		var b []byte
		kinds, values := make([]int, roll()%12), make([]uint64, 12)
		for at := range kinds {
			kinds[at], values[at] = int(roll()%3), roll()>>(roll()%64)
			switch kinds[at] {
			case 0:
				b = Put(b, values[at])
			case 1:
				b = PutText(b, anyBytes(int(values[at]%300)))
			default:
				b = Eight(b, values[at])
			}
		}
		if rest, ok := rowBack(b, kinds, values); !ok || len(rest) > 0 {
			t.Fatalf("what was put came back otherwise: kinds %v, values %v, left %s", kinds, values, show(rest))
		}
	}
}

// rowBack takes a row's parts from b, tells whether they are as they were put, and what is left.
func rowBack(b []byte, kinds []int, values []uint64) ([]byte, bool) {
	for at, kind := range kinds {
		count, ok := 8, false
		switch kind {
		case 0:
			n, c, e := Get(b)
			count, ok = c, n == values[at] && e == api.OK
		case 1:
			s, c, e := GetText(b, 299)
			count, ok = c, s == anyBytes(int(values[at]%300)) && e == api.OK
		default:
			n, e := GetEight(b)
			ok = n == values[at] && e == api.OK
		}
		if !ok {
			return b, false
		}
		b = b[count:]
	}
	return b, true
}
