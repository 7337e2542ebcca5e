package exact

import (
	"math"
	"math/big"
	"regexp"
	"strconv"
	"strings"
	"testing"

	"cortege/api"
)

const oneNaN uint64 = 0x7ff8000000000001

type known struct {
	bits uint64
	text string
}

// knowns are numbers by their bits, with the texts that were worked out by hand.
func knowns() []known {
	return []known{
		{oneNaN, "nan"},
		{0x7ff0000000000000, "inf"},
		{0xfff0000000000000, "-inf"},
		{0, "0"},
		{1 << 63, "-0"},
		// Whole numbers, and what is no whole multiple of 1.
		{0x3ff0000000000000, "1p0"},
		{0xbff0000000000000, "-1p0"},
		{0x4000000000000000, "1p1"},
		{0x4008000000000000, "3p0"},
		{0xc020000000000000, "-1p3"},
		{0x4024000000000000, "5p1"},
		{0x4059000000000000, "25p2"},
		{0xc05ec00000000000, "-123p0"},
		{0x3ff8000000000000, "3p-1"},
		{0xbff8000000000000, "-3p-1"},
		{0x3fe0000000000000, "1p-1"},
		{0xbfd8000000000000, "-3p-3"},
		{0x3fb999999999999a, "3602879701896397p-55"},
		{0xbfb999999999999a, "-3602879701896397p-55"},
		// Both sides of 1, and of the numbers from which on all are whole, or even.
		{0x3ff0000000000001, "4503599627370497p-52"},
		{0x3fefffffffffffff, "9007199254740991p-53"},
		{0x432fffffffffffff, "9007199254740991p-1"},
		{0x4330000000000000, "1p52"},
		{0x4330000000000001, "4503599627370497p0"},
		{0x433fffffffffffff, "9007199254740991p0"},
		{0x4340000000000000, "1p53"},
		{0x4340000000000001, "4503599627370497p1"},
		{0x43e0000000000000, "1p63"},
		{0xc3e0000000000000, "-1p63"},
		{0x43f0000000000000, "1p64"},
		// The smallest numbers.
		{1, "1p-1074"},
		{1<<63 | 1, "-1p-1074"},
		{2, "1p-1073"},
		{3, "3p-1074"},
		{6, "3p-1073"},
		{0x000fffffffffffff, "4503599627370495p-1074"},
		{0x800fffffffffffff, "-4503599627370495p-1074"},
		{0x0010000000000000, "1p-1022"},
		{0x0010000000000001, "4503599627370497p-1074"},
		{0x001fffffffffffff, "9007199254740991p-1074"},
		{0x801fffffffffffff, "-9007199254740991p-1074"},
		{0x0020000000000000, "1p-1021"},
		// The largest ones.
		{0x7fe0000000000000, "1p1023"},
		{0x7fe0000000000001, "4503599627370497p971"},
		{0x7feffffffffffffe, "4503599627370495p972"},
		{0x7fefffffffffffff, "9007199254740991p971"},
		{0xffefffffffffffff, "-9007199254740991p971"},
	}
}

// spread calls f with the bits of many numbers: of all powers of 2, and of mixed ones with few and with many digits.
func spread(f func(bits uint64)) {
	state := uint64(2)
	for power := range uint64(0x7ff) {
		for _, sign := range []uint64{0, 1 << 63} {
			f(sign | power<<52)
			f(sign | power<<52 | 1)
			f(sign | power<<52 | (1<<52 - 1))
			for range 8 {
				state = state*6364136223846793005 + 1442695040888963407
				digits := state >> 12 &^ (1<<(state>>58%52) - 1)
				f(sign | power<<52 | digits)
			}
		}
	}
}

// wantText works a finite number's text out by whole numbers of any size.
func wantText(f float64) string {
	if f == 0 {
		return strconv.FormatFloat(f, 'f', 0, 64)
	}
	m, e, _ := strings.Cut(strconv.FormatFloat(f, 'b', -1, 64), "p")
	factor, _ := new(big.Int).SetString(m, 10)
	power, _ := strconv.Atoi(e)
	zeros := factor.TrailingZeroBits()
	factor.Quo(factor, new(big.Int).Lsh(big.NewInt(1), zeros))
	return factor.String() + "p" + strconv.Itoa(power+int(zeros))
}

// form is that of all numbers' texts but those of the words and the zeros.
var form = regexp.MustCompile(`\A(-?[1-9][0-9]*)p(0|-?[1-9][0-9]*)\z`)

// wantRead tells by whole numbers of any size whether s is a finite number's text, and of which.
func wantRead(s string) (uint64, bool) {
	for _, k := range knowns()[:5] {
		if k.text == s {
			return k.bits, true
		}
	}
	parts := form.FindStringSubmatch(s)
	if parts == nil {
		return 0, false
	}
	m, _ := new(big.Int).SetString(parts[1], 10)
	e, err := strconv.Atoi(parts[2])
	if err != nil || m.Bit(0) == 0 || e < -5000 || e > 5000 {
		return 0, false
	}
	exact := new(big.Float).SetInt(m)
	exact.SetMantExp(exact, e)
	f, accuracy := exact.Float64()
	return math.Float64bits(f), accuracy == big.Exact && !math.IsInf(f, 0)
}

// mustRead asks for just those bits, so that the zeros and the NaNs are told apart.
func mustRead(t *testing.T, s string, bits uint64) {
	t.Helper()
	if f, e := Read(s); e != api.OK || math.Float64bits(f) != bits {
		t.Errorf("Read of %q: %x, error %d, not %x", s, math.Float64bits(f), int(e), bits)
	}
}

// mustRefuse asks for the error, beside +0.
func mustRefuse(t *testing.T, s string) {
	t.Helper()
	if f, e := Read(s); e != api.ErrForm || math.Float64bits(f) != 0 {
		t.Errorf("Read of %.40q (%d bytes): %x, error %d", s, len(s), math.Float64bits(f), int(e))
	}
}

// P2.1: the texts of numbers of all kinds.
func TestText(t *testing.T) {
	for _, k := range knowns() {
		if got := Text(math.Float64frombits(k.bits)); got != k.text {
			t.Errorf("Text of %x: %q, not %q", k.bits, got, k.text)
		}
	}
}

// P2.1: whatever a NaN's bits and sign, it is the one NaN.
func TestTextOfNaNs(t *testing.T) {
	for _, bits := range []uint64{0x7ff8000000000000, oneNaN, 0x7ff0000000000001, 0x7fffffffffffffff, 0xfff8000000000001, 0xfff0000000000001, 0xffffffffffffffff} {
		if got := Text(math.Float64frombits(bits)); got != "nan" {
			t.Errorf("Text of the NaN %x: %q", bits, got)
		}
	}
}

// P2.1: the texts of numbers of all sizes, against whole numbers of any size.
func TestTextOfMany(t *testing.T) {
	spread(func(bits uint64) {
		f := math.Float64frombits(bits)
		if got, want := Text(f), wantText(f); got != want {
			t.Errorf("Text of %x: %q, not %q", bits, got, want)
		}
	})
}

// P2.2: the numbers of texts.
func TestRead(t *testing.T) {
	for _, k := range knowns() {
		mustRead(t, k.text, k.bits)
	}
}

// P2.2: texts that are almost a number's.
func TestReadOfNoText(t *testing.T) {
	for _, s := range []string{
		// Nothing at all, or a part alone.
		"", "-", "+", "p", "-p", "1", "-1", "p0", "p1", "-p1", "1p", "-1p", "1p-", "1p+", "-1p-",
		// Even factors, and factors that are 0.
		"2p0", "-2p0", "4p-1", "10p0", "100p-7", "6p1", "9007199254740992p0", "0p0", "0p1", "-0p0", "-0p1", "0p-1074",
		// Noughts ahead, and zeros with something more.
		"00", "-00", "01p0", "-01p0", "001p0", "1p00", "1p01", "1p-01", "1p-0", "1p-00", "3p-01", "0.", "0.0", "00p0", "0-",
		// A sign, or a p, too many, and signs that are none.
		"+0", "+1p0", "1p+0", "1p+1", "--1p0", "-+1p0", "1p--1", "--0", "1-p0", "1p1-", "1p0p0", "1pp0", "p1p0", "1p0p", "\u22121p0",
		// What stands around it, or in it.
		" 1p0", "1p0 ", "1 p0", "1p 0", "\t1p0", "1p0\n", "1p0\x00", "\x001p0", " 0", "0 ", " nan", "inf ",
		// Other letters, and other forms of numbers.
		"1P0", "1e0", "1q0", "0x1p0", "0x1p-1", "1x0", "1.0p0", "1.5", "3.p-1", "1_1p0", "1p1_0", "1f0", "ap0", "1pa", "1p0f", "\u0661p0", "1p\u0660", "1\xffp0",
		// Words that are almost those of numbers.
		"NaN", "NAN", "Nan", "nan0", "-nan", "+nan", "na", "n", "nanp0", "nannan", "Inf", "INF", "+inf", "+Inf", "-Inf", "--inf", "infinity", "-infinity", "in", "i", "infp0", "∞",
	} {
		mustRefuse(t, s)
	}
}

// P2.2: texts of numbers that no float64 is.
func TestReadOfNoFloat(t *testing.T) {
	for _, s := range []string{
		// Too large, or too small, or below 0 so.
		"1p1024", "-1p1024", "3p1023", "5p1022", "9007199254740991p972", "9007199254740993p971", "1p32767", "1p32768", "1p65536", "1p99999999999999999999",
		"1p-1075", "-1p-1075", "3p-1075", "9007199254740991p-1075", "1p-1076", "3p-1076", "1p-32768", "1p-32769", "1p-65536", "1p-99999999999999999999",
		// The power is one that wraps round to one of a number's.
		"1p4294967296", "1p18446744073709551616", "1p9223372036854775807", "1p-9223372036854775808", "1p9223372036854775808",
		// The odd factor has too many digits.
		"9007199254740993p0", "-9007199254740993p0", "9007199254740993p-3", "18014398509481983p0", "4503599627370497p972", "9007199254740995p-1074",
		"9223372036854775807p0", "-9223372036854775807p0", "9223372036854775809p0", "18446744073709551615p0", "18446744073709551617p0", "-18446744073709551617p0",
		"340282366920938463463374607431768211457p0",
	} {
		mustRefuse(t, s)
	}
}

// P2.2: texts that go on and on.
func TestReadOfLongTexts(t *testing.T) {
	for _, n := range []int{20, 23, 24, 100, 1 << 20} {
		noughts, ones := strings.Repeat("0", n), strings.Repeat("1", n)
		for _, s := range []string{
			noughts, ones, "1p" + noughts, "1p" + ones, "1p-" + ones, noughts + "1p0", "1" + noughts + "1p0", ones + "p0", ones + "p-" + ones,
			strings.Repeat("p", n), strings.Repeat("-", n), strings.Repeat("-", n) + "1p0", strings.Repeat("nan", n), "1p0" + strings.Repeat(" ", n), strings.Repeat("\xff", n),
		} {
			mustRefuse(t, s)
		}
	}
}

// P2.2: all short texts of some letters, against whole numbers of any size.
func TestReadOfAllShortTexts(t *testing.T) {
	texts, read := []string{""}, 0
	for range 6 {
		var longer []string
		for _, s := range texts {
			for _, c := range "-+0125p" {
				longer = append(longer, s+string(c))
			}
		}
		for _, s := range longer {
			bits, ok := wantRead(s)
			if !ok {
				mustRefuse(t, s)
				continue
			}
			mustRead(t, s, bits)
			read++
		}
		texts = longer
	}
	if read < 1000 {
		t.Errorf("only %d of the texts are a number's", read)
	}
}

// P2.2: texts in which one byte was changed, taken out or put in.
func TestReadOfChangedTexts(t *testing.T) {
	ask := func(s string) {
		if bits, ok := wantRead(s); ok {
			mustRead(t, s, bits)
		} else {
			mustRefuse(t, s)
		}
	}
	for _, k := range knowns() {
		for at := range len(k.text) + 1 {
			ahead, behind := k.text[:at], k.text[at:]
			for c := range 256 {
				put := string([]byte{byte(c)})
				ask(ahead + put + behind)
				if behind != "" {
					ask(ahead + put + behind[1:])
				}
			}
			if behind != "" {
				ask(ahead + behind[1:])
			}
		}
	}
}

// P2.3: Read of Text is the number.
func TestReadOfText(t *testing.T) {
	for _, k := range knowns() {
		mustRead(t, Text(math.Float64frombits(k.bits)), k.bits)
	}
	spread(func(bits uint64) { mustRead(t, Text(math.Float64frombits(bits)), bits) })
	for _, bits := range []uint64{0x7ff8000000000000, 0x7ff0000000000001, 0xffffffffffffffff} {
		mustRead(t, Text(math.Float64frombits(bits)), oneNaN)
	}
}

// P2.3: Text of what is read is the text.
func TestTextOfWhatIsRead(t *testing.T) {
	for _, factor := range []string{"1", "3", "5", "-7", "99", "-4503599627370495", "4503599627370497", "9007199254740991", "-9007199254740991", "9007199254740993", "2", "07", "0"} {
		read := 0
		for power := -1080; power <= 1030; power++ {
			s := factor + "p" + strconv.Itoa(power)
			f, e := Read(s)
			if e != api.OK {
				continue
			}
			read++
			if got := Text(f); got != s {
				t.Errorf("Text of what %q is: %q", s, got)
			}
		}
		if m, _ := strconv.ParseInt(factor, 10, 64); (read > 0) != (m%2 != 0 && factor[0] != '0' && m < 1<<53) {
			t.Errorf("%d texts with the factor %s are a number's", read, factor)
		}
	}
	for _, s := range []string{"nan", "inf", "-inf", "0", "-0"} {
		if f, e := Read(s); e != api.OK || Text(f) != s {
			t.Errorf("Text of what %q is: %q, error %d", s, Text(f), int(e))
		}
	}
}
