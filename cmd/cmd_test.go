package cmd

import (
	"fmt"
	"math"
	"regexp"
	"strings"
	"testing"
	"unsafe"

	"cortege/api"
	"cortege/exact"
)

const (
	oneNaN    uint64 = 0x7ff8000000000001
	minusZero uint64 = 1 << 63
)

func of(bits uint64) float64 { return math.Float64frombits(bits) }

type kind struct {
	n           int
	may, writes bool
	// number tells whether commands of the kind have one; those of others have +0.
	number bool
}

// kinds are all that there are, those just beyond, and some far out of range.
func kinds() []kind {
	l := []kind{
		{n: api.Get, may: true},
		{n: api.Put, may: true, writes: true, number: true},
		{n: api.Delete, may: true, writes: true},
		{n: api.Add, may: true, writes: true, number: true},
	}
	for _, n := range []int{0, 5, 6, -1, -2, -4, 1<<8 + 1, 1<<16 + 2, 1<<32 + 3, math.MinInt, math.MinInt + 1, math.MinInt + 4, math.MaxInt} {
		l = append(l, kind{n: n})
	}
	return l
}

type key struct {
	text string
	may  bool
}

func keys() []key {
	return []key{
		{"a", true}, {"z", true}, {"0", true}, {"9", true}, {"b", true}, {"7", true},
		{"ab", true}, {"ba", true}, {"a0", true}, {"0a", true}, {"00", true}, {"get", true}, {"nan", true}, {"1p0", true},
		{"elevenchars", true}, {"twelve12char", true}, {"000000000000", true}, {"zzzzzzzzzzzz", true},
		{"", false}, {"thirteen13cha", false}, {"0000000000000", false}, {strings.Repeat("a", 256), false}, {strings.Repeat("a", 257), false}, {strings.Repeat("a", 1<<16+1), false},
		// A capital letter, a blank, and what else is next to letters and digits.
		{"A", false}, {"Z", false}, {"aB", false}, {"Ab", false}, {"twelve12chaR", false},
		{" ", false}, {"a ", false}, {" a", false}, {"a b", false}, {"a\t", false}, {"\na", false}, {"a\x00", false}, {"\x00", false},
		{"`", false}, {"{", false}, {"/", false}, {":", false}, {"@", false}, {"[", false}, {"_", false}, {"-", false}, {"a-b", false}, {"1.2", false},
		// Bytes above 127, as letters and digits of other kinds, and as nothing.
		{"\x80", false}, {"\xff", false}, {"a\xe1", false}, {"\xb0a", false}, {"é", false}, {"aé", false}, {"ª", false}, {"٣", false}, {"１", false}, {"ａ", false},
	}
}

type value struct {
	bits uint64
	text string
}

// values are numbers of all kinds, with their texts that were worked out by hand.
func values() []value {
	return []value{
		{0, "0"}, {minusZero, "-0"},
		{oneNaN, "nan"}, {0x7ff8000000000000, "nan"}, {0x7ff0000000000001, "nan"}, {0x7fffffffffffffff, "nan"}, {0xfff8000000000001, "nan"}, {0xffffffffffffffff, "nan"},
		{0x7ff0000000000000, "inf"}, {0xfff0000000000000, "-inf"},
		{0x7fefffffffffffff, "9007199254740991p971"}, {0xffefffffffffffff, "-9007199254740991p971"},
		{1, "1p-1074"}, {minusZero | 1, "-1p-1074"}, {0x0010000000000000, "1p-1022"},
		{0x3ff0000000000000, "1p0"}, {0xbff0000000000000, "-1p0"}, {0x4000000000000000, "1p1"}, {0x3ff8000000000000, "3p-1"}, {0xc020000000000000, "-1p3"},
	}
}

// known is a command with what is to be told of it.
type known struct {
	c           api.Cmd
	may, writes bool
	text        string
}

// all gives a command of each kind, key and value, whether it may be or not.
func all() []known {
	words := map[int]string{api.Get: "get ", api.Put: "put ", api.Delete: "del ", api.Add: "add "}
	var l []known
	for _, k := range kinds() {
		for _, y := range keys() {
			for _, v := range values() {
				one := known{c: api.Cmd{Kind: k.n, Key: y.text, Value: of(v.bits)}}
				if k.may && y.may && (k.number || v.bits == 0) {
					one.may, one.writes, one.text = true, k.writes, words[k.n]+y.text
				}
				if one.may && k.number {
					one.text += " " + v.text
				}
				l = append(l, one)
			}
		}
	}
	return l
}

// show tells a command by its value's bits, too, since zeros and NaNs look alike.
func show(c api.Cmd) string {
	return fmt.Sprintf("{%d %.40q %x}", c.Kind, c.Key, math.Float64bits(c.Value))
}

// equal tells whether two commands are the same to the bit.
func equal(a, b api.Cmd) bool {
	return a.Kind == b.Kind && a.Key == b.Key && math.Float64bits(a.Value) == math.Float64bits(b.Value)
}

// P6.1: which command may be.
func TestCheck(t *testing.T) {
	for _, one := range all() {
		want := api.ErrCmd
		if one.may {
			want = api.OK
		}
		if got := Check(one.c); got != want {
			t.Errorf("Check of %s: %d, not %d", show(one.c), int(got), int(want))
		}
	}
	if got := Check(api.Cmd{}); got != api.ErrCmd {
		t.Error("Check of no command:", int(got))
	}
}

// P6.1: which bytes a key may have, wherever they stand.
func TestCheckOfAllBytes(t *testing.T) {
	for b := range 256 {
		letter := string([]byte{byte(b)})
		want := api.ErrCmd
		if strings.Contains("abcdefghijklmnopqrstuvwxyz0123456789", letter) {
			want = api.OK
		}
		for n := range api.MaxKey {
			for at := range n + 1 {
				text := strings.Repeat("k", at) + letter + strings.Repeat("7", n-at)
				for _, k := range []int{api.Get, api.Put, api.Delete, api.Add} {
					if got := Check(api.Cmd{Kind: k, Key: text}); got != want {
						t.Fatalf("Check of the kind %d and the key %q: %d, not %d", k, text, int(got), int(want))
					}
				}
			}
		}
	}
}

// P6.1: how long a key may be, counted in bytes.
func TestCheckOfLengths(t *testing.T) {
	for n := range 600 {
		want := api.ErrCmd
		if n >= 1 && n <= 12 {
			want = api.OK
		}
		if got := Check(api.Cmd{Kind: api.Get, Key: strings.Repeat("q", n)}); got != want {
			t.Errorf("Check of a key of %d letters: %d, not %d", n, int(got), int(want))
		}
	}
}

// P6.1: which commands write.
func TestWrites(t *testing.T) {
	for _, one := range all() {
		if got := Writes(one.c); got != one.writes {
			t.Errorf("Writes of %s: %v", show(one.c), got)
		}
	}
}

// some gives commands of all kinds, of few keys and values, so that pairs of them are not too many.
func some() []known {
	var l []known
	for _, one := range all() {
		switch one.c.Key {
		case "a", "b", "ab", "twelve12char", "", "A", "thirteen13cha":
		default:
			continue
		}
		switch math.Float64bits(one.c.Value) {
		case 0, minusZero, oneNaN, 0xffffffffffffffff, 0x3ff0000000000000:
			l = append(l, one)
		}
	}
	return l
}

// P6.1, P6.3: of one key, and one of them writes, whichever comes first.
func TestConflict(t *testing.T) {
	l, conflicts := some(), 0
	for _, a := range l {
		for _, b := range l {
			want := a.may && b.may && a.c.Key == b.c.Key && (a.writes || b.writes)
			if want {
				conflicts++
			}
			if got, back := Conflict(a.c, b.c), Conflict(b.c, a.c); got != want || back != want {
				t.Fatalf("Conflict of %s and %s: %v, and the other way round %v, not %v", show(a.c), show(b.c), got, back, want)
			}
		}
	}
	if conflicts == 0 {
		t.Error("no pair conflicts")
	}
}

// P6.1: pairs that the chapter's words name, by hand.
func TestConflictOfPairs(t *testing.T) {
	get, put := api.Cmd{Kind: api.Get, Key: "a"}, api.Cmd{Kind: api.Put, Key: "a", Value: 1.5}
	del, add := api.Cmd{Kind: api.Delete, Key: "a"}, api.Cmd{Kind: api.Add, Key: "a", Value: math.NaN()}
	for _, p := range []struct {
		a, b api.Cmd
		want bool
	}{
		{get, get, false}, {get, put, true}, {get, del, true}, {get, add, true},
		{put, put, true}, {put, del, true}, {put, add, true}, {del, del, true}, {del, add, true}, {add, add, true},
		// Two keys, one of which begins the other.
		{put, api.Cmd{Kind: api.Put, Key: "b", Value: 1.5}, false}, {put, api.Cmd{Kind: api.Put, Key: "aa", Value: 1.5}, false}, {get, api.Cmd{Kind: api.Delete, Key: "0"}, false},
		// Commands that may not be conflict with none, nor with themselves.
		{put, api.Cmd{}, false}, {put, api.Cmd{Kind: 0, Key: "a"}, false}, {put, api.Cmd{Kind: 5, Key: "a"}, false}, {put, api.Cmd{Kind: api.Get, Key: "a", Value: 1}, false},
		{put, api.Cmd{Kind: api.Delete, Key: "a", Value: of(minusZero)}, false}, {put, api.Cmd{Kind: api.Put, Key: "A"}, false},
		{api.Cmd{Kind: api.Put}, api.Cmd{Kind: api.Put}, false}, {api.Cmd{Kind: api.Put, Key: "A"}, api.Cmd{Kind: api.Put, Key: "A"}, false}, {api.Cmd{}, api.Cmd{}, false},
	} {
		if got, back := Conflict(p.a, p.b), Conflict(p.b, p.a); got != p.want || back != p.want {
			t.Errorf("Conflict of %s and %s: %v, and the other way round %v, not %v", show(p.a), show(p.b), got, back, p.want)
		}
	}
}

// P6.1: the same kind, key and number, all NaNs being one, whether such commands may be or not.
func TestSame(t *testing.T) {
	l := some()
	for _, a := range l {
		for _, b := range l {
			want := equal(a.c, b.c) || a.c.Kind == b.c.Kind && a.c.Key == b.c.Key && math.IsNaN(a.c.Value) && math.IsNaN(b.c.Value)
			if got := Same(a.c, b.c); got != want {
				t.Fatalf("Same of %s and %s: %v", show(a.c), show(b.c), got)
			}
		}
	}
}

// P6.1: what two commands may differ in, alone.
func TestSameButForOneThing(t *testing.T) {
	c := api.Cmd{Kind: api.Put, Key: "k", Value: 1}
	with := func(k int, y string, bits uint64) api.Cmd { return api.Cmd{Kind: k, Key: y, Value: of(bits)} }
	for _, p := range []struct {
		a, b api.Cmd
		want bool
	}{
		{c, c, true}, {api.Cmd{}, api.Cmd{}, true},
		{c, with(api.Add, "k", 0x3ff0000000000000), false}, {c, with(-2, "k", 0x3ff0000000000000), false}, {c, with(1<<32+2, "k", 0x3ff0000000000000), false},
		{c, with(api.Put, "l", 0x3ff0000000000000), false}, {c, with(api.Put, "K", 0x3ff0000000000000), false}, {c, with(api.Put, "kk", 0x3ff0000000000000), false}, {c, with(api.Put, "", 0x3ff0000000000000), false},
		{c, with(api.Put, "k", 0x3ff0000000000001), false}, {c, with(api.Put, "k", 0xbff0000000000000), false}, {c, with(api.Put, "k", oneNaN), false},
		{with(api.Put, "k", 0), with(api.Put, "k", minusZero), false}, {with(api.Get, "k", 0), with(api.Get, "k", minusZero), false}, {with(api.Get, "k", minusZero), with(api.Get, "k", minusZero), true},
		{with(api.Put, "k", oneNaN), with(api.Put, "k", 0x7ff8000000000000), true}, {with(api.Add, "k", 0xffffffffffffffff), with(api.Add, "k", 0x7ff0000000000001), true}, {with(9, "", 0xffffffffffffffff), with(9, "", oneNaN), true},
		{with(api.Put, "k", oneNaN), with(api.Add, "k", oneNaN), false}, {with(api.Put, "k", oneNaN), with(api.Put, "l", oneNaN), false}, {with(api.Put, "k", oneNaN), with(api.Put, "k", 0x7ff0000000000000), false},
	} {
		if got, back := Same(p.a, p.b), Same(p.b, p.a); got != p.want || back != p.want {
			t.Errorf("Same of %s and %s: %v, and the other way round %v, not %v", show(p.a), show(p.b), got, back, p.want)
		}
	}
}

// P6.2: the text of each command that may be, and none of others.
func TestText(t *testing.T) {
	for _, one := range all() {
		if got := Text(one.c); got != one.text {
			t.Errorf("Text of %s: %q, not %q", show(one.c), got, one.text)
		}
	}
	if got := Text(api.Cmd{}); got != "" {
		t.Errorf("Text of no command: %q", got)
	}
}

// mustRead asks for just that command, to the bit.
func mustRead(t *testing.T, s string, want api.Cmd) {
	t.Helper()
	if c, e := Read(s); e != api.OK || !equal(c, want) {
		t.Errorf("Read of %.60q: %s, error %d, not %s", s, show(c), int(e), show(want))
	}
}

// mustRefuse asks for the error, beside no command.
func mustRefuse(t *testing.T, s string) {
	t.Helper()
	if c, e := Read(s); e != api.ErrForm || !equal(c, api.Cmd{}) {
		t.Errorf("Read of %.60q (%d bytes): %s, error %d", s, len(s), show(c), int(e))
	}
}

// P6.2: the commands of texts.
func TestRead(t *testing.T) {
	for s, want := range map[string]api.Cmd{
		"get a":                                  {Kind: api.Get, Key: "a"},
		"get 0":                                  {Kind: api.Get, Key: "0"},
		"get get":                                {Kind: api.Get, Key: "get"},
		"get twelve12char":                       {Kind: api.Get, Key: "twelve12char"},
		"del a":                                  {Kind: api.Delete, Key: "a"},
		"del 1p0":                                {Kind: api.Delete, Key: "1p0"},
		"put a 3p-1":                             {Kind: api.Put, Key: "a", Value: 1.5},
		"put nan nan":                            {Kind: api.Put, Key: "nan", Value: of(oneNaN)},
		"put a 0":                                {Kind: api.Put, Key: "a"},
		"put 0 -0":                               {Kind: api.Put, Key: "0", Value: of(minusZero)},
		"put a inf":                              {Kind: api.Put, Key: "a", Value: math.Inf(1)},
		"add a -inf":                             {Kind: api.Add, Key: "a", Value: math.Inf(-1)},
		"add b -1p3":                             {Kind: api.Add, Key: "b", Value: -8},
		"add a -0":                               {Kind: api.Add, Key: "a", Value: of(minusZero)},
		"add a nan":                              {Kind: api.Add, Key: "a", Value: of(oneNaN)},
		"add zzzzzzzzzzzz -9007199254740991p971": {Kind: api.Add, Key: "zzzzzzzzzzzz", Value: -math.MaxFloat64},
		"put 000000000000 9007199254740991p971":  {Kind: api.Put, Key: "000000000000", Value: math.MaxFloat64},
	} {
		mustRead(t, s, want)
	}
}

// P6.2: texts that are almost a command's.
func TestReadOfNoText(t *testing.T) {
	for _, s := range []string{
		// Nothing, or a part alone.
		"", " ", "  ", "   ", "g", "get", "put", "del", "add", "get ", "put ", "del ", "add ", "a", " a", " a 1p0", "1p0", " 1p0", "  1p0", "nan", "0",
		// Blanks too many, or too few, and what is no blank.
		"get  a", "get a ", " get a", "get a  ", "put  a 1p0", "put a  1p0", "put a 1p0 ", " put a 1p0", "geta", "puta 1p0", "put a1p0", "puta1p0",
		"get\ta", "get\na", "get a\n", "get a\x00", "put\ta 1p0", "put a\t1p0", "get\u00a0a", "put a 1p0\r\n",
		// Other words.
		"set a", "set a 1p0", "Get a", "GET a", "geT a", "ge a", "gett a", "pu a 1p0", "putt a 1p0", "de a", "dele a", "delete a", "ad a 1p0", "addd a 1p0", "get, a", "1 a", "2 a 1p0",
		// No key, or none that may be.
		"get  ", "put  1p0", "add  0", "del  0", "get A", "del A", "put aB 1p0", "get a_b", "get a-b", "get \x80", "get é", "put é 1p0", "get thirteen13cha", "put thirteen13cha 1p0", "add zzzzzzzzzzzzz 0",
		// No number, or none that may be.
		"put a", "add a", "put a ", "add a ", "put nan", "add 0", "put a 1", "add a 1", "put a 2p0", "add a 1.5", "put a +0", "put a 00", "put a -00", "put a 01p0", "put a 1p1024", "add a 1p-1075", "put a NaN", "add a Inf", "put a -nan", "put a x", "put a \xff", "put a 9007199254740993p0",
		// More behind than there may be.
		"get a 0", "del a 0", "get a -0", "del a -0", "get a 1p0", "del a 1p0", "get a nan", "del a nan", "get a b", "del a b", "put a 1p0 1p0", "add a 0 0", "put a b 1p0", "get a get a", "put a 0 x",
	} {
		mustRefuse(t, s)
	}
}

// P6.2: texts that go on and on.
func TestReadOfLongTexts(t *testing.T) {
	for _, n := range []int{13, 40, 256, 1 << 20} {
		for _, part := range []string{"a", "0", " ", "1p0", "get ", "get a ", "put a 1p0", "\xff", "\x00"} {
			long := strings.Repeat(part, n)
			for _, s := range []string{long, "get " + long, "del " + long, "put " + long, "put " + long + " 0", "add a " + long, "add a 0" + long, "get a" + long, long + "get a", long + " get a", "put a" + long + "0 0"} {
				mustRefuse(t, s)
			}
		}
	}
}

// form is that of all commands' texts, but for what the numbers' must be.
var form = regexp.MustCompile(`(?s)\A(get|del|put|add) ([a-z0-9]{1,12})( .*)?\z`)

// wantRead tells by the form whether s is a command's text, and of which.
func wantRead(s string) (api.Cmd, bool) {
	parts := form.FindStringSubmatch(s)
	if parts == nil {
		return api.Cmd{}, false
	}
	c := api.Cmd{Kind: map[string]int{"get": api.Get, "put": api.Put, "del": api.Delete, "add": api.Add}[parts[1]], Key: parts[2]}
	if c.Kind == api.Get || c.Kind == api.Delete {
		return c, parts[3] == ""
	}
	number, found := strings.CutPrefix(parts[3], " ")
	f, e := exact.Read(number)
	c.Value = f
	return c, found && e == api.OK
}

// ask holds Read of s against its form, and tells whether it is a command's text.
func ask(t *testing.T, s string) bool {
	t.Helper()
	c, ok := wantRead(s)
	if !ok {
		mustRefuse(t, s)
		return false
	}
	mustRead(t, s, c)
	return true
}

// P6.2: texts in which one byte was changed, taken out or put in.
func TestReadOfChangedTexts(t *testing.T) {
	for _, s := range []string{"get a", "del z9", "put a 3p-1", "add 0 -0", "put nan nan", "add k -inf", "get twelve12char", "put twelve12char -9007199254740991p-1074"} {
		for at := range len(s) + 1 {
			ahead, behind := s[:at], s[at:]
			for b := range 256 {
				letter := string([]byte{byte(b)})
				ask(t, ahead+letter+behind)
				if behind != "" {
					ask(t, ahead+letter+behind[1:])
				}
			}
			if behind != "" {
				ask(t, ahead+behind[1:])
			}
			ask(t, ahead)
			ask(t, behind)
		}
	}
}

// P6.2: all texts of a few parts.
func TestReadOfAllShortTexts(t *testing.T) {
	texts, read := []string{""}, 0
	for range 5 {
		var longer []string
		for _, s := range texts {
			for _, part := range []string{"get", "put", "del", "add", "set", " ", "a", "A", "0", "-0", "1p0", "nan"} {
				longer = append(longer, s+part)
			}
		}
		for _, s := range longer {
			if ask(t, s) {
				read++
			}
		}
		texts = longer
	}
	if read < 100 {
		t.Errorf("only %d of the texts are a command's", read)
	}
}

// P6.3: Read of Text is the same command, with the one NaN.
func TestReadOfText(t *testing.T) {
	for _, one := range all() {
		if !one.may {
			mustRefuse(t, Text(one.c))
			continue
		}
		want := one.c
		if math.IsNaN(want.Value) {
			want.Value = of(oneNaN)
		}
		mustRead(t, Text(one.c), want)
		if c, _ := Read(Text(one.c)); !Same(c, one.c) || Check(c) != api.OK {
			t.Errorf("Read of Text of %s is another one: %s", show(one.c), show(c))
		}
	}
}

// P6.3: Text of what is read is the text.
func TestTextOfWhatIsRead(t *testing.T) {
	read := 0
	for _, word := range []string{"get", "put", "del", "add", "", "set", "GET"} {
		for _, y := range keys() {
			for _, number := range []string{"", " ", " 0", " -0", " nan", " inf", " -inf", " 1p0", " -3p-1", " 9007199254740991p971", " 1p-1074", " 2p0", " 1", " nan "} {
				s := word + " " + y.text + number
				c, e := Read(s)
				if e != api.OK {
					continue
				}
				read++
				if got := Text(c); got != s {
					t.Errorf("Text of what %q is: %q", s, got)
				}
			}
		}
	}
	may := 0
	for _, y := range keys() {
		if y.may {
			may++
		}
	}
	// A get and a del of each key, and a put and an add of each of nine numbers.
	if read != may*(2+2*9) {
		t.Errorf("%d texts are a command's", read)
	}
}

// What is handed out is new memory: a key is no piece of the text, and does not keep it.
func TestReadKeyIsNew(t *testing.T) {
	s := "put twelve12char 1p0"
	if c, _ := Read(s); unsafe.StringData(c.Key) == unsafe.StringData(s[len("put "):]) {
		t.Error("the key is a piece of the text")
	}
}
