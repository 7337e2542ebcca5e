package batch

import (
	"fmt"
	"math"
	"slices"
	"strings"
	"testing"
	"unsafe"

	"cortege/api"
)

const (
	oneNaN    uint64 = 0x7ff8000000000001
	minusZero uint64 = 1 << 63
)

// with is a command whose value has these bits.
func with(kind int, key string, bits uint64) api.Cmd {
	return api.Cmd{Kind: kind, Key: key, Value: math.Float64frombits(bits)}
}

func get(key string) api.Cmd           { return api.Cmd{Kind: api.Get, Key: key} }
func put(key string) api.Cmd           { return api.Cmd{Kind: api.Put, Key: key, Value: 1} }
func del(key string) api.Cmd           { return api.Cmd{Kind: api.Delete, Key: key} }
func add(key string) api.Cmd           { return api.Cmd{Kind: api.Add, Key: key, Value: -2} }
func list(l ...api.Cmd) []api.Cmd      { return l }
func times(n int, c api.Cmd) []api.Cmd { return slices.Repeat(list(c), n) }

// gets gives n gets of as many keys.
func gets(n int) []api.Cmd {
	var l []api.Cmd
	for i := range n {
		l = append(l, get("g"+string(rune('a'+i))))
	}
	return l
}

// inPlace gives l with c at one place.
func inPlace(l []api.Cmd, at int, c api.Cmd) []api.Cmd {
	l = slices.Clone(l)
	l[at] = c
	return l
}

// bad gives commands that may not be, each for one reason; most of them look as if they wrote, or touched, the key a.
func bad() []api.Cmd {
	return []api.Cmd{
		{}, {Key: "a"}, {Kind: 5, Key: "a"}, {Kind: -2, Key: "a", Value: 1}, {Kind: 1<<32 + 2, Key: "a"}, {Kind: math.MinInt, Key: "a"}, {Kind: math.MaxInt, Key: "a"},
		{Kind: api.Get, Key: "a", Value: 1}, {Kind: api.Delete, Key: "a", Value: 1}, with(api.Get, "a", minusZero), with(api.Delete, "a", minusZero), with(api.Get, "a", oneNaN),
		get(""), put(""), del("A"), add("A"), put("a b"), put("\xff"), add("é"), del("thirteen13cha"), put(strings.Repeat("a", 1<<16)),
	}
}

// good gives commands that may be, of each kind, and of keys that are almost the same.
func good() []api.Cmd {
	var l []api.Cmd
	for _, key := range []string{"a", "b", "aa", "ab", "0", "twelve12char"} {
		l = append(l, get(key), put(key), del(key), add(key))
	}
	return append(l, with(api.Put, "a", oneNaN), with(api.Add, "a", minusZero), with(api.Put, "a", 0), with(api.Add, "b", 0x7ff0000000000000))
}

// pool gives all commands of which the tests make lists; the first ones may be.
func pool() (l []api.Cmd, mayBe int) {
	l = good()
	return append(l, bad()...), len(l)
}

var goodOnes = good()

// wantMay tells by the pool alone whether a command of it may be.
func wantMay(c api.Cmd) bool {
	return slices.ContainsFunc(goodOnes, func(one api.Cmd) bool { return equal(one, c) })
}

func wantWrites(c api.Cmd) bool { return wantMay(c) && c.Kind != api.Get }

// equal tells whether two commands are the same to the bit.
func equal(a, b api.Cmd) bool {
	return a.Kind == b.Kind && a.Key == b.Key && math.Float64bits(a.Value) == math.Float64bits(b.Value)
}

// show tells a list's commands by their values' bits, too, since zeros and NaNs look alike.
func show(l []api.Cmd) string {
	text := fmt.Sprintf("%d commands", len(l))
	for _, c := range l {
		text += fmt.Sprintf(" {%d %.40q %x}", c.Kind, c.Key, math.Float64bits(c.Value))
	}
	return text
}

// dice answers numbers from 0 to n - 1 that look like chance, the same ones each time.
func dice(seed uint64) func(n int) int {
	return func(n int) int {
		seed = seed*6364136223846793005 + 1442695040888963407
		return int(seed>>33) % n
	}
}

// lists gives n lists of the pool's commands, short and long ones; in some, all commands may be.
func lists(seed uint64, n int) [][]api.Cmd {
	from, mayBe := pool()
	roll := dice(seed)
	l := [][]api.Cmd{nil, {}}
	for range n {
		size, most := roll(11), len(from)
		if roll(2) == 0 {
			most = mayBe
		}
		var one []api.Cmd
		for range size {
			one = append(one, from[roll(most)])
		}
		l = append(l, one)
	}
	return l
}

// P7.1: lists as long as a batch may be, and longer ones.
func TestCheckOfLengths(t *testing.T) {
	for n := range 40 {
		want := api.OK
		if n > 8 {
			want = api.ErrLen
		}
		for _, c := range good() {
			if got := Check(times(n, c)); got != want {
				t.Errorf("Check of %d times %s: %d, not %d", n, show(list(c)), int(got), int(want))
			}
		}
	}
	for _, n := range []int{1 << 8, 1<<8 + 1, 1 << 16, 1<<16 + 8} {
		if got := Check(times(n, get("a"))); got != api.ErrLen {
			t.Errorf("Check of %d commands: %d", n, int(got))
		}
	}
	for _, l := range [][]api.Cmd{nil, {}, make([]api.Cmd, 0, 9), times(9, del("z"))[:0], times(9, put("z"))[:8], list(put("z"), api.Cmd{})[:1]} {
		if got := Check(l); got != api.OK {
			t.Errorf("Check of %s: %d", show(l), int(got))
		}
	}
}

// P7.1: one command that may not be, wherever it stands; a list that is too long is that first.
func TestCheckOfBadCommands(t *testing.T) {
	for _, c := range bad() {
		for n := 1; n <= 20; n++ {
			want := api.ErrCmd
			if n > 8 {
				want = api.ErrLen
			}
			for at := range n {
				if l := inPlace(gets(n), at, c); Check(l) != want {
					t.Errorf("Check of %s: %d, not %d", show(l), int(Check(l)), int(want))
				}
			}
			if got := Check(times(n, c)); got != want {
				t.Errorf("Check of %d times %s: %d, not %d", n, show(list(c)), int(got), int(want))
			}
		}
	}
}

// P7.1: lists of all kinds of commands.
func TestCheck(t *testing.T) {
	told := map[api.Errno]int{}
	for _, l := range lists(1, 4000) {
		want := api.OK
		if slices.ContainsFunc(l, func(c api.Cmd) bool { return !wantMay(c) }) {
			want = api.ErrCmd
		}
		if len(l) > 8 {
			want = api.ErrLen
		}
		if got := Check(l); got != want {
			t.Errorf("Check of %s: %d, not %d", show(l), int(got), int(want))
		}
		told[want]++
	}
	if told[api.OK] < 200 || told[api.ErrCmd] < 200 || told[api.ErrLen] < 200 {
		t.Error("the lists are too much alike:", told)
	}
}

// mustConflict holds Conflict of a and b against what is wanted, whichever comes first.
func mustConflict(t *testing.T, a, b []api.Cmd, want bool) {
	t.Helper()
	if got, back := Conflict(a, b), Conflict(b, a); got != want || back != want {
		t.Errorf("Conflict of %.400s and %.400s: %v, and the other way round %v, not %v", show(a), show(b), got, back, want)
	}
}

// P7.1: lists that conflict, and lists that do not.
func TestConflictOfSome(t *testing.T) {
	for _, p := range []struct {
		a, b []api.Cmd
		want bool
	}{
		{nil, nil, false}, {nil, []api.Cmd{}, false}, {nil, list(put("a")), false}, {[]api.Cmd{}, list(put("a"), del("a")), false},
		{list(get("a")), list(get("a")), false}, {list(get("a")), list(put("a")), true}, {list(get("a")), list(del("a")), true}, {list(get("a")), list(add("a")), true},
		{list(put("a")), list(put("a")), true}, {list(put("a")), list(del("a")), true}, {list(add("a")), list(add("a")), true}, {list(del("a")), list(del("a")), true},
		{list(put("a")), list(put("b")), false}, {list(put("a")), list(put("ab")), false}, {list(put("a")), list(get("aa")), false},
		// By the first ones, the last ones, and crosswise.
		{list(put("a"), get("b"), get("c")), list(get("a"), put("d"), put("e")), true},
		{list(get("a"), get("b"), put("c")), list(put("d"), put("e"), get("c")), true},
		{list(put("a"), get("b"), get("c")), list(put("d"), put("e"), get("a")), true},
		{list(get("a"), get("b"), get("c")), list(put("d"), put("c"), get("a")), true},
		// Each writes, but no key that the other one has.
		{list(put("a"), get("b"), get("c")), list(put("d"), get("b"), get("c")), false},
		{list(put("a"), add("b"), del("c")), list(put("d"), add("e"), del("f")), false},
		// What stands together in one list does not conflict with the other one by that.
		{list(put("a"), get("a")), list(put("b"), get("b")), false}, {list(put("a"), get("a")), list(get("b")), false}, {list(put("a"), put("a")), nil, false},
		{gets(8), gets(8), false}, {gets(20), gets(20), false}, {gets(20), append(gets(20), put("gt")), true}, {gets(20), append(gets(20), put("gu")), false},
	} {
		mustConflict(t, p.a, p.b, p.want)
	}
}

// P7.1: lists that conflict by one pair alone, wherever its two stand, in batches and in longer lists.
func TestConflictByOnePair(t *testing.T) {
	for _, n := range []int{1, 2, 3, 8, 9, 17} {
		for _, m := range []int{1, 2, 8, 9, 20} {
			for i := range n {
				for j := range m {
					a, b := gets(n), gets(m)
					mustConflict(t, inPlace(a, i, put("x")), inPlace(b, j, get("x")), true)
					mustConflict(t, inPlace(a, i, get("x")), inPlace(b, j, del("x")), true)
					mustConflict(t, inPlace(a, i, add("x")), inPlace(b, j, add("x")), true)
					mustConflict(t, inPlace(a, i, get("x")), inPlace(b, j, get("x")), false)
					mustConflict(t, inPlace(a, i, put("x")), inPlace(b, j, put("xx")), false)
					mustConflict(t, inPlace(a, i, put("x")), inPlace(b, j, with(api.Get, "x", minusZero)), false)
				}
			}
		}
	}
}

// P7.1: commands that may not be conflict with none, nor do they keep others from it.
func TestConflictOfBadCommands(t *testing.T) {
	for _, c := range bad() {
		mustConflict(t, list(c), list(c), false)
		for _, other := range append(bad(), good()...) {
			mustConflict(t, list(c), list(other), false)
			mustConflict(t, list(c), list(get("z"), other, put("y")), false)
		}
		mustConflict(t, list(c, put("x")), list(c, get("x")), true)
		mustConflict(t, list(get("x"), c), list(c, put("x"), c), true)
	}
}

// P7.1: a list with itself.
func TestConflictWithItself(t *testing.T) {
	for _, l := range lists(2, 500) {
		mustConflict(t, l, l, slices.ContainsFunc(l, wantWrites))
	}
}

// wantConflict goes through all pairs of commands.
func wantConflict(a, b []api.Cmd) bool {
	for _, one := range a {
		for _, other := range b {
			if wantMay(one) && wantMay(other) && one.Key == other.Key && (wantWrites(one) || wantWrites(other)) {
				return true
			}
		}
	}
	return false
}

// P7.1: all kinds of lists, each with each.
func TestConflict(t *testing.T) {
	l, conflicts := lists(3, 150), 0
	for _, a := range l {
		for _, b := range l {
			want := wantConflict(a, b)
			if want {
				conflicts++
			}
			if got := Conflict(a, b); got != want {
				t.Errorf("Conflict of %.400s and %.400s: %v", show(a), show(b), got)
			}
		}
	}
	if conflicts < 1000 || conflicts > len(l)*len(l)-1000 {
		t.Errorf("the lists are too much alike: %d conflicts", conflicts)
	}
}

// P7.3: just if one writes a key that the other one has a command of that may be.
func TestConflictByKeys(t *testing.T) {
	hits := func(a, b []api.Cmd) bool {
		b = slices.DeleteFunc(slices.Clone(b), func(c api.Cmd) bool { return !wantMay(c) })
		return slices.ContainsFunc(Keys(a), func(key string) bool { return len(Writes(a, key)) > 0 && Touches(b, key) })
	}
	for _, seed := range []uint64{4, 5, 6} {
		l := lists(seed, 80)
		for _, a := range l {
			for _, b := range l {
				mustConflict(t, a, b, hits(a, b) || hits(b, a))
			}
		}
	}
}

// P7.2: the keys of lists, byte by byte; the first one is the chapter's example.
func TestKeysOfSome(t *testing.T) {
	long, longer := strings.Repeat("a", 1<<16), strings.Repeat("a", 1<<16)+"\x00"
	for _, p := range []struct {
		keys, want []string
	}{
		{[]string{"a", "b"}, []string{"a", "b"}},
		{nil, nil}, {[]string{""}, []string{""}}, {[]string{"", "", ""}, []string{""}}, {[]string{"z"}, []string{"z"}},
		{[]string{"b", "a"}, []string{"a", "b"}}, {[]string{"a", "a"}, []string{"a"}}, {[]string{"b", "a", "b", "a", "b"}, []string{"a", "b"}},
		// One key begins another one.
		{[]string{"aaa", "a", "aa"}, []string{"a", "aa", "aaa"}}, {[]string{"ab", "b", "a", "abc", ""}, []string{"", "a", "ab", "abc", "b"}},
		// Digits, capital letters, small ones, bytes above 127: not as words stand in a book, nor as numbers.
		{[]string{"é", "z", "Z", "a", "A", "0", "\xff", "\x80", "\x7f", "\x00", " ", "_"}, []string{"\x00", " ", "0", "A", "Z", "_", "a", "z", "\x7f", "\x80", "é", "\xff"}},
		{[]string{"k10", "k9", "k1"}, []string{"k1", "k10", "k9"}}, {[]string{"b", "A", "a", "B"}, []string{"A", "B", "a", "b"}},
		// A letter beyond 16 bits stands behind one below them, as its bytes do.
		{[]string{"\U00010000", "\uffff"}, []string{"\uffff", "\U00010000"}}, {[]string{"\xc0", "\xbf\xff"}, []string{"\xbf\xff", "\xc0"}},
		{[]string{"e\u0301", "é"}, []string{"e\u0301", "é"}},
		{[]string{longer, "b", long, longer, "a"}, []string{"a", long, longer, "b"}},
		{[]string{"thirteen13cha", "twelve12char", "thirteen13ch"}, []string{"thirteen13ch", "thirteen13cha", "twelve12char"}},
	} {
		for _, kind := range []int{api.Get, api.Put, api.Delete, api.Add, 0, 5, -1} {
			var l []api.Cmd
			for _, key := range p.keys {
				l = append(l, api.Cmd{Kind: kind, Key: key, Value: 3})
			}
			if got := Keys(l); !slices.Equal(got, p.want) {
				t.Errorf("Keys of %.400s: %.400q, not %.400q", show(l), got, p.want)
			}
		}
	}
}

// P7.2: the keys of all commands, also of those that may not be, each once, again and again the same.
func TestKeys(t *testing.T) {
	for _, l := range lists(7, 1000) {
		var want []string
		for _, c := range l {
			at := 0
			for at < len(want) && want[at] < c.Key {
				at++
			}
			if at == len(want) || want[at] != c.Key {
				want = slices.Insert(want, at, c.Key)
			}
		}
		for range 3 {
			if got := Keys(l); !slices.Equal(got, want) {
				t.Errorf("Keys of %.400s: %.400q, not %.400q", show(l), got, want)
			}
		}
	}
}

// P7.2: the keys of a long list, that comes falling.
func TestKeysOfLongList(t *testing.T) {
	var l []api.Cmd
	var want []string
	for i := range 3000 {
		l = append(l, add(fmt.Sprintf("%05d", 2999-i)), get(fmt.Sprintf("%05d", i)))
		want = append(want, fmt.Sprintf("%05d", i))
	}
	if got := Keys(l); !slices.Equal(got, want) {
		t.Errorf("%d keys", len(got))
	}
}

// P7.2: the places of what writes, and who has a key; the first one is the chapter's example.
func TestWritesAndTouchesOfSome(t *testing.T) {
	for _, p := range []struct {
		l       []api.Cmd
		key     string
		want    []int
		touches bool
	}{
		{list(get("a"), put("b")), "b", []int{1}, true},
		{list(get("a"), put("b")), "a", nil, true}, {list(get("a"), put("b")), "c", nil, false}, {list(get("a"), put("b")), "", nil, false}, {list(get("a"), put("b")), "B", nil, false}, {list(get("ab"), put("ba")), "b", nil, false}, {list(put("a")), "aa", nil, false},
		{nil, "a", nil, false}, {nil, "", nil, false}, {[]api.Cmd{}, "a", nil, false}, {list(put("a"))[:0], "a", nil, false},
		{list(put("a")), "a", []int{0}, true}, {list(del("a")), "a", []int{0}, true}, {list(add("a")), "a", []int{0}, true}, {list(get("a")), "a", nil, true},
		{list(put("a"), get("a"), del("b"), add("a"), get("b"), del("a"), put("a")), "a", []int{0, 3, 5, 6}, true},
		{list(put("a"), get("a"), del("b"), add("a"), get("b"), del("a"), put("a")), "b", []int{2}, true},
		{times(8, add("k")), "k", []int{0, 1, 2, 3, 4, 5, 6, 7}, true}, {times(10, del("k")), "k", []int{0, 1, 2, 3, 4, 5, 6, 7, 8, 9}, true}, {times(10, del("k")), "kk", nil, false},
		{append(gets(30), put("x")), "x", []int{30}, true}, {append(gets(30), put("x")), "gz", nil, true},
		// A command that may not be writes nothing, but it has its key, and its place.
		{list(put("")), "", nil, true}, {list(api.Cmd{}), "", nil, true}, {list(add("A"), put("a")), "A", nil, true}, {list(add("A"), put("a")), "a", []int{1}, true},
		{list(with(api.Delete, "a", minusZero), del("a")), "a", []int{1}, true}, {list(api.Cmd{Kind: 5, Key: "a"}), "a", nil, true}, {list(put("\xff")), "\xff", nil, true}, {list(put("thirteen13cha")), "thirteen13cha", nil, true}, {list(put("thirteen13cha")), "thirteen13ch", nil, false},
		// A put and an add of any number write.
		{list(with(api.Put, "a", oneNaN), with(api.Add, "a", minusZero), with(api.Put, "a", 0)), "a", []int{0, 1, 2}, true},
	} {
		if got := Writes(p.l, p.key); !slices.Equal(got, p.want) {
			t.Errorf("Writes of %s, %q: %v, not %v", show(p.l), p.key, got, p.want)
		}
		if got := Touches(p.l, p.key); got != p.touches {
			t.Errorf("Touches of %s, %q: %v", show(p.l), p.key, got)
		}
	}
}

// P7.2: all kinds of lists and keys.
func TestWritesAndTouches(t *testing.T) {
	keys := []string{"zz", "aaa", "B", "ac", "twelve12cha", "\x00"}
	for _, c := range append(good(), bad()...) {
		keys = append(keys, c.Key)
	}
	for _, l := range lists(8, 300) {
		for _, key := range keys {
			var want []int
			touches := false
			for at, c := range l {
				if c.Key == key && wantWrites(c) {
					want = append(want, at)
				}
				touches = touches || c.Key == key
			}
			if got := Writes(l, key); !slices.Equal(got, want) {
				t.Errorf("Writes of %.400s, %.40q: %v, not %v", show(l), key, got, want)
			}
			if got := Touches(l, key); got != touches || got != slices.Contains(Keys(l), key) {
				t.Errorf("Touches of %.400s, %.40q: %v, not %v", show(l), key, got, touches)
			}
		}
	}
}

// mustSame holds Same of a and b against what is wanted, whichever comes first.
func mustSame(t *testing.T, a, b []api.Cmd, want bool) {
	t.Helper()
	if got, back := Same(a, b), Same(b, a); got != want || back != want {
		t.Errorf("Same of %.400s and %.400s: %v, and the other way round %v, not %v", show(a), show(b), got, back, want)
	}
}

// P7.1: lists that are the same, and lists that are not.
func TestSameOfSome(t *testing.T) {
	a := list(put("a"), get("b"), add("a"))
	for _, p := range []struct {
		a, b []api.Cmd
		want bool
	}{
		{nil, nil, true}, {nil, []api.Cmd{}, true}, {nil, a[:0], true}, {nil, a, false}, {a, a, true}, {a, slices.Clone(a), true}, {nil, list(api.Cmd{}), false}, {list(api.Cmd{}), list(api.Cmd{}), true},
		// Other lengths: one begins the other one, or ends it.
		{a, a[:2], false}, {a, a[1:], false}, {a, append(slices.Clone(a), a[2]), false}, {a, append(slices.Clone(a), api.Cmd{}), false}, {times(8, put("a")), times(9, put("a")), false}, {times(9, put("a")), times(9, put("a")), true},
		// Another order.
		{a, list(a[2], a[1], a[0]), false}, {a, list(a[1], a[0], a[2]), false}, {list(get("a"), get("b")), list(get("b"), get("a")), false},
		// The same commands, not as often each.
		{list(get("a"), get("a"), get("b")), list(get("a"), get("b"), get("b")), false},
		// All NaNs are one, the two zeros are two.
		{list(with(api.Put, "a", oneNaN)), list(with(api.Put, "a", 0xffffffffffffffff)), true}, {list(with(api.Add, "a", 0x7ff8000000000000), a[0]), list(with(api.Add, "a", 0x7ff0000000000001), a[0]), true},
		{list(with(api.Put, "a", 0)), list(with(api.Put, "a", minusZero)), false}, {list(a[0], with(api.Add, "a", minusZero)), list(a[0], with(api.Add, "a", 0)), false}, {list(with(api.Put, "a", minusZero)), list(with(api.Put, "a", minusZero)), true},
		{list(with(api.Put, "a", oneNaN)), list(with(api.Put, "a", 0x7ff0000000000000)), false},
	} {
		mustSame(t, p.a, p.b, p.want)
	}
}

// P7.1: one command is another one, wherever it stands and whatever the two are.
func TestSameButForOne(t *testing.T) {
	all, _ := pool()
	for _, n := range []int{1, 2, 5, 8, 9, 13} {
		for at := range n {
			for i, one := range all {
				for j, other := range all {
					mustSame(t, inPlace(gets(n), at, one), inPlace(gets(n), at, other), i == j)
				}
			}
		}
	}
}

// snapshot is a copy of a list with its spare room.
func snapshot(l []api.Cmd) []api.Cmd { return slices.Clone(l[:cap(l)]) }

// What is handed in is not changed, its spare room neither.
func TestArgumentsStay(t *testing.T) {
	all, _ := pool()
	for _, l := range [][]api.Cmd{all[:0], all[3:7], all[20:40], all} {
		other := slices.Clone(all)[2:9]
		ahead, otherAhead := snapshot(l), snapshot(other)
		Check(l)
		Keys(l)
		for _, key := range []string{"a", "b", "", "zz"} {
			Writes(l, key)
			Touches(l, key)
		}
		for _, b := range [][]api.Cmd{other, l} {
			Conflict(l, b)
			Conflict(b, l)
			Same(l, b)
			Same(b, l)
		}
		if !slices.EqualFunc(snapshot(l), ahead, equal) || !slices.EqualFunc(snapshot(other), otherAhead, equal) {
			t.Errorf("%d commands were changed, or their spare room", len(l))
		}
	}
}

// What is handed out is new memory: lists go on by themselves, spare room too, and no key is a piece of what came.
func TestAnswersAreNew(t *testing.T) {
	l := list(put("b"), add("a"), put("b"), del("c"), put("b"), get("a"))
	wantKeys, wantWrites := []string{"a", "b", "c"}, []int{0, 2, 4}
	keys, places := Keys(l), Writes(l, "b")
	for range 3 {
		otherKeys, otherPlaces := Keys(l), Writes(l, "b")
		for i := range otherKeys[:cap(otherKeys)] {
			otherKeys[:cap(otherKeys)][i] = "w"
		}
		for i := range otherPlaces[:cap(otherPlaces)] {
			otherPlaces[:cap(otherPlaces)][i] = -7
		}
		if !slices.Equal(keys, wantKeys) || !slices.Equal(places, wantWrites) || !slices.Equal(Keys(l), wantKeys) || !slices.Equal(Writes(l, "b"), wantWrites) {
			t.Fatal("one answer's memory is another one's, too")
		}
	}
	keys[0], places[0] = "x", 9
	if !equal(l[0], put("b")) || !equal(l[1], add("a")) || !slices.Equal(Keys(l), wantKeys) || !slices.Equal(Writes(l, "b"), wantWrites) {
		t.Error("what was written to an answer is seen elsewhere")
	}
}

// What is handed out is new memory: a key does not keep the text that came, of which it may be a piece.
func TestKeysAreNew(t *testing.T) {
	text := "some longer text"
	l := list(get(text[5:11]))
	if keys := Keys(l); unsafe.StringData(keys[0]) == unsafe.StringData(l[0].Key) {
		t.Error("a key is the one that came")
	}
}

// What is answered stays, when the list that was handed in changes.
func TestArgumentsAreNotKept(t *testing.T) {
	l := list(put("b"), add("a"), put("b"))
	keys, places := Keys(l), Writes(l, "b")
	for i := range l {
		l[i] = get("z")
	}
	if !slices.Equal(keys, []string{"a", "b"}) || !slices.Equal(places, []int{0, 2}) {
		t.Errorf("the answers changed: %q, %v", keys, places)
	}
	if got := Keys(l); !slices.Equal(got, []string{"z"}) || len(Writes(l, "b")) != 0 || Touches(l, "b") {
		t.Error("what was handed in was kept")
	}
}
