package fold

import (
	"fmt"
	"math"
	"slices"
	"strings"
	"testing"

	"cortege/api"
)

func of(bits uint64) float64 { return math.Float64frombits(bits) }

func nan() float64       { return of(0x7ff8000000000001) }
func minusZero() float64 { return math.Copysign(0, -1) }

func id(rep, slot int) api.Id { return api.Id{Rep: rep, Slot: slot} }

func get(key string) api.Cmd            { return api.Cmd{Kind: api.Get, Key: key} }
func put(key string, f float64) api.Cmd { return api.Cmd{Kind: api.Put, Key: key, Value: f} }
func del(key string) api.Cmd            { return api.Cmd{Kind: api.Delete, Key: key} }
func add(key string, f float64) api.Cmd { return api.Cmd{Kind: api.Add, Key: key, Value: f} }

func cmds(l ...api.Cmd) []api.Cmd          { return l }
func items(l ...Item) []Item               { return l }
func writers(l ...api.Writer) []api.Writer { return l }

func item(i api.Id, l ...api.Cmd) Item                    { return Item{i, l} }
func by(i api.Id, at int) api.Writer                      { return api.Writer{Id: i, At: at} }
func has(f float64) api.Cell                              { return api.Cell{Found: true, Value: f} }
func nothing() api.Cell                                   { return api.Cell{} }
func tells(i api.Id, at int, c api.Cell) api.Result       { return api.Result{Id: i, At: at, Cell: c} }
func results(l ...api.Result) []api.Result                { return l }
func with(l []Item, at int, more ...Item) []Item          { return slices.Insert(slices.Clone(l), at, more...) }
func joined(a []api.Writer, b ...api.Writer) []api.Writer { return append(slices.Clone(a), b...) }

// numbers are floats of every kind, NaNs of many bits among them.
func numbers() []float64 {
	return []float64{
		0, minusZero(), 1, -1, 0.5, 2.5, -3, 0.1, 1 << 53, math.MaxFloat64, -math.MaxFloat64,
		math.SmallestNonzeroFloat64, -math.SmallestNonzeroFloat64, math.Inf(1), math.Inf(-1),
		nan(), of(0x7ff8000000000000), of(0x7ff0000000000001), of(0x7fffffffffffffff), of(0xfff8000000000001), of(0xffffffffffffffff),
	}
}

// ids are ids of any numbers, those that no id may have, too.
func ids() []api.Id {
	return []api.Id{
		{}, id(0, 1), id(7, 1<<20), id(1, 2), id(2, 1), id(-1, -1), id(8, 0), id(0, 1<<20+1), id(1<<32, 1<<32+1),
		id(math.MinInt, math.MaxInt), id(math.MaxInt, math.MinInt),
	}
}

// oddKeys are keys that no command here has, most of which no key may be.
func oddKeys() []string {
	return []string{"", "never", "A", " ", "x ", "a b", "\x00", "x\x00", "\xff", "é", "thirteen13cha", strings.Repeat("k", 1000)}
}

// wrong are commands that may not be.
func wrong() []api.Cmd {
	return cmds(
		api.Cmd{}, api.Cmd{Key: "x"}, api.Cmd{Kind: 5, Key: "x"}, api.Cmd{Kind: -1, Key: "x", Value: 1}, api.Cmd{Kind: 1<<32 + 2, Key: "x"},
		put("", 1), put("A", 1), put("a b", 1), put("thirteen13cha", 1), put("x\x00", 1), put("é", 1), get(""), add("_", 1), del("-"),
		api.Cmd{Kind: api.Get, Key: "x", Value: 1}, api.Cmd{Kind: api.Get, Key: "x", Value: minusZero()}, api.Cmd{Kind: api.Get, Key: "x", Value: nan()},
		api.Cmd{Kind: api.Delete, Key: "x", Value: -1}, api.Cmd{Kind: api.Delete, Key: "x", Value: minusZero()}, api.Cmd{Kind: api.Delete, Key: "x", Value: nan()},
	)
}

// badBatches are batches that may not be applied: too long ones, and those with a command that may not be first, in the midst, last and alone.
func badBatches() [][]api.Cmd {
	good := cmds(add("x", 1), put("new", 2), del("b"), get("x"), put("y", 1), del("gone"), add("a", 1))
	l := [][]api.Cmd{
		make([]api.Cmd, 1), make([]api.Cmd, api.MaxBatch), make([]api.Cmd, api.MaxBatch+1),
		slices.Repeat(cmds(add("x", 1)), api.MaxBatch+1), slices.Repeat(cmds(get("x")), api.MaxBatch+1), slices.Repeat(cmds(del("x")), 256),
		slices.Repeat(good, 2),
	}
	for _, c := range wrong() {
		l = append(l, cmds(c))
		for _, at := range []int{0, 3, len(good)} {
			l = append(l, slices.Insert(slices.Clone(good), at, c), slices.Insert(slices.Repeat(good, 2), at, c))
		}
	}
	return l
}

// some are items with all kinds of commands, keys that are there, that were deleted, that were put again and that were only asked for, and an id that comes twice.
func some() []Item {
	return items(
		item(id(1, 1), add("x", 2), put("y", 3), get("z"), del("x")),
		item(id(0, 4), add("x", 0.5), del("y"), get("y"), put("ab", minusZero()), put("a", nan())),
		item(id(0, 4)),
		item(id(0, 4), get("x"), add("y", 4), add("x", 1), del("gone"), put("a", 1), put("b", 1)),
		item(id(2, 9), del("w"), put("b", math.Inf(1)), add("b", math.Inf(-1)), put("0", 0), add("x", -7)),
		item(id(-3, 0), put("q", 1), del("q"), put("twelve12char", 12)),
	)
}

// canon is layer 1's Canon, told by the bits.
func canon(f float64) float64 {
	if f != f {
		return nan()
	}
	return f
}

// mayBe tells by the document's words whether a batch may be.
func mayBe(l []api.Cmd) bool {
	for _, c := range l {
		key := len(c.Key) >= 1 && len(c.Key) <= 12 && strings.Trim(c.Key, "abcdefghijklmnopqrstuvwxyz0123456789") == ""
		plain := (c.Kind == api.Get || c.Kind == api.Delete) && math.Float64bits(c.Value) == 0
		if !key || !plain && c.Kind != api.Put && c.Kind != api.Add {
			return false
		}
	}
	return len(l) <= 8
}

// do tells by the document's words what is there behind a command that may be, and what it tells.
func do(was api.Cell, c api.Cmd) (now, told api.Cell) {
	switch c.Kind {
	case api.Put:
		return has(canon(c.Value)), was
	case api.Delete:
		return nothing(), was
	case api.Add:
		sum := has(canon(was.Value + c.Value))
		return sum, sum
	}
	return was, was
}

// story is what some items must tell, gone through once more.
type story struct {
	there map[string]api.Cell
	logs  map[string][]api.Writer
	told  []api.Result
}

// tell goes through all items.
func tell(l []Item) story {
	s := story{there: map[string]api.Cell{}, logs: map[string][]api.Writer{}}
	for _, one := range l {
		if !mayBe(one.Batch) {
			continue
		}
		for at, c := range one.Batch {
			now, told := do(s.there[c.Key], c)
			s.there[c.Key] = now
			s.told = append(s.told, tells(one.Id, at, told))
			if c.Kind != api.Get {
				s.logs[c.Key] = append(s.logs[c.Key], by(one.Id, at))
			}
		}
	}
	return s
}

// onlyOf goes through all items for what Only must tell.
func onlyOf(l []Item, key string, w []api.Writer) api.Cell {
	var c api.Cell
	for _, one := range l {
		for at, x := range one.Batch {
			if mayBe(one.Batch) && x.Key == key && slices.Index(w, by(one.Id, at)) >= 0 {
				c, _ = do(c, x)
			}
		}
	}
	return c
}

// named are all keys that a command has, and odd ones.
func named(l []Item) []string {
	keys := oddKeys()
	for _, one := range l {
		for _, c := range one.Batch {
			if !slices.Contains(keys, c.Key) {
				keys = append(keys, c.Key)
			}
		}
	}
	return keys
}

// equal tells whether two cells are the same to the bit.
func equal(a, b api.Cell) bool {
	return a.Found == b.Found && math.Float64bits(a.Value) == math.Float64bits(b.Value)
}

func show(c api.Cell) string {
	return fmt.Sprintf("{%v %v %x}", c.Found, c.Value, math.Float64bits(c.Value))
}

// mustCell holds a cell against what it must be, to the bit.
func mustCell(t *testing.T, what string, got, want api.Cell) {
	t.Helper()
	if !equal(got, want) {
		t.Errorf("%.60s: %s, not %s", what, show(got), show(want))
	}
}

// mustWrite holds the writers of a key.
func mustWrite(t *testing.T, l []Item, key string, want ...api.Writer) {
	t.Helper()
	if got := Writers(l, key); !slices.Equal(got, want) {
		t.Errorf("Writers of %.20q: %v, not %v", key, got, want)
	}
}

// mustTell holds results against what they must be, to the bit.
func mustTell(t *testing.T, got, want []api.Result) {
	t.Helper()
	alike := func(a, b api.Result) bool { return a.Id == b.Id && a.At == b.At && equal(a.Cell, b.Cell) }
	if !slices.EqualFunc(got, want, alike) {
		t.Errorf("Results: %v, not %v", got, want)
	}
}

// mustHold holds all that is told of l against what is told of it once more, and Only of all Writers against Cell.
func mustHold(t *testing.T, l []Item) {
	t.Helper()
	s := tell(l)
	for _, key := range named(l) {
		mustCell(t, "Cell of "+key, Cell(l, key), s.there[key])
		mustWrite(t, l, key, s.logs[key]...)
		mustCell(t, "Only of all Writers of "+key, Only(l, key, Writers(l, key)), Cell(l, key))
		mustCell(t, "Only of no writer of "+key, Only(l, key, nil), nothing())
	}
	mustTell(t, Results(l), s.told)
}

// The chapter's example, in one batch and in two.
func TestExample(t *testing.T) {
	a, b := id(1, 1), id(1, 2)
	for _, s := range []struct {
		l     []Item
		first api.Writer
		last  api.Writer
	}{
		{items(item(a, put("a", 1)), item(b, add("a", 1))), by(a, 0), by(b, 0)},
		{items(item(a, put("a", 1), add("a", 1))), by(a, 0), by(a, 1)},
	} {
		mustCell(t, "Cell", Cell(s.l, "a"), has(2))
		mustCell(t, "Only of the first", Only(s.l, "a", writers(s.first)), has(1))
		mustWrite(t, s.l, "a", s.first, s.last)
		mustHold(t, s.l)
	}
}

// P14.1, P14.2: no item, nil and empty alike, makes nothing.
func TestNoItem(t *testing.T) {
	for _, l := range [][]Item{nil, items()} {
		for _, key := range append(oddKeys(), "a") {
			mustCell(t, "Cell", Cell(l, key), nothing())
			mustWrite(t, l, key)
			for _, w := range [][]api.Writer{nil, writers(), writers(by(id(1, 1), 0)), writers(api.Writer{})} {
				mustCell(t, "Only", Only(l, key, w), nothing())
			}
		}
		mustTell(t, Results(l), nil)
	}
}

// P14.1, P14.2: items without a command make nothing, and move nobody's place.
func TestItemsWithoutCommand(t *testing.T) {
	none := items(item(id(1, 1)), Item{}, Item{Id: id(0, 4), Batch: cmds()})
	mustHold(t, none)
	mustTell(t, Results(none), nil)
	want := Results(some())
	for at := range len(some()) + 1 {
		l := with(some(), at, none...)
		mustHold(t, l)
		mustTell(t, Results(l), want)
		for _, key := range named(l) {
			mustWrite(t, l, key, Writers(some(), key)...)
		}
	}
}

// P14.1: each command behind those ahead of it, of its own key, over batches too.
func TestInOrder(t *testing.T) {
	a, b, c := id(5, 1), id(1, 9), id(1, 2)
	l := items(
		item(a, get("x"), put("x", 8), get("x"), put("y", 1), add("x", 2)),
		item(b, get("x"), del("x"), get("x"), add("z", minusZero()), get("y")),
		item(c, add("x", 0.25), del("y"), put("z", nan()), add("z", 1), add("x", 1), del("never")),
	)
	mustTell(t, Results(l), results(
		tells(a, 0, nothing()), tells(a, 1, nothing()), tells(a, 2, has(8)), tells(a, 3, nothing()), tells(a, 4, has(10)),
		tells(b, 0, has(10)), tells(b, 1, has(10)), tells(b, 2, nothing()), tells(b, 3, has(0)), tells(b, 4, has(1)),
		tells(c, 0, has(0.25)), tells(c, 1, has(1)), tells(c, 2, has(0)), tells(c, 3, has(nan())), tells(c, 4, has(1.25)), tells(c, 5, nothing()),
	))
	mustCell(t, "x", Cell(l, "x"), has(1.25))
	mustCell(t, "y", Cell(l, "y"), nothing())
	mustCell(t, "z", Cell(l, "z"), has(nan()))
	mustHold(t, l)
	// In the other order something else is there.
	slices.Reverse(l)
	mustCell(t, "x", Cell(l, "x"), has(10))
	mustCell(t, "y", Cell(l, "y"), has(1))
	mustCell(t, "z", Cell(l, "z"), has(nan()))
	mustHold(t, l)
	mustHold(t, some())
}

// P14.1: a key that was never named, that was deleted, that was put again, that no key may be.
func TestCellOfKeys(t *testing.T) {
	l := some()
	for _, s := range []struct {
		key  string
		want api.Cell
	}{
		{"never", nothing()}, {"gone", nothing()}, {"w", nothing()}, {"q", nothing()}, {"z", nothing()},
		{"x", has(-5.5)}, {"y", has(4)}, {"ab", has(minusZero())}, {"a", has(1)}, {"b", has(nan())}, {"0", has(0)}, {"twelve12char", has(12)},
		{"", nothing()}, {"X", nothing()}, {"x ", nothing()}, {"aa", nothing()}, {"twelve12cha", nothing()}, {"twelve12char0", nothing()},
	} {
		mustCell(t, "Cell of "+s.key, Cell(l, s.key), s.want)
	}
	for _, key := range oddKeys() {
		mustCell(t, "Cell of "+key, Cell(l, key), nothing())
		mustWrite(t, l, key)
	}
	// What was deleted and put again is there again, and gone again.
	l = with(l, len(l), item(id(1, 1), put("q", 5), put("w", 6), del("x")))
	mustCell(t, "Cell of q", Cell(l, "q"), has(5))
	mustCell(t, "Cell of w", Cell(l, "w"), has(6))
	mustCell(t, "Cell of x", Cell(l, "x"), nothing())
	mustHold(t, l)
}

// P14.1: each command that writes the key is a writer, in order, by its item's Id and its place; a Get is none, a Delete of nothing is one.
func TestWriters(t *testing.T) {
	a, b, c := id(5, 1), id(1, 9), id(1, 2)
	l := items(
		item(a, get("x"), put("x", 1), put("y", 1), add("x", 1)),
		item(b, get("x"), get("y"), get("z")),
		item(c, del("z"), del("x"), get("x"), del("x")),
		item(b, put("y", 1)),
		item(b, put("y", 1)),
		item(a, slices.Repeat(cmds(add("d", 0)), 8)...),
	)
	mustWrite(t, l, "x", by(a, 1), by(a, 3), by(c, 1), by(c, 3))
	mustWrite(t, l, "y", by(a, 2), by(b, 0), by(b, 0))
	mustWrite(t, l, "z", by(c, 0))
	mustWrite(t, l, "d", by(a, 0), by(a, 1), by(a, 2), by(a, 3), by(a, 4), by(a, 5), by(a, 6), by(a, 7))
	mustWrite(t, l, "w")
	mustHold(t, l)
	// What was deleted keeps its writers.
	mustCell(t, "Cell of x", Cell(l, "x"), nothing())
	mustWrite(t, with(l, len(l), item(c, put("x", 1))), "x", by(a, 1), by(a, 3), by(c, 1), by(c, 3), by(c, 0))
}

// P14.1, P14.2: the same id twice, in one row and apart, with the same places; each of both is told, and Only takes both.
func TestTheSameId(t *testing.T) {
	for _, i := range ids() {
		l := items(item(i, add("x", 1), put("y", 1)), item(i, add("x", 2), get("x")), item(id(3, 3), put("x", 10)), item(i, add("x", 4), add("x", 8)))
		mustHold(t, l)
		mustWrite(t, l, "x", by(i, 0), by(i, 0), by(id(3, 3), 0), by(i, 0), by(i, 1))
		mustTell(t, Results(l), results(
			tells(i, 0, has(1)), tells(i, 1, nothing()), tells(i, 0, has(3)), tells(i, 1, has(3)), tells(id(3, 3), 0, has(3)), tells(i, 0, has(14)), tells(i, 1, has(22)),
		))
		mustCell(t, "Only of the place 0", Only(l, "x", writers(by(i, 0))), has(7))
		mustCell(t, "Only of the place 1", Only(l, "x", writers(by(i, 1))), has(8))
		mustCell(t, "Only of both", Only(l, "x", writers(by(i, 1), by(i, 0))), has(15))
		mustCell(t, "Only of the other one", Only(l, "x", writers(by(id(3, 3), 0))), has(10))
		mustCell(t, "Only of y", Only(l, "y", writers(by(i, 0))), nothing())
	}
}

// P14.1, P14.2: ids of any numbers are told as they came, and told apart.
func TestAnyIds(t *testing.T) {
	var l []Item
	for n, i := range ids() {
		l = append(l, item(i, get("x"), add("x", float64(int(1)<<n)), del("none")))
	}
	mustHold(t, l)
	for n, i := range ids() {
		mustCell(t, fmt.Sprint("Only of ", i), Only(l, "x", writers(by(i, 1))), has(float64(int(1)<<n)))
		mustCell(t, fmt.Sprint("Only of a Get of ", i), Only(l, "x", writers(by(i, 0), by(i, 2))), nothing())
	}
}

// mustPass holds that with l there is nothing else than without what may not be applied, which is good.
func mustPass(t *testing.T, l, good []Item) {
	t.Helper()
	for _, key := range named(l) {
		mustCell(t, "Cell of "+key, Cell(l, key), Cell(good, key))
		w := Writers(good, key)
		mustWrite(t, l, key, w...)
		mustCell(t, "Only of all Writers of "+key, Only(l, key, w), Cell(good, key))
		if len(w) > 1 {
			mustCell(t, "Only of some writers of "+key, Only(l, key, w[1:]), Only(good, key, w[1:]))
		}
	}
	mustTell(t, Results(l), Results(good))
}

// P14.1, P14.2: items that may not be applied are passed over, first, in the midst and last, whatever is wrong with them.
func TestPassedOver(t *testing.T) {
	good := some()
	for _, bad := range badBatches() {
		// Of new ids, and of ids that others have, with places that others have.
		for _, i := range []api.Id{id(6, 6), id(0, 4), id(1, 1)} {
			for _, at := range []int{0, 1, 3, len(good)} {
				mustPass(t, with(good, at, item(i, bad...)), good)
			}
			mustPass(t, items(item(i, bad...)), nil)
			mustPass(t, items(item(i, bad...), item(i, bad...)), nil)
		}
	}
}

// P14.1, P14.2: many that may not be applied, between all others, and none but such.
func TestManyPassedOver(t *testing.T) {
	var bad, mixed []Item
	for n, l := range badBatches() {
		bad = append(bad, item(ids()[n%len(ids())], l...))
	}
	mustPass(t, bad, nil)
	mustHold(t, bad)
	for _, one := range some() {
		mixed = append(append(mixed, bad...), one)
	}
	mixed = append(mixed, bad...)
	mustPass(t, mixed, some())
	mustHold(t, mixed)
}

// P14.2: writers of items that may not be applied are nobody's.
func TestOnlyOfWhatMayNotBe(t *testing.T) {
	i, other := id(6, 6), id(1, 1)
	for _, bad := range badBatches() {
		var w []api.Writer
		for at := range bad {
			w = append(w, by(i, at))
		}
		l := items(item(other, put("x", 3)), item(i, bad...), item(other, add("x", 1)))
		for _, key := range named(l) {
			mustCell(t, "Only of what may not be of "+key, Only(l, key, w), nothing())
		}
		mustCell(t, "Only with others", Only(l, "x", joined(w, by(other, 0))), has(4))
		// Of an id that two items have, just the one that may be applied counts.
		l = items(item(i, bad...), item(i, put("x", 5)), item(i, bad...))
		mustCell(t, "Only of both", Only(l, "x", joined(w, by(i, 0))), has(5))
		mustWrite(t, l, "x", by(i, 0))
	}
}

// P14.2: what is there behind just those commands of the key that are among the writers.
func TestOnly(t *testing.T) {
	a, b, c := id(1, 1), id(2, 9), id(0, 3)
	l := items(
		item(a, put("x", 8), get("x"), put("y", 100)),
		item(b, del("x"), add("x", 1), add("y", 1)),
		item(c, get("x"), add("x", 0.5), add("x", 16)),
	)
	w := Writers(l, "x")
	for _, s := range []struct {
		name string
		w    []api.Writer
		want api.Cell
	}{
		{"none, nil", nil, nothing()},
		{"none, empty", writers(), nothing()},
		{"all", w, has(17.5)},
		{"the first", w[:1], has(8)},
		{"the first two", w[:2], nothing()},
		{"the first three", w[:3], has(1)},
		{"the last", w[4:], has(16)},
		{"the delete", w[1:2], nothing()},
		{"all but the delete", writers(w[0], w[2], w[3], w[4]), has(25.5)},
		{"the put and the last", writers(w[0], w[4]), has(24)},
		{"an add of nothing", w[2:3], has(1)},
		{"another order", writers(w[4], w[0]), has(24)},
		{"the delete last of all", writers(w[0], w[2], w[4], w[1]), has(17)},
		{"the put last of all", writers(w[3], w[2], w[0]), has(9.5)},
		{"the first twice", writers(w[0], w[0]), has(8)},
		{"an add twice", writers(w[3], w[3], w[3]), has(0.5)},
		{"all of them twice", joined(w, w...), has(17.5)},
		{"a Get alone", writers(by(a, 1)), nothing()},
		{"a Get and others", writers(by(a, 1), w[0], by(c, 0), w[3]), has(8.5)},
		{"an id that no item has", writers(by(id(7, 7), 0), by(id(9, 2), 1), by(id(1, 9), 0)), nothing()},
		{"replica and slot by turns", writers(by(id(9, 2), 1), by(id(3, 0), 1)), nothing()},
		{"no item's and others", writers(by(id(7, 7), 0), w[3], by(id(7, 7), 1)), has(0.5)},
		{"another key's", writers(by(a, 2), by(b, 2)), nothing()},
		{"another key's and others", writers(by(a, 2), w[0], by(b, 2)), has(8)},
		{"beyond the batch", writers(by(a, 3), by(b, 3), by(c, 8), by(c, math.MaxInt)), nothing()},
		{"below the batch", writers(by(a, -1), by(b, -2), by(c, math.MinInt)), nothing()},
		{"beyond, below and others", writers(by(c, -1), w[4], by(c, 3)), has(16)},
		{"places above 2^32 that are the same below", writers(by(a, 1<<32), by(id(1<<32+1, 1), 0), by(id(1, 1<<32+1), 0)), nothing()},
	} {
		mustCell(t, s.name, Only(l, "x", s.w), s.want)
		mustCell(t, s.name+", once more", onlyOf(l, "x", s.w), s.want)
	}
	mustCell(t, "y", Only(l, "y", writers(by(a, 2), by(b, 2))), has(101))
	mustCell(t, "y of the last", Only(l, "y", writers(by(b, 2))), has(1))
	for _, key := range oddKeys() {
		mustCell(t, "Only of "+key, Only(l, key, w), nothing())
	}
}

// P14.2: whatever the order of the writers, and however often they stand there, the same is there.
func TestOnlyOfOrders(t *testing.T) {
	l := some()
	for _, key := range []string{"x", "y", "a", "b"} {
		w := Writers(l, key)
		for seed := range uint64(200) {
			roll := dice(seed)
			var part []api.Writer
			for _, one := range w {
				if roll(3) > 0 {
					part = append(part, one)
				}
			}
			want := onlyOf(l, key, part)
			for range 4 {
				mustCell(t, fmt.Sprint("Only of ", part), Only(l, key, part), want)
				part = append(part, part[:roll(len(part)+1)]...)
				for at := range part {
					other := roll(at + 1)
					part[at], part[other] = part[other], part[at]
				}
			}
		}
	}
}

// P14.2, P14.4: numbers of every kind, the zeros apart, all NaNs one.
func TestNumbers(t *testing.T) {
	a, b, c := id(1, 1), id(1, 2), id(1, 3)
	for _, f := range numbers() {
		for _, g := range numbers() {
			l := items(item(a, put("x", f)), item(b, add("x", g)), item(c, get("x"), put("y", g), del("z")))
			mustHold(t, l)
			mustCell(t, "Cell", Cell(l, "x"), has(canon(f+g)))
			mustCell(t, "Only of the put", Only(l, "x", writers(by(a, 0))), has(canon(f)))
			// Of nothing an add makes a sum with +0, so that of -0 comes +0.
			mustCell(t, "Only of the add", Only(l, "x", writers(by(b, 0))), has(canon(0+g)))
			mustCell(t, "Cell of y", Cell(l, "y"), has(canon(g)))
		}
	}
	l := items(item(a, add("x", minusZero()), put("y", minusZero())), item(b, add("y", minusZero())))
	mustCell(t, "an add of -0", Cell(l, "x"), has(0))
	mustCell(t, "a put of -0", Only(l, "y", writers(by(a, 1))), has(minusZero()))
	mustCell(t, "-0 and -0", Cell(l, "y"), has(minusZero()))
	mustCell(t, "only the add of -0", Only(l, "y", writers(by(b, 0))), has(0))
	l = items(item(a, put("x", math.Inf(1))), item(b, add("x", math.Inf(-1))), item(c, put("x", 1)))
	mustCell(t, "both infinities", Only(l, "x", writers(by(a, 0), by(b, 0))), has(nan()))
	mustCell(t, "one infinity", Only(l, "x", writers(by(b, 0))), has(math.Inf(-1)))
}

// P14.3: are a's writers the first ones of b?
func TestPrefix(t *testing.T) {
	w := writers(by(id(1, 1), 0), by(id(1, 1), 1), by(id(0, 9), 0), by(id(1, 1), 0), by(id(2, 1), 7))
	for _, s := range []struct {
		name string
		a, b []api.Writer
		want bool
	}{
		{"none of none", nil, nil, true},
		{"none of none, empty", writers(), writers(), true},
		{"nil of empty", nil, writers(), true},
		{"empty of nil", writers(), nil, true},
		{"none of some", nil, w, true},
		{"empty of some", writers(), w, true},
		{"some of none", w, nil, false},
		{"some of empty", w, writers(), false},
		{"one of none", w[:1], nil, false},
		{"a zero one of none", make([]api.Writer, 1), nil, false},
		{"none of a zero one", nil, make([]api.Writer, 1), true},
		{"itself", w, w, true},
		{"the same in new memory", w, slices.Clone(w), true},
		{"the first", w[:1], w, true},
		{"the first ones", w[:3], w, true},
		{"all but the last", w[:4], w, true},
		{"one more", joined(w, by(id(3, 3), 3)), w, false},
		{"one more, a zero one", joined(w, api.Writer{}), w, false},
		{"the last ones", w[1:], w, false},
		{"those in the midst", w[2:4], w, false},
		{"the last one", w[4:], w, false},
		{"with a gap", writers(w[0], w[2]), w, false},
		{"another order", writers(w[1], w[0]), w, false},
		{"the first twice", writers(w[0], w[0]), w, false},
		{"the first one, as it comes again", w[3:4], w, true},
	} {
		if got := Prefix(s.a, s.b); got != s.want {
			t.Errorf("%s: Prefix of %v and %v: %v", s.name, s.a, s.b, got)
		}
	}
	for n := range len(w) + 1 {
		for m := range len(w) + 1 {
			if got := Prefix(w[:n], w[:m]); got != (n <= m) {
				t.Errorf("Prefix of the first %d and %d: %v", n, m, got)
			}
		}
	}
}

// P14.3: lists that differ in one writer alone, by its replica, its slot or its place, wherever it stands.
func TestPrefixOfOthers(t *testing.T) {
	w := writers(by(id(1, 1), 0), by(id(1, 1), 1), by(id(0, 9), 0), by(id(1, 1), 0), by(id(2, 1), 7))
	for at := range w {
		for _, other := range []api.Writer{
			by(id(w[at].Id.Rep+1, w[at].Id.Slot), w[at].At), by(id(w[at].Id.Rep, w[at].Id.Slot+1), w[at].At), by(w[at].Id, w[at].At+1),
			by(id(w[at].Id.Rep+1<<32, w[at].Id.Slot), w[at].At), by(id(w[at].Id.Rep, w[at].Id.Slot+1<<32), w[at].At), by(w[at].Id, w[at].At+1<<32),
			by(id(-w[at].Id.Rep-1, w[at].Id.Slot), w[at].At), by(w[at].Id, -1), by(id(w[at].Id.Slot, w[at].Id.Rep), -w[at].At-1), {Id: id(9, 9), At: 9},
		} {
			o := slices.Clone(w)
			o[at] = other
			for n := range len(w) + 1 {
				for m := range len(w) + 1 {
					want := n <= m && n <= at
					if Prefix(o[:n], w[:m]) != want || Prefix(w[:n], o[:m]) != want {
						t.Errorf("Prefix of the first %d and %d that differ at %d is not %v", n, m, at, want)
					}
				}
			}
		}
	}
}

// P14.3: all pairs of short lists of three writers.
func TestPrefixOfShortLists(t *testing.T) {
	one := writers(by(id(1, 1), 0), by(id(1, 1), 1), by(id(1, 2), 0))
	all, last := [][]api.Writer{nil}, [][]api.Writer{nil}
	for range 3 {
		var longer [][]api.Writer
		for _, l := range last {
			for _, w := range one {
				longer = append(longer, joined(l, w))
			}
		}
		all, last = append(all, longer...), longer
	}
	for _, a := range all {
		for _, b := range all {
			want := len(a) <= len(b) && slices.Equal(a, b[:min(len(a), len(b))])
			if got := Prefix(a, b); got != want {
				t.Errorf("Prefix of %v and %v: %v", a, b, got)
			}
		}
	}
}

// P14.1, P14.3: the writers of the first items are the first ones of all writers.
func TestWritersOfBeginnings(t *testing.T) {
	l := some()
	for n := range len(l) + 1 {
		for _, key := range named(l) {
			if !Prefix(Writers(l[:n], key), Writers(l, key)) {
				t.Errorf("the writers of %.20q of the first %d items are not the first ones", key, n)
			}
		}
	}
}

// P14.1 to P14.4: items of chance, with such as may not be applied, against what is told of them once more.
func TestOfChance(t *testing.T) {
	for seed := range uint64(1500) {
		roll := dice(seed)
		l := randomItems(roll, roll(9))
		mustHold(t, l)
		for _, key := range []string{"a", "aa", "b", "0", "x"} {
			for range 3 {
				w := randomWriters(roll, l)
				mustCell(t, fmt.Sprint("Only of ", w), Only(l, key, w), onlyOf(l, key, w))
			}
		}
		if t.Failed() {
			t.Fatalf("seed %d: %v", seed, l)
		}
	}
}

// The same call answers the same, as often as it is made.
func TestAgainAndAgain(t *testing.T) {
	l := some()
	w := Writers(l, "x")
	for range 50 {
		mustHold(t, l)
		mustCell(t, "Only", Only(l, "x", w[3:]), has(-6))
	}
}

// A list that is handed out is new: writing into it, its spare room too, changes nothing.
func TestAnswersAreNew(t *testing.T) {
	for n := range 40 {
		l := items(item(id(1, 1), get("x")), item(id(1, 2)))
		for at := range n {
			l = append(l, item(id(2, at), add("x", 1)))
		}
		w, told := Writers(l, "x"), Results(l)
		again, toldAgain := Writers(l, "x"), Results(l)
		for at := range w[:cap(w)] {
			w[:cap(w)][at] = by(id(99, 99), 99)
		}
		for at := range told[:cap(told)] {
			told[:cap(told)][at] = tells(id(99, 99), 99, has(99))
		}
		s := tell(l)
		if !slices.Equal(again, s.logs["x"]) {
			t.Errorf("the writers became %v", again)
		}
		mustTell(t, toldAgain, s.told)
		mustHold(t, l)
	}
}

// roomy are items with spare room behind them and behind each batch.
func roomy() (all []Item, rooms [][]api.Cmd) {
	for n, one := range some() {
		room := slices.Concat(cmds(put("ahead", 1)), one.Batch, cmds(put("behind", of(0xffffffffffffffff)), api.Cmd{Kind: 9, Key: "?", Value: float64(n)}))
		rooms = append(rooms, room)
		all = append(all, Item{one.Id, room[1 : 1+len(one.Batch)]})
	}
	return append(all, item(id(8, 8), put("spare", 1)), item(id(9, 9), api.Cmd{Kind: 7})), rooms
}

// sameCmds tells whether two lists of commands are the same to the bit.
func sameCmds(a, b []api.Cmd) bool {
	return slices.EqualFunc(a, b, func(c, o api.Cmd) bool {
		return c.Kind == o.Kind && c.Key == o.Key && math.Float64bits(c.Value) == math.Float64bits(o.Value)
	})
}

// What the calls are handed is as it was, its spare room too.
func TestArgumentsStay(t *testing.T) {
	all, rooms := roomy()
	kept, keptRooms := roomy()
	w := writers(by(id(1, 1), 0), by(id(0, 4), 0), by(id(0, 4), 0), by(id(0, 4), 2), by(id(7, 7), 7), by(id(2, 9), 4))
	keptW := slices.Clone(w)
	for n := range len(some()) + 1 {
		for _, key := range named(all) {
			Cell(all[:n], key)
			Writers(all[:n], key)
			Only(all[:n], key, w[:3])
			Only(all[:n], key, w[1:5])
		}
		Results(all[:n])
		Prefix(w[:n], w[1:])
		Prefix(w[2:], w[:n])
	}
	for at, one := range all {
		if one.Id != kept[at].Id || !sameCmds(one.Batch, kept[at].Batch) {
			t.Errorf("the item %d became %v", at, one)
		}
	}
	for at, room := range rooms {
		if !sameCmds(room, keptRooms[at]) {
			t.Errorf("the room of the batch %d became %v", at, room)
		}
	}
	if !slices.Equal(w, keptW) {
		t.Error("the writers became", w)
	}
}

// What the calls are handed is not kept: writing into it later changes nothing that was handed out.
func TestArgumentsAreNotKept(t *testing.T) {
	all, rooms := roomy()
	l, s := all[:len(some())], tell(some())
	told, got := Results(l), map[string][]api.Writer{}
	for key := range s.logs {
		got[key] = Writers(l, key)
	}
	for _, room := range rooms {
		for at := range room {
			room[at] = put("spoilt", 77)
		}
	}
	for at := range all {
		all[at] = item(id(77, 77), put("spoilt", 77))
	}
	mustTell(t, told, s.told)
	for key, w := range s.logs {
		if !slices.Equal(got[key], w) {
			t.Errorf("the writers of %q became %v", key, got[key])
		}
	}
	mustHold(t, all)
	mustHold(t, some())
}

// Many items are gone through whole.
func TestMany(t *testing.T) {
	var l []Item
	want := api.Cell{}
	for n := range 20000 {
		l = append(l, item(id(n%8, n), add("all", 1), put("k", float64(n)), get("all")))
		if n%2 == 1 {
			want = has(want.Value + 1)
		}
	}
	w := Writers(l, "all")
	if len(w) != 20000 || len(Results(l)) != 60000 {
		t.Fatal("so many writers and results:", len(w), len(Results(l)))
	}
	mustCell(t, "Cell", Cell(l, "all"), has(20000))
	mustCell(t, "Only of all", Only(l, "all", w), has(20000))
	w = slices.DeleteFunc(w, func(one api.Writer) bool { return one.Id.Slot%2 == 0 })
	mustCell(t, "Only of every second one", Only(l, "all", w), want)
	if all := Writers(l, "k"); !Prefix(all[:19999], all) || Prefix(all[1:], all) || Prefix(joined(all, all[0]), all) {
		t.Error("Prefix of many")
	}
}

// dice answers numbers from 0 to n - 1 that look like chance, the same ones each time.
func dice(seed uint64) func(n int) int {
	seed = seed*0x9e3779b97f4a7c15 + 1
	return func(n int) int {
		seed = seed*6364136223846793005 + 1442695040888963407
		return int(seed>>33) % n
	}
}

// randomItems are n items of few ids, keys and numbers, some of which may not be applied.
func randomItems(roll func(n int) int, n int) []Item {
	keys := []string{"a", "aa", "b", "0", "x", "twelve12char"}
	var l []Item
	for range n {
		one := Item{Id: ids()[roll(4)], Batch: make([]api.Cmd, roll(10))}
		for at := range one.Batch {
			c := api.Cmd{Kind: 1 + roll(4), Key: keys[roll(len(keys))]}
			if c.Kind == api.Put || c.Kind == api.Add {
				c.Value = numbers()[roll(len(numbers()))]
			}
			if roll(25) == 0 {
				c = wrong()[roll(len(wrong()))]
			}
			one.Batch[at] = c
		}
		l = append(l, one)
	}
	return l
}

// randomWriters are writers of l, some of them twice, and others that l has not.
func randomWriters(roll func(n int) int, l []Item) []api.Writer {
	var w []api.Writer
	for _, one := range l {
		for at := -1; at <= len(one.Batch); at++ {
			for range roll(3) {
				w = append(w, by(one.Id, at))
			}
		}
		w = append(w, by(ids()[roll(len(ids()))], roll(8)))
	}
	for at := range w {
		other := roll(at + 1)
		w[at], w[other] = w[other], w[at]
	}
	return w
}
