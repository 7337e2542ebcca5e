package vault

import (
	"encoding/binary"
	"fmt"
	"hash/fnv"
	"math"
	"slices"
	"strings"
	"testing"
	"unsafe"

	"cortege/api"
	"cortege/batch"
)

const oneNaN uint64 = 0x7ff8000000000001

func of(bits uint64) float64 { return math.Float64frombits(bits) }

func nan() float64       { return of(oneNaN) }
func minusZero() float64 { return math.Copysign(0, -1) }

func id(rep, slot int) api.Id { return api.Id{Rep: rep, Slot: slot} }

func get(key string) api.Cmd            { return api.Cmd{Kind: api.Get, Key: key} }
func put(key string, f float64) api.Cmd { return api.Cmd{Kind: api.Put, Key: key, Value: f} }
func del(key string) api.Cmd            { return api.Cmd{Kind: api.Delete, Key: key} }
func add(key string, f float64) api.Cmd { return api.Cmd{Kind: api.Add, Key: key, Value: f} }

func cmds(l ...api.Cmd) []api.Cmd       { return l }
func cells(l ...api.Cell) []api.Cell    { return l }
func log(l ...api.Writer) []api.Writer  { return l }
func by(i api.Id, at int) api.Writer    { return api.Writer{Id: i, At: at} }
func has(f float64) api.Cell            { return api.Cell{Found: true, Value: f} }
func nothing() api.Cell                 { return api.Cell{} }
func item(i api.Id, l ...api.Cmd) entry { return entry{i, l} }

// nans are NaNs of many bits: quiet and signalling, of either sign.
func nans() []float64 {
	return []float64{nan(), of(0x7ff8000000000000), of(0x7ff0000000000001), of(0x7fffffffffffffff), of(0xfff8000000000001), of(0xffffffffffffffff)}
}

// numbers are others than NaN, each once.
func numbers() []float64 {
	return []float64{
		0, minusZero(), 1, -1, 0.5, 2.5, -3, 0.1, 1 << 53, math.MaxFloat64, -math.MaxFloat64,
		math.SmallestNonzeroFloat64, -math.SmallestNonzeroFloat64, math.Inf(1), math.Inf(-1),
	}
}

// ids are ids of any numbers, those that no id may have, too.
func ids() []api.Id {
	return []api.Id{
		{}, id(0, 1), id(7, 1<<20), id(1, 2), id(2, 1), id(-1, -1), id(8, 0), id(0, 1<<20+1), id(1<<32, 1<<32+1),
		id(math.MinInt, math.MaxInt), id(math.MaxInt, math.MinInt),
	}
}

// canon is layer 1's Canon, told by the bits.
func canon(f float64) float64 {
	if f != f {
		return nan()
	}
	return f
}

// equal tells whether two cells are the same to the bit.
func equal(a, b api.Cell) bool {
	return a.Found == b.Found && math.Float64bits(a.Value) == math.Float64bits(b.Value)
}

func showCell(c api.Cell) string {
	return fmt.Sprintf("{%v %v %x}", c.Found, c.Value, math.Float64bits(c.Value))
}

// entry is a batch that was applied.
type entry struct {
	id    api.Id
	batch []api.Cmd
}

// history is what was applied to a vault; from it alone is told once more what the vault must tell.
type history []entry

// tell goes through all commands, and answers what the last one told, and what is there of each key, and its log.
func (h history) tell() (told []api.Result, there map[string]float64, logs map[string][]api.Writer) {
	there, logs = map[string]float64{}, map[string][]api.Writer{}
	for _, one := range h {
		told = nil
		for at, c := range one.batch {
			f, found := there[c.Key]
			cell := api.Cell{Found: found, Value: f}
			switch c.Kind {
			case api.Put:
				there[c.Key] = canon(c.Value)
			case api.Delete:
				delete(there, c.Key)
			case api.Add:
				cell = has(canon(f + c.Value))
				there[c.Key] = cell.Value
			}
			if c.Kind != api.Get {
				logs[c.Key] = append(logs[c.Key], by(one.id, at))
			}
			told = append(told, api.Result{Id: one.id, At: at, Cell: cell})
		}
	}
	return told, there, logs
}

// named are all keys that a command had, and some that none has.
func (h history) named() []string {
	keys := []string{"", "never", "A", "a b", "\x00", "\xff", "thirteen13cha", strings.Repeat("k", 1000)}
	for _, one := range h {
		for _, c := range one.batch {
			if !slices.Contains(keys, c.Key) {
				keys = append(keys, c.Key)
			}
		}
	}
	return keys
}

// digestOf is the digest of what there is, told once more by the document's words.
func digestOf(there map[string]float64) uint64 {
	sum := uint64(0)
	for _, key := range inOrder(there) {
		one, both := fnv.New64a(), fnv.New64a()
		one.Write(binary.BigEndian.AppendUint64([]byte(key), math.Float64bits(there[key])))
		both.Write(binary.BigEndian.AppendUint64(binary.BigEndian.AppendUint64(nil, sum), one.Sum64()))
		sum = both.Sum64()
	}
	return sum
}

// inOrder are the keys, put in order byte by byte.
func inOrder(there map[string]float64) []string {
	var keys []string
	for key := range there {
		keys = append(keys, key)
	}
	slices.SortFunc(keys, func(a, b string) int {
		for at := 0; at < len(a) && at < len(b); at++ {
			if a[at] != b[at] {
				return int(a[at]) - int(b[at])
			}
		}
		return len(a) - len(b)
	})
	return keys
}

// mustHold holds all that v tells against what was applied to it.
func mustHold(t *testing.T, v *Vault, h history) {
	t.Helper()
	_, there, logs := h.tell()
	for _, key := range h.named() {
		f, found := there[key]
		if got, want := v.Get(key), (api.Cell{Found: found, Value: f}); !equal(got, want) {
			t.Errorf("Get of %.20q: %s, not %s", key, showCell(got), showCell(want))
		}
		if got := v.Log(key); !slices.Equal(got, logs[key]) {
			t.Errorf("Log of %.20q: %v, not %v", key, got, logs[key])
		}
	}
	if got, want := v.Keys(), inOrder(there); !slices.Equal(got, want) {
		t.Errorf("Keys: %q, not %q", got, want)
	}
	if got := v.Count(); got != int64(len(h)) {
		t.Errorf("Count: %d, not %d", got, len(h))
	}
	if got, want := v.Digest(), digestOf(there); got != want {
		t.Errorf("Digest: %#x, not %#x", got, want)
	}
}

// mustTell holds the results of one batch against what its commands must tell.
func mustTell(t *testing.T, got []api.Result, i api.Id, want []api.Cell) {
	t.Helper()
	if len(got) != len(want) {
		t.Fatalf("told %v, not %v", got, want)
	}
	for at, r := range got {
		if r.Id != i || r.At != at || !equal(r.Cell, want[at]) {
			t.Errorf("the place %d of %v told %v, not %s", at, i, r, showCell(want[at]))
		}
	}
}

// mustApply applies a batch that may be, and holds what it tells against what it must tell.
func mustApply(t *testing.T, v *Vault, i api.Id, l []api.Cmd, want []api.Cell) {
	t.Helper()
	got, e := v.Apply(i, l)
	if e != api.OK {
		t.Fatalf("Apply of %v: %v", l, e)
	}
	mustTell(t, got, i, want)
}

// applied answers a vault to which all of h was applied.
func applied(t *testing.T, h history) *Vault {
	t.Helper()
	v := New()
	goOn(t, v, nil, h)
	return v
}

// goOn applies more to a vault to which h was applied, holds what each batch tells, and answers all of it.
func goOn(t *testing.T, v *Vault, h, more history) history {
	t.Helper()
	for _, one := range more {
		h = append(slices.Clip(h), one)
		told, _, _ := h.tell()
		var want []api.Cell
		for _, r := range told {
			want = append(want, r.Cell)
		}
		mustApply(t, v, one.id, one.batch, want)
	}
	return h
}

// mustBeSame holds Same of two vaults, either way round, against what it must be.
func mustBeSame(t *testing.T, a, b *Vault, want bool) {
	t.Helper()
	if got, back := a.Same(b), b.Same(a); got != want || back != want {
		t.Errorf("Same: %v, and the other way round %v, not %v", got, back, want)
	}
}

// wrong are commands that may not be.
func wrong() []api.Cmd {
	return cmds(
		api.Cmd{}, api.Cmd{Key: "a"}, api.Cmd{Kind: 5, Key: "a"}, api.Cmd{Kind: -1, Key: "a", Value: 1}, api.Cmd{Kind: 1<<32 + 2, Key: "a"},
		put("", 1), put("A", 1), put("a b", 1), put("thirteen13cha", 1), put("a\x00", 1), put("é", 1), get(""), add("_", 1), del("-"),
		api.Cmd{Kind: api.Get, Key: "a", Value: 1}, api.Cmd{Kind: api.Get, Key: "a", Value: minusZero()}, api.Cmd{Kind: api.Get, Key: "a", Value: nan()},
		api.Cmd{Kind: api.Delete, Key: "a", Value: -1}, api.Cmd{Kind: api.Delete, Key: "a", Value: minusZero()}, api.Cmd{Kind: api.Delete, Key: "a", Value: nan()},
	)
}

// some is a history with all kinds, keys that are there, that were deleted, and that were only asked for.
func some() history {
	return history{
		item(id(1, 1), add("x", 2), put("y", 3), get("z")),
		item(id(0, 4), add("x", 0.5), del("y"), get("y"), put("ab", minusZero()), put("a", nan())),
		item(id(0, 4)),
		item(id(2, 9), del("w"), put("b", math.Inf(1)), add("b", math.Inf(-1)), put("0", 0)),
	}
}

// P13.1: a new vault has nothing, and nothing of what another one has.
func TestNew(t *testing.T) {
	applied(t, some())
	v := New()
	mustHold(t, v, nil)
	if l := v.Keys(); len(l) != 0 {
		t.Error("Keys:", l)
	}
	if n := v.Count(); n != 0 {
		t.Error("Count:", n)
	}
	if d := v.Digest(); d != 0 {
		t.Errorf("Digest: %#x", d)
	}
	if v == New() {
		t.Error("the same vault twice")
	}
}

// The chapter's example.
func TestExample(t *testing.T) {
	v := New()
	mustApply(t, v, id(1, 1), cmds(put("a", 1)), cells(nothing()))
	mustApply(t, v, id(1, 2), cmds(get("a")), cells(has(1)))
	if l := v.Log("a"); len(l) != 1 || l[0] != by(id(1, 1), 0) {
		t.Error("Log:", l)
	}
}

// P13.1: each kind on a key that has nothing, and on one that has a number, in a batch of its own.
func TestApplyOfOne(t *testing.T) {
	i := id(3, 5)
	for _, s := range []struct {
		c    api.Cmd
		was  api.Cell
		told api.Cell
		then api.Cell
		logs bool
	}{
		{get("k"), nothing(), nothing(), nothing(), false},
		{get("k"), has(2), has(2), has(2), false},
		{put("k", 1.5), nothing(), nothing(), has(1.5), true},
		{put("k", 1.5), has(2), has(2), has(1.5), true},
		{put("k", 2), has(2), has(2), has(2), true},
		{del("k"), nothing(), nothing(), nothing(), true},
		{del("k"), has(2), has(2), nothing(), true},
		{add("k", 1.5), nothing(), has(1.5), has(1.5), true},
		{add("k", 1.5), has(2), has(3.5), has(3.5), true},
		{add("k", minusZero()), nothing(), has(0), has(0), true},
		{add("k", minusZero()), has(minusZero()), has(minusZero()), has(minusZero()), true},
		{put("k", of(0xfff8000000000007)), has(1), has(1), has(nan()), true},
		{add("k", math.Inf(-1)), has(math.Inf(1)), has(nan()), has(nan()), true},
		{get("k"), has(of(0xffffffffffffffff)), has(nan()), has(nan()), false},
		{del("k"), has(of(0x7ff0000000000001)), has(nan()), nothing(), true},
	} {
		v := New()
		var want []api.Writer
		if s.was.Found {
			mustApply(t, v, id(0, 1), cmds(get("other"), put("k", s.was.Value)), cells(nothing(), nothing()))
			want = log(by(id(0, 1), 1))
		}
		mustApply(t, v, i, cmds(s.c), cells(s.told))
		if got := v.Get("k"); !equal(got, s.then) {
			t.Errorf("%v behind %s: %s, not %s", s.c, showCell(s.was), showCell(got), showCell(s.then))
		}
		if s.logs {
			want = append(want, by(i, 0))
		}
		if got := v.Log("k"); !slices.Equal(got, want) {
			t.Errorf("%v behind %s: the log %v, not %v", s.c, showCell(s.was), got, want)
		}
	}
}

// P13.1: commands of one batch, each behind those ahead of it, of its own key.
func TestApplyInOrder(t *testing.T) {
	v := New()
	first := cmds(get("a"), put("a", 1), get("a"), add("a", 2), get("a"), del("a"), get("a"), add("a", 5))
	mustApply(t, v, id(1, 1), first, cells(nothing(), nothing(), has(1), has(3), has(3), has(3), nothing(), has(5)))
	mixed := cmds(add("b", 1), add("a", 1), put("b", 7), del("a"), get("b"), get("a"), add("a", 0.25), del("c"))
	mustApply(t, v, id(1, 2), mixed, cells(has(1), has(6), has(1), has(6), has(7), nothing(), has(0.25), nothing()))
	mustApply(t, v, id(1, 3), cmds(get("a"), get("b"), get("c")), cells(has(0.25), has(7), nothing()))
	mustHold(t, v, history{item(id(1, 1), first...), item(id(1, 2), mixed...), item(id(1, 3), get("a"))})
}

// P13.1: batches of none up to MaxBatch commands: as many results, each with its place.
func TestApplyOfLengths(t *testing.T) {
	for n := range api.MaxBatch + 1 {
		for _, kind := range []int{api.Get, api.Put, api.Delete, api.Add} {
			h := applied(t, some())
			l := slices.Repeat(cmds(api.Cmd{Kind: kind, Key: "x"}), n)
			goOn(t, h, some(), history{item(id(4, 4), l...)})
			mustHold(t, h, append(some(), item(id(4, 4), l...)))
		}
	}
	if l, e := New().Apply(id(1, 1), nil); len(l) != 0 || e != api.OK {
		t.Error("Apply of nil:", l, e)
	}
	if l, e := New().Apply(id(1, 1), cmds()); len(l) != 0 || e != api.OK {
		t.Error("Apply of nothing:", l, e)
	}
}

// mustRefuse holds that Apply answers just the error, and that nothing has changed.
func mustRefuse(t *testing.T, v *Vault, h history, l []api.Cmd, want api.Errno) {
	t.Helper()
	before := v.Twin()
	if got, e := v.Apply(id(6, 6), l); len(got) != 0 || e != want {
		t.Errorf("Apply of %v: %v, %v, not %v", l, got, e, want)
	}
	if !v.Same(before) || v.Digest() != before.Digest() || v.Count() != int64(len(h)) {
		t.Errorf("Apply of %v has done something", l)
	}
}

// P13.1: batches that may not be are told their error, and do nothing, wherever what is wrong stands.
func TestApplyOfBadBatches(t *testing.T) {
	v := applied(t, some())
	good := cmds(add("x", 1), put("new", 2), del("b"), get("x"), put("y", 1), del("gone"), add("a", 1))
	for _, c := range wrong() {
		mustRefuse(t, v, some(), cmds(c), api.ErrCmd)
		for at := range len(good) + 1 {
			mustRefuse(t, v, some(), slices.Insert(slices.Clone(good), at, c), api.ErrCmd)
			mustRefuse(t, v, some(), slices.Insert(slices.Repeat(good, 2), at, c), api.ErrLen)
		}
		mustRefuse(t, New(), nil, cmds(c), api.ErrCmd)
	}
	mustRefuse(t, v, some(), make([]api.Cmd, api.MaxBatch), api.ErrCmd)
	mustRefuse(t, v, some(), make([]api.Cmd, api.MaxBatch+1), api.ErrLen)
	for _, n := range []int{api.MaxBatch + 1, 2 * api.MaxBatch, 256, 257, 1 << 16} {
		mustRefuse(t, v, some(), slices.Repeat(cmds(put("x", 1)), n), api.ErrLen)
		mustRefuse(t, v, some(), slices.Repeat(cmds(get("x")), n), api.ErrLen)
	}
	mustHold(t, v, some())
	// What comes behind finds nothing of them.
	goOn(t, v, some(), history{item(id(1, 1), get("x"), get("new"), get("b"), get("y"), get("gone"), get("a"))})
}

// P13.1: the id may be any, and come as often as it likes.
func TestApplyOfAnyId(t *testing.T) {
	v, h := New(), history{}
	for range 2 {
		for _, i := range ids() {
			h = goOn(t, v, h, history{item(i, add("k", 1), get("k"), del("none")), item(i, put("j", 2))})
		}
	}
	mustHold(t, v, h)
	if n := len(v.Log("k")); n != 2*len(ids()) {
		t.Error("the log has", n)
	}
}

// P13.1 to P13.4: a nil vault has nothing, and takes nothing.
func TestNil(t *testing.T) {
	var v *Vault
	for range 2 {
		for _, l := range [][]api.Cmd{nil, cmds(), cmds(put("a", 1)), wrong(), cmds(api.Cmd{}), make([]api.Cmd, 9)} {
			if told, e := v.Apply(id(1, 1), l); len(told) != 0 || e != api.ErrNil {
				t.Errorf("Apply of %v: %v, %v", l, told, e)
			}
		}
		mustHold(t, v, nil)
		if c := v.Get("a"); c != nothing() {
			t.Error("Get:", c)
		}
		if l := v.Log("a"); len(l) != 0 {
			t.Error("Log:", l)
		}
		if o := v.Twin(); o != nil {
			t.Error("Twin:", o)
		}
		if n, d := v.Count(), v.Digest(); n != 0 || d != 0 {
			t.Error("Count, Digest:", n, d)
		}
		mustBeSame(t, v, nil, true)
		mustBeSame(t, v, New(), true)
		mustBeSame(t, v, applied(t, some()), false)
	}
}

// P13.2: keys that were never named, that were deleted, that no key may be.
func TestGet(t *testing.T) {
	v := New()
	odd := []string{"", "never", "A", " ", "a ", "a\x00", "\xff", "thirteen13cha", strings.Repeat("a", 1<<20)}
	ask := func() {
		for _, key := range odd {
			if c := v.Get(key); c != nothing() {
				t.Errorf("Get of %.20q: %v", key, c)
			}
			if l := v.Log(key); len(l) != 0 {
				t.Errorf("Log of %.20q: %v", key, l)
			}
		}
	}
	ask()
	mustApply(t, v, id(1, 1), cmds(put("a", 1), put("twelve12char", 2), get("never"), put("0", 3)), make([]api.Cell, 4))
	ask()
	mustApply(t, v, id(1, 2), cmds(del("a")), cells(has(1)))
	if c := v.Get("a"); c != nothing() {
		t.Error("Get of what was deleted:", c)
	}
	if c := v.Get("twelve12char"); c != has(2) {
		t.Error("Get of twelve letters:", c)
	}
	if c := v.Get("0"); c != has(3) {
		t.Error("Get of a digit:", c)
	}
	ask()
	if l := v.Keys(); !slices.Equal(l, []string{"0", "twelve12char"}) {
		t.Error("Keys:", l)
	}
}

// P13.2: all numbers are got as they were put, the zeros apart, all NaNs one.
func TestGetOfNumbers(t *testing.T) {
	for _, f := range append(nans(), numbers()...) {
		v := New()
		mustApply(t, v, id(1, 1), cmds(put("a", f), get("a")), cells(nothing(), has(canon(f))))
		mustHold(t, v, history{item(id(1, 1), put("a", f))})
		mustApply(t, v, id(1, 2), cmds(add("a", 1), put("a", f), put("a", 0)), cells(has(canon(f+1)), has(canon(f+1)), has(canon(f))))
	}
}

// P13.2: the keys that have a number, in order, whatever the order in which they came.
func TestKeys(t *testing.T) {
	order := []string{"0", "00", "01", "0a", "1", "10", "2", "9", "9z", "a", "a0", "a9", "aa", "aaaaaaaaaaaa", "ab", "b", "ba", "twelve12char", "z", "z0", "zz"}
	for seed := range uint64(40) {
		roll, v := dice(seed), New()
		there := map[string]bool{}
		for range 120 {
			key := order[roll(len(order))]
			switch roll(4) {
			case 0:
				v.Apply(id(1, 1), cmds(del(key)))
				delete(there, key)
			case 1:
				v.Apply(id(1, 1), cmds(put(key, 0)))
				there[key] = true
			case 2:
				v.Apply(id(1, 1), cmds(add(key, nan())))
				there[key] = true
			case 3:
				v.Apply(id(1, 1), cmds(get(key)))
			}
			var want []string
			for _, one := range order {
				if there[one] {
					want = append(want, one)
				}
			}
			if got := v.Keys(); !slices.Equal(got, want) {
				t.Fatalf("Keys: %q, not %q", got, want)
			}
		}
	}
}

// P13.2: a key that was deleted is no key, and is one again when it was put, or added to.
func TestKeysBehindDelete(t *testing.T) {
	v := New()
	want := func(keys ...string) {
		t.Helper()
		if got := v.Keys(); !slices.Equal(got, keys) {
			t.Errorf("Keys: %q, not %q", got, keys)
		}
	}
	v.Apply(id(1, 1), cmds(get("b"), del("c")))
	want()
	v.Apply(id(1, 2), cmds(put("b", 0), put("a", minusZero())))
	want("a", "b")
	v.Apply(id(1, 3), cmds(del("a")))
	want("b")
	v.Apply(id(1, 4), cmds(put("a", 1), del("b")))
	want("a")
	v.Apply(id(1, 5), cmds(add("b", 1)))
	want("a", "b")
	v.Apply(id(1, 6), cmds(del("a"), del("b"), put("b", 1), del("b")))
	want()
}

// P13.2: a key's log has all that wrote it, in order, by instance and place.
func TestLog(t *testing.T) {
	v := New()
	want := func(key string, l ...api.Writer) {
		t.Helper()
		if got := v.Log(key); !slices.Equal(got, l) {
			t.Errorf("Log of %q: %v, not %v", key, got, l)
		}
	}
	first, second, third := id(5, 1), id(1, 9), id(1, 2)
	v.Apply(first, cmds(get("a"), put("a", 1), put("b", 1), add("a", 1)))
	want("a", by(first, 1), by(first, 3))
	want("b", by(first, 2))
	v.Apply(second, cmds(get("a"), get("b"), get("c")))
	want("a", by(first, 1), by(first, 3))
	want("b", by(first, 2))
	want("c")
	v.Apply(third, cmds(del("c"), del("a"), get("a"), del("a")))
	want("a", by(first, 1), by(first, 3), by(third, 1), by(third, 3))
	want("b", by(first, 2))
	want("c", by(third, 0))
	// A number that is put once more, and the same id once more, are logged as any other.
	v.Apply(second, cmds(put("b", 1)))
	v.Apply(second, cmds(put("b", 1)))
	want("b", by(first, 2), by(second, 0), by(second, 0))
	v.Apply(first, slices.Repeat(cmds(add("d", 0)), 8))
	want("d", by(first, 0), by(first, 1), by(first, 2), by(first, 3), by(first, 4), by(first, 5), by(first, 6), by(first, 7))
	// What may not be is not logged, nor is what stands with it.
	v.Apply(first, cmds(put("b", 1), put("B", 1)))
	v.Apply(first, slices.Repeat(cmds(put("b", 1)), 9))
	want("b", by(first, 2), by(second, 0), by(second, 0))
	want("B")
}

// P13.2: batches count, those without a command and with reads alone, too, but none that may not be.
func TestCount(t *testing.T) {
	v := New()
	for n := range int64(50) {
		if got := v.Count(); got != 5*n {
			t.Fatalf("Count: %d, not %d", got, 5*n)
		}
		v.Apply(id(1, 1), nil)
		v.Apply(id(1, 1), cmds())
		v.Apply(id(1, 1), cmds(get("a")))
		v.Apply(id(1, 1), cmds(put("a", 1), put("b", 1)))
		v.Apply(id(1, 1), make([]api.Cmd, 9))
		v.Apply(id(1, 1), make([]api.Cmd, 1))
		v.Apply(id(1, 1), cmds(put("a", 1), put("A", 1)))
		v.Apply(id(1, 1), slices.Repeat(cmds(del("a")), 8))
	}
}

// P13.3: digests that were worked out apart from the program.
func TestDigest(t *testing.T) {
	for _, s := range []struct {
		l    []api.Cmd
		want uint64
	}{
		{cmds(), 0},
		{cmds(get("a"), del("b")), 0},
		{cmds(put("a", 1)), 0xad5815fbf2e46cf3},
		{cmds(put("a", 0)), 0xbf9c3ebd36f9e577},
		{cmds(put("a", minusZero())), 0x677cf202088989bb},
		{cmds(add("a", minusZero())), 0xbf9c3ebd36f9e577},
		{cmds(put("a", math.Inf(1))), 0x6eb6bee5f4fca77a},
		{cmds(put("a", math.Inf(-1))), 0x2dc48d75afded437},
		{cmds(put("a", nan())), 0x0889c7aba2c6ac56},
		{cmds(put("a", of(0xffffffffffffffff))), 0x0889c7aba2c6ac56},
		{cmds(put("b", 1)), 0x152d7d872f8da1e8},
		{cmds(put("aa", 1)), 0xadb56db0b55a47a3},
		{cmds(put("a", 1.5)), 0x1c62d5fe8e89a868},
		{cmds(put("a", 1), put("b", 2)), 0xc0804a07a06b3e82},
		{cmds(put("b", 2), put("a", 1)), 0xc0804a07a06b3e82},
		{cmds(put("a", 2), put("b", 1)), 0x3ce2370910f9c5ca},
		{cmds(put("a", 1), put("b", 0), put("ab", -2.5)), 0x07c9d7166467dbdd},
		{cmds(put("z9", math.SmallestNonzeroFloat64), put("twelve12char", nan()), put("a", math.Inf(1)), put("0", minusZero())), 0x8f68c74270c2d7a9},
		// Behind a delete there is nothing of it, whatever the log has.
		{cmds(put("a", 1), del("a")), 0},
		{cmds(put("a", 1), put("b", 7), del("b")), 0xad5815fbf2e46cf3},
		{cmds(put("a", 7), del("a"), add("a", 0.5), add("a", 0.5)), 0xad5815fbf2e46cf3},
	} {
		v := New()
		if _, e := v.Apply(id(1, 1), s.l); e != api.OK {
			t.Fatal(e)
		}
		for range 5 {
			if got := v.Digest(); got != s.want {
				t.Errorf("Digest behind %v: %#x, not %#x", s.l, got, s.want)
			}
		}
	}
}

// P13.3: the digest hangs on the cells alone, whatever the order in which keys came.
func TestDigestOfOrders(t *testing.T) {
	var l []api.Cmd
	for n := range 60 {
		l = append(l, put(fmt.Sprintf("k%d", n*n), float64(n)/8))
	}
	digests := map[uint64]bool{}
	for seed := range uint64(30) {
		roll, v := dice(seed), New()
		for _, at := range shuffled(roll, len(l)) {
			key := l[at].Key
			if roll(3) == 0 {
				v.Apply(id(0, 7), cmds(put(key, 99), del(key)))
			}
			v.Apply(id(roll(8), 1+roll(99)), cmds(get(key), l[at]))
		}
		digests[v.Digest()] = true
		_, there, _ := history{item(id(1, 1), l...)}.tell()
		if want := digestOf(there); v.Digest() != want {
			t.Errorf("Digest: %#x, not %#x", v.Digest(), want)
		}
	}
	if len(digests) != 1 {
		t.Error("digests of one state:", len(digests))
	}
}

// P13.3: what is the same, and what is not, by hand.
func TestSame(t *testing.T) {
	one, two := id(1, 1), id(1, 2)
	for _, s := range []struct {
		name string
		a, b history
		want bool
	}{
		{"nothing", nil, nil, true},
		{"the same", history{item(one, put("a", 1))}, history{item(one, put("a", 1))}, true},
		{"the same by other kinds", history{item(one, put("a", 1))}, history{item(one, add("a", 1))}, true},
		{"with reads", history{item(one, put("a", 1))}, history{item(one, put("a", 1), get("a")), item(two, get("b"))}, true},
		{"with empty batches", history{item(two), item(two)}, nil, true},
		{"NaNs", history{item(one, put("a", nan()))}, history{item(one, put("a", of(0xfff0000000000001)))}, true},
		{"NaN of a sum", history{item(one, put("a", nan()), add("a", 1))}, history{item(one, put("a", math.Inf(1)), add("a", math.Inf(-1)))}, true},
		{"zeros", history{item(one, put("a", 0))}, history{item(one, put("a", minusZero()))}, false},
		{"+0 and nothing", history{item(one, put("a", 0))}, history{item(one, del("a"))}, false},
		{"NaN and a number", history{item(one, put("a", nan()))}, history{item(one, put("a", 1))}, false},
		{"numbers", history{item(one, put("a", 1))}, history{item(one, put("a", 2))}, false},
		{"numbers that are near", history{item(one, put("a", 1))}, history{item(one, put("a", math.Nextafter(1, 2)))}, false},
		{"numbers behind the same", history{item(one, put("a", 1), add("a", 1))}, history{item(one, put("a", 1), add("a", 2))}, false},
		{"other ids", history{item(one, put("a", 1))}, history{item(two, put("a", 1))}, false},
		{"other replicas", history{item(one, put("a", 1))}, history{item(id(2, 1), put("a", 1))}, false},
		{"other places", history{item(one, put("a", 1))}, history{item(one, get("a"), put("a", 1))}, false},
		{"another order", history{item(one, put("a", 1)), item(two, put("a", 1))}, history{item(two, put("a", 1)), item(one, put("a", 1))}, false},
		{"one more", history{item(one, put("a", 1))}, history{item(one, put("a", 1)), item(two, put("a", 1))}, false},
		{"one more, ahead", history{item(one, put("a", 1))}, history{item(two, put("a", 1)), item(one, put("a", 1))}, false},
		{"deletes of nothing", history{item(one, del("a"))}, nil, false},
		{"what was deleted", history{item(one, put("a", 1), del("a"))}, nil, false},
		{"what was deleted once", history{item(one, put("a", 1), del("a"))}, history{item(one, del("a"))}, false},
		{"deleted in either way", history{item(one, put("a", 1), del("a"))}, history{item(one, del("a"), del("a"))}, true},
		{"other keys", history{item(one, put("a", 1))}, history{item(one, put("b", 1))}, false},
		{"other keys deleted", history{item(one, del("a"))}, history{item(one, del("b"))}, false},
		{"a key alone", history{item(one, put("a", 1), put("b", 1))}, history{item(one, put("a", 1))}, false},
		{"as many keys, another one", history{item(one, put("a", 1), put("b", 1))}, history{item(one, put("a", 1), put("c", 1))}, false},
		{"a key alone that was deleted", history{item(one, put("a", 1), del("b"))}, history{item(one, put("a", 1))}, false},
		{"there and not there, logs as long", history{item(one, put("a", 1), del("b"))}, history{item(one, del("a"), put("b", 1))}, false},
		{"keys by turns", history{item(one, put("a", 1), put("b", 2))}, history{item(one, put("a", 2), put("b", 1))}, false},
		{"keys that are beginnings", history{item(one, put("a", 1))}, history{item(one, put("aa", 1))}, false},
		{"keys in another order", history{item(one, put("a", 1)), item(two, put("b", 1))}, history{item(two, put("b", 1)), item(one, put("a", 1))}, true},
	} {
		t.Run(s.name, func(t *testing.T) {
			a, b := applied(t, s.a), applied(t, s.b)
			mustBeSame(t, a, b, s.want)
			mustBeSame(t, a, a, true)
			mustBeSame(t, b, b, true)
			mustBeSame(t, a, nil, len(s.a.written()) == 0)
			mustBeSame(t, b, New(), len(s.b.written()) == 0)
			mustHold(t, a, s.a)
			mustHold(t, b, s.b)
		})
	}
}

// written are the commands that write.
func (h history) written() []api.Cmd {
	var l []api.Cmd
	for _, one := range h {
		for _, c := range one.batch {
			if c.Kind != api.Get {
				l = append(l, c)
			}
		}
	}
	return l
}

// P13.3: of all pairs of numbers put, just those that are the same number are the same, NaNs too.
func TestSameOfNumbers(t *testing.T) {
	l := append(nans(), numbers()...)
	for _, f := range l {
		for _, g := range l {
			want := math.Float64bits(canon(f)) == math.Float64bits(canon(g))
			mustBeSame(t, applied(t, history{item(id(1, 1), put("a", f))}), applied(t, history{item(id(1, 1), put("a", g))}), want)
		}
	}
}

// P13.4: a twin has the same, and each of both goes on by itself, either way.
func TestTwin(t *testing.T) {
	for n := range len(some()) + 1 {
		h := some()[:n]
		v := applied(t, h)
		o := v.Twin()
		mustHold(t, o, h)
		mustBeSame(t, v, o, true)
		// Each key that there is, and new ones, are written on one side alone.
		more := history{
			item(id(7, 1), put("x", 50), del("b"), add("y", 1), del("a"), put("new", 1), add("w", 1)),
			item(id(7, 2), put("x", 51), get("new"), del("ab"), del("0")),
		}
		longer := goOn(t, v, h, more)
		mustHold(t, o, h)
		mustHold(t, v, longer)
		mustBeSame(t, v, o, false)
		// And now the other one, by other ids.
		other := goOn(t, o, h, history{item(id(6, 1), del("x"), put("y", 2), put("b", 2), put("fresh", 1), add("a", 1), del("w"))})
		mustHold(t, v, longer)
		mustHold(t, o, other)
		mustBeSame(t, v, o, false)
	}
}

// P13.4: two twins, and a twin's twin, go on by themselves, too, and are the same when the same was done.
func TestTwinOfTwin(t *testing.T) {
	v := applied(t, some())
	a, b := v.Twin(), v.Twin()
	c := a.Twin()
	long := goOn(t, a, some(), history{item(id(4, 1), add("x", 1), del("a"))})
	mustHold(t, v, some())
	mustHold(t, b, some())
	mustHold(t, c, some())
	other := goOn(t, c, some(), history{item(id(4, 2), add("x", 2), del("b"))})
	mustHold(t, a, long)
	mustHold(t, b, some())
	mustHold(t, c, other)
	goOn(t, b, some(), long[len(some()):])
	mustBeSame(t, a, b, true)
	mustBeSame(t, a, c, false)
	mustBeSame(t, a, v, false)
}

// P13.4: logs of each length, whose spare room both could grow into, grow apart.
func TestTwinLogs(t *testing.T) {
	for n := range 20 {
		v, h := New(), history{}
		for at := range n {
			h = goOn(t, v, h, history{item(id(0, at), add("a", 1))})
		}
		o := v.Twin()
		left := goOn(t, v, h, history{item(id(1, n), add("a", 1))})
		right := goOn(t, o, h, history{item(id(2, n), add("a", 2))})
		mustHold(t, v, left)
		mustHold(t, o, right)
	}
}

// P13.4: a twin of nil is nil; of a new one it is one that takes what comes.
func TestTwinOfNone(t *testing.T) {
	if o := (*Vault)(nil).Twin(); o != nil {
		t.Error("Twin of nil:", o)
	}
	v := New()
	o := v.Twin()
	if o == v {
		t.Fatal("the same vault twice")
	}
	mustHold(t, o, nil)
	h := goOn(t, o, nil, some())
	mustHold(t, o, h)
	mustHold(t, v, nil)
}

// either applies two batches behind h in either order, and tells whether cells, logs and what is told are the same.
func either(t *testing.T, h history, a, b entry) bool {
	t.Helper()
	v, o := applied(t, h), applied(t, h)
	first, _ := v.Apply(a.id, a.batch)
	second, _ := v.Apply(b.id, b.batch)
	late, _ := o.Apply(b.id, b.batch)
	early, e := o.Apply(a.id, a.batch)
	if e != api.OK || v.Count() != o.Count() {
		t.Fatal("two batches were not applied:", e, v.Count(), o.Count())
	}
	alike := func(a, b api.Result) bool { return a.Id == b.Id && a.At == b.At && equal(a.Cell, b.Cell) }
	told := slices.EqualFunc(first, early, alike) && slices.EqualFunc(second, late, alike)
	same := v.Same(o)
	if same && v.Digest() != o.Digest() {
		t.Error("the digests are not the same")
	}
	return told && same
}

// P13.5: two batches by hand that do not conflict, and two that do.
func TestEitherOrder(t *testing.T) {
	a, b := id(3, 1), id(2, 2)
	for _, s := range []struct {
		a, b []api.Cmd
		want bool
	}{
		{cmds(), cmds(), true},
		{cmds(), cmds(put("x", 1)), true},
		{cmds(get("x")), cmds(get("x"), get("y")), true},
		{cmds(put("x", 1), del("y")), cmds(add("b", 1), get("a"), put("0", 7)), true},
		{cmds(get("x"), put("y", 1)), cmds(get("x"), put("b", 1)), true},
		{cmds(add("x", 1), add("x", nan())), cmds(add("a", 1), del("ab"), get("w"), del("new")), true},
		{cmds(put("x", 1)), cmds(put("x", 2)), false},
		{cmds(put("x", 1)), cmds(put("x", 1)), false},
		{cmds(put("x", 1)), cmds(get("x")), false},
		{cmds(del("x")), cmds(add("x", 1)), false},
		{cmds(add("x", 1)), cmds(add("x", 1)), false},
		{cmds(del("never")), cmds(del("never")), false},
		{cmds(put("x", 1), put("b", 1)), cmds(put("a", 1), get("b")), false},
	} {
		if got := either(t, some(), entry{a, s.a}, entry{b, s.b}); got != s.want {
			t.Errorf("%v and %v in either order: %v", s.a, s.b, got)
		}
		if batch.Conflict(s.a, s.b) == s.want {
			t.Errorf("%v and %v conflict: %v", s.a, s.b, s.want)
		}
	}
}

// P13.5: batches of chance behind histories of chance; two that do not conflict may stand in either order.
func TestEitherOrderOfChance(t *testing.T) {
	apart, others := 0, 0
	for seed := range uint64(3000) {
		roll := dice(seed)
		h := random(roll, roll(5))
		a, b := entry{id(1, 1), randomBatch(roll, 3)}, entry{id(1, 2), randomBatch(roll, 3)}
		same := either(t, h, a, b)
		switch {
		case !batch.Conflict(a.batch, b.batch):
			apart++
			if !same {
				t.Fatalf("%v and %v behind %v hang on their order", a, b, h)
			}
		case !same:
			others++
		}
	}
	if apart < 500 || others < 500 {
		t.Error("too few of a sort:", apart, others)
	}
}

// P13.1 to P13.4: histories of chance, with batches that may not be, and twins that go on.
func TestOfChance(t *testing.T) {
	for seed := range uint64(300) {
		roll := dice(seed + 10000)
		v, h := New(), history{}
		for range 12 {
			h = goOn(t, v, h, random(roll, 1+roll(3)))
			mustHold(t, v, h)
			bad := slices.Insert(randomBatch(roll, api.MaxBatch-1), 0, wrong()[roll(len(wrong()))])
			mustRefuse(t, v, h, bad, api.ErrCmd)
			if roll(3) == 0 {
				o := v.Twin()
				goOn(t, v, h, random(roll, 2))
				v = o
			}
		}
		mustBeSame(t, v, applied(t, h), true)
	}
}

// A list that is handed out is new: what is written into it, spare room too, changes nothing.
func TestAnswersAreNew(t *testing.T) {
	h := append(some(), item(id(1, 1), slices.Repeat(cmds(add("x", 1)), 5)...))
	v := applied(t, h)
	for range 3 {
		keys := v.Keys()
		keys = keys[:cap(keys)]
		for at := range keys {
			keys[at] = "spoilt"
		}
		mustHold(t, v, h)
		for _, key := range h.named() {
			l := v.Log(key)
			l = l[:cap(l)]
			for at := range l {
				l[at] = by(id(99, 99), 99)
			}
		}
		mustHold(t, v, h)
		// What was spoilt behind one more writer is not found there by the next one.
		h = goOn(t, v, h, history{item(id(2, 2), add("x", 1), put("y", 1))})
		mustHold(t, v, h)
	}
}

// What Apply tells is new: writing into it changes nothing, nor does a later call change it.
func TestResultsAreNew(t *testing.T) {
	v := applied(t, some())
	l := cmds(add("x", 1), get("x"), put("y", 4))
	told, _ := v.Apply(id(1, 1), l)
	again, _ := v.Apply(id(1, 2), l)
	mustTell(t, told, id(1, 1), cells(has(3.5), has(3.5), nothing()))
	mustTell(t, again, id(1, 2), cells(has(4.5), has(4.5), has(4)))
	told = told[:cap(told)]
	for at := range told {
		told[at] = api.Result{Id: id(9, 9), At: 9, Cell: has(9)}
	}
	mustTell(t, again, id(1, 2), cells(has(4.5), has(4.5), has(4)))
	mustHold(t, v, append(some(), item(id(1, 1), l...), item(id(1, 2), l...)))
}

// A log or keys that were handed out are not changed by what is done later.
func TestAnswersStay(t *testing.T) {
	v := applied(t, history{item(id(1, 1), put("a", 1), put("b", 1), add("a", 1))})
	keys, l := v.Keys(), v.Log("a")
	v.Apply(id(1, 2), cmds(put("a", 5), del("b"), del("a"), put("0", 1)))
	if !slices.Equal(keys, []string{"a", "b"}) || !slices.Equal(l, log(by(id(1, 1), 0), by(id(1, 1), 2))) {
		t.Error("Keys and Log became", keys, l)
	}
}

// What Apply is handed is as it was, its spare room too, and is not kept.
func TestArgumentsStay(t *testing.T) {
	room := cmds(put("before", 1), add("x", of(0xffffffffffffffff)), del("y"), get("x"), put("z", 3), put("behind", 4), api.Cmd{Kind: 9, Key: "?", Value: 5})
	kept := slices.Clone(room)
	v := New()
	v.Apply(id(1, 1), room[1:5])
	v.Apply(id(1, 2), room[1:])
	for at, c := range room {
		if c.Kind != kept[at].Kind || c.Key != kept[at].Key || math.Float64bits(c.Value) != math.Float64bits(kept[at].Value) {
			t.Errorf("the command %d became %v, it was %v", at, c, kept[at])
		}
	}
	for at := range room {
		room[at] = put("spoilt", 77)
	}
	mustHold(t, v, history{item(id(1, 1), kept[1:5]...)})
}

// A vault does not keep the text of which a key may be a piece, not even of one that it has already.
func TestKeysAreNotKept(t *testing.T) {
	v := New()
	for _, text := range []string{"some longer text", strings.Clone("some longer text"), strings.Clone("some longer text")} {
		key := text[5:11]
		v.Apply(id(1, 1), cmds(get(key), put(key, 1), add(key, 1), del(key), add(key, 1)))
		if got := v.Keys()[0]; got != key || unsafe.StringData(got) == unsafe.StringData(key) {
			t.Errorf("the key %q is the one that came", got)
		}
		for got := range v.cells {
			if unsafe.StringData(got) == unsafe.StringData(key) {
				t.Errorf("the key %q is kept as it came", got)
			}
		}
		for got := range v.logs {
			if unsafe.StringData(got) == unsafe.StringData(key) {
				t.Errorf("the key %q is kept in the logs as it came", got)
			}
		}
	}
}

// The texts of keys that are handed out are new, too.
func TestKeysAreNew(t *testing.T) {
	v := applied(t, history{item(id(1, 1), put("some", 1), put("other", 1))})
	l, again := v.Keys(), v.Keys()
	for at, key := range l {
		if unsafe.StringData(key) == unsafe.StringData(again[at]) {
			t.Errorf("the key %q is handed out twice", key)
		}
	}
}

// No more is kept than what a vault must tell: reads, and what is not there, leave nothing.
func TestNothingMoreIsKept(t *testing.T) {
	v := New()
	for n := range 1000 {
		v.Apply(id(1, n), cmds(get(fmt.Sprintf("g%d", n)), put("a", 1), del("a")))
		v.Get(fmt.Sprintf("h%d", n))
		v.Log(fmt.Sprintf("i%d", n))
	}
	if len(v.cells) != 0 || len(v.logs) != 1 {
		t.Error("kept:", len(v.cells), len(v.logs))
	}
}

// Many keys with long logs are told whole.
func TestMany(t *testing.T) {
	v, h := New(), history{}
	for n := range 4000 {
		one := item(id(n%8, n), add(fmt.Sprintf("k%d", n%500), 1), put("all", float64(n)))
		h = append(h, one)
		if _, e := v.Apply(one.id, one.batch); e != api.OK {
			t.Fatal(e)
		}
	}
	mustHold(t, v, h)
	o := v.Twin()
	mustHold(t, o, h)
	mustBeSame(t, v, o, true)
	o.Apply(id(1, 1), cmds(add("k499", 0)))
	mustBeSame(t, v, o, false)
}

// dice answers numbers from 0 to n - 1 that look like chance, the same ones each time.
func dice(seed uint64) func(n int) int {
	seed = seed*0x9e3779b97f4a7c15 + 1
	return func(n int) int {
		seed = seed*6364136223846793005 + 1442695040888963407
		return int(seed>>33) % n
	}
}

// shuffled are the places from 0 to n - 1 in an order of chance.
func shuffled(roll func(n int) int, n int) []int {
	l := make([]int, n)
	for at := range l {
		other := roll(at + 1)
		l[at] = l[other]
		l[other] = at
	}
	return l
}

// randomBatch is a batch that may be, of at most so many commands, of few keys and numbers.
func randomBatch(roll func(n int) int, most int) []api.Cmd {
	keys := []string{"a", "aa", "b", "0", "x", "twelve12char"}
	values := append(nans(), numbers()...)
	l := make([]api.Cmd, roll(most+1))
	for at := range l {
		l[at] = api.Cmd{Kind: 1 + roll(4), Key: keys[roll(len(keys))]}
		if l[at].Kind == api.Put || l[at].Kind == api.Add {
			l[at].Value = values[roll(len(values))]
		}
	}
	return l
}

// random is a history of n such batches.
func random(roll func(n int) int, n int) history {
	h := history{}
	for range n {
		h = append(h, entry{ids()[roll(len(ids()))], randomBatch(roll, api.MaxBatch)})
	}
	return h
}
