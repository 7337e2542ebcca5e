package edges

import (
	"fmt"
	"math"
	"slices"
	"testing"
	"unsafe"

	"cortege/api"
)

func of(bits uint64) float64 { return math.Float64frombits(bits) }

func nan() float64       { return of(0x7ff8000000000001) }
func minusZero() float64 { return math.Copysign(0, -1) }

func id(rep, slot int) api.Id { return api.Id{Rep: rep, Slot: slot} }

func ids(l ...api.Id) []api.Id             { return l }
func records(l ...api.Record) []api.Record { return l }
func cmds(l ...api.Cmd) []api.Cmd          { return l }

func get(key string) api.Cmd            { return api.Cmd{Kind: api.Get, Key: key} }
func put(key string, f float64) api.Cmd { return api.Cmd{Kind: api.Put, Key: key, Value: f} }
func del(key string) api.Cmd            { return api.Cmd{Kind: api.Delete, Key: key} }
func add(key string, f float64) api.Cmd { return api.Cmd{Kind: api.Add, Key: key, Value: f} }

// rec is a record without commands.
func rec(i api.Id, seq int, deps ...api.Id) api.Record {
	return api.Record{Id: i, Seq: seq, Deps: deps}
}

// doing is a record with these commands.
func doing(r api.Record, l ...api.Cmd) api.Record {
	r.Batch = l
	return r
}

// slots are n ids of a replica, from this slot on.
func slots(rep, first, n int) []api.Id {
	var l []api.Id
	for i := range n {
		l = append(l, id(rep, first+i))
	}
	return l
}

// with is l with more laid in at this place, in new memory.
func with(l []api.Record, at int, more ...api.Record) []api.Record {
	return slices.Insert(slices.Clone(l), at, more...)
}

// some are records that may be, out of order: with Deps that are there and that are not, ones that depend on each other, on none, on as many as may be, and all kinds of commands.
func some() []api.Record {
	return records(
		doing(rec(id(3, 2), 7, id(0, 1), id(1, 9), id(3, 1), id(7, 1<<20)), put("a", 1.5), get("b"), add("c", minusZero()), del("d")),
		doing(rec(id(0, 1), 1<<30, id(3, 2)), put("a", nan()), put("a", math.Inf(-1))),
		rec(id(7, 1<<20), 1),
		doing(rec(id(1, 10), 5, id(0, 1), id(0, 3), id(1, 9), id(2, 1)), slices.Repeat(cmds(add("twelve12char", 0.1)), 8)...),
		rec(id(1, 2), 5, slots(5, 1<<20-15, 16)...),
		doing(rec(id(0, 3), 2), put("z", 0)),
		rec(id(3, 1), 9, id(0, 1), id(0, 2), id(3, 2), id(3, 3), id(5, 1<<20)),
	)
}

// oddIds are ids that none of the records here have: such as may be, and such as no id may be.
func oddIds() []api.Id {
	return ids(
		id(6, 6), id(0, 1<<20), id(7, 1), id(2, 3), id(1, 1), id(1, 3), id(9, 1), id(1, 0),
		api.Id{}, id(8, 1), id(-1, 1), id(3, 0), id(3, -2), id(3, 1<<20+1), id(0, 1<<32+1), id(1<<32, 1), id(-8, 2),
		id(math.MinInt, math.MaxInt), id(math.MaxInt, math.MinInt), id(math.MaxInt, math.MaxInt), id(math.MinInt, math.MinInt),
	)
}

// bad is a record that may not be, and its error.
type bad struct {
	r    api.Record
	want api.Errno
}

// badOf are records of an id that may be, each of which may not be: of each error one or more.
func badOf(i api.Id) []bad {
	return []bad{
		{rec(i, 0), api.ErrSeq}, {rec(i, 1<<30+1), api.ErrSeq}, {rec(i, -1), api.ErrSeq}, {rec(i, math.MinInt, i), api.ErrSeq},
		{rec(i, 1, slots(6, 100, 17)...), api.ErrDeps}, {rec(i, 1, make([]api.Id, 17)...), api.ErrDeps},
		{rec(i, 1, id(8, 1)), api.ErrRep}, {rec(i, 1, id(0, 7), id(-1, 1)), api.ErrRep},
		{rec(i, 1, id(0, 0)), api.ErrSlot}, {rec(i, 1, id(0, 7), id(6, 1<<20+1)), api.ErrSlot},
		{rec(i, 1, i), api.ErrSelf}, {rec(i, 1, i, i), api.ErrSelf},
		{rec(i, 1, id(6, 6), id(6, 6)), api.ErrOrder}, {rec(i, 1, id(6, 6), id(6, 5)), api.ErrOrder}, {rec(i, 1, id(6, 6), id(5, 7)), api.ErrOrder},
		{doing(rec(i, 1), slices.Repeat(cmds(get("a")), 9)...), api.ErrLen}, {doing(rec(i, 1), make([]api.Cmd, 9)...), api.ErrLen},
		{doing(rec(i, 1), api.Cmd{}), api.ErrCmd}, {doing(rec(i, 1), get("a"), get("A")), api.ErrCmd}, {doing(rec(i, 1), api.Cmd{Kind: api.Get, Key: "a", Value: 1}), api.ErrCmd},
	}
}

// allBad are records that may not be, those whose Id may not be, too.
func allBad() []bad {
	return append(badOf(id(4, 4)),
		bad{api.Record{}, api.ErrSlot}, bad{rec(id(8, 1), 1), api.ErrRep}, bad{rec(id(-1, 0), 0), api.ErrRep},
		bad{rec(id(0, 0), 1), api.ErrSlot}, bad{rec(id(7, 1<<20+1), 1), api.ErrSlot}, bad{rec(id(3, -2), 7, id(3, -2)), api.ErrSlot},
	)
}

// deep is a record in new memory, with its lists' spare room.
func deep(r api.Record) api.Record {
	r.Deps, r.Batch = slices.Clone(r.Deps[:cap(r.Deps)]), slices.Clone(r.Batch[:cap(r.Batch)])
	return r
}

func equalCmd(a, b api.Cmd) bool {
	return a.Kind == b.Kind && a.Key == b.Key && (math.Float64bits(a.Value) == math.Float64bits(b.Value) || a.Value != a.Value && b.Value != b.Value)
}

// equal tells whether two records are the same, the two zeros told apart.
func equal(a, b api.Record) bool {
	return a.Id == b.Id && a.Seq == b.Seq && slices.Equal(a.Deps, b.Deps) && slices.EqualFunc(a.Batch, b.Batch, equalCmd)
}

// ordered are l's ids by replica, then by slot, each once.
func ordered(l []api.Id) []api.Id {
	var in []api.Id
	for _, one := range l {
		at := 0
		for at < len(in) && (in[at].Rep < one.Rep || in[at].Rep == one.Rep && in[at].Slot < one.Slot) {
			at++
		}
		if at == len(in) || in[at] != one {
			in = slices.Insert(in, at, one)
		}
	}
	return in
}

// story is what a graph of some records must tell, gone through once more.
type story struct {
	l       []api.Record
	ids     []api.Id
	named   []api.Id
	missing []api.Id
	edges   int
}

// tell goes through l, which has records that may be, each Id once.
func tell(l []api.Record) story {
	s := story{l: l}
	for _, r := range l {
		s.ids = append(s.ids, r.Id)
	}
	s.named = append(s.named, s.ids...)
	for _, r := range l {
		s.named = append(s.named, r.Deps...)
		s.edges += len(r.Deps)
		for _, dep := range r.Deps {
			if !slices.Contains(s.ids, dep) {
				s.missing = append(s.missing, dep)
			}
		}
	}
	s.ids, s.named, s.missing = ordered(s.ids), ordered(s.named), ordered(s.missing)
	return s
}

// record is the record of an id, if there is one.
func (s story) record(i api.Id) (api.Record, bool) {
	for _, r := range s.l {
		if r.Id == i {
			return r, true
		}
	}
	return api.Record{}, false
}

// users are the ids of the records that have i among their Deps.
func (s story) users(i api.Id) []api.Id {
	var l []api.Id
	for _, r := range s.l {
		if slices.Contains(r.Deps, i) {
			l = append(l, r.Id)
		}
	}
	return ordered(l)
}

// mustList holds a list of ids against what it must be.
func mustList(t *testing.T, what string, got []api.Id, want ...api.Id) {
	t.Helper()
	if !slices.Equal(got, want) {
		t.Errorf("%s: %v, not %v", what, got, want)
	}
}

// mustCount holds a number against what it must be.
func mustCount(t *testing.T, what string, got, want int) {
	t.Helper()
	if got != want {
		t.Errorf("%s: %d, not %d", what, got, want)
	}
}

// mustTell holds what g tells of one id.
func mustTell(t *testing.T, g *Graph, s story, i api.Id) {
	t.Helper()
	want, there := s.record(i)
	if got := g.Has(i); got != there {
		t.Errorf("Has of %v: %v", i, got)
	}
	if got, ok := g.Record(i); ok != there || !equal(got, want) {
		t.Errorf("Record of %v: %v, %v, not %v, %v", i, got, ok, want, there)
	}
	mustList(t, fmt.Sprint("Users of ", i), g.Users(i), s.users(i)...)
}

// mustHold holds all that g tells against what a graph of l must tell.
func mustHold(t *testing.T, g *Graph, l []api.Record) {
	t.Helper()
	s := tell(l)
	mustCount(t, "Len", g.Len(), len(l))
	mustList(t, "Ids", g.Ids(), s.ids...)
	mustList(t, "Missing", g.Missing(), s.missing...)
	mustCount(t, "Edges", g.Edges(), s.edges)
	for _, i := range append(oddIds(), s.named...) {
		mustTell(t, g, s, i)
	}
}

// mustMake is a graph of l, which must be one.
func mustMake(t *testing.T, l []api.Record) *Graph {
	t.Helper()
	g, e := New(l)
	if e != api.OK || g == nil {
		t.Fatalf("New of %v: %v, error %d", l, g, int(e))
	}
	return g
}

// mustRefuse holds that l is answered this error, and no graph.
func mustRefuse(t *testing.T, l []api.Record, want api.Errno) {
	t.Helper()
	g, e := New(l)
	if e != want || g != nil {
		t.Errorf("New of %.600s: %v, error %d, not nil, %d", fmt.Sprint(l), g, int(e), int(want))
	}
}

// The chapter's example.
func TestExample(t *testing.T) {
	l := records(rec(id(1, 1), 1, id(0, 1)))
	g := mustMake(t, l)
	mustList(t, "Missing", g.Missing(), id(0, 1))
	mustList(t, "Users of 0.1", g.Users(id(0, 1)), id(1, 1))
	mustHold(t, g, l)
}

// P15.1 to P15.3: no record, nil and empty alike, is a graph without records.
func TestNoRecord(t *testing.T) {
	for _, l := range [][]api.Record{nil, {}, some()[:0]} {
		mustHold(t, mustMake(t, l), nil)
	}
}

// P15.2, P15.3: a nil graph has nothing, and so has what comes with an error.
func TestNil(t *testing.T) {
	all := []*Graph{nil}
	for _, b := range allBad() {
		g, _ := New(append(some(), b.r))
		all = append(all, g)
	}
	g, _ := New(append(some(), some()[0]))
	for _, g := range append(all, g) {
		mustHold(t, g, nil)
		for _, i := range tell(some()).named {
			mustTell(t, g, story{}, i)
		}
	}
}

// P15.1: records that may be make a graph, at the limits, too.
func TestNewOfGood(t *testing.T) {
	for _, l := range [][]api.Record{
		some(), some()[:1], some()[3:5],
		records(rec(id(0, 1), 1)), records(rec(id(7, 1<<20), 1<<30)), records(rec(id(0, 1), 1, id(7, 1<<20)), rec(id(7, 1<<20), 1<<30, id(0, 1))),
		records(rec(id(2, 2), 1, slots(2, 3, 16)...)), records(doing(rec(id(2, 2), 1), slices.Repeat(cmds(put("a", 1)), 8)...)),
		// Ids that have one number in common, or the same ones the other way round, are others.
		records(rec(id(1, 2), 1), rec(id(2, 1), 1), rec(id(1, 1), 1), rec(id(2, 2), 1), rec(id(1, 12), 1), rec(id(1, 1<<20), 1)),
		// All but the Id may be the same.
		records(rec(id(1, 2), 5, id(0, 1)), rec(id(1, 3), 5, id(0, 1)), rec(id(3, 2), 5, id(0, 1))),
	} {
		mustHold(t, mustMake(t, l), l)
	}
}

// P15.1: each error of a record that may not be, first, in the midst, last and alone.
func TestNewOfBad(t *testing.T) {
	for _, b := range allBad() {
		mustRefuse(t, records(b.r), b.want)
		for at := range len(some()) + 1 {
			mustRefuse(t, with(some(), at, b.r), b.want)
		}
	}
}

// P15.1: of two that may not be, the one that stands ahead is told, whichever it is.
func TestNewOfTwoBad(t *testing.T) {
	for _, one := range allBad() {
		for _, other := range allBad() {
			mustRefuse(t, records(one.r, other.r), one.want)
			for _, at := range []int{0, 2, len(some())} {
				mustRefuse(t, with(with(some(), at, other.r), 0, one.r), one.want)
				mustRefuse(t, with(with(some(), at, one.r), len(some())+1, other.r), one.want)
			}
		}
	}
}

// likes are records of r's Id: the same one, and others that differ in one thing.
func likes(r api.Record) []api.Record {
	seq, deps, batch := r, r, r
	seq.Seq = r.Seq%(1<<30) + 1
	deps.Deps = ids(id(6, 1), id(6, 2))
	batch.Batch = cmds(put("other", 1))
	return records(r, seq, deps, batch, rec(r.Id, 1), doing(rec(r.Id, 1<<30, id(6, 9)), del("x")))
}

// P15.1: an Id twice, by the same record and by others, in whatever places.
func TestNewOfTheSameId(t *testing.T) {
	for at, r := range some() {
		for _, like := range likes(r) {
			mustRefuse(t, records(r, like), api.ErrDup)
			for to := range len(some()) + 1 {
				mustRefuse(t, with(some(), to, like), api.ErrDup)
			}
			// It is no second one where the first one is not there.
			l := some()
			l[at] = like
			mustHold(t, mustMake(t, l), l)
			mustRefuse(t, records(like, r, like), api.ErrDup)
		}
	}
	mustRefuse(t, append(some(), some()...), api.ErrDup)
	mustRefuse(t, slices.Repeat(some()[:1], 3), api.ErrDup)
}

// P15.1: record by record: one that may not be is told ahead of a second one of an Id, and that one ahead of what comes behind it.
func TestNewOfBadAndTheSameId(t *testing.T) {
	first := some()[0]
	for _, like := range likes(first) {
		for _, b := range allBad() {
			for second := 1; second <= len(some()); second++ {
				l := with(some(), second, like)
				for at := range len(l) + 1 {
					want := b.want
					if at > second {
						want = api.ErrDup
					}
					mustRefuse(t, with(l, at, b.r), want)
				}
			}
		}
	}
}

// P15.1: a second one of an Id that may itself not be is told its own error, and so is a first one.
func TestNewOfBadSecondOnes(t *testing.T) {
	for _, r := range some() {
		for _, b := range badOf(r.Id) {
			mustRefuse(t, records(r, b.r), b.want)
			mustRefuse(t, records(b.r, r), b.want)
			mustRefuse(t, append(some(), b.r), b.want)
			mustRefuse(t, records(r, b.r, r), b.want)
			mustRefuse(t, records(r, r, b.r), api.ErrDup)
			mustRefuse(t, records(b.r, b.r), b.want)
		}
	}
}

// P15.1: what is refused leaves nothing behind that a later graph has.
func TestNewBehindErrors(t *testing.T) {
	for _, b := range allBad() {
		mustRefuse(t, append(some(), b.r), b.want)
		mustHold(t, mustMake(t, some()[2:4]), some()[2:4])
	}
	mustRefuse(t, append(some(), some()[0]), api.ErrDup)
	mustHold(t, mustMake(t, some()), some())
}

// turns gives all orders of l.
func turns(l []api.Record) [][]api.Record {
	if len(l) == 0 {
		return [][]api.Record{nil}
	}
	var all [][]api.Record
	for _, rest := range turns(l[1:]) {
		for at := range l {
			all = append(all, with(rest, at, l[0]))
		}
	}
	return all
}

// P15.2, P15.3: records handed in in any order make the same graph.
func TestAnyOrder(t *testing.T) {
	l := some()[:6]
	for _, turn := range turns(l) {
		g := mustMake(t, turn)
		mustList(t, "Ids", g.Ids(), id(0, 1), id(0, 3), id(1, 2), id(1, 10), id(3, 2), id(7, 1<<20))
		mustList(t, "Users of 0.1", g.Users(id(0, 1)), id(1, 10), id(3, 2))
		mustList(t, "Users of 1.9", g.Users(id(1, 9)), id(1, 10), id(3, 2))
		mustHold(t, g, l)
		if t.Failed() {
			t.Fatalf("in the order %v", turn)
		}
	}
}

// P15.2: ids by replica first, then by slot, as numbers, whatever the Seqs are.
func TestIdsInOrder(t *testing.T) {
	want := ids(id(0, 1), id(0, 2), id(0, 9), id(0, 10), id(0, 100), id(0, 1<<20), id(1, 1), id(1, 2), id(2, 1), id(6, 1<<19), id(7, 1), id(7, 11), id(7, 1<<20))
	var rising, falling []api.Record
	for n, i := range want {
		rising = append(rising, rec(i, n+1))
		falling = append(records(rec(i, 100-n)), falling...)
	}
	for _, l := range [][]api.Record{rising, falling, append(slices.Clone(rising[5:]), falling[len(want)-5:]...)} {
		g := mustMake(t, l)
		mustList(t, "Ids", g.Ids(), want...)
		mustCount(t, "Len", g.Len(), len(want))
		mustHold(t, g, l)
	}
}

// P15.2: the record of each id, with its Seq, Deps and Batch, and none of those that are not there.
func TestRecord(t *testing.T) {
	g := mustMake(t, some())
	for _, want := range some() {
		if got, ok := g.Record(want.Id); !ok || !g.Has(want.Id) || !equal(got, want) {
			t.Errorf("Record of %v: %v, %v, not %v", want.Id, got, ok, want)
		}
	}
	// A Dep that is missing is no record, nor is an id one number away.
	for _, i := range append(oddIds(), id(0, 2), id(1, 9), id(2, 1), id(3, 3), id(5, 1<<20), id(5, 1<<20-15), id(0, 4), id(2, 2), id(4, 2), id(1, 11)) {
		if got, ok := g.Record(i); ok || g.Has(i) || !equal(got, api.Record{}) {
			t.Errorf("Record of %v, which is not there: %v, %v", i, got, ok)
		}
	}
}

// P15.2: numbers of commands come back as they came; the two zeros are two.
func TestRecordOfNumbers(t *testing.T) {
	for _, f := range []float64{0, minusZero(), 1, -0.1, math.MaxFloat64, math.SmallestNonzeroFloat64, math.Inf(1), math.Inf(-1), nan(), of(0x7ff0000000000001), of(0xffffffffffffffff)} {
		l := records(doing(rec(id(1, 1), 1), put("a", f), add("b", f)))
		mustHold(t, mustMake(t, l), l)
	}
}

// P15.3: Deps that are not there, each once, in order; those that are there are not missing, wherever they stand.
func TestMissing(t *testing.T) {
	a, b, c, d := id(0, 5), id(2, 1), id(1, 7), id(1, 10)
	for _, s := range []struct {
		l    []api.Record
		want []api.Id
	}{
		{records(rec(a, 1)), nil},
		{records(rec(a, 1, b)), ids(b)},
		{records(rec(a, 1, b), rec(b, 1)), nil},
		{records(rec(b, 1), rec(a, 1, b)), nil},
		{records(rec(a, 1, b), rec(b, 1, a)), nil},
		{records(rec(a, 1, b), rec(c, 1, b), rec(d, 1, b)), ids(b)},
		{records(rec(a, 1, c, d, b)), ids(c, d, b)},
		{records(rec(a, 1, b), rec(b, 1, d), rec(c, 1, a)), ids(d)},
		{records(rec(b, 1, c), rec(d, 1, a)), ids(a, c)},
		{records(rec(d, 1, a), rec(b, 1, c)), ids(a, c)},
		{records(rec(a, 1, d), rec(b, 1, c, d)), ids(c, d)},
		{records(rec(a, 1, slots(3, 1, 16)...), rec(b, 1, slots(3, 9, 16)...), rec(c, 1, slots(2, 2, 16)...)), append(slots(2, 2, 16), slots(3, 1, 24)...)},
	} {
		for _, turn := range turns(s.l) {
			g := mustMake(t, turn)
			mustList(t, fmt.Sprint("Missing of ", turn), g.Missing(), s.want...)
			mustHold(t, g, s.l)
		}
	}
}

// P15.3: the users of ids that are there and that are missing, of none, of one that all depend on, of ones that depend on each other.
func TestUsers(t *testing.T) {
	a, b, c, d, gone := id(0, 5), id(1, 10), id(2, 1), id(7, 9), id(1, 9)
	for _, turn := range turns(records(rec(d, 1, a, gone, c), rec(a, 2, gone, d), rec(c, 3, a), rec(b, 4, a, gone))) {
		g := mustMake(t, turn)
		mustList(t, "Users of one that all others depend on", g.Users(a), b, c, d)
		mustList(t, "Users of one that is missing", g.Users(gone), a, b, d)
		mustList(t, "Users of one that depends back", g.Users(d), a)
		mustList(t, "Users of one", g.Users(c), d)
		mustList(t, "Users of one that none depends on", g.Users(b))
		for _, i := range oddIds() {
			mustList(t, fmt.Sprint("Users of ", i), g.Users(i))
		}
		mustHold(t, g, turn)
	}
	// Of a record that was refused there are no users: no graph is answered.
	mustRefuse(t, records(rec(a, 1, b), rec(c, 1, b, b)), api.ErrOrder)
}

// P15.3: one that is missing, and that all records depend on.
func TestUsersOfOneMissing(t *testing.T) {
	hub := id(3, 3)
	var l []api.Record
	var want []api.Id
	for n := range 300 {
		i := id(n%8, 1000+7*n)
		l, want = append(l, rec(i, n+1, hub)), append(want, i)
	}
	g := mustMake(t, l)
	mustList(t, "Users", g.Users(hub), ordered(want)...)
	mustList(t, "Missing", g.Missing(), hub)
	mustCount(t, "Edges", g.Edges(), 300)
	// It is there, with a Dep of its own: it is missing no more, and its users stay.
	l = with(l, 150, rec(hub, 1, id(7, 7)))
	g = mustMake(t, l)
	mustList(t, "Users", g.Users(hub), ordered(want)...)
	mustList(t, "Missing", g.Missing(), id(7, 7))
	mustList(t, "Users of its Dep", g.Users(id(7, 7)), hub)
	mustCount(t, "Edges", g.Edges(), 301)
}

// P15.2, P15.3: two records that depend on each other.
func TestEachOther(t *testing.T) {
	a, b := id(1, 1), id(1, 2)
	for _, l := range [][]api.Record{records(rec(a, 5, b), rec(b, 3, a)), records(rec(b, 3, a), rec(a, 5, b))} {
		g := mustMake(t, l)
		mustList(t, "Ids", g.Ids(), a, b)
		mustList(t, "Missing", g.Missing())
		mustList(t, "Users of 1.1", g.Users(a), b)
		mustList(t, "Users of 1.2", g.Users(b), a)
		mustCount(t, "Edges", g.Edges(), 2)
		mustHold(t, g, l)
	}
}

// P15.3: all Deps together, those that are missing and those that several have, each time.
func TestEdges(t *testing.T) {
	for _, s := range []struct {
		l    []api.Record
		want int
	}{
		{records(rec(id(1, 1), 9), rec(id(1, 2), 9)), 0},
		{records(rec(id(1, 1), 1, id(0, 1))), 1},
		{records(rec(id(1, 1), 1, id(0, 1)), rec(id(1, 2), 1, id(0, 1)), rec(id(1, 3), 1, id(0, 1))), 3},
		{records(rec(id(1, 1), 1, id(0, 1)), rec(id(0, 1), 1)), 1},
		{records(rec(id(1, 1), 1, slots(2, 1, 16)...), rec(id(1, 2), 1, slots(2, 1, 16)...), doing(rec(id(1, 3), 1, id(1, 1)), get("a"))), 33},
		{some(), 30},
	} {
		g := mustMake(t, s.l)
		mustCount(t, fmt.Sprint("Edges of ", s.l), g.Edges(), s.want)
		mustHold(t, g, s.l)
	}
}

// P15.3: each edge has just one user, and each missing id has users.
func TestUsersAndEdges(t *testing.T) {
	g := mustMake(t, some())
	together := 0
	for _, i := range tell(some()).named {
		together += len(g.Users(i))
	}
	mustCount(t, "all users together", together, g.Edges())
	for _, i := range g.Missing() {
		if len(g.Users(i)) == 0 || g.Has(i) {
			t.Errorf("%v is missing, and none depends on it, or it is there", i)
		}
	}
}

// dice answers numbers from 0 to n - 1 that look like chance, the same ones each time.
func dice(seed uint64) func(n int) int {
	seed = seed*0x9e3779b97f4a7c15 + 1
	return func(n int) int {
		seed = seed*6364136223846793005 + 1442695040888963407
		return int(seed>>33) % n
	}
}

// randomRecord is a record of few ids, that may be.
func randomRecord(roll func(n int) int) api.Record {
	r := api.Record{Id: id(roll(3), 1+roll(12)), Seq: 1 + roll(9)}
	for range roll(6) {
		if dep := id(roll(3), 1+roll(14)); dep != r.Id {
			r.Deps = append(r.Deps, dep)
		}
	}
	r.Deps = ordered(r.Deps)
	for range roll(4) {
		r.Batch = append(r.Batch, put(string(rune('a'+roll(3))), float64(roll(5))))
	}
	return r
}

// P15.1 to P15.3: records of chance, some of an Id that is there, some that may not be, against what must be told of them.
func TestOfChance(t *testing.T) {
	graphs := 0
	for seed := range uint64(3000) {
		roll := dice(seed)
		var l []api.Record
		want := api.OK
		for range roll(14) {
			r := randomRecord(roll)
			e := api.OK
			if roll(40) == 0 {
				all := allBad()
				b := all[roll(len(all))]
				r, e = b.r, b.want
			} else if slices.ContainsFunc(l, func(o api.Record) bool { return o.Id == r.Id }) {
				if roll(3) != 0 {
					continue
				}
				e = api.ErrDup
			}
			if want == api.OK {
				want = e
			}
			l = append(l, r)
		}
		if want != api.OK {
			mustRefuse(t, l, want)
		} else {
			graphs++
			mustHold(t, mustMake(t, l), l)
		}
		if t.Failed() {
			t.Fatalf("seed %d: %v", seed, l)
		}
	}
	if graphs < 500 || graphs > 2500 {
		t.Error("so many graphs of 3000:", graphs)
	}
}

// The same call answers the same, as often as it is made, of one graph and of many.
func TestAgainAndAgain(t *testing.T) {
	g := mustMake(t, some())
	for range 50 {
		mustHold(t, g, some())
		mustHold(t, mustMake(t, some()), some())
	}
}

// spoilIds writes all over a list of ids, its spare room too.
func spoilIds(l []api.Id) {
	l = l[:cap(l)]
	for at := range l {
		l[at] = id(99, -99)
	}
}

// spoil writes all over a record's lists, their spare room too.
func spoil(r api.Record) {
	spoilIds(r.Deps)
	l := r.Batch[:cap(r.Batch)]
	for at := range l {
		l[at] = api.Cmd{Kind: -7, Key: "spoilt", Value: -8}
	}
}

// grown are records of which the lists that are told have from 1 to 40 elements, so that some have spare room, if any may.
func grown(n int) []api.Record {
	l := records(rec(id(0, 1), 1))
	for at := range n {
		l = append(l, doing(rec(id(1, 40-at), 1, append(ids(id(0, 1)), slots(2, 1+at, at%16)...)...), slices.Repeat(cmds(add("x", 1)), at%9)...))
	}
	return l
}

// What is handed out is new, and so is each list in it: writing into it, its spare room too, changes no later answer, and none that was handed out.
func TestAnswersAreNew(t *testing.T) {
	for n := range 41 {
		l := grown(n)
		g, s := mustMake(t, l), tell(l)
		idsBefore, missing, users := g.Ids(), g.Missing(), g.Users(id(0, 1))
		spoilIds(g.Ids())
		spoilIds(g.Missing())
		mustHold(t, g, l)
		for _, i := range append(s.named, oddIds()...) {
			r, _ := g.Record(i)
			other, _ := g.Record(i)
			spoil(r)
			spoilIds(g.Users(i))
			if want, _ := s.record(i); !equal(other, want) {
				t.Errorf("the record of %v became %v", i, other)
			}
		}
		mustHold(t, g, l)
		mustList(t, "Ids told before", idsBefore, s.ids...)
		mustList(t, "Missing told before", missing, s.missing...)
		mustList(t, "Users told before", users, s.users(id(0, 1))...)
	}
}

// What is laid behind one answer is not seen behind another one.
func TestAnswersGrowByThemselves(t *testing.T) {
	for n := range 41 {
		l := grown(n)
		g := mustMake(t, l)
		for _, call := range []func() []api.Id{
			g.Ids, g.Missing,
			func() []api.Id { return g.Users(id(0, 1)) },
			func() []api.Id { r, _ := g.Record(l[len(l)-1].Id); return r.Deps },
		} {
			one := append(call(), id(5, 1))
			other := append(call(), id(5, 2))
			if one[len(one)-1] != id(5, 1) || other[len(other)-1] != id(5, 2) || !slices.Equal(one[:len(one)-1], call()) {
				t.Errorf("with %d records: %v and %v", n, one, other)
			}
		}
		mustHold(t, g, l)
	}
}

// roomy are some's records with spare room behind them and behind each of their lists, and what stands in it.
func roomy() []api.Record {
	var all []api.Record
	for _, r := range some() {
		deps := slices.Concat(ids(id(9, 9)), r.Deps, ids(id(0, 2), id(-1, -1)))
		batch := slices.Concat(cmds(api.Cmd{Kind: 9}), r.Batch, cmds(put("behind", of(0xffffffffffffffff)), api.Cmd{Kind: 8, Key: "?"}))
		r.Deps, r.Batch = deps[1:1+len(r.Deps)], batch[1:1+len(r.Batch)]
		all = append(all, r)
	}
	return append(all, rec(id(4, 4), 1, id(6, 6)), api.Record{Seq: -1})
}

// What New is handed is as it was, its spare room too, with an error and without; what stands in the spare room is none of it.
func TestArgumentsStay(t *testing.T) {
	all, kept := roomy(), roomy()
	for n := range len(some()) + 1 {
		mustHold(t, mustMake(t, all[:n]), some()[:n])
	}
	mustRefuse(t, all, api.ErrSlot)
	mustRefuse(t, append(slices.Clone(all[:3]), all[0]), api.ErrDup)
	g := mustMake(t, all[:len(some())])
	for _, i := range g.Ids() {
		r, _ := g.Record(i)
		spoil(r)
		spoilIds(g.Users(i))
	}
	for at, r := range all {
		if !equal(deep(r), deep(kept[at])) || len(r.Deps) != len(kept[at].Deps) || len(r.Batch) != len(kept[at].Batch) {
			t.Errorf("the record %d became %v", at, r)
		}
	}
}

// What New is handed is not kept: writing into it later changes nothing that the graph answers.
func TestArgumentsAreNotKept(t *testing.T) {
	all := roomy()
	g := mustMake(t, all[:len(some())])
	for at := range all {
		spoil(all[at])
		all[at] = rec(id(6, 6), 77, id(6, 7))
	}
	mustHold(t, g, some())
	// One list that two records share is each one's own in the graph.
	deps, batch := ids(id(0, 1), id(0, 2)), cmds(put("a", 1))
	l := records(api.Record{Id: id(1, 1), Seq: 1, Deps: deps, Batch: batch}, api.Record{Id: id(1, 2), Seq: 2, Deps: deps, Batch: batch})
	want := records(doing(rec(id(1, 1), 1, id(0, 1), id(0, 2)), put("a", 1)), doing(rec(id(1, 2), 2, id(0, 1), id(0, 2)), put("a", 1)))
	g = mustMake(t, l)
	mustHold(t, g, want)
	r, _ := g.Record(id(1, 1))
	spoil(r)
	spoil(l[0])
	mustHold(t, g, want)
}

// A graph does not keep the text of which a key may be a piece.
func TestKeysAreNotKept(t *testing.T) {
	text := "somelongertext"
	g := mustMake(t, records(doing(rec(id(1, 1), 1), get(text[4:10]), put(text[10:], 1))))
	// No answer tells it, so the graph is looked into.
	for at, piece := range []string{text[4:10], text[10:]} {
		if key := g.records[id(1, 1)].Batch[at].Key; key != piece || unsafe.StringData(key) == unsafe.StringData(piece) {
			t.Errorf("the key %q is the one that came, or is not %q", key, piece)
		}
	}
}

// Two graphs are each by itself.
func TestTwoGraphs(t *testing.T) {
	a, b := mustMake(t, some()[:4]), mustMake(t, some()[2:])
	mustHold(t, a, some()[:4])
	mustHold(t, b, some()[2:])
	spoilIds(a.Ids())
	spoilIds(a.Users(id(0, 1)))
	mustHold(t, b, some()[2:])
	mustHold(t, a, some()[:4])
}

// Many records, in an order of chance, are gone through whole.
func TestMany(t *testing.T) {
	const n = 20000
	var l []api.Record
	for at := range n {
		r := rec(id(at%8, 1+at/8), 1+at)
		for back := 1; back <= 4 && at-8*back >= 0; back++ {
			r.Deps = append(ids(id(at%8, 1+at/8-back)), r.Deps...)
		}
		l = append(l, r)
	}
	roll := dice(5)
	for at := range l {
		other := roll(at + 1)
		l[at], l[other] = l[other], l[at]
	}
	g := mustMake(t, l)
	mustCount(t, "Len", g.Len(), n)
	mustCount(t, "Edges", g.Edges(), 4*n-8*(1+2+3+4))
	mustList(t, "Missing", g.Missing())
	told := g.Ids()
	mustCount(t, "Ids", len(told), n)
	for at, i := range told {
		if i != id(at/(n/8), 1+at%(n/8)) {
			t.Fatalf("the id %d is %v", at, i)
		}
		if users, want := g.Users(i), slots(i.Rep, i.Slot+1, min(4, n/8-i.Slot)); !slices.Equal(users, want) {
			t.Fatalf("Users of %v: %v, not %v", i, users, want)
		}
	}
	mustRefuse(t, append(l, l[n/2]), api.ErrDup)
	mustRefuse(t, append(l, rec(l[n/2].Id, 0)), api.ErrSeq)
}
