package premise

import (
	"fmt"
	"math"
	"slices"
	"strconv"
	"testing"

	"cortege/api"
	"cortege/edges"
	"cortege/record"
	"cortege/vault"
)

func id(rep, slot int) api.Id              { return api.Id{Rep: rep, Slot: slot} }
func ids(l ...api.Id) []api.Id             { return l }
func records(l ...api.Record) []api.Record { return l }
func get(key string) api.Cmd               { return api.Cmd{Kind: api.Get, Key: key} }
func put(key string) api.Cmd               { return api.Cmd{Kind: api.Put, Key: key, Value: 1} }
func del(key string) api.Cmd               { return api.Cmd{Kind: api.Delete, Key: key} }
func add(key string) api.Cmd               { return api.Cmd{Kind: api.Add, Key: key, Value: -2} }

// oddIds are ids that none of the records here have or depend on: such as may be, and such as no id may be.
func oddIds() []api.Id {
	return ids(
		id(6, 6), id(0, 1<<20), id(7, 1<<20), id(5, 1),
		api.Id{}, id(8, 1), id(-1, 1), id(3, 0), id(3, -2), id(3, 1<<20+1), id(0, 1<<32+1), id(1<<32, 1), id(-8, 2),
		id(math.MinInt, math.MaxInt), id(math.MaxInt, math.MinInt), id(math.MaxInt, math.MaxInt), id(math.MinInt, math.MinInt),
	)
}

// turns gives all orders of l.
func turns[T any](l []T) [][]T {
	if len(l) == 0 {
		return [][]T{nil}
	}
	var all [][]T
	for _, rest := range turns(l[1:]) {
		for at := range l {
			all = append(all, slices.Insert(slices.Clone(rest), at, l[0]))
		}
	}
	return all
}

// parts gives all lists that have some of l's elements, in l's order.
func parts[T any](l []T) [][]T {
	all := [][]T{nil}
	for _, one := range l {
		for _, part := range slices.Clone(all) {
			all = append(all, append(slices.Clone(part), one))
		}
	}
	return all
}

// mustMake is a graph of l, which must be one.
func mustMake(t *testing.T, l []api.Record) *edges.Graph {
	t.Helper()
	g, e := edges.New(l)
	if e != api.OK || g == nil {
		t.Fatalf("New of %v: %v, error %d", l, g, int(e))
	}
	return g
}

// mustBe holds what is told against what it must be.
func mustBe[T comparable](t *testing.T, what string, got, want T) {
	t.Helper()
	if got != want {
		t.Errorf("%.600s: %v, not %v", what, got, want)
	}
}

// dice answers numbers from 0 to n - 1 that look like chance, the same ones each time.
func dice(seed uint64) func(n int) int {
	seed = seed*0x9e3779b97f4a7c15 + 1
	return func(n int) int {
		seed = seed*6364136223846793005 + 1442695040888963407
		return int(seed>>33) % n
	}
}

// whatIs is all that a graph tells by its own calls.
func whatIs(g *edges.Graph) string {
	s := fmt.Sprint(g.Len(), g.Edges(), g.Ids(), g.Missing())
	for _, i := range append(append(g.Ids(), g.Missing()...), oddIds()...) {
		r, ok := g.Record(i)
		s += fmt.Sprint(i, g.Has(i), r, ok, g.Users(i))
	}
	return s
}

// rec is a record of these Deps and commands.
func rec(i api.Id, deps []api.Id, batch ...api.Cmd) api.Record {
	return api.Record{Id: i, Seq: 1 + i.Slot%7, Deps: deps, Batch: batch}
}

// low, mid, high and top are ids, in their order; far and gone are such as few records here have.
var (
	low  = id(0, 7)
	mid  = id(1, 2)
	high = id(1, 3)
	top  = id(5, 2)
	far  = id(7, 4)
	gone = id(3, 3)
)

// row are n ids that are among no list of records here but as Deps: from a replica's slot 100 on.
func row(rep, n int) []api.Id {
	var l []api.Id
	for at := range n {
		l = append(l, id(rep, 100+at))
	}
	return l
}

// ahead tells whether a stands ahead of b in the order of ids.
func ahead(a, b api.Id) bool { return a.Rep < b.Rep || a.Rep == b.Rep && a.Slot < b.Slot }

// inOrder is l put in the order of ids, one by one.
func inOrder(l []api.Id) []api.Id {
	var sorted []api.Id
	for _, i := range l {
		at := 0
		for at < len(sorted) && ahead(sorted[at], i) {
			at++
		}
		sorted = slices.Insert(sorted, at, i)
	}
	return sorted
}

// conflict tells whether two records that may be conflict, command by command.
func conflict(a, b api.Record) bool {
	for _, one := range a.Batch {
		for _, other := range b.Batch {
			if one.Key == other.Key && (one.Kind != api.Get || other.Kind != api.Get) {
				return true
			}
		}
	}
	return false
}

// edge tells whether two records have an edge.
func edge(a, b api.Record) bool {
	return slices.Contains(a.Deps, b.Id) || slices.Contains(b.Deps, a.Id)
}

// verdict is what Holds answers.
type verdict struct {
	one, other api.Id
	holds      bool
}

// judge tells of l, which has each Id once, whether the premise holds, and of all pairs that lack an edge the one whose first id, and then whose second id is the least.
func judge(l []api.Record) verdict {
	v := verdict{holds: true}
	for _, a := range l {
		for _, b := range l {
			if !ahead(a.Id, b.Id) || !conflict(a, b) || edge(a, b) {
				continue
			}
			if v.holds || ahead(a.Id, v.one) || a.Id == v.one && ahead(b.Id, v.other) {
				v = verdict{a.Id, b.Id, false}
			}
		}
	}
	return v
}

// left are the records of l that may be, of each Id the first one.
func left(l []api.Record) []api.Record {
	var all []api.Record
	for _, r := range l {
		there := slices.ContainsFunc(all, func(o api.Record) bool { return o.Id == r.Id })
		if record.Check(r) == api.OK && !there {
			all = append(all, r)
		}
	}
	return all
}

// mended is what Mend must make of l.
func mended(l []api.Record) []api.Record {
	all := left(l)
	var out []api.Record
	for at, r := range all {
		var lack []api.Id
		for _, o := range all[:at] {
			if conflict(o, r) && !edge(o, r) {
				lack = append(lack, o.Id)
			}
		}
		lack = lack[:min(len(lack), api.MaxDeps-len(r.Deps))]
		r.Deps = inOrder(slices.Concat(r.Deps, lack))
		out = append(out, r)
	}
	return out
}

// holds is what Holds answers.
func holds(g *edges.Graph) verdict {
	one, other, ok := Holds(g)
	return verdict{one, other, ok}
}

// mustRecords holds records against what they must be.
func mustRecords(t *testing.T, what string, got, want []api.Record) {
	t.Helper()
	if !slices.EqualFunc(got, want, record.Same) {
		t.Errorf("%.600s: %.900s, not %.900s", what, fmt.Sprint(got), fmt.Sprint(want))
	}
}

// mustWriters holds writers against what they must be.
func mustWriters(t *testing.T, what string, got []api.Writer, want ...api.Writer) {
	t.Helper()
	if !slices.Equal(got, want) {
		t.Errorf("%.600s: %.600s, not %.600s", what, fmt.Sprint(got), fmt.Sprint(want))
	}
}

// deep is l in memory of its own.
func deep(l []api.Record) []api.Record {
	var all []api.Record
	for _, r := range l {
		r.Deps, r.Batch = append([]api.Id(nil), r.Deps...), append([]api.Cmd(nil), r.Batch...)
		all = append(all, r)
	}
	return all
}

// mustMend holds what Mend makes of l against what it must make, and against what is promised of that.
func mustMend(t *testing.T, what string, l []api.Record) []api.Record {
	t.Helper()
	kept, want := deep(l), mended(l)
	got := Mend(l)
	mustRecords(t, what+": Mend of "+fmt.Sprint(l), got, want)
	mustRecords(t, what+": what was handed in", l, kept)
	mustRecords(t, what+": Mend of what it gave", Mend(got), got)
	full := slices.ContainsFunc(got, func(r api.Record) bool { return len(r.Deps) == api.MaxDeps })
	told := holds(mustMake(t, got))
	mustBe(t, what+": Holds behind Mend of "+fmt.Sprint(l), told, judge(got))
	// P20.4.
	if !full && !told.holds {
		t.Errorf("%.600s: behind Mend it does not hold, but for %v", what, told)
	}
	return got
}

// mustHold holds what is told of a graph of l, which has each Id once, against what must be told.
func mustHold(t *testing.T, what string, l []api.Record) {
	t.Helper()
	g := mustMake(t, l)
	mustBe(t, what+": Holds of "+fmt.Sprint(l), holds(g), judge(l))
	for _, a := range l {
		for _, b := range l {
			mustBe(t, fmt.Sprintf("%s: Edge of %v and %v", what, a, b), Edge(g, a.Id, b.Id), edge(a, b))
		}
		for _, dep := range a.Deps {
			there := slices.ContainsFunc(l, func(r api.Record) bool { return r.Id == dep })
			mustBe(t, fmt.Sprintf("%s: Edge of %v and its Dep %v", what, a, dep), Edge(g, a.Id, dep), there)
			mustBe(t, fmt.Sprintf("%s: Edge of the Dep %v and of %v", what, dep, a), Edge(g, dep, a.Id), there)
		}
	}
}

// P20.1, P20.2, P20.4: the chapter's example: two puts of one key without an edge.
func TestExample(t *testing.T) {
	l := records(rec(low, nil, put("a")), rec(mid, nil, put("a")))
	mustBe(t, "Holds", holds(mustMake(t, l)), verdict{low, mid, false})
	mustBe(t, "Edge", Edge(mustMake(t, l), low, mid), false)
	got := Mend(l)
	mustRecords(t, "Mend", got, records(rec(low, nil, put("a")), rec(mid, ids(low), put("a"))))
	mustBe(t, "Holds behind Mend", holds(mustMake(t, got)), verdict{holds: true})
	mustBe(t, "Edge behind Mend", Edge(mustMake(t, got), low, mid), true)
	// The second one is the one that stands behind in the list, not the one with the greater id.
	got = Mend(records(l[1], l[0]))
	mustRecords(t, "Mend, the other way round", got, records(rec(mid, nil, put("a")), rec(low, ids(mid), put("a"))))
	mustBe(t, "Holds behind Mend, the other way round", holds(mustMake(t, got)), verdict{holds: true})
}

// P20.1, P20.2: which two batches conflict.
func TestWhatConflicts(t *testing.T) {
	for _, told := range []struct {
		one, other []api.Cmd
		want       bool
	}{
		{[]api.Cmd{put("a")}, []api.Cmd{put("a")}, true},
		{[]api.Cmd{put("a")}, []api.Cmd{get("a")}, true},
		{[]api.Cmd{put("a")}, []api.Cmd{del("a")}, true},
		{[]api.Cmd{put("a")}, []api.Cmd{add("a")}, true},
		{[]api.Cmd{get("a")}, []api.Cmd{del("a")}, true},
		{[]api.Cmd{get("a")}, []api.Cmd{add("a")}, true},
		{[]api.Cmd{del("a")}, []api.Cmd{del("a")}, true},
		{[]api.Cmd{del("a")}, []api.Cmd{add("a")}, true},
		{[]api.Cmd{add("a")}, []api.Cmd{add("a")}, true},
		{[]api.Cmd{get("a")}, []api.Cmd{get("a")}, false},
		{[]api.Cmd{put("a")}, []api.Cmd{put("b")}, false},
		{[]api.Cmd{put("a")}, []api.Cmd{put("aa")}, false},
		{[]api.Cmd{put("aa")}, []api.Cmd{get("a")}, false},
		{[]api.Cmd{put("a")}, nil, false},
		{nil, nil, false},
		{[]api.Cmd{}, []api.Cmd{del("a")}, false},
		{[]api.Cmd{get("a"), put("b")}, []api.Cmd{get("a"), put("c")}, false},
		{[]api.Cmd{get("a"), put("b")}, []api.Cmd{get("a"), get("b")}, true},
		{[]api.Cmd{get("a"), put("a")}, []api.Cmd{get("a")}, true},
		{[]api.Cmd{put("a"), get("a")}, []api.Cmd{get("a")}, true},
		{[]api.Cmd{get("a"), get("a"), del("a"), get("a")}, []api.Cmd{get("b"), get("a")}, true},
		{[]api.Cmd{put("b"), put("d"), put("f")}, []api.Cmd{put("a"), put("c"), put("e"), put("g")}, false},
		{[]api.Cmd{put("b"), put("d"), put("f")}, []api.Cmd{get("a"), get("c"), get("d"), get("e")}, true},
		{[]api.Cmd{put("f"), get("d"), put("b")}, []api.Cmd{get("e"), get("d"), get("c"), get("a")}, false},
		{[]api.Cmd{put("f"), get("d"), put("b")}, []api.Cmd{get("e"), put("d"), get("c"), get("a")}, true},
		{[]api.Cmd{put("f"), get("d"), put("b")}, []api.Cmd{get("b")}, true},
		{[]api.Cmd{put("f"), get("d"), put("b")}, []api.Cmd{get("f")}, true},
	} {
		for _, pair := range [][2][]api.Cmd{{told.one, told.other}, {told.other, told.one}} {
			l := records(rec(mid, nil, pair[0]...), rec(low, nil, pair[1]...))
			want := verdict{holds: true}
			var deps []api.Id
			if told.want {
				want, deps = verdict{low, mid, false}, ids(mid)
			}
			mustBe(t, fmt.Sprint("Holds of ", pair), holds(mustMake(t, l)), want)
			mustRecords(t, fmt.Sprint("Mend of ", pair), Mend(l), records(l[0], rec(low, deps, pair[1]...)))
			mustHold(t, "pairs", l)
		}
	}
}

// P20.1, P20.2: by one pair of commands alone, wherever the two stand in their batches.
func TestConflictByOneCommand(t *testing.T) {
	for n := range api.MaxBatch {
		for m := range api.MaxBatch {
			var a, b []api.Cmd
			for at := range api.MaxBatch {
				a, b = append(a, put("x"+strconv.Itoa(at))), append(b, get("y"+strconv.Itoa(at)))
			}
			for _, key := range []string{"a", "x5a", "z"} {
				for _, pair := range [][2]api.Cmd{{put(key), get(key)}, {get(key), add(key)}, {del(key), put(key)}, {get(key), get(key)}, {put(key), put("none")}} {
					a[n], b[m] = pair[0], pair[1]
					l := records(rec(low, nil, a...), rec(mid, nil, b...))
					want := verdict{low, mid, false}
					if !conflict(l[0], l[1]) {
						want = verdict{holds: true}
					}
					what := fmt.Sprintf("%v at %d and %d", pair, n, m)
					mustBe(t, "Holds: "+what, holds(mustMake(t, l)), want)
					mustBe(t, "Mend: "+what, len(Mend(l)[1].Deps) == 0, want.holds)
					mustBe(t, "Mend, turned: "+what, len(Mend(records(l[1], l[0]))[1].Deps) == 0, want.holds)
				}
			}
		}
	}
}

// P20.1: whether the premise holds, and which two lack an edge, whatever the order of the records.
func TestHolds(t *testing.T) {
	yes := verdict{holds: true}
	for _, told := range []struct {
		what string
		l    []api.Record
		want verdict
	}{
		{"no records", nil, yes},
		{"no records, empty", records(), yes},
		{"one record", records(rec(mid, nil, get("a"))), yes},
		{"one that conflicts with itself", records(rec(mid, nil, put("a"), get("a"), del("a"))), yes},
		{"without commands", records(rec(low, nil), rec(mid, nil), rec(high, nil)), yes},
		{"one without commands", records(rec(low, nil, put("a")), rec(mid, nil)), yes},
		{"two that conflict, and the greater one has an edge", records(rec(low, nil, put("a")), rec(mid, ids(low), put("a"))), yes},
		{"two that conflict, and the lesser one has an edge", records(rec(low, ids(mid), put("a")), rec(mid, nil, put("a"))), yes},
		{"two that conflict, with an edge both ways", records(rec(low, ids(mid), put("a")), rec(mid, ids(low), get("a"))), yes},
		{"two that conflict without one", records(rec(high, nil, put("a")), rec(low, nil, get("a"))), verdict{low, high, false}},
		{"two that conflict, of one replica", records(rec(high, nil, put("a")), rec(mid, nil, get("a"))), verdict{mid, high, false}},
		{"a greater slot of a lesser replica", records(rec(id(2, 1), nil, put("a")), rec(id(1, 1<<20), nil, get("a"))), verdict{id(1, 1<<20), id(2, 1), false}},
		{"slots are numbers", records(rec(id(2, 10), nil, put("a")), rec(id(2, 9), nil, get("a"))), verdict{id(2, 9), id(2, 10), false}},
		{"the Seq is none of it", records(api.Record{Id: low, Seq: 9, Batch: []api.Cmd{put("a")}}, api.Record{Id: top, Seq: 1, Batch: []api.Cmd{put("a")}}), verdict{low, top, false}},
		{"two that do not conflict", records(rec(low, nil, put("a")), rec(mid, nil, put("b"))), yes},
		{"many that read", records(rec(low, nil, get("a")), rec(mid, nil, get("a")), rec(high, nil, get("a"))), yes},
		{"two that do not conflict, and have an edge", records(rec(low, nil, get("a")), rec(mid, ids(low), get("a"))), yes},
		{"by way of a third one alone", records(rec(low, nil, put("a")), rec(mid, ids(low), get("b")), rec(high, ids(mid), put("a"))), verdict{low, high, false}},
		{"by way of a third one that both have", records(rec(low, ids(mid), put("a")), rec(mid, nil), rec(high, ids(mid), put("a"))), verdict{low, high, false}},
		{"by way of one that is missing", records(rec(low, ids(gone), put("a")), rec(mid, ids(gone), put("a"))), verdict{low, mid, false}},
		{"Deps that are missing", records(rec(low, ids(gone), put("a")), rec(mid, ids(low, gone, far), put("a"))), yes},
		{"two pairs", records(rec(low, nil, put("a")), rec(mid, nil, put("b")), rec(high, nil, put("a")), rec(top, nil, put("b"))), verdict{low, high, false}},
		{"two pairs, one in the other one", records(rec(low, nil, put("a")), rec(mid, nil, put("b")), rec(high, nil, put("b")), rec(top, nil, put("a"))), verdict{low, top, false}},
		{"the second one of two pairs", records(rec(low, nil, put("a")), rec(mid, nil, put("b")), rec(high, ids(low), put("a")), rec(top, nil, put("b"))), verdict{mid, top, false}},
		{"several with the same first one", records(rec(low, nil, put("a")), rec(mid, ids(high, top), get("a")), rec(high, nil, get("a")), rec(top, nil, get("a"))), verdict{low, mid, false}},
		{"several with the same first one, the least of them has an edge", records(rec(low, ids(mid), put("a")), rec(mid, ids(high, top), put("a")), rec(high, ids(top), put("a")), rec(top, nil, put("a"))), verdict{low, high, false}},
		{"the last two alone", records(rec(low, ids(mid, high, top), put("a")), rec(mid, ids(high, top), put("a")), rec(high, nil, put("a")), rec(top, nil, put("a"))), verdict{high, top, false}},
		{"the first one and the last one alone", records(rec(low, ids(mid, high), put("a")), rec(mid, ids(high, top), put("a")), rec(high, ids(top), put("a")), rec(top, nil, put("a"))), verdict{low, top, false}},
		{"all of four", records(rec(low, ids(mid, high, top), put("a")), rec(mid, ids(high, top), put("a")), rec(high, nil, put("a")), rec(top, ids(high), put("a"))), yes},
		{"a ring of three", records(rec(low, ids(mid), put("a")), rec(mid, ids(high), put("a")), rec(high, ids(low), put("a"))), yes},
		{"the first Dep and the last one of many", records(rec(low, nil, put("a")), rec(mid, append(append(ids(low), row(2, 14)...), far), put("a"), get("b")), rec(far, nil, put("b"))), yes},
		{"one in the midst of many", records(rec(top, nil, put("a")), rec(mid, append(append(row(2, 7), top), row(6, 8)...), put("a"))), yes},
	} {
		for _, turn := range turns(told.l) {
			mustBe(t, told.what, holds(mustMake(t, turn)), told.want)
		}
		mustHold(t, told.what, told.l)
	}
}

// P20.1: which two have an edge.
func TestEdge(t *testing.T) {
	sixteen := append(append(ids(low), row(2, 14)...), far)
	g := mustMake(t, records(
		rec(low, nil, put("a")),
		rec(mid, ids(low, high), put("a")),
		rec(high, ids(mid, gone)),
		rec(top, append(append(row(2, 7), id(3, 9)), row(6, 8)...)),
		rec(far, nil),
		rec(id(3, 9), nil, get("b")),
		rec(id(6, 1), sixteen, get("c")),
		rec(id(6, 2), ids(id(6, 1))),
	))
	for _, told := range []struct {
		what string
		a, b api.Id
		want bool
	}{
		{"a Dep", mid, low, true},
		{"both ways", mid, high, true},
		{"none", low, high, false},
		{"none, though they conflict with the same ones", low, id(3, 9), false},
		{"none, of one without Deps", low, far, false},
		{"one that is missing", high, gone, false},
		{"one of many Deps that is missing", top, id(6, 103), false},
		{"the one in the midst", top, id(3, 9), true},
		{"the first one of the most", id(6, 1), low, true},
		{"the last one of the most", id(6, 1), far, true},
		{"one way only, by way of another one", id(6, 2), low, false},
		{"none, beside those of its replica", id(6, 2), far, false},
		{"an id with its neighbour", id(6, 2), id(6, 1), true},
		{"missing on one side", low, gone, false},
		{"missing, with no record that has it", mid, id(4, 4), false},
		{"missing on both sides", gone, id(4, 4), false},
		{"Deps on both sides", id(2, 100), id(2, 101), false},
		{"an id of another replica", id(0, 3), mid, false},
		{"an id of another slot", id(1, 7), mid, false},
	} {
		mustBe(t, told.what, Edge(g, told.a, told.b), told.want)
		mustBe(t, told.what+", turned", Edge(g, told.b, told.a), told.want)
	}
	odd := append(oddIds(), g.Missing()...)
	all := append(g.Ids(), odd...)
	for _, i := range all {
		mustBe(t, fmt.Sprint("Edge of itself and ", i), Edge(g, i, i), false)
		for _, o := range odd {
			mustBe(t, fmt.Sprintf("Edge of %v and %v", i, o), Edge(g, i, o), false)
			mustBe(t, fmt.Sprintf("Edge of %v and %v", o, i), Edge(g, o, i), false)
		}
	}
	// A record that has itself among its Deps may not be, so that no graph has one.
	g, e := edges.New(records(rec(low, ids(low))))
	mustBe(t, "a record with itself among its Deps", e, api.ErrSelf)
	mustBe(t, "Edge of it", Edge(g, low, low), false)
}

// P20.2: what is added, and where.
func TestMend(t *testing.T) {
	a := put("a")
	for _, told := range []struct {
		what string
		l    []api.Record
		want []api.Record
	}{
		{"nil", nil, nil},
		{"no records", records(), nil},
		{"one record", records(rec(mid, ids(low), a, a)), records(rec(mid, ids(low), a, a))},
		{"one without anything", records(rec(mid, nil)), records(rec(mid, nil))},
		{"two that do not conflict", records(rec(mid, nil, a), rec(low, nil, put("b"))), records(rec(mid, nil, a), rec(low, nil, put("b")))},
		{"two that read", records(rec(mid, nil, get("a")), rec(low, nil, get("a"))), records(rec(mid, nil, get("a")), rec(low, nil, get("a")))},
		{"an edge from the one behind", records(rec(mid, nil, a), rec(low, ids(mid), a)), records(rec(mid, nil, a), rec(low, ids(mid), a))},
		{"an edge from the one ahead", records(rec(mid, ids(low), a), rec(low, nil, a)), records(rec(mid, ids(low), a), rec(low, nil, a))},
		{"an edge both ways", records(rec(mid, ids(low), a), rec(low, ids(mid), a)), records(rec(mid, ids(low), a), rec(low, ids(mid), a))},
		{"the lesser id behind", records(rec(top, nil, a), rec(low, nil, get("a"))), records(rec(top, nil, a), rec(low, ids(top), get("a")))},
		{"the greater id behind", records(rec(low, nil, get("a")), rec(top, nil, a)), records(rec(low, nil, get("a")), rec(top, ids(low), a))},
		{"by way of a third one", records(rec(low, nil, a), rec(mid, ids(low)), rec(high, ids(mid), a)), records(rec(low, nil, a), rec(mid, ids(low)), rec(high, ids(low, mid), a))},
		{"ahead of the first Dep", records(rec(low, nil, a), rec(mid, ids(gone, far), a)), records(rec(low, nil, a), rec(mid, ids(low, gone, far), a))},
		{"between two", records(rec(top, nil, a), rec(mid, ids(gone, far), a)), records(rec(top, nil, a), rec(mid, ids(gone, top, far), a))},
		{"behind the last one", records(rec(far, nil, a), rec(mid, ids(gone, top), a)), records(rec(far, nil, a), rec(mid, ids(gone, top, far), a))},
		{"at all of these places", records(rec(far, nil, a), rec(low, nil, get("a")), rec(high, nil, get("a")), rec(mid, ids(gone, top), add("a"))), records(rec(far, nil, a), rec(low, ids(far), get("a")), rec(high, ids(far), get("a")), rec(mid, ids(low, high, gone, top, far), add("a")))},
		{"several that lack in one record", records(rec(top, nil, get("a")), rec(low, nil, get("a")), rec(high, nil, get("a")), rec(mid, nil, a)), records(rec(top, nil, get("a")), rec(low, nil, get("a")), rec(high, nil, get("a")), rec(mid, ids(low, high, top), a))},
		{"one that lacks in several records", records(rec(mid, nil, a), rec(top, nil, get("a")), rec(low, nil, get("a")), rec(high, nil, get("a"))), records(rec(mid, nil, a), rec(top, ids(mid), get("a")), rec(low, ids(mid), get("a")), rec(high, ids(mid), get("a")))},
		{"each with each", records(rec(top, nil, a), rec(low, nil, a), rec(high, nil, a), rec(mid, nil, a)), records(rec(top, nil, a), rec(low, ids(top), a), rec(high, ids(low, top), a), rec(mid, ids(low, high, top), a))},
		{"some of them with an edge", records(rec(top, ids(mid), a), rec(low, nil, a), rec(high, ids(low), a), rec(mid, nil, a)), records(rec(top, ids(mid), a), rec(low, ids(top), a), rec(high, ids(low, top), a), rec(mid, ids(low, high), a))},
		{"two keys", records(rec(low, nil, a), rec(mid, nil, put("b")), rec(top, nil, get("a"), get("b")), rec(high, nil, get("b"))), records(rec(low, nil, a), rec(mid, nil, put("b")), rec(top, ids(low, mid), get("a"), get("b")), rec(high, ids(mid), get("b")))},
		{"other parts", records(api.Record{Id: low, Seq: 1 << 30, Batch: []api.Cmd{a, del("b")}}, api.Record{Id: mid, Seq: 1, Batch: []api.Cmd{get("b"), {Kind: api.Add, Key: "c", Value: math.Copysign(0, -1)}}}), records(api.Record{Id: low, Seq: 1 << 30, Batch: []api.Cmd{a, del("b")}}, api.Record{Id: mid, Seq: 1, Deps: ids(low), Batch: []api.Cmd{get("b"), {Kind: api.Add, Key: "c", Value: math.Copysign(0, -1)}}})},
	} {
		mustRecords(t, told.what, mustMend(t, told.what, told.l), told.want)
	}
}

// rivals are n records that read a: the first ones of the list have the greater ids.
func rivals(n int) []api.Record {
	var l []api.Record
	for at := range n {
		l = append(l, rec(id(4, 50-at), nil, get("a")))
	}
	return l
}

// P20.2: nothing is added where there is no room, and what stands further ahead in the list goes in first.
func TestMendFull(t *testing.T) {
	for has := range api.MaxDeps + 1 {
		for n := range 22 {
			for _, deps := range [][]api.Id{row(2, has), row(6, has), append(row(2, has/2), row(6, has-has/2)...)} {
				l := append(rivals(n), rec(top, deps, put("a")), rec(low, nil, get("b")))
				what := fmt.Sprintf("a record with %d Deps behind %d that it lacks", len(deps), n)
				got := mustMend(t, what, l)
				want := slices.Clone(deps)
				for _, r := range l[:min(n, api.MaxDeps-has)] {
					want = append(want, r.Id)
				}
				mustBe(t, what, fmt.Sprint(got[n].Deps), fmt.Sprint(inOrder(want)))
				told := holds(mustMake(t, got))
				// P20.4: with MaxDeps it may not hold: the least id is that of the last one that did not go in.
				if has+n > api.MaxDeps {
					mustBe(t, what+": Holds", told, verdict{l[n-1].Id, top, false})
				} else {
					mustBe(t, what+": Holds", told, verdict{holds: true})
				}
			}
		}
	}
	// One that is full lacks some, yet those behind it are mended, against it, too.
	l := append(rivals(18), rec(top, nil, put("a")), rec(low, nil, put("a")), rec(mid, row(2, 16), put("a")), rec(far, nil, get("a")))
	got := mustMend(t, "behind some that are full", l)
	mustBe(t, "the Deps of the first one that is full", len(got[18].Deps), 16)
	mustBe(t, "the Deps of the one behind it", fmt.Sprint(got[19].Deps), fmt.Sprint(got[18].Deps))
	mustBe(t, "the Deps of one that was full", fmt.Sprint(got[20].Deps), fmt.Sprint(row(2, 16)))
	mustBe(t, "the Deps of the last one", fmt.Sprint(got[21].Deps), fmt.Sprint(ids(low, mid, top)))
	// One that is full may have edges from those behind it.
	l = records(rec(top, nil, put("a")), rec(mid, row(2, 16), put("a")), rec(low, ids(mid), put("a")))
	got = mustMend(t, "full, with an edge to it", l)
	mustBe(t, "the Deps of the last one", fmt.Sprint(got[2].Deps), fmt.Sprint(ids(mid, top)))
}

// P20.2: where there is room for some alone, those of lesser ids do not come first.
func TestMendFirstInTheList(t *testing.T) {
	l := rivals(20)
	for seed := range uint64(60) {
		roll := dice(seed)
		for at := range l {
			other := roll(len(l))
			l[at], l[other] = l[other], l[at]
		}
		all := slices.Clone(l)
		writer := rec(mid, row(7, 10), put("a"))
		place := roll(len(l) + 1)
		all = slices.Insert(all, place, writer)
		got := mustMend(t, "in whatever order", all)
		want := slices.Clone(writer.Deps)
		for _, r := range all[:min(place, 6)] {
			want = append(want, r.Id)
		}
		mustBe(t, "the Deps of the writer", fmt.Sprint(got[place].Deps), fmt.Sprint(inOrder(want)))
		for at, r := range got {
			if at < place {
				mustBe(t, "the Deps of those ahead of it", len(r.Deps), 0)
			}
			if at > place {
				mustBe(t, "the Deps of those behind it", fmt.Sprint(r.Deps), fmt.Sprint(ids(mid)))
			}
		}
	}
}

// unfit are records that may not be, of each kind, all with the Id that was asked for where that is not what is wrong.
func unfit(i api.Id) []api.Record {
	a := put("a")
	seventeen := row(6, 17)
	l := records(
		api.Record{},
		api.Record{Id: i, Seq: 0, Batch: []api.Cmd{a}},
		api.Record{Id: i, Seq: -1, Batch: []api.Cmd{a}},
		api.Record{Id: i, Seq: 1<<30 + 1, Batch: []api.Cmd{a}},
		api.Record{Id: i, Seq: math.MinInt, Batch: []api.Cmd{a}},
		rec(i, seventeen, a),
		rec(i, ids(i), a),
		rec(i, ids(id(0, 1), i), a),
		rec(i, ids(id(0, 2), id(0, 1)), a),
		rec(i, ids(id(0, 2), id(0, 2)), a),
		rec(i, ids(api.Id{}), a),
		rec(i, ids(id(8, 1)), a),
		rec(i, ids(id(-1, 1)), a),
		rec(i, ids(id(0, 1), id(2, 1<<20+1)), a),
		rec(i, nil, slices.Repeat([]api.Cmd{a}, 9)...),
		rec(i, nil, a, api.Cmd{}),
		rec(i, nil, a, put("")),
		rec(i, nil, a, put("A")),
		rec(i, nil, a, put("abcdefghijklm")),
		rec(i, nil, a, api.Cmd{Kind: api.Get, Key: "a", Value: 1}),
		rec(i, nil, a, api.Cmd{Kind: api.Delete, Key: "a", Value: math.Copysign(0, -1)}),
		rec(i, nil, a, api.Cmd{Kind: 5, Key: "a"}),
		rec(i, nil, api.Cmd{Kind: -1, Key: "a"}, a),
	)
	for _, odd := range oddIds()[4:] {
		l = append(l, rec(odd, nil, a))
	}
	return l
}

// P20.2: records that may not be are left out, wherever they stand, and nothing is held against them.
func TestMendUnfit(t *testing.T) {
	fit := records(rec(top, nil, put("a")), rec(low, ids(gone), get("a")), rec(mid, nil, add("a")))
	want := records(rec(top, nil, put("a")), rec(low, ids(gone, top), get("a")), rec(mid, ids(low, top), add("a")))
	all := unfit(high)
	for at, r := range all {
		if record.Check(r) == api.OK {
			t.Errorf("the record %d may be: %v", at, r)
		}
		mustRecords(t, fmt.Sprint("Mend of it alone, ", at), Mend(records(r)), nil)
		for place := range len(fit) + 1 {
			what := fmt.Sprintf("the one that may not be at %d, %d", place, at)
			mustRecords(t, what, mustMend(t, what, slices.Insert(slices.Clone(fit), place, r)), want)
		}
		// Where the first one of an Id may not be, it is as if it did not stand there.
		what := fmt.Sprintf("one of the Id of one that may not be, %d", at)
		l := records(r, rec(top, nil, put("a")), rec(high, nil, put("a")), r)
		mustRecords(t, what, mustMend(t, what, l), records(l[1], rec(high, ids(top), put("a"))))
	}
	mustRecords(t, "all that may not be", Mend(all), nil)
	mustRecords(t, "all that may not be, and others", mustMend(t, "all", slices.Concat(all, fit[:1], all, fit[1:], all)), want)
	mustRecords(t, "all that may not be, of an Id of those", mustMend(t, "all", slices.Concat(unfit(low), fit, unfit(mid))), want)
}

// P20.2: of each Id the first one is taken, and nothing is held against the others.
func TestMendDoubled(t *testing.T) {
	a := put("a")
	one, other := rec(high, nil, a), rec(mid, nil, a)
	mended := rec(mid, ids(high), a)
	for _, told := range []struct {
		what    string
		l, want []api.Record
	}{
		{"the same one twice", records(one, one), records(one)},
		{"the same one many times", records(one, one, other, one, other, one), records(one, mended)},
		{"another one with its Id", records(one, rec(high, nil, put("b"))), records(one)},
		{"another one with its Id, the other way round", records(rec(high, nil, put("b")), one), records(rec(high, nil, put("b")))},
		{"one that would conflict, with an Id that stood ahead", records(rec(high, nil, put("b")), one, other), records(rec(high, nil, put("b")), other)},
		{"one that would have an edge, with an Id that stood ahead", records(one, rec(high, ids(mid), a), other), records(one, mended)},
		{"behind one that may not be", records(rec(high, ids(high), a), one, other), records(one, mended)},
		{"behind one that may not be, twice", records(rec(high, ids(high), a), one, rec(high, nil, put("b")), other), records(one, mended)},
		{"ahead of one that may not be", records(one, rec(high, ids(high), a), other, one), records(one, mended)},
	} {
		mustRecords(t, told.what, mustMend(t, told.what, told.l), told.want)
	}
}

// P20.3: which commands write a key.
func TestWriters(t *testing.T) {
	g := mustMake(t, records(
		rec(top, nil, put("a"), get("a"), del("a"), add("b"), add("a")),
		rec(low, ids(gone), get("a"), get("b")),
		rec(mid, ids(low), get("a"), add("ab")),
		rec(high, nil, add("a")),
		rec(far, nil),
		rec(id(6, 1), nil, slices.Repeat([]api.Cmd{del("c")}, 8)...),
		rec(id(6, 2), nil, add("zzzzzzzzzzzz"), put("a1"), put("1a"), put("0")),
	))
	w := func(i api.Id, at int) api.Writer { return api.Writer{Id: i, At: at} }
	var eight []api.Writer
	for at := range 8 {
		eight = append(eight, w(id(6, 1), at))
	}
	for _, told := range []struct {
		what string
		l    []api.Id
		key  string
		want []api.Writer
	}{
		{"one with several", ids(top), "a", []api.Writer{w(top, 0), w(top, 2), w(top, 4)}},
		{"another key", ids(top), "b", []api.Writer{w(top, 3)}},
		{"a key that it has no command of", ids(top), "c", nil},
		{"one that reads", ids(low), "a", nil},
		{"a longer key with the same beginning", ids(mid), "a", nil},
		{"the longer key", ids(mid), "ab", []api.Writer{w(mid, 1)}},
		{"a key still longer", ids(mid, top), "abc", nil},
		{"in the list's order", ids(top, high), "a", []api.Writer{w(top, 0), w(top, 2), w(top, 4), w(high, 0)}},
		{"in the list's order, the other way round", ids(high, top), "a", []api.Writer{w(high, 0), w(top, 0), w(top, 2), w(top, 4)}},
		{"among others", ids(far, high, gone, low, top, mid), "a", []api.Writer{w(high, 0), w(top, 0), w(top, 2), w(top, 4)}},
		{"without commands", ids(far), "a", nil},
		{"missing", ids(gone), "a", nil},
		{"all of eight", ids(id(6, 1)), "c", eight},
		{"the longest key", ids(id(6, 2)), "zzzzzzzzzzzz", []api.Writer{w(id(6, 2), 0)}},
		{"keys near one another", ids(id(6, 2), high), "a1", []api.Writer{w(id(6, 2), 1)}},
		{"a key that begins otherwise", ids(id(6, 2), high), "1a", []api.Writer{w(id(6, 2), 2)}},
		{"a key of a digit", ids(id(6, 2), high), "0", []api.Writer{w(id(6, 2), 3)}},
		{"an id twice", ids(high, top, high), "a", []api.Writer{w(high, 0), w(top, 0), w(top, 2), w(top, 4), w(high, 0)}},
		{"no ids", nil, "a", nil},
		{"no ids, empty", ids(), "a", nil},
		{"the key of no byte", g.Ids(), "", nil},
		{"a key that may not be", g.Ids(), "A", nil},
		{"a key of a blank", g.Ids(), "a ", nil},
		{"a key that is too long", g.Ids(), "zzzzzzzzzzzzz", nil},
		{"odd ids", oddIds(), "a", nil},
		{"odd ids, and one", append(oddIds(), high), "a", []api.Writer{w(high, 0)}},
		{"one, and odd ids", append(ids(high), oddIds()...), "a", []api.Writer{w(high, 0)}},
	} {
		mustWriters(t, told.what, Writers(g, told.l, told.key), told.want...)
	}
	// All orders of some ids.
	for _, part := range parts(g.Ids()) {
		if len(part) > 5 {
			continue
		}
		for _, turn := range turns(part) {
			for _, key := range []string{"a", "b", "c", "ab", ""} {
				mustWriters(t, fmt.Sprintf("Writers of %v, %s", turn, key), Writers(g, turn, key), logged(t, g, turn, key)...)
			}
		}
	}
}

// logged is a vault's log of a key, after the batches of l's records, as far as they are there.
func logged(t *testing.T, g *edges.Graph, l []api.Id, key string) []api.Writer {
	t.Helper()
	v := vault.New()
	for _, i := range l {
		if r, ok := g.Record(i); ok {
			_, e := v.Apply(i, r.Batch)
			mustBe(t, "Apply", e, api.OK)
		}
	}
	return v.Log(key)
}

// P20.1, P20.2, P20.4: all lists of up to three small records, in all orders, with all edges between them.
func TestSmall(t *testing.T) {
	batches := [][]api.Cmd{nil, {get("a")}, {put("a")}, {get("a"), add("b")}}
	held, lacking := 0, 0
	for n := range 4 {
		names := ids(mid, low, high)[:n]
		for _, turn := range turns(names) {
			for kinds := range pow(len(batches), n) {
				for links := range pow(2, n*n) {
					l, fits := small(turn, batches, kinds, links)
					if !fits {
						continue
					}
					mustMend(t, "small", l)
					mustHold(t, "small", l)
					if judge(l).holds {
						held++
					} else {
						lacking++
					}
				}
			}
			if t.Failed() {
				t.FailNow()
			}
		}
	}
	if held < 10000 || lacking < 5000 {
		t.Error("so many hold, and so many do not:", held, lacking)
	}
}

// pow is b to the power of n.
func pow(b, n int) int {
	p := 1
	for range n {
		p *= b
	}
	return p
}

// small are records of these names: kinds numbers their batches, and links which have which as Deps; false of a record with itself.
func small(names []api.Id, batches [][]api.Cmd, kinds, links int) ([]api.Record, bool) {
	var l []api.Record
	for at, i := range names {
		var deps []api.Id
		for to, dep := range names {
			if links>>(at*len(names)+to)&1 == 1 {
				if to == at {
					return nil, false
				}
				deps = append(deps, dep)
			}
		}
		l = append(l, rec(i, inOrder(deps), batches[kinds%len(batches)]...))
		kinds /= len(batches)
	}
	return l, true
}

// P20.1, P20.2, P20.4: all lists of four small records that read or write, with all edges between them.
func TestFour(t *testing.T) {
	names := ids(high, low, top, mid)
	batches := [][]api.Cmd{{get("a")}, {put("a")}}
	for kinds := range 16 {
		for links := range 1 << 16 {
			l, fits := small(names, batches, kinds, links)
			if !fits {
				continue
			}
			g, e := edges.New(l)
			if e != api.OK || holds(g) != judge(l) {
				t.Fatalf("Holds of %v: %v, not %v", l, holds(g), judge(l))
			}
			got := Mend(l)
			if !slices.EqualFunc(got, mended(l), record.Same) {
				t.Fatalf("Mend of %v: %v, not %v", l, got, mended(l))
			}
			g, e = edges.New(got)
			if e != api.OK || holds(g) != (verdict{holds: true}) {
				t.Fatalf("Holds behind Mend of %v: %v", l, holds(g))
			}
		}
	}
}

// ofChance are records of a few keys, with Deps of which some are missing, and now and then one that may not be, or whose Id stood ahead.
func ofChance(roll func(n int) int) []api.Record {
	var l []api.Record
	n, keys := roll(40), 1+roll(12)
	for range n {
		var batch []api.Cmd
		for range roll(4) {
			key := strconv.Itoa(roll(keys))
			batch = append(batch, []api.Cmd{get(key), get(key), put(key), add(key), del(key)}[roll(5)])
		}
		var deps []api.Id
		for range roll(8) {
			deps = append(deps, id(roll(4), 1+roll(15)))
		}
		if roll(12) > 0 {
			deps = slices.Compact(inOrder(deps))
		}
		l = append(l, rec(id(roll(4), 1+roll(15)), deps, batch...))
		if roll(15) == 0 {
			l[len(l)-1].Seq = 0
		}
	}
	return l
}

// P20.1 to P20.4: records of chance.
func TestOfChance(t *testing.T) {
	full, held, lacking, out, written := 0, 0, 0, 0, 0
	for seed := range uint64(600) {
		roll := dice(seed)
		l := ofChance(roll)
		got := mustMend(t, "of chance", l)
		fine := left(l)
		mustHold(t, "of chance", fine)
		mustHold(t, "of chance, mended", got)
		g := mustMake(t, fine)
		var order []api.Id
		for range roll(20) {
			order = append(order, id(roll(4), 1+roll(15)))
		}
		for key := range 4 {
			told := Writers(g, order, strconv.Itoa(key))
			mustWriters(t, "Writers of chance", told, logged(t, g, order, strconv.Itoa(key))...)
			written += len(told)
		}
		for _, r := range got {
			if len(r.Deps) == api.MaxDeps {
				full++
			}
		}
		if judge(fine).holds {
			held++
		} else {
			lacking++
		}
		out += len(l) - len(got)
		if t.Failed() {
			t.Fatalf("seed %d: %v", seed, l)
		}
	}
	if full < 50 || held < 20 || lacking < 100 || out < 500 || written < 500 {
		t.Error("so many are full, hold, do not, were left out, and were written:", full, held, lacking, out, written)
	}
}

// P20.1 to P20.4: lists of a hundred records, and longer ones, go through.
func TestLong(t *testing.T) {
	for _, n := range []int{100, 1000, 4000} {
		what := fmt.Sprintf("%d: ", n)
		var apart, readers, writers []api.Record
		for at := range n {
			i := id(at%8, n-at)
			apart = append(apart, rec(i, nil, put(strconv.Itoa(at)), get("shared"), get(strconv.Itoa(at))))
			readers = append(readers, rec(i, nil, get("a"), get("b"), get("c")))
			writers = append(writers, rec(i, nil, add("a"), get("b"), del("a")))
		}
		for _, l := range [][]api.Record{apart, readers} {
			mustBe(t, what+"Holds of those without conflicts", holds(mustMake(t, l)), verdict{holds: true})
			mustRecords(t, what+"Mend of those without conflicts", Mend(l), l)
		}
		g := mustMake(t, writers)
		mustBe(t, what+"Holds of writers", holds(g), verdict{g.Ids()[0], g.Ids()[1], false})
		mustBe(t, what+"the writers", len(Writers(g, g.Ids(), "a")), 2*n)
		mustBe(t, what+"the writers of another key", len(Writers(g, g.Ids(), "b")), 0)
		got := Mend(writers)
		for at, r := range got {
			var want []api.Id
			for _, o := range writers[:min(at, api.MaxDeps)] {
				want = append(want, o.Id)
			}
			mustBe(t, what+"the Deps of a writer", fmt.Sprint(r.Deps), fmt.Sprint(inOrder(want)))
		}
		// One that conflicts with the first one alone, and one that conflicts with the last one alone.
		most := append(deep(apart), rec(id(3, 1<<20), nil, put("0")), rec(id(4, 1<<20), nil, get(strconv.Itoa(n-1))))
		got = Mend(most)
		mustBe(t, what+"the Deps of the last one but one", fmt.Sprint(got[n].Deps), fmt.Sprint(ids(apart[0].Id)))
		mustBe(t, what+"the Deps of the last one", fmt.Sprint(got[n+1].Deps), fmt.Sprint(ids(apart[n-1].Id)))
		mustBe(t, what+"Holds behind Mend", holds(mustMake(t, got)), verdict{holds: true})
		mustBe(t, what+"Holds ahead of Mend", holds(mustMake(t, most)), judge(records(apart[0], apart[n-1], most[n], most[n+1])))
	}
}

// A nil graph has no records.
func TestNil(t *testing.T) {
	broken, e := edges.New(records(rec(low, nil), rec(low, nil)))
	mustBe(t, "two of one Id", e, api.ErrDup)
	for _, g := range []*edges.Graph{nil, broken} {
		mustBe(t, "Holds of nil", holds(g), verdict{holds: true})
		for _, one := range append(oddIds(), low, gone) {
			for _, other := range append(oddIds(), low, gone) {
				mustBe(t, "Edge of nil", Edge(g, one, other), false)
			}
		}
		for _, key := range []string{"", "a", "A"} {
			for _, l := range [][]api.Id{nil, {}, oddIds(), ids(low, low)} {
				mustWriters(t, "Writers of nil", Writers(g, l, key))
			}
		}
	}
}

// spoil writes all over records, their lists and the spare room of all of these.
func spoil(l []api.Record) {
	l = l[:cap(l)]
	for at := range l {
		spoilIds(l[at].Deps)
		batch := l[at].Batch[:cap(l[at].Batch)]
		for place := range batch {
			batch[place] = api.Cmd{Kind: 7, Key: "-", Value: 7}
		}
		l[at].Id, l[at].Seq = id(99, -99), -99
	}
}

// spoilIds writes all over ids, their spare room too.
func spoilIds(l []api.Id) {
	l = l[:cap(l)]
	for at := range l {
		l[at] = id(99, -99)
	}
}

// crowd are n records that conflict, each with a few Deps that are missing.
func crowd(n int) []api.Record {
	var l []api.Record
	for at := range n {
		l = append(l, rec(id(at%3, 30-at), row(4+at%3, at%4), []api.Cmd{put("a"), get("a")}[at%2], add("b")))
	}
	return l
}

// What is handed out is new: writing into it, its spare room too, changes nothing that was handed in, no other part of it, and no later answer.
func TestAnswersAreNew(t *testing.T) {
	for n := 1; n < 24; n++ {
		l, kept, want := crowd(n), crowd(n), mended(crowd(n))
		got, other := Mend(l), Mend(l)
		spoil(other)
		mustRecords(t, "Mend, told before", got, want)
		mustRecords(t, "Mend, told again", Mend(l), want)
		mustRecords(t, "what was handed in", l, kept)
		for at := range got {
			// What one of the lists grows by shows in no other one.
			_ = append(got[at].Deps, id(99, 99), id(99, -99))
			_ = append(got[at].Batch, api.Cmd{}, api.Cmd{})
			mustRecords(t, "Mend, a list of it grown", got, want)
		}
		for at := range got {
			spoilIds(got[at].Deps)
			mustRecords(t, "Mend behind one whose Deps were written into", got[at+1:], want[at+1:])
			spoil(got[at : at+1 : at+1])
			mustRecords(t, "Mend behind one that was written into", got[at+1:], want[at+1:])
		}
		// Nor does what is told hang on what becomes of what was handed in.
		given := crowd(n)
		got = Mend(given)
		spoil(given)
		mustRecords(t, "Mend, what was handed in written into", got, want)
	}
	l := records(rec(low, nil, put("a"), put("a"), put("a")), rec(mid, ids(low), del("a")))
	g := mustMake(t, l)
	before := whatIs(g)
	for range 3 {
		got := Writers(g, ids(mid, low), "a")
		mustWriters(t, "Writers", got, api.Writer{Id: mid}, api.Writer{Id: low}, api.Writer{Id: low, At: 1}, api.Writer{Id: low, At: 2})
		got = got[:cap(got)]
		for at := range got {
			got[at] = api.Writer{Id: gone, At: -1}
		}
		mustBe(t, "the graph", whatIs(g), before)
	}
}

// What the calls are handed is as it was, the spare room too; what stands in the spare room is none of it.
func TestArgumentsStay(t *testing.T) {
	// Deps and batches are pieces of longer lists, and so is the list of records.
	deps, cmds := append(row(4, 9), row(2, 9)...), slices.Repeat([]api.Cmd{put("a"), get("b"), put("b"), add("c")}, 4)
	keptDeps, keptCmds := slices.Clone(deps), slices.Clone(cmds)
	room := records(
		rec(top, deps[:0]),
		rec(low, deps[2:5]),
		rec(mid, deps[5:6]),
		rec(high, deps[9:12]),
		rec(far, deps[8:9]),
	)
	for at := range room {
		room[at].Batch = cmds[4*(at%3) : 4*(at%3)+1+at%2]
	}
	kept := deep(room)
	for range 3 {
		for n := range room {
			got := Mend(room[:n])
			mustRecords(t, "Mend", got, mended(kept[:n]))
			spoil(got)
			mustRecords(t, "what was handed in", room, kept)
			mustBe(t, "the Deps and what stands behind them", fmt.Sprint(deps), fmt.Sprint(keptDeps))
			mustBe(t, "the batches and what stands behind them", fmt.Sprint(cmds), fmt.Sprint(keptCmds))
		}
	}
	g := mustMake(t, room)
	before := whatIs(g)
	list := ids(top, gone, low, mid, high, top)
	for n := range list {
		kept := slices.Clone(list)
		mustWriters(t, "Writers", Writers(g, list[:n], "a"), logged(t, g, kept[:n], "a")...)
		mustBe(t, "Holds", holds(g), judge(room))
		for _, one := range list {
			Edge(g, one, list[n])
		}
		mustBe(t, "the list handed in", fmt.Sprint(list), fmt.Sprint(kept))
		mustBe(t, "the graph", whatIs(g), before)
	}
}

// The same call answers the same, as often as it is made, of one graph and of many.
func TestAgainAndAgain(t *testing.T) {
	l := crowd(20)
	g, before := mustMake(t, l), whatIs(mustMake(t, l))
	for range 30 {
		mustMend(t, "again", l)
		mustHold(t, "again", l)
		mustBe(t, "Holds", holds(g), judge(l))
		mustWriters(t, "Writers", Writers(g, g.Ids(), "b"), logged(t, g, g.Ids(), "b")...)
		mustBe(t, "the graph", whatIs(g), before)
	}
}

// Two graphs are each by itself.
func TestTwoGraphs(t *testing.T) {
	l := crowd(12)
	one, other := mustMake(t, l), mustMake(t, Mend(l))
	for range 3 {
		mustBe(t, "Holds of one", holds(one), judge(l))
		mustBe(t, "Holds of the other one", holds(other), verdict{holds: true})
		mustBe(t, "Edge of one", Edge(one, l[0].Id, l[11].Id), false)
		mustBe(t, "Edge of the other one", Edge(other, l[0].Id, l[11].Id), true)
	}
}
