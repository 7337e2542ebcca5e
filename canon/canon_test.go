package canon

import (
	"fmt"
	"math"
	"slices"
	"testing"

	"cortege/api"
	"cortege/comps"
	"cortege/edges"
)

func id(rep, slot int) api.Id { return api.Id{Rep: rep, Slot: slot} }

func ids(l ...api.Id) []api.Id             { return l }
func lists(l ...[]api.Id) [][]api.Id       { return l }
func records(l ...api.Record) []api.Record { return l }

// rec is a record without commands.
func rec(i api.Id, seq int, deps ...api.Id) api.Record {
	return api.Record{Id: i, Seq: seq, Deps: ordered(deps)}
}

// slots are n ids of a replica, from this slot on.
func slots(rep, first, n int) []api.Id {
	var l []api.Id
	for i := range n {
		l = append(l, id(rep, first+i))
	}
	return l
}

// oddIds are ids that none of the records here have or depend on: such as may be, and such as no id may be.
func oddIds() []api.Id {
	return ids(
		id(6, 6), id(0, 1<<20), id(7, 1<<20), id(5, 1),
		api.Id{}, id(8, 1), id(-1, 1), id(3, 0), id(3, -2), id(3, 1<<20+1), id(0, 1<<32+1), id(1<<32, 1), id(-8, 2),
		id(math.MinInt, math.MaxInt), id(math.MaxInt, math.MinInt), id(math.MaxInt, math.MaxInt), id(math.MinInt, math.MinInt),
	)
}

// ordered are l's ids by replica, then by slot, each once.
func ordered(l []api.Id) []api.Id {
	var in []api.Id
	for _, one := range l {
		at := 0
		for at < len(in) && (in[at].Rep < one.Rep || in[at].Rep == one.Rep && in[at].Slot < one.Slot) {
			at++
		}
		if at == len(in) || in[at] != one {
			in = slices.Insert(in, at, one)
		}
	}
	return in
}

// turns gives all orders of l.
func turns[T any](l []T) [][]T {
	if len(l) == 0 {
		return [][]T{nil}
	}
	var all [][]T
	for _, rest := range turns(l[1:]) {
		for at := range l {
			all = append(all, slices.Insert(slices.Clone(rest), at, l[0]))
		}
	}
	return all
}

// parts gives all lists that have some of l's elements, in l's order.
func parts[T any](l []T) [][]T {
	all := [][]T{nil}
	for _, one := range l {
		for _, part := range slices.Clone(all) {
			all = append(all, append(slices.Clone(part), one))
		}
	}
	return all
}

// idsOf are the ids of l's records.
func idsOf(l []api.Record) []api.Id {
	var all []api.Id
	for _, r := range l {
		all = append(all, r.Id)
	}
	return all
}

// mustMake is a graph of l, which must be one.
func mustMake(t *testing.T, l []api.Record) *edges.Graph {
	t.Helper()
	g, e := edges.New(l)
	if e != api.OK || g == nil {
		t.Fatalf("New of %v: %v, error %d", l, g, int(e))
	}
	return g
}

// mustList holds a list of ids against what it must be.
func mustList(t *testing.T, what string, got []api.Id, want ...api.Id) {
	t.Helper()
	if !slices.Equal(got, want) {
		t.Errorf("%.600s: %.600s, not %.600s", what, fmt.Sprint(got), fmt.Sprint(want))
	}
}

// mustLists holds lists of ids against what they must be.
func mustLists(t *testing.T, what string, got [][]api.Id, want ...[]api.Id) {
	t.Helper()
	if !slices.EqualFunc(got, want, slices.Equal[[]api.Id]) {
		t.Errorf("%.600s: %.600s, not %.600s", what, fmt.Sprint(got), fmt.Sprint(want))
	}
}

// mustBe holds what is told against what it must be.
func mustBe[T comparable](t *testing.T, what string, got, want T) {
	t.Helper()
	if got != want {
		t.Errorf("%.600s: %v, not %v", what, got, want)
	}
}

// story is what a graph of some records must tell. It goes along no ways: whether one reaches another one is worked out for all pairs at once.
type story struct {
	there map[api.Id]api.Record
	named []api.Id
	ways  map[api.Id]map[api.Id]bool
	comps [][]api.Id
}

// tell goes through l, which has records that may be, each Id once.
func tell(l []api.Record) story {
	s := story{there: map[api.Id]api.Record{}, ways: map[api.Id]map[api.Id]bool{}}
	for _, r := range l {
		s.there[r.Id] = r
		s.named = append(append(s.named, r.Id), r.Deps...)
	}
	s.named = ordered(s.named)
	for _, i := range s.named {
		s.ways[i] = map[api.Id]bool{i: true}
	}
	for _, r := range l {
		for _, dep := range r.Deps {
			s.ways[r.Id][dep] = true
		}
	}
	for _, by := range s.named {
		for _, from := range s.named {
			if s.ways[from][by] {
				for to := range s.ways[by] {
					s.ways[from][to] = true
				}
			}
		}
	}
	s.comps = s.parted()
	return s
}

// isClosed tells whether i, and all that it reaches, is there.
func (s story) isClosed(i api.Id) bool {
	for to := range s.ways[i] {
		if _, there := s.there[to]; !there {
			return false
		}
	}
	_, there := s.there[i]
	return there
}

// sorted are all closed ids: by Seq, then by replica and slot.
func (s story) sorted() []api.Id {
	var in []api.Id
	// The ids come in order, so that one stands behind all others of its Seq that came ahead of it.
	for _, one := range s.named {
		if !s.isClosed(one) {
			continue
		}
		at := len(in)
		for at > 0 && s.there[in[at-1]].Seq > s.there[one].Seq {
			at--
		}
		in = slices.Insert(in, at, one)
	}
	return in
}

// parted are all components: gone through in the order of records, each one is told at its first.
func (s story) parted() [][]api.Id {
	var all [][]api.Id
next:
	for _, i := range s.sorted() {
		for at := range all {
			if first := all[at][0]; s.ways[first][i] && s.ways[i][first] {
				all[at] = append(all[at], i)
				continue next
			}
		}
		all = append(all, ids(i))
	}
	return all
}

// leads tells whether one of a, that is there, has a Dep that is one of b, and not one of a.
func (s story) leads(a, b []api.Id) bool {
	for _, i := range a {
		for _, dep := range s.there[i].Deps {
			if slices.Contains(b, dep) && !slices.Contains(a, dep) {
				return true
			}
		}
	}
	return false
}

// order is the canonical order, just as its words say: again and again all that are left are looked at.
func (s story) order() [][]api.Id {
	var all [][]api.Id
	left := slices.Clone(s.comps)
	for len(left) > 0 {
		at := slices.IndexFunc(left, func(one []api.Id) bool {
			return !slices.ContainsFunc(left, func(other []api.Id) bool { return s.leads(one, other) })
		})
		all = append(all, left[at])
		left = slices.Delete(left, at, at+1)
	}
	return all
}

// within tells whether l has just this list.
func within(l [][]api.Id, one []api.Id) bool {
	return slices.ContainsFunc(l, func(other []api.Id) bool { return slices.Equal(one, other) })
}

// right tells whether l is a possible order of a part of the graph.
func (s story) right(l [][]api.Id) bool {
	for at, one := range l {
		if !within(s.comps, one) || within(l[:at], one) {
			return false
		}
		for _, other := range s.comps {
			if s.leads(one, other) && !within(l[:at], other) {
				return false
			}
		}
	}
	return true
}

// others are lists close to o's: each two in the other's place, each one left out, or told twice, its ids turned, or less or more, and two made one.
func others(o [][]api.Id) [][][]api.Id {
	all := [][][]api.Id{nil, {}, {nil}, {{}}, slices.Clone(o)}
	slices.Reverse(all[4])
	put := func(at, end int, l ...[]api.Id) { all = append(all, slices.Concat(o[:at], l, o[end:])) }
	for at, one := range o {
		turned := slices.Clone(one)
		slices.Reverse(turned)
		put(at, at+1)
		put(at, at)
		put(at, at, ids())
		put(at, at+1, turned)
		put(at, at+1, one[1:])
		put(at, at+1, one[1:], one[:1])
		put(at, at+1, one[:len(one)-1])
		put(at, at+1, append(slices.Clone(one), one[0]))
		all = append(all, o[:at], o[at:], lists(one))
		odd := oddIds()[at%len(oddIds())]
		put(at, at+1, ids(odd))
		put(at, at+1, append(slices.Clone(one), odd))
		put(at, at+1, append(ids(odd), one...))
		for end := range o {
			moved := slices.Clone(o)
			moved[at], moved[end] = moved[end], moved[at]
			all = append(all, moved, slices.Insert(slices.Clone(o), end, one), slices.Insert(slices.Delete(slices.Clone(o), at, at+1), min(end, len(o)-1), one))
			put(at, at+1, slices.Concat(one, o[end]))
		}
	}
	return append(all, slices.Concat(o, lists(nil)), slices.Concat(o, o))
}

// mustLead holds what g tells of each pair of these lists.
func mustLead(t *testing.T, g *edges.Graph, s story, l [][]api.Id) {
	t.Helper()
	for _, from := range l {
		for _, to := range l {
			mustBe(t, fmt.Sprintf("Leads from %v to %v", from, to), Leads(g, from, to), s.leads(from, to))
		}
	}
}

// mustBegin holds P18.4 of what g tells: its order is right, and so is each beginning of it.
func mustBegin(t *testing.T, g *edges.Graph) {
	t.Helper()
	told := Order(g)
	for n := range len(told) + 1 {
		mustBe(t, fmt.Sprintf("Right of the first %d of %v", n, told), Right(g, told[:n]), true)
	}
}

// mustHold holds what g tells against what a graph of l must tell.
func mustHold(t *testing.T, g *edges.Graph, l []api.Record) {
	t.Helper()
	s := tell(l)
	want := s.order()
	mustLists(t, "Order", Order(g), want...)
	mustList(t, "Flat of Order", Flat(Order(g)), slices.Concat(want...)...)
	mustBegin(t, g)
	for _, other := range append(others(want), others(s.comps)...) {
		mustBe(t, fmt.Sprint("Right of ", other), Right(g, other), s.right(other))
	}
	mustLead(t, g, s, append(s.comps, s.named, oddIds(), nil))
	var single [][]api.Id
	for _, i := range s.named {
		single = append(single, ids(i))
	}
	mustLead(t, g, s, append(single, s.named))
}

// some are records out of order: a ring of two, and a way to it; a ring of three that leads to what is missing, and one that leads there; one beneath all of these; a missing id that two depend on; and one by itself.
func some() []api.Record {
	return records(
		rec(id(3, 2), 7, id(0, 1), id(1, 9), id(3, 1)),
		rec(id(0, 1), 8),
		rec(id(1, 9), 5, id(0, 1), id(3, 1)),
		rec(id(3, 1), 4, id(1, 9)),
		rec(id(2, 4), 5, id(2, 10)),
		rec(id(2, 10), 5, id(0, 7)),
		rec(id(0, 7), 6, id(0, 1), id(2, 4), id(4, 4)),
		rec(id(1, 2), 1, id(2, 4)),
		rec(id(7, 7), 1, id(3, 2), id(4, 4)),
		rec(id(6, 1), 4),
	)
}

// someOrder is the canonical order of some.
func someOrder() [][]api.Id {
	return lists(ids(id(6, 1)), ids(id(0, 1)), ids(id(3, 1), id(1, 9)), ids(id(3, 2)))
}

// shape is a graph, and its canonical order.
type shape struct {
	name  string
	l     []api.Record
	order [][]api.Id
}

// The ids of the shapes. In the order of ids they are b, d, a, c, gone, e.
var (
	a    = id(1, 10)
	b    = id(0, 5)
	c    = id(2, 1)
	d    = id(1, 9)
	e    = id(7, 2)
	gone = id(4, 4)
)

// shapes are graphs of the kinds that there are, with their canonical orders written out.
func shapes() []shape {
	return []shape{
		{"no records", nil, nil},
		{"one", records(rec(a, 1)), lists(ids(a))},
		{"none has Deps", records(rec(a, 4), rec(b, 3), rec(c, 2), rec(d, 1)), lists(ids(d), ids(c), ids(b), ids(a))},
		{"none has Deps, and all have one Seq", records(rec(a, 4), rec(b, 4), rec(c, 4), rec(d, 4), rec(e, 4)), lists(ids(b), ids(d), ids(a), ids(c), ids(e))},
		{"chain against its Seqs", records(rec(a, 1, b), rec(b, 2, c), rec(c, 3, d), rec(d, 4)), lists(ids(d), ids(c), ids(b), ids(a))},
		{"chain along its Seqs", records(rec(a, 4, b), rec(b, 3, c), rec(c, 2, d), rec(d, 1)), lists(ids(d), ids(c), ids(b), ids(a))},
		{"chain of one Seq", records(rec(a, 4, b), rec(b, 4, c), rec(c, 4, d), rec(d, 4)), lists(ids(d), ids(c), ids(b), ids(a))},
		{"one leads to several", records(rec(a, 1, b, c, d), rec(b, 4), rec(c, 3), rec(d, 2)), lists(ids(d), ids(c), ids(b), ids(a))},
		{"several lead to one", records(rec(a, 1, d), rec(b, 2, d), rec(c, 3, d), rec(d, 4)), lists(ids(d), ids(a), ids(b), ids(c))},
		{"two ways to one", records(rec(a, 1, b, c), rec(b, 2, d), rec(c, 3, d), rec(d, 4)), lists(ids(d), ids(b), ids(c), ids(a))},
		{"two ways to one, of one Seq", records(rec(a, 2, b, c), rec(b, 2, d), rec(c, 2, d), rec(d, 2)), lists(ids(d), ids(b), ids(c), ids(a))},
		{"a short way and a long one", records(rec(a, 1, b, d), rec(b, 2, c), rec(c, 3, d), rec(d, 4)), lists(ids(d), ids(c), ids(b), ids(a))},
		{"what waits for the last one", records(rec(a, 1, e), rec(b, 2), rec(c, 3), rec(d, 4), rec(e, 5)), lists(ids(b), ids(c), ids(d), ids(e), ids(a))},
		{"what waits for the second one", records(rec(a, 1, b), rec(b, 2), rec(c, 3), rec(d, 4), rec(e, 5)), lists(ids(b), ids(a), ids(c), ids(d), ids(e))},
		{"what became free comes ahead of what was free", records(rec(a, 1, c), rec(b, 2), rec(c, 3), rec(d, 4), rec(e, 5)), lists(ids(b), ids(c), ids(a), ids(d), ids(e))},
		{"what became free comes behind what was free", records(rec(a, 4, b), rec(b, 1), rec(c, 2), rec(d, 3), rec(e, 5)), lists(ids(b), ids(c), ids(d), ids(a), ids(e))},
		{"what became free comes between", records(rec(a, 3, c), rec(b, 1), rec(c, 2), rec(d, 4), rec(e, 5)), lists(ids(b), ids(c), ids(a), ids(d), ids(e))},
		{"one became free by what became free", records(rec(a, 1, b), rec(b, 2, c), rec(c, 3), rec(d, 4), rec(e, 5)), lists(ids(c), ids(b), ids(a), ids(d), ids(e))},
		{"two became free at once", records(rec(a, 1, d), rec(b, 2, d), rec(c, 3), rec(d, 4), rec(e, 5)), lists(ids(c), ids(d), ids(a), ids(b), ids(e))},
		{"two became free, one of them ahead", records(rec(a, 1, d), rec(b, 5, d), rec(c, 3), rec(d, 2), rec(e, 4)), lists(ids(d), ids(a), ids(c), ids(e), ids(b))},
		{"two wait for the same two", records(rec(a, 2, c, d), rec(b, 1, c, d), rec(c, 3), rec(d, 5), rec(e, 4)), lists(ids(c), ids(e), ids(d), ids(b), ids(a))},
		{"one waits for an early one and a late one", records(rec(a, 1, c, e), rec(b, 3), rec(c, 2), rec(d, 4), rec(e, 5)), lists(ids(c), ids(b), ids(d), ids(e), ids(a))},
		{"each other", records(rec(a, 5, b), rec(b, 3, a)), lists(ids(b, a))},
		{"each other, the Seqs against the ids", records(rec(a, 3, b), rec(b, 5, a)), lists(ids(a, b))},
		{"each other, of one Seq", records(rec(a, 5, b), rec(b, 5, a)), lists(ids(b, a))},
		{"each other, and one that leads there", records(rec(a, 5, b), rec(b, 3, a), rec(c, 1, a)), lists(ids(b, a), ids(c))},
		{"each other, and one to which they lead", records(rec(a, 2, b), rec(b, 1, a, c), rec(c, 3)), lists(ids(c), ids(b, a))},
		{"each other, and both lead to one", records(rec(a, 2, b, c), rec(b, 1, a, c), rec(c, 3)), lists(ids(c), ids(b, a))},
		{"ring of five", records(rec(a, 2, b), rec(b, 1, c), rec(c, 1, d), rec(d, 2, e), rec(e, 1, a)), lists(ids(b, c, e, d, a))},
		{"two rings", records(rec(a, 1, b), rec(b, 4, a), rec(c, 3, d), rec(d, 2, c)), lists(ids(a, b), ids(d, c))},
		{"two rings, an edge from one to the other", records(rec(a, 1, b, c), rec(b, 4, a), rec(c, 3, d), rec(d, 2, c)), lists(ids(d, c), ids(a, b))},
		{"two rings, an edge from last to last", records(rec(a, 1, b), rec(b, 4, a, c), rec(c, 3, d), rec(d, 2, c)), lists(ids(d, c), ids(a, b))},
		{"two rings, an edge from last to first", records(rec(a, 1, b), rec(b, 4, a, d), rec(c, 3, d), rec(d, 2, c)), lists(ids(d, c), ids(a, b))},
		{"two rings, an edge from the other to the one", records(rec(a, 1, b), rec(b, 4, a), rec(c, 3, d, b), rec(d, 2, c)), lists(ids(a, b), ids(d, c))},
		{"two rings, edges both ways", records(rec(a, 1, b, c), rec(b, 4, a), rec(c, 3, d), rec(d, 2, b, c)), lists(ids(a, d, c, b))},
		{"two rings, an edge from one to the other, and one by itself", records(rec(a, 1, b), rec(b, 5, a, c), rec(c, 4, d), rec(d, 3, c), rec(e, 2)), lists(ids(e), ids(d, c), ids(a, b))},
		{"two rings, and one between", records(rec(a, 1, b, e), rec(b, 5, a), rec(c, 4, d), rec(d, 3, c), rec(e, 2, d)), lists(ids(d, c), ids(e), ids(a, b))},
		{"one with what is missing", records(rec(a, 1, gone)), nil},
		{"one with what is missing, and one without", records(rec(a, 1, gone), rec(b, 2)), lists(ids(b))},
		{"chain to what is missing", records(rec(a, 1, b), rec(b, 1, c), rec(c, 1, gone)), nil},
		{"chain with a gap", records(rec(a, 1, b), rec(b, 1, gone), rec(c, 1, d), rec(d, 2)), lists(ids(d), ids(c))},
		{"what is closed, and what is not, lead to one", records(rec(a, 1, c, gone), rec(b, 2, c), rec(c, 3), rec(d, 4)), lists(ids(c), ids(b), ids(d))},
		{"ring with what is missing", records(rec(a, 1, b), rec(b, 1, c, gone), rec(c, 1, a, d), rec(d, 1), rec(e, 1, a)), lists(ids(d))},
		{"ring behind what is missing", records(rec(a, 1, b), rec(b, 1, a, c), rec(c, 1, gone), rec(d, 2, e), rec(e, 1, d)), lists(ids(e, d))},
		{"ring ahead of one with what is missing", records(rec(a, 4, b), rec(b, 3, a), rec(c, 1, a, gone), rec(d, 2, c)), lists(ids(b, a))},
		{"ring that leads to what is missing, and nothing else", records(rec(a, 4, b), rec(b, 3, a, gone)), nil},
	}
}

// P18.1: the chapter's example: what b depends on stands ahead of it, whatever their Seqs and ids are.
func TestExample(t *testing.T) {
	for _, pair := range [][2]api.Id{{id(1, 1), id(1, 2)}, {id(1, 2), id(1, 1)}, {id(0, 9), id(7, 1)}, {id(7, 1), id(0, 9)}} {
		first, second := pair[0], pair[1]
		for _, seqs := range [][2]int{{1, 2}, {2, 1}, {5, 5}, {1, 1 << 30}, {1 << 30, 1}, {1 << 30, 1 << 30}} {
			l := records(rec(second, seqs[1], first), rec(first, seqs[0]))
			for _, turn := range turns(l) {
				g := mustMake(t, turn)
				mustLists(t, "Order", Order(g), ids(first), ids(second))
				mustList(t, "Flat", Flat(Order(g)), first, second)
				mustBe(t, "Leads", Leads(g, ids(second), ids(first)), true)
				mustBe(t, "Leads, the other way", Leads(g, ids(first), ids(second)), false)
				mustBe(t, "Right", Right(g, lists(ids(first), ids(second))), true)
				mustBe(t, "Right, the other way", Right(g, lists(ids(second), ids(first))), false)
				mustHold(t, g, l)
			}
		}
	}
}

// P18.1 to P18.4: what each shape tells, in whatever order its records were handed in.
func TestShapes(t *testing.T) {
	for _, s := range shapes() {
		t.Run(s.name, func(t *testing.T) {
			for _, turn := range turns(s.l) {
				mustLists(t, "Order", Order(mustMake(t, turn)), s.order...)
			}
			mustHold(t, mustMake(t, s.l), s.l)
		})
	}
	mustLists(t, "Order of some", Order(mustMake(t, some())), someOrder()...)
	mustHold(t, mustMake(t, some()), some())
}

// P18.1: records without Deps stand in comps.Of's order, whatever their Seqs and ids.
func TestWithoutDeps(t *testing.T) {
	l := ids(id(0, 2), id(0, 10), id(0, 1<<20), id(1, 1), id(1, 9), id(2, 1), id(7, 1))
	for n := range uint64(100) {
		roll := dice(n)
		var alone []api.Record
		for _, i := range l {
			// All bounds of Seq, and close ones.
			alone = append(alone, rec(i, [...]int{1, 2, 3, 9, 10, 1 << 29, 1<<30 - 1, 1 << 30}[roll(8)]))
		}
		g := mustMake(t, alone)
		mustLists(t, "Order", Order(g), comps.Of(g)...)
		mustLists(t, "Order", Order(g), tell(alone).comps...)
		// One that leads to all of them, or to which all of them lead, stands at the end.
		top := rec(id(4, 4), 1, l...)
		mustLists(t, "Order beneath one", Order(mustMake(t, append(alone, top))), append(tell(alone).comps, ids(top.Id))...)
		for at := range alone {
			alone[at].Deps = ids(id(5, 5))
		}
		bottom := rec(id(5, 5), 1<<30)
		all := append(alone, bottom)
		mustLists(t, "Order above one", Order(mustMake(t, all)), append(lists(ids(bottom.Id)), tell(all).order()[1:]...)...)
		mustHold(t, mustMake(t, all), all)
	}
}

// P18.1: each time the first one that may be taken is taken, not the first one behind the last taken, nor the one that is free for longest.
func TestFirstAgainAndAgain(t *testing.T) {
	const n = 60
	i := func(seq int) api.Id { return id(seq%7, seq) }
	single := func(seqs ...int) [][]api.Id {
		var l [][]api.Id
		for _, seq := range seqs {
			l = append(l, ids(i(seq)))
		}
		return l
	}
	// Each odd one leads to the even one behind it: pair by pair the other way round.
	var l []api.Record
	var want []int
	for seq := 1; seq < n; seq += 2 {
		l = append(l, rec(i(seq), seq, i(seq+1)), rec(i(seq+1), seq+1))
		want = append(want, seq+1, seq)
	}
	mustLists(t, "Order of pairs", Order(mustMake(t, l)), single(want...)...)
	// The first half leads to the second one, turned: each one taken there sets one free that comes next.
	l, want = nil, nil
	for seq := 1; seq <= n/2; seq++ {
		l = append(l, rec(i(seq), seq, i(n+1-seq)), rec(i(n+1-seq), n+1-seq))
		want = append(want, n/2+seq, n/2+1-seq)
	}
	mustLists(t, "Order of halves, turned", Order(mustMake(t, l)), single(want...)...)
	mustHold(t, mustMake(t, l[n-10:]), l[n-10:])
	// The first half leads to all of the second one: all of it becomes free at once, at the end.
	l, want = nil, nil
	for seq := 1; seq <= 16; seq++ {
		var deps []api.Id
		for dep := 17; dep <= 32; dep++ {
			deps = append(deps, i(dep))
		}
		l = append(l, rec(i(seq), seq, deps...), rec(i(seq+16), seq+16))
		want = append(want, seq)
	}
	for seq := 17; seq <= 32; seq++ {
		want = slices.Insert(want, seq-17, seq)
	}
	mustLists(t, "Order of halves, all with all", Order(mustMake(t, l)), single(want...)...)
}

// P18.1: a component is taken whole, its ids in comps.Of's order, wherever the edges come in and go out.
func TestRingsInOrder(t *testing.T) {
	ring := func(rep, seq int) []api.Record {
		return records(rec(id(rep, 1), seq, id(rep, 2)), rec(id(rep, 2), 50-seq, id(rep, 3)), rec(id(rep, 3), 20, id(rep, 1)))
	}
	for n := range 81 {
		var l []api.Record
		for rep := range 4 {
			l = append(l, ring(rep, 1+rep)...)
		}
		// Each one leads to the next one, from any of its ids to any of the other's.
		for rep := range 3 {
			from, to := n%3, n/3%3
			at := rep*3 + from
			l[at].Deps = ordered(append(l[at].Deps, id(rep+1, 1+to)))
			n = (n*7 + 5) % 81
		}
		var want [][]api.Id
		for rep := 3; rep >= 0; rep-- {
			want = append(want, ids(id(rep, 1), id(rep, 3), id(rep, 2)))
		}
		mustLists(t, "Order", Order(mustMake(t, l)), want...)
		mustHold(t, mustMake(t, l), l)
	}
}

// P18.2: Flat tells all ids as they stand, also none, twice, and such as no id may be.
func TestFlat(t *testing.T) {
	for _, none := range [][][]api.Id{nil, {}, {nil}, {{}}, {nil, {}, nil}, {{}, {}}, lists(ids(a))[:0], lists(ids(a)[:0], ids(b)[:0])} {
		mustList(t, fmt.Sprint("Flat of ", none), Flat(none))
	}
	for _, told := range []struct {
		l    [][]api.Id
		want []api.Id
	}{
		{lists(ids(a)), ids(a)},
		{lists(ids(c, a, b)), ids(c, a, b)},
		{lists(ids(c), ids(a), ids(b)), ids(c, a, b)},
		{lists(ids(b, a), ids(d, c)), ids(b, a, d, c)},
		{lists(nil, ids(b, a), ids(d, c)), ids(b, a, d, c)},
		{lists(ids(b, a), ids(), ids(d, c)), ids(b, a, d, c)},
		{lists(ids(b, a), ids(d, c), nil), ids(b, a, d, c)},
		{lists(ids(), nil, ids(b, a), nil, ids(), ids(d, c), ids(), nil), ids(b, a, d, c)},
		{lists(ids(a, a)), ids(a, a)},
		{lists(ids(a), ids(a)), ids(a, a)},
		{lists(ids(a, b), ids(c, a), ids(b, b, a)), ids(a, b, c, a, b, b, a)},
		{lists(oddIds()), oddIds()},
		{lists(oddIds(), oddIds()), append(oddIds(), oddIds()...)},
		{lists(ids(api.Id{}), ids(api.Id{}, a)), ids(api.Id{}, api.Id{}, a)},
	} {
		mustList(t, fmt.Sprint("Flat of ", told.l), Flat(told.l), told.want...)
	}
	// Of as many lists as may come, of any lengths; what stands behind their ends is none of it.
	var many [][]api.Id
	var want []api.Id
	for n := range 3000 {
		room := slots(n%8, n+1, 9)
		many = append(many, room[:n%7])
		want = append(want, room[:n%7]...)
	}
	mustList(t, "Flat of many", Flat(many), want...)
	for n := range 200 {
		mustList(t, "Flat of the first ones", Flat(many[:n]), slices.Concat(many[:n]...)...)
	}
}

// P18.2: Leads asks for an edge from one of a to one of b that is none of a.
func TestLeads(t *testing.T) {
	// a and b are a ring, c and d another one; a leads to c, e to b and to what is missing.
	l := records(rec(a, 1, b, c), rec(b, 4, a), rec(c, 3, d), rec(d, 2, c), rec(e, 1, b, gone), rec(id(6, 1), 1))
	g := mustMake(t, l)
	alone := id(6, 1)
	for _, told := range []struct {
		what string
		a, b []api.Id
		want bool
	}{
		{"an edge", ids(a, b), ids(c, d), true},
		{"the other way round", ids(c, d), ids(a, b), false},
		{"one to one", ids(a), ids(c), true},
		{"from the last to the last", ids(b, a), ids(d, c), true},
		{"from the first to the last", ids(a, b), ids(d, c), true},
		{"from the midst to the midst", ids(alone, a, b), ids(alone, c, d), true},
		{"no edge from there", ids(b), ids(c, d), false},
		{"no edge to there", ids(a, b), ids(d), false},
		{"no edge at all", ids(alone), ids(a, b, c, d, e, gone), false},
		{"none to that one", ids(a, b, c, d, e), ids(alone), false},
		{"by way of a third one alone", ids(e), ids(a), false},
		{"by way of a third one alone, far", ids(e), ids(c, d), false},
		{"within a, to one of both", ids(a, b), ids(b), false},
		{"within a, to all", ids(a, b), ids(a, b), false},
		{"within a, to all, turned", ids(a, b), ids(b, a), false},
		{"to one of both, and to another one", ids(a, b), ids(b, c), true},
		{"to one of both alone", ids(a, c), ids(c), false},
		{"to one of both, and to another one, turned", ids(c, a), ids(b, c), true},
		{"a part of a component", ids(c), ids(c, d), true},
		{"a part of a component, the other part", ids(c), ids(d), true},
		{"from what is missing", ids(gone), ids(a, b, c, d, e, gone), false},
		{"from what is missing, and what is there", ids(gone, e), ids(b), true},
		{"to what is missing", ids(e), ids(gone), true},
		{"to what is missing, among others", ids(e, a), ids(alone, gone), true},
		{"to what is missing, and of both", ids(e, gone), ids(gone), false},
		{"not closed", ids(e), ids(b, a), true},
		{"to what is not closed", ids(a, b, c, d), ids(e), false},
		{"the same ids often", ids(a, a, a), ids(d, c, c), true},
		{"the same ids often, within", ids(b, a, b, a), ids(a, a, b), false},
		{"the same one", ids(a), ids(a), false},
		{"odd ids beside", append(oddIds(), a), append(oddIds(), c), true},
		{"odd ids alone", oddIds(), oddIds(), false},
		{"from odd ids", oddIds(), ids(a, b, c, d), false},
		{"to odd ids", ids(a, b, c, d, e), oddIds()[1:], false},
	} {
		mustBe(t, "Leads, "+told.what, Leads(g, told.a, told.b), told.want)
	}
	mustHold(t, g, l)
}

// P18.2: without ids, on either side, nothing leads to anything.
func TestLeadsOfNoIds(t *testing.T) {
	g := mustMake(t, some())
	all := idsOf(some())
	for _, none := range [][]api.Id{nil, {}, all[:0]} {
		mustBe(t, "Leads from no ids", Leads(g, none, all), false)
		mustBe(t, "Leads to no ids", Leads(g, all, none), false)
		for _, other := range [][]api.Id{nil, {}, all[:0]} {
			mustBe(t, "Leads from no ids to none", Leads(g, none, other), false)
		}
		for _, i := range append(oddIds(), all...) {
			mustBe(t, "Leads from no ids to one", Leads(g, none, ids(i)), false)
			mustBe(t, "Leads from one to no ids", Leads(g, ids(i), none), false)
		}
	}
	none := mustMake(t, nil)
	mustBe(t, "Leads, without records", Leads(none, all, all), false)
	mustBe(t, "Leads, without records, to another one", Leads(none, all[:1], all[1:]), false)
}

// P18.2: all pairs of lists of five ids, one of them missing.
func TestLeadsOfAllLists(t *testing.T) {
	l := records(rec(a, 1, b, gone), rec(b, 2, c), rec(c, 1, b), rec(d, 1, a))
	mustLead(t, mustMake(t, l), tell(l), parts(ids(d, c, gone, a, b)))
}

// P18.3: Right of lists of the given stage's kind: a ring that leads to a single one, one that leads to the ring, one by itself, and what is not closed.
func TestRight(t *testing.T) {
	six, top := id(6, 1), id(0, 9)
	l := records(rec(a, 1, b), rec(b, 2, a, c), rec(c, 5), rec(d, 3, a), rec(e, 4), rec(six, 1, gone, c), rec(top, 1, six))
	g := mustMake(t, l)
	mustLists(t, "Order", Order(g), ids(e), ids(c), ids(a, b), ids(d))
	ring := ids(a, b)
	for _, told := range []struct {
		what string
		l    [][]api.Id
		want bool
	}{
		{"no lists", nil, true},
		{"no lists, empty", lists(), true},
		{"the canonical order", lists(ids(e), ids(c), ring, ids(d)), true},
		{"another order", lists(ids(c), ids(e), ring, ids(d)), true},
		{"another order", lists(ids(c), ring, ids(e), ids(d)), true},
		{"another order", lists(ids(c), ring, ids(d), ids(e)), true},
		{"comps.Of's order", comps.Of(g), false},
		{"the ring ahead of what it leads to", lists(ids(e), ring, ids(c), ids(d)), false},
		{"one ahead of the ring to which it leads", lists(ids(e), ids(c), ids(d), ring), false},
		{"turned", lists(ids(d), ring, ids(c), ids(e)), false},
		{"one without the ring to which it leads", lists(ids(e), ids(c), ids(d)), false},
		{"the ring without what it leads to", lists(ring), false},
		{"the ring, and what leads there, without what it leads to", lists(ring, ids(d)), false},
		{"one alone", lists(ids(c)), true},
		{"one by itself alone", lists(ids(e)), true},
		{"a part of the graph", lists(ids(c), ring), true},
		{"a part of the graph", lists(ids(c), ring, ids(d)), true},
		{"a part of the graph", lists(ids(c), ids(e)), true},
		{"one twice", lists(ids(e), ids(e)), false},
		{"one twice, others between", lists(ids(c), ids(e), ring, ids(c)), false},
		{"the ring twice", lists(ids(c), ring, ring), false},
		{"all twice", lists(ids(e), ids(c), ring, ids(d), ids(e), ids(c), ring, ids(d)), false},
		{"a part of the ring", lists(ids(c), ids(a)), false},
		{"the other part of the ring", lists(ids(c), ids(b)), false},
		{"the ring in two parts", lists(ids(c), ids(a), ids(b)), false},
		{"the ring turned", lists(ids(c), ids(b, a)), false},
		{"the ring, one of its ids twice", lists(ids(c), ids(a, b, a)), false},
		{"the ring, one of its ids twice", lists(ids(c), ids(a, a, b)), false},
		{"two in one", lists(ids(c, e)), false},
		{"two in one, as Order has them", lists(ids(e, c), ring), false},
		{"the ring, and what it leads to, in one", lists(ids(c, a, b)), false},
		{"the ring, and what leads to it, in one", lists(ids(c), ids(a, b, d)), false},
		{"all in one", lists(ids(e, c, a, b, d)), false},
		{"no ids", lists(ids()), false},
		{"no ids, nil", lists(nil), false},
		{"no ids at the beginning", lists(nil, ids(c)), false},
		{"no ids in the midst", lists(ids(e), ids(), ids(c)), false},
		{"no ids at the end", lists(ids(e), ids(c), nil), false},
		{"not closed", lists(ids(c), ids(six)), false},
		{"not closed, ahead", lists(ids(six), ids(c)), false},
		{"what reaches what is not closed", lists(ids(top)), false},
		{"both that are not closed", lists(ids(c), ids(six), ids(top)), false},
		{"missing", lists(ids(gone)), false},
		{"missing, and what leads there", lists(ids(c), ids(gone), ids(six)), false},
		{"missing, in a list with others", lists(ids(c, gone)), false},
		{"none of the graph's", lists(ids(id(3, 3))), false},
	} {
		mustBe(t, "Right, "+told.what, Right(g, told.l), told.want)
	}
	for _, i := range oddIds() {
		mustBe(t, fmt.Sprint("Right of ", i), Right(g, lists(ids(i))), false)
		mustBe(t, fmt.Sprint("Right of one, and ", i), Right(g, lists(ids(c), ids(i))), false)
		mustBe(t, fmt.Sprint("Right of one with ", i), Right(g, lists(ids(c, i))), false)
		mustBe(t, fmt.Sprint("Right of one behind ", i), Right(g, lists(ids(i, c))), false)
	}
	mustHold(t, g, l)
}

// P18.3: all lists of some of a graph's components, in all orders.
func TestRightOfAllOrders(t *testing.T) {
	for _, s := range shapes() {
		g, is, count := mustMake(t, s.l), tell(s.l), 0
		for _, part := range parts(s.order) {
			for _, turn := range turns(part) {
				want := is.right(turn)
				mustBe(t, fmt.Sprintf("%s: Right of %v", s.name, turn), Right(g, turn), want)
				if want && len(turn) == len(s.order) {
					count++
				}
			}
		}
		// Where none leads to another one, all orders are right.
		if s.name == "none has Deps, and all have one Seq" {
			mustBe(t, "how many orders are right", count, 120)
		}
		if s.name == "chain against its Seqs" {
			mustBe(t, "how many orders are right", count, 1)
		}
		if s.name == "two ways to one" {
			mustBe(t, "how many orders are right", count, 2)
		}
	}
}

// P18.3: of a graph without records, and of one without closed ones, just no lists are right.
func TestRightOfNone(t *testing.T) {
	for _, l := range [][]api.Record{nil, records(rec(a, 1, gone)), records(rec(a, 1, b, gone), rec(b, 1, a))} {
		g := mustMake(t, l)
		mustLists(t, "Order", Order(g))
		mustBe(t, "Right of no lists", Right(g, nil), true)
		mustBe(t, "Right of no lists, empty", Right(g, lists()), true)
		for _, i := range append(oddIds(), a, b, gone) {
			mustBe(t, fmt.Sprint("Right of ", i), Right(g, lists(ids(i))), false)
		}
		for _, other := range [][][]api.Id{{nil}, {{}}, {nil, nil}, lists(ids(a, b)), lists(ids(b, a))} {
			mustBe(t, fmt.Sprint("Right of ", other), Right(g, other), false)
		}
		mustHold(t, g, l)
	}
}

// P18.1 to P18.4: all graphs of up to four records with whichever Deps among four ids.
func TestAllSmallGraphs(t *testing.T) {
	four := ids(id(1, 10), id(0, 3), id(1, 9), id(2, 1))
	var single [][]api.Id
	for _, i := range four {
		single = append(single, ids(i))
	}
	for n := range 9 * 9 * 9 * 9 {
		roll := dice(uint64(n))
		var l []api.Record
		for at, i := range four {
			// The ninth choice is that the record is not there.
			if choice := n % 9; choice < 8 {
				others := slices.Delete(slices.Clone(four), at, at+1)
				l = append(l, rec(i, 1+roll(3), parts(others)[choice]...))
			}
			n /= 9
		}
		g, s := mustMake(t, l), tell(l)
		mustLists(t, "Order", Order(g), s.order()...)
		mustBegin(t, g)
		for _, turn := range turns(s.comps) {
			mustBe(t, fmt.Sprint("Right of ", turn), Right(g, turn), s.right(turn))
		}
		mustLead(t, g, s, append(single, s.comps...))
		if t.Failed() {
			t.Fatalf("of %v", l)
		}
	}
}

// dice answers numbers from 0 to n - 1 that look like chance, the same ones each time.
func dice(seed uint64) func(n int) int {
	seed = seed*0x9e3779b97f4a7c15 + 1
	return func(n int) int {
		seed = seed*6364136223846793005 + 1442695040888963407
		return int(seed>>33) % n
	}
}

// ofChance are records of few ids, each Id once, out of order, with few Seqs or many.
func ofChance(roll func(n int) int) []api.Record {
	var l []api.Record
	many, seqs := 1+roll(4), 1+roll(9)
	for range roll(20) {
		if i := id(roll(3), 1+roll(6)); !slices.Contains(idsOf(l), i) {
			l = append(l, rec(i, 1+roll(seqs)))
		}
	}
	there := idsOf(l)
	for at, i := range there {
		var deps []api.Id
		for range roll(many + 1) {
			dep := there[roll(len(there))]
			// Now and then it is one that may be missing.
			if roll(20) == 0 {
				dep = id(roll(3), 1+roll(7))
			}
			if dep != i {
				deps = append(deps, dep)
			}
		}
		l[at].Deps = ordered(deps)
	}
	return l
}

// P18.1 to P18.4: graphs of chance, against what must be told of them.
func TestOfChance(t *testing.T) {
	alone, together, open, moved := 0, 0, 0, 0
	for seed := range uint64(400) {
		roll := dice(seed)
		l := ofChance(roll)
		g, s := mustMake(t, l), tell(l)
		mustHold(t, g, l)
		told := Order(g)
		for range 10 {
			var from, to []api.Id
			for range roll(6) {
				from, to = append(from, id(roll(3), 1+roll(7))), append(to, id(roll(3), 1+roll(7)))
			}
			mustBe(t, fmt.Sprintf("Leads from %v to %v", from, to), Leads(g, from, to), s.leads(from, to))
			mixed := slices.Clone(told)
			for at := range mixed {
				other := roll(len(mixed))
				mixed[at], mixed[other] = mixed[other], mixed[at]
			}
			mixed = mixed[:roll(len(mixed)+1)]
			mustBe(t, fmt.Sprint("Right of ", mixed), Right(g, mixed), s.right(mixed))
		}
		slices.Reverse(l)
		mustLists(t, "Order of the same ones, turned", Order(mustMake(t, l)), told...)
		for at, comp := range told {
			if len(comp) == 1 {
				alone++
			} else {
				together++
			}
			if !slices.Equal(comp, s.comps[at]) {
				moved++
			}
		}
		open += len(l) - len(Flat(told))
		if t.Failed() {
			t.Fatalf("seed %d: %v", seed, l)
		}
	}
	if alone < 300 || together < 100 || open < 300 || moved < 300 {
		t.Error("so many alone, together, not closed, and in another place than in comps.Of:", alone, together, open, moved)
	}
}

// rings are n rings of so many records each, one leading to the next one's beginning, and the last one to as many more as there are Deps; the Seqs rise, along the edges or against them.
func rings(n, size int, along bool, deps ...api.Id) []api.Record {
	l := make([]api.Record, n*size)
	i := func(at int) api.Id { return id(at%5, 1+at) }
	for at := range l {
		ring, place := at/size, at%size
		var to []api.Id
		if size > 1 {
			to = ids(i(ring*size + (place+1)%size))
		}
		switch {
		case place > 0:
		case ring+1 < n:
			to = append(to, i(at+size))
		default:
			to = append(to, deps...)
		}
		seq := len(l) - at
		if along {
			seq = 1 + at
		}
		l[at] = rec(i(at), seq, to...)
	}
	return l
}

// ringsOrder is the canonical order of rings: from the last one back to the first one, wherever the Seqs rise.
func ringsOrder(n, size int, along bool) [][]api.Id {
	var all [][]api.Id
	for ring := n - 1; ring >= 0; ring-- {
		var comp []api.Id
		for place := range size {
			at := ring*size + place
			comp = append(comp, id(at%5, 1+at))
		}
		if !along {
			slices.Reverse(comp)
		}
		all = append(all, comp)
	}
	return all
}

// P18.1 to P18.4: chains, rings, and chains of rings of a few, of a thousand, and of many records go through.
func TestLong(t *testing.T) {
	for _, many := range [][2]int{{1, 2}, {2, 1}, {7, 3}, {1000, 1}, {1, 1000}, {20, 50}, {500, 2}, {20000, 1}, {1, 20000}, {100, 200}} {
		for _, along := range []bool{true, false} {
			n, size := many[0], many[1]
			what := fmt.Sprintf("%d rings of %d: ", n, size)
			l, want := rings(n, size, along), ringsOrder(n, size, along)
			g := mustMake(t, l)
			mustLists(t, what+"Order", Order(g), want...)
			mustList(t, what+"Flat", Flat(want), slices.Concat(want...)...)
			mustBe(t, what+"Right", Right(g, want), true)
			mustBe(t, what+"Right without the last one", Right(g, want[:n-1]), true)
			mustBe(t, what+"Right without the first one", Right(g, want[1:]), n == 1)
			mustBe(t, what+"Right, told twice", Right(g, slices.Concat(want, want)), false)
			first, last := want[0], want[n-1]
			mustBe(t, what+"Leads from the last one to all", Leads(g, last, Flat(want)), n > 1)
			mustBe(t, what+"Leads from all to the first one", Leads(g, Flat(want), first), false)
			mustBe(t, what+"Leads from the first one", Leads(g, first, Flat(want)), false)
			slices.Reverse(l)
			mustLists(t, what+"Order, turned", Order(mustMake(t, l)), want...)
			// What is missing beneath the last one is reached by all.
			g = mustMake(t, rings(n, size, along, id(7, 1)))
			mustLists(t, what+"Order, above what is missing", Order(g))
			mustBe(t, what+"Right, above what is missing", Right(g, want), false)
			mustBe(t, what+"Leads to what is missing", Leads(g, first, ids(id(7, 1))), true)
		}
	}
}

// P18.4: each beginning of a long order is right, and with the next one but one it is not.
func TestLongBeginnings(t *testing.T) {
	for _, along := range []bool{true, false} {
		g, want := mustMake(t, rings(100, 3, along)), ringsOrder(100, 3, along)
		mustBegin(t, g)
		for n := range len(want) - 1 {
			mustBe(t, "Right with the next one but one", Right(g, slices.Concat(want[:n], want[n+1:n+2])), false)
			mustBe(t, "Right with one twice", Right(g, slices.Concat(want[:n+1], want[n:n+1])), false)
		}
	}
}

// P18.1: many that lead to one, which leads to the last of all; and a ring that leads to many.
func TestHub(t *testing.T) {
	const n = 4000
	hub, last := id(0, 1), id(0, 2)
	l := records(rec(hub, 1, last), rec(last, 1<<30))
	want := lists(ids(last), ids(hub))
	for at := range n {
		l = append(l, rec(id(1, n-at), 2+at, hub))
		want = append(want, ids(id(1, n-at)))
	}
	mustLists(t, "Order of many that lead to one", Order(mustMake(t, l)), want...)
	l, want = nil, nil
	var ring []api.Id
	for at := range n / 10 {
		deps := ids(id(0, 1+(at+1)%(n/10)))
		for more := range 10 {
			i := id(2, 1+at*10+more)
			deps = append(deps, i)
			l = append(l, rec(i, 2+n-at*10-more))
			want = append(want, ids(i))
		}
		l = append(l, rec(id(0, 1+at), 1, deps...))
		ring = append(ring, id(0, 1+at))
	}
	slices.Reverse(want)
	g := mustMake(t, l)
	mustLists(t, "Order of a ring that leads to many", Order(g), append(want, ring)...)
	mustBe(t, "Right of it", Right(g, append(want, ring)), true)
	mustBe(t, "Right without one of them", Right(g, append(want[1:], ring)), false)
}

// Many ways to one, layer by layer, are not all gone one by one: that would never end.
func TestManyWays(t *testing.T) {
	const high = 150
	var l []api.Record
	var want [][]api.Id
	for layer := range high {
		for rep := range 7 {
			r := rec(id(rep, 1+layer), high-layer)
			for below := range 7 {
				if layer > 0 {
					r.Deps = append(r.Deps, id(below, layer))
				}
			}
			l = append(l, r)
			want = append(want, ids(r.Id))
		}
	}
	g := mustMake(t, l)
	mustLists(t, "Order", Order(g), want...)
	mustBegin(t, mustMake(t, l[:140]))
	mustBe(t, "Right", Right(g, want), true)
	mustBe(t, "Right without the lowest one", Right(g, want[1:]), false)
	mustBe(t, "Leads from the top to the bottom", Leads(g, want[len(want)-1], want[0]), false)
	mustBe(t, "Leads from one layer to the next one", Leads(g, want[len(want)-1], want[len(want)-8]), true)
}

// A nil graph has no components; it is answered as rule 1 asks: nothing, and false. Flat asks for no graph.
func TestNil(t *testing.T) {
	none, _ := edges.New(append(some(), some()[0]))
	for _, g := range []*edges.Graph{nil, none} {
		mustLists(t, "Order of nil", Order(g))
		mustList(t, "Flat of it", Flat(Order(g)))
		all := append(oddIds(), idsOf(some())...)
		mustBe(t, "Leads, from all to all", Leads(g, all, all), false)
		for _, i := range all {
			for _, other := range all {
				mustBe(t, fmt.Sprintf("Leads from %v to %v", i, other), Leads(g, ids(i), ids(other)), false)
			}
			mustBe(t, fmt.Sprint("Leads from no ids to ", i), Leads(g, nil, ids(i)), false)
			mustBe(t, fmt.Sprint("Leads to no ids from ", i), Leads(g, ids(i), nil), false)
			mustBe(t, fmt.Sprint("Right of ", i), Right(g, lists(ids(i))), false)
		}
		mustBe(t, "Leads from nothing to nothing", Leads(g, nil, nil), false)
		for _, l := range append(others(someOrder()), nil, lists(), lists(nil), someOrder()) {
			mustBe(t, fmt.Sprint("Right of ", l), Right(g, l), false)
		}
	}
}

// spoil writes all over a list of ids, its spare room too.
func spoil(l []api.Id) {
	l = l[:cap(l)]
	for at := range l {
		l[at] = id(99, -99)
	}
}

// spoilAll writes all over lists of ids, the spare room too, or just over that.
func spoilAll(l [][]api.Id, ends bool) {
	for at := range l {
		if ends {
			spoil(l[at][len(l[at]):])
		} else {
			spoil(l[at])
		}
	}
	rest := l[len(l):cap(l)]
	for at := range rest {
		rest[at] = ids(id(99, -99))
	}
}

// What is handed out is new, and so is each list in it: writing into it, its spare room too, changes nothing else, and no later answer.
func TestAnswersAreNew(t *testing.T) {
	for n := 1; n <= 12; n++ {
		for size := 1; size <= 12; size++ {
			along := (n+size)%2 == 0
			g, want := mustMake(t, rings(n, size, along)), ringsOrder(n, size, along)
			told, flat := Order(g), Flat(want)
			spoilAll(Order(g), false)
			spoil(Flat(want))
			mustLists(t, "Order, told before", told, want...)
			mustList(t, "Flat, told before", flat, slices.Concat(want...)...)
			mustLists(t, "Order, told again", Order(g), want...)
			mustList(t, "Flat, told again", Flat(want), flat...)
			mustLists(t, "what Flat was handed", want, ringsOrder(n, size, along)...)
			// The lists of one answer are each by itself, too.
			spoilAll(told, true)
			spoil(flat[len(flat):])
			mustLists(t, "Order, its spare room written into", told, want...)
			mustList(t, "Flat, its spare room written into", flat, slices.Concat(want...)...)
			for at := range told {
				spoil(told[at])
				mustLists(t, "the lists behind one that was written into", told[at+1:], want[at+1:]...)
			}
			mustLists(t, "Order, told in the end", Order(g), want...)
		}
	}
	g := mustMake(t, some())
	spoilAll(Order(g), false)
	mustHold(t, g, some())
}

// What Flat answers is not what it was handed, even where it has the same ids as one list alone, with spare room or without.
func TestFlatIsNotItsArgument(t *testing.T) {
	for n := range 30 {
		for room := range 3 {
			l := append(slots(5, 1, n), make([]api.Id, 2*room)...)[:n]
			for _, given := range [][][]api.Id{lists(l), lists(nil, l), lists(l, nil), lists(ids(), l, ids())} {
				got := Flat(given)
				mustList(t, "Flat", got, slots(5, 1, n)...)
				spoil(got)
				mustList(t, "what was handed in", l, slots(5, 1, n)...)
				for _, behind := range l[n:cap(l)] {
					mustBe(t, "what stands in the spare room", behind, api.Id{})
				}
			}
			got := Flat(lists(l))
			spoil(l)
			mustList(t, "Flat, told before", got, slots(5, 1, n)...)
		}
	}
}

// whatIs is all that a graph tells by its own calls.
func whatIs(g *edges.Graph) string {
	s := fmt.Sprint(g.Len(), g.Edges(), g.Ids(), g.Missing())
	for _, i := range append(append(g.Ids(), g.Missing()...), oddIds()...) {
		r, ok := g.Record(i)
		s += fmt.Sprint(i, g.Has(i), r, ok, g.Users(i))
	}
	return s
}

// What the calls are handed is as it was, spare room and graph too; what stands in the spare room is none of it.
func TestArgumentsStay(t *testing.T) {
	doing := some()
	for at := range doing {
		doing[at].Batch = []api.Cmd{{Kind: api.Put, Key: "a", Value: math.Copysign(0, -1)}, {Kind: api.Get, Key: "b"}}
	}
	g := mustMake(t, doing)
	before := whatIs(g)
	room := ids(id(9, 9), id(6, 1), id(0, 1), id(3, 1), id(1, 9), id(3, 2), id(8, 8), id(2, 4), id(-3, 7))
	kept := slices.Clone(room)
	rows := lists(room[1:2], room[2:3], room[3:5], room[5:6], room[:1], room)
	for range 3 {
		mustBe(t, "Right", Right(g, rows[:4]), true)
		mustBe(t, "Right of a part", Right(g, rows[1:3]), true)
		mustBe(t, "Right of all", Right(g, rows), false)
		mustList(t, "Flat", Flat(rows[1:4]), kept[2:6]...)
		mustList(t, "Flat of one", Flat(rows[2:3]), kept[3:5]...)
		mustBe(t, "Leads", Leads(g, room[3:5], room[2:3]), true)
		mustBe(t, "Leads to what stands in the spare room", Leads(g, room[5:6], room[1:2]), false)
		mustBe(t, "Leads from what stands in the spare room", Leads(g, room[2:3], room[2:5]), false)
		mustLists(t, "Order", Order(g), someOrder()...)
		mustLists(t, "the lists handed in", rows, kept[1:2], kept[2:3], kept[3:5], kept[5:6], kept[:1], kept)
		mustList(t, "what was handed in", room, kept...)
		if now := whatIs(g); now != before {
			t.Errorf("the graph became %s, of %s", now, before)
		}
	}
	mustHold(t, g, some())
}

// The same call answers the same, as often as it is made, of one graph and of many.
func TestAgainAndAgain(t *testing.T) {
	g := mustMake(t, some())
	for range 30 {
		mustHold(t, g, some())
		mustHold(t, mustMake(t, some()), some())
		mustLists(t, "Order", Order(g), someOrder()...)
	}
}

// Two graphs are each by itself.
func TestTwoGraphs(t *testing.T) {
	more := append(some(), rec(id(4, 4), 3))
	one, other := mustMake(t, some()), mustMake(t, more)
	mustLists(t, "Order of the one", Order(one), someOrder()...)
	mustLists(t, "Order of the other", Order(other),
		ids(id(4, 4)), ids(id(6, 1)), ids(id(0, 1)), ids(id(3, 1), id(1, 9)), ids(id(2, 4), id(2, 10), id(0, 7)), ids(id(1, 2)), ids(id(3, 2)), ids(id(7, 7)))
	mustBe(t, "Right of the one's order in the other", Right(other, someOrder()), true)
	mustBe(t, "Right of the other's order in the one", Right(one, Order(other)), false)
	mustHold(t, other, more)
	mustHold(t, one, some())
}
