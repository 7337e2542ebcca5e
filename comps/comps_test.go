package comps

import (
	"fmt"
	"math"
	"slices"
	"testing"

	"cortege/api"
	"cortege/edges"
)

func id(rep, slot int) api.Id { return api.Id{Rep: rep, Slot: slot} }

func ids(l ...api.Id) []api.Id             { return l }
func lists(l ...[]api.Id) [][]api.Id       { return l }
func records(l ...api.Record) []api.Record { return l }

// rec is a record without commands.
func rec(i api.Id, seq int, deps ...api.Id) api.Record {
	return api.Record{Id: i, Seq: seq, Deps: ordered(deps)}
}

// slots are n ids of a replica, from this slot on.
func slots(rep, first, n int) []api.Id {
	var l []api.Id
	for i := range n {
		l = append(l, id(rep, first+i))
	}
	return l
}

// oddIds are ids that none of the records here have or depend on: such as may be, and such as no id may be.
func oddIds() []api.Id {
	return ids(
		id(6, 6), id(0, 1<<20), id(7, 1<<20), id(5, 1),
		api.Id{}, id(8, 1), id(-1, 1), id(3, 0), id(3, -2), id(3, 1<<20+1), id(0, 1<<32+1), id(1<<32, 1), id(-8, 2),
		id(math.MinInt, math.MaxInt), id(math.MaxInt, math.MinInt), id(math.MaxInt, math.MaxInt), id(math.MinInt, math.MinInt),
	)
}

// ordered are l's ids by replica, then by slot, each once.
func ordered(l []api.Id) []api.Id {
	var in []api.Id
	for _, one := range l {
		at := 0
		for at < len(in) && (in[at].Rep < one.Rep || in[at].Rep == one.Rep && in[at].Slot < one.Slot) {
			at++
		}
		if at == len(in) || in[at] != one {
			in = slices.Insert(in, at, one)
		}
	}
	return in
}

// turns gives all orders of l.
func turns[T any](l []T) [][]T {
	if len(l) == 0 {
		return [][]T{nil}
	}
	var all [][]T
	for _, rest := range turns(l[1:]) {
		for at := range l {
			all = append(all, slices.Insert(slices.Clone(rest), at, l[0]))
		}
	}
	return all
}

// parts gives all lists that have some of l's elements, in l's order.
func parts[T any](l []T) [][]T {
	all := [][]T{nil}
	for _, one := range l {
		for _, part := range slices.Clone(all) {
			all = append(all, append(slices.Clone(part), one))
		}
	}
	return all
}

// idsOf are the ids of l's records.
func idsOf(l []api.Record) []api.Id {
	var all []api.Id
	for _, r := range l {
		all = append(all, r.Id)
	}
	return all
}

// mustMake is a graph of l, which must be one.
func mustMake(t *testing.T, l []api.Record) *edges.Graph {
	t.Helper()
	g, e := edges.New(l)
	if e != api.OK || g == nil {
		t.Fatalf("New of %v: %v, error %d", l, g, int(e))
	}
	return g
}

// mustList holds a list of ids against what it must be.
func mustList(t *testing.T, what string, got []api.Id, want ...api.Id) {
	t.Helper()
	if !slices.Equal(got, want) {
		t.Errorf("%.600s: %.600s, not %.600s", what, fmt.Sprint(got), fmt.Sprint(want))
	}
}

// mustLists holds lists of ids against what they must be.
func mustLists(t *testing.T, what string, got [][]api.Id, want ...[]api.Id) {
	t.Helper()
	if !slices.EqualFunc(got, want, slices.Equal[[]api.Id]) {
		t.Errorf("%.600s: %.600s, not %.600s", what, fmt.Sprint(got), fmt.Sprint(want))
	}
}

// mustBe holds what is told against what it must be.
func mustBe[T comparable](t *testing.T, what string, got, want T) {
	t.Helper()
	if got != want {
		t.Errorf("%.600s: %v, not %v", what, got, want)
	}
}

// story is what a graph of some records must tell. It goes along no ways: whether one reaches another one is worked out for all pairs at once.
type story struct {
	there map[api.Id]api.Record
	named []api.Id
	ways  map[api.Id]map[api.Id]bool
}

// tell goes through l, which has records that may be, each Id once.
func tell(l []api.Record) story {
	s := story{there: map[api.Id]api.Record{}, ways: map[api.Id]map[api.Id]bool{}}
	for _, r := range l {
		s.there[r.Id] = r
		s.named = append(append(s.named, r.Id), r.Deps...)
	}
	s.named = ordered(s.named)
	for _, i := range s.named {
		s.ways[i] = map[api.Id]bool{i: true}
	}
	for _, r := range l {
		for _, dep := range r.Deps {
			s.ways[r.Id][dep] = true
		}
	}
	for _, by := range s.named {
		for _, from := range s.named {
			if s.ways[from][by] {
				for to := range s.ways[by] {
					s.ways[from][to] = true
				}
			}
		}
	}
	return s
}

// has tells whether the record of an id is there.
func (s story) has(i api.Id) bool {
	_, there := s.there[i]
	return there
}

// isClosed tells whether i, and all that it reaches, is there.
func (s story) isClosed(i api.Id) bool {
	for to := range s.ways[i] {
		if !s.has(to) {
			return false
		}
	}
	return s.has(i)
}

// mutual tells whether a and b are there, and each reaches the other one.
func (s story) mutual(a, b api.Id) bool {
	return s.has(a) && s.has(b) && s.ways[a][b] && s.ways[b][a]
}

// sorted are those of l that are there, each once: by Seq, then by replica and slot.
func (s story) sorted(l []api.Id) []api.Id {
	var in []api.Id
	// The ids come in order, so that one stands behind all others of its Seq that came ahead of it.
	for _, one := range ordered(l) {
		if !s.has(one) {
			continue
		}
		at := len(in)
		for at > 0 && s.there[in[at-1]].Seq > s.there[one].Seq {
			at--
		}
		in = slices.Insert(in, at, one)
	}
	return in
}

// comps are all components: gone through in the order of records, each one is told at its first.
func (s story) comps() [][]api.Id {
	var all [][]api.Id
next:
	for _, i := range s.sorted(s.named) {
		if !s.isClosed(i) {
			continue
		}
		for at := range all {
			if s.mutual(all[at][0], i) {
				all[at] = append(all[at], i)
				continue next
			}
		}
		all = append(all, ids(i))
	}
	return all
}

// mustHoldPairs holds what g tells of each pair of these.
func mustHoldPairs(t *testing.T, g *edges.Graph, s story, l []api.Id) {
	t.Helper()
	for _, a := range l {
		for _, b := range l {
			mustBe(t, fmt.Sprintf("Mutual of %v and %v", a, b), Mutual(g, a, b), s.mutual(a, b))
		}
	}
}

// mustPart holds P17.3 of what g tells: each closed id of l stands in just one component, once, no other id in any; ids of one are mutual, ids of different ones are not.
func mustPart(t *testing.T, g *edges.Graph, s story, l []api.Id) {
	t.Helper()
	told := Of(g)
	home, count := map[api.Id]int{}, 0
	for at, comp := range told {
		mustBe(t, "a component has ids", len(comp) > 0, true)
		for _, i := range comp {
			home[i] = at
			count++
			mustBe(t, fmt.Sprint("what stands in a component is closed: ", i), s.isClosed(i), true)
		}
	}
	mustBe(t, "ids in components, each counted once", len(home), count)
	for _, a := range l {
		at, in := home[a]
		mustBe(t, fmt.Sprint(a, " stands in a component"), in, s.isClosed(a))
		if !in {
			at = -1
		}
		mustBe(t, fmt.Sprint("At of ", a), At(told, a), at)
		for _, b := range l {
			if other, too := home[b]; in && too {
				mustBe(t, fmt.Sprintf("Mutual of %v and %v", a, b), Mutual(g, a, b), at == other)
			}
		}
	}
}

// mustHold holds what g tells against what a graph of l must tell.
func mustHold(t *testing.T, g *edges.Graph, l []api.Record) {
	t.Helper()
	s := tell(l)
	all := append(slices.Clone(s.named), oddIds()...)
	mustLists(t, "Of", Of(g), s.comps()...)
	mustHoldPairs(t, g, s, all)
	mustPart(t, g, s, all)
	mustList(t, "Sorted of all", Sorted(g, all), s.sorted(all)...)
	mustList(t, "Sorted of all, twice", Sorted(g, slices.Concat(all, all)), s.sorted(all)...)
	for at := range all {
		mustList(t, fmt.Sprint("Sorted of ", all[at]), Sorted(g, all[at:at+1]), s.sorted(all[at:at+1])...)
		turned := slices.Concat(all[at:], all[:at])
		slices.Reverse(turned)
		mustList(t, fmt.Sprint("Sorted of ", turned), Sorted(g, turned), s.sorted(all)...)
	}
}

// some are records out of order: a ring of two, and a way to it; a ring of three that leads to what is missing, and one that leads there; one beneath all of these; a missing id that two depend on; and one by itself.
func some() []api.Record {
	return records(
		rec(id(3, 2), 7, id(0, 1), id(1, 9), id(3, 1)),
		rec(id(0, 1), 8),
		rec(id(1, 9), 5, id(0, 1), id(3, 1)),
		rec(id(3, 1), 4, id(1, 9)),
		rec(id(2, 4), 5, id(2, 10)),
		rec(id(2, 10), 5, id(0, 7)),
		rec(id(0, 7), 6, id(0, 1), id(2, 4), id(4, 4)),
		rec(id(1, 2), 1, id(2, 4)),
		rec(id(7, 7), 1, id(3, 2), id(4, 4)),
		rec(id(6, 1), 4),
	)
}

// someComps are the components of some.
func someComps() [][]api.Id {
	return lists(ids(id(3, 1), id(1, 9)), ids(id(6, 1)), ids(id(3, 2)), ids(id(0, 1)))
}

// shape is a graph, and its components.
type shape struct {
	name  string
	l     []api.Record
	comps [][]api.Id
}

// The ids of the shapes. In the order of ids they are b, d, a, c, gone, e.
var (
	a    = id(1, 10)
	b    = id(0, 5)
	c    = id(2, 1)
	d    = id(1, 9)
	e    = id(7, 2)
	gone = id(4, 4)
)

// shapes are graphs of the kinds that there are, with their components written out.
func shapes() []shape {
	return []shape{
		{"no records", nil, nil},
		{"one", records(rec(a, 1)), lists(ids(a))},
		{"none has Deps", records(rec(a, 4), rec(b, 3), rec(c, 2), rec(d, 1)), lists(ids(d), ids(c), ids(b), ids(a))},
		{"none has Deps, and all have one Seq", records(rec(a, 4), rec(b, 4), rec(c, 4), rec(d, 4), rec(e, 4)), lists(ids(b), ids(d), ids(a), ids(c), ids(e))},
		{"one leads to another one", records(rec(a, 1, b), rec(b, 2)), lists(ids(a), ids(b))},
		{"each other", records(rec(a, 5, b), rec(b, 3, a)), lists(ids(b, a))},
		{"each other, the Seqs against the ids", records(rec(a, 3, b), rec(b, 5, a)), lists(ids(a, b))},
		{"each other, of one Seq", records(rec(a, 5, b), rec(b, 5, a)), lists(ids(b, a))},
		{"each other, and one that leads there", records(rec(a, 5, b), rec(b, 3, a), rec(c, 4, a)), lists(ids(b, a), ids(c))},
		{"each other, and one to which they lead", records(rec(a, 5, b), rec(b, 3, a, c), rec(c, 1)), lists(ids(c), ids(b, a))},
		{"chain", records(rec(a, 1, b), rec(b, 2, c), rec(c, 3, d), rec(d, 4)), lists(ids(a), ids(b), ids(c), ids(d))},
		{"chain of rising Seqs", records(rec(a, 4, b), rec(b, 3, c), rec(c, 2, d), rec(d, 1)), lists(ids(d), ids(c), ids(b), ids(a))},
		{"two ways to one", records(rec(a, 2, b, c), rec(b, 2, d), rec(c, 2, d), rec(d, 2)), lists(ids(b), ids(d), ids(a), ids(c))},
		{"ring of three", records(rec(a, 3, b), rec(b, 2, c), rec(c, 1, a)), lists(ids(c, b, a))},
		{"ring of five", records(rec(a, 2, b), rec(b, 1, c), rec(c, 1, d), rec(d, 2, e), rec(e, 1, a)), lists(ids(b, c, e, d, a))},
		{"two rings that share a record", records(rec(a, 9, b), rec(b, 8, a, c), rec(c, 7, b)), lists(ids(c, b, a))},
		{"two rings of three that share a record", records(rec(a, 1, b), rec(b, 1, c), rec(c, 2, a, d), rec(d, 1, e), rec(e, 3, c)), lists(ids(b, d, a, c, e))},
		{"two rings, an edge from one to the other", records(rec(a, 1, b, c), rec(b, 4, a), rec(c, 3, d), rec(d, 2, c)), lists(ids(a, b), ids(d, c))},
		{"two rings, an edge from the other to the one", records(rec(a, 1, b), rec(b, 4, a), rec(c, 3, d, b), rec(d, 2, c)), lists(ids(a, b), ids(d, c))},
		{"two rings, edges both ways", records(rec(a, 1, b, c), rec(b, 4, a), rec(c, 3, d), rec(d, 2, b, c)), lists(ids(a, d, c, b))},
		{"two rings, their first ones of one Seq", records(rec(a, 2, b), rec(b, 6, a), rec(c, 5, d), rec(d, 2, c)), lists(ids(d, c), ids(a, b))},
		{"a ring within a ring", records(rec(a, 5, b), rec(b, 4, c), rec(c, 3, b, d), rec(d, 2, a), rec(e, 1, b)), lists(ids(e), ids(d, c, b, a))},
		{"all with all", records(rec(a, 1, b, c, d), rec(b, 2, a, c, d), rec(c, 3, a, b, d), rec(d, 4, a, b, c)), lists(ids(a, b, c, d))},
		{"one with what is missing", records(rec(a, 1, gone)), nil},
		{"one with what is missing, and one without", records(rec(a, 1, gone), rec(b, 2)), lists(ids(b))},
		{"chain to what is missing", records(rec(a, 1, b), rec(b, 1, c), rec(c, 1, gone), rec(d, 1)), lists(ids(d))},
		{"chain with a gap", records(rec(a, 1, b), rec(b, 1, gone), rec(c, 1, d), rec(d, 1)), lists(ids(d), ids(c))},
		{"what the missing one would close", records(rec(a, 1, gone), rec(c, 1, a), rec(d, 2)), lists(ids(d))},
		{"ring with what is missing", records(rec(a, 1, b), rec(b, 1, c, gone), rec(c, 1, a, d), rec(d, 1), rec(e, 1, a)), lists(ids(d))},
		{"ring behind what is missing", records(rec(a, 1, b), rec(b, 1, a, c), rec(c, 1, gone), rec(d, 1, e), rec(e, 1, d)), lists(ids(d, e))},
		{"ring ahead of one with what is missing", records(rec(a, 4, b), rec(b, 3, a), rec(c, 1, a, gone), rec(d, 2, c)), lists(ids(b, a))},
	}
}

// The chapter's example, and the document's.
func TestExample(t *testing.T) {
	first, second := id(1, 1), id(1, 2)
	l := records(rec(first, 5, second), rec(second, 3, first))
	g := mustMake(t, l)
	mustLists(t, "Of", Of(g), ids(second, first))
	mustHold(t, g, l)
}

// P17.1 to P17.3: what each shape tells, in whatever order its records were handed in.
func TestShapes(t *testing.T) {
	for _, s := range shapes() {
		t.Run(s.name, func(t *testing.T) {
			for _, turn := range turns(s.l) {
				mustLists(t, "Of", Of(mustMake(t, turn)), s.comps...)
			}
			mustHold(t, mustMake(t, s.l), s.l)
		})
	}
	mustLists(t, "Of some", Of(mustMake(t, some())), someComps()...)
	mustHold(t, mustMake(t, some()), some())
}

// P17.1: a component's ids, and the components, stand by Seq first, then by replica, then by slot, each as a number.
func TestOrder(t *testing.T) {
	l := ids(id(0, 2), id(0, 10), id(0, 1<<20), id(1, 1), id(1, 9), id(2, 1), id(7, 1))
	for n := range uint64(300) {
		roll := dice(n)
		var ring, alone []api.Record
		for at, i := range l {
			// All bounds of Seq, and close ones.
			seq := [...]int{1, 2, 3, 9, 10, 1 << 29, 1<<30 - 1, 1 << 30}[roll(8)]
			ring = append(ring, rec(i, seq, l[(at+1)%len(l)]))
			alone = append(alone, rec(i, seq))
		}
		want := tell(ring).sorted(l)
		mustLists(t, "Of a ring", Of(mustMake(t, ring)), want)
		var each [][]api.Id
		for _, i := range want {
			each = append(each, ids(i))
		}
		mustLists(t, "Of single ones", Of(mustMake(t, alone)), each...)
		mustList(t, "Sorted", Sorted(mustMake(t, ring), l), want...)
	}
}

// P17.1: the components stand by their first ones, not by others of theirs, nor by how many they have.
func TestOrderOfComponents(t *testing.T) {
	l := records(
		rec(a, 2, b), rec(b, 9, a),
		rec(c, 3, d), rec(d, 4, c),
		rec(e, 1),
		rec(id(3, 3), 3, id(3, 4)), rec(id(3, 4), 2, id(3, 5)), rec(id(3, 5), 1<<30, id(3, 3)),
	)
	for at := range l {
		turned := slices.Concat(l[at:], l[:at])
		mustLists(t, "Of", Of(mustMake(t, turned)), ids(e), ids(a, b), ids(id(3, 4), id(3, 3), id(3, 5)), ids(c, d))
		slices.Reverse(turned)
		mustLists(t, "Of", Of(mustMake(t, turned)), ids(e), ids(a, b), ids(id(3, 4), id(3, 3), id(3, 5)), ids(c, d))
	}
	mustHold(t, mustMake(t, l), l)
}

// P17.1: records with as many Deps as there may be; without one of them there is nothing to which these lead.
func TestManyDeps(t *testing.T) {
	all := slots(2, 1, 17)
	var l []api.Record
	for at, i := range all {
		l = append(l, rec(i, 40-at, slices.Delete(slices.Clone(all), at, at+1)...))
	}
	want := slices.Clone(all)
	slices.Reverse(want)
	mustLists(t, "Of", Of(mustMake(t, l)), want)
	mustHold(t, mustMake(t, l), l)
	for at := range l {
		lacking := append(slices.Delete(slices.Clone(l), at, at+1), rec(id(0, 1), 50))
		mustLists(t, "Of, without one", Of(mustMake(t, lacking)), ids(id(0, 1)))
		mustHold(t, mustMake(t, lacking), lacking)
	}
}

// P17.2: Mutual of pairs, in either order: near and far, closed and not, there and missing.
func TestMutual(t *testing.T) {
	g := mustMake(t, some())
	for _, told := range []struct {
		a, b api.Id
		want bool
	}{
		{id(3, 1), id(1, 9), true},   // each other
		{id(3, 1), id(0, 1), false},  // one way, near
		{id(3, 2), id(0, 1), false},  // one way, by another one, too
		{id(3, 2), id(3, 1), false},  // one way, into a ring
		{id(2, 4), id(2, 10), true},  // around a ring that is not closed
		{id(2, 4), id(0, 7), true},   // the same, the other way far
		{id(0, 7), id(2, 10), true},  // the same
		{id(1, 2), id(0, 7), false},  // one way, far
		{id(6, 1), id(0, 1), false},  // no way
		{id(7, 7), id(1, 2), false},  // no way, but both reach 0.1
		{id(4, 4), id(0, 7), false},  // missing
		{id(7, 7), id(4, 4), false},  // missing
		{id(4, 4), id(4, 4), false},  // missing, with itself
		{id(5, 1), id(5, 1), false},  // nowhere, with itself
		{api.Id{}, api.Id{}, false},  // no id, with itself
		{id(8, 1), id(8, 1), false},  // no id, with itself
		{id(-3, 1), id(3, 1), false}, // no id
		{id(0, 1), id(0, 1), true},   // there, with itself
		{id(2, 4), id(2, 4), true},   // not closed, with itself
		{id(7, 7), id(7, 7), true},   // not closed, in no ring, with itself
	} {
		mustBe(t, fmt.Sprintf("Mutual of %v and %v", told.a, told.b), Mutual(g, told.a, told.b), told.want)
		mustBe(t, fmt.Sprintf("Mutual of %v and %v", told.b, told.a), Mutual(g, told.b, told.a), told.want)
	}
	// What is missing reaches itself, but it is not there; nor is it, where two lead to it.
	g = mustMake(t, records(rec(a, 1, gone), rec(b, 1, gone)))
	mustBe(t, "Mutual of what is missing", Mutual(g, gone, gone), false)
	mustBe(t, "Mutual of two that lead there", Mutual(g, a, b), false)
	g = mustMake(t, nil)
	for _, i := range append(oddIds(), a, b) {
		mustBe(t, fmt.Sprint("Mutual, without records, of ", i), Mutual(g, i, i), false)
	}
}

// P17.2: At tells the first list that has an id, wherever it stands there, whatever the lists are.
func TestAt(t *testing.T) {
	l := lists(ids(c, a), nil, ids(b), ids(), ids(d, a, e, b), ids(gone, d, d), ids(id(8, 0)), oddIds())
	for _, told := range []struct {
		id   api.Id
		want int
	}{{c, 0}, {a, 0}, {b, 2}, {d, 4}, {e, 4}, {gone, 5}, {id(8, 0), 6}, {api.Id{}, 7}, {id(-8, 2), 7}, {id(1, 11), -1}, {id(10, 1), -1}, {id(-1, -1), -1}} {
		mustBe(t, fmt.Sprint("At of ", told.id), At(l, told.id), told.want)
	}
	for _, i := range oddIds() {
		mustBe(t, fmt.Sprint("At of ", i), At(l, i), 7)
		for _, none := range [][][]api.Id{nil, {}, l[:0], {nil}, {{}}, {nil, {}, nil}, l[1:2], l[:7]} {
			mustBe(t, fmt.Sprint("At of ", i, " in ", none), At(none, i), -1)
		}
	}
	// Of one list alone, each of its ids; what stands behind its end, and behind the lists' end, is none of it.
	room := ids(a, b, c, d, e)
	for n := range room {
		for at, i := range room {
			want := -1
			if at < n {
				want = 0
			}
			mustBe(t, "At of one list", At(lists(room[:n], room)[:1], i), want)
		}
	}
	// Of many lists, each the first one of its id.
	var many [][]api.Id
	for n := range 300 {
		many = append(many, slots(1, n+1, 3))
	}
	for n := range 302 {
		mustBe(t, "At of many lists", At(many, id(1, n+1)), max(0, n-2))
	}
	mustBe(t, "At of many lists, of none", At(many, id(1, 303)), -1)
}

// P17.2: At of components that a graph has: their places.
func TestAtOfComponents(t *testing.T) {
	g := mustMake(t, some())
	l := Of(g)
	for i, want := range map[api.Id]int{
		id(3, 1): 0, id(1, 9): 0, id(6, 1): 1, id(3, 2): 2, id(0, 1): 3, id(2, 4): -1, id(2, 10): -1, id(7, 7): -1, id(4, 4): -1,
	} {
		mustBe(t, fmt.Sprint("At of ", i), At(l, i), want)
	}
}

// P17.2: Sorted of lists in any order: by Seq first, then by id; each once; what is missing, and what no id may be, is left out.
func TestSorted(t *testing.T) {
	g := mustMake(t, some())
	want := ids(id(1, 2), id(7, 7), id(3, 1), id(6, 1), id(0, 1))
	for _, turn := range turns(ids(id(0, 1), id(7, 7), id(3, 1), id(6, 1), id(1, 2))) {
		mustList(t, fmt.Sprint("Sorted of ", turn), Sorted(g, turn), want...)
		twice := slices.Concat(turn, turn[:3], turn[2:])
		mustList(t, fmt.Sprint("Sorted of ", twice), Sorted(g, twice), want...)
		for at := range len(turn) + 1 {
			with := slices.Insert(slices.Clone(turn), at, append(oddIds(), id(4, 4))...)
			mustList(t, fmt.Sprint("Sorted of ", with), Sorted(g, with), want...)
		}
	}
	// Not closed, of one Seq: by replica, then by slot as a number.
	mustList(t, "Sorted of one Seq", Sorted(g, ids(id(2, 10), id(2, 4), id(1, 9))), id(1, 9), id(2, 4), id(2, 10))
	mustList(t, "Sorted of all", Sorted(g, idsOf(some())),
		id(1, 2), id(7, 7), id(3, 1), id(6, 1), id(1, 9), id(2, 4), id(2, 10), id(0, 7), id(3, 2), id(0, 1))
	mustList(t, "Sorted of one, often", Sorted(g, slices.Repeat(ids(id(6, 1)), 100)), id(6, 1))
	for _, none := range [][]api.Id{nil, {}, idsOf(some())[:0], ids(id(4, 4)), oddIds(), append(oddIds(), id(4, 4))} {
		mustList(t, fmt.Sprint("Sorted of ", none), Sorted(g, none))
	}
	mustList(t, "Sorted, without records", Sorted(mustMake(t, nil), idsOf(some())))
}

// P17.1 to P17.3: all graphs of up to four records with whichever Deps among four ids.
func TestAllSmallGraphs(t *testing.T) {
	four := ids(id(1, 10), id(0, 3), id(1, 9), id(2, 1))
	some := parts(four)
	for n := range 9 * 9 * 9 * 9 {
		roll := dice(uint64(n))
		var l []api.Record
		for at, i := range four {
			// The ninth choice is that the record is not there.
			if choice := n % 9; choice < 8 {
				others := slices.Delete(slices.Clone(four), at, at+1)
				l = append(l, rec(i, 1+roll(3), parts(others)[choice]...))
			}
			n /= 9
		}
		g, s := mustMake(t, l), tell(l)
		mustLists(t, "Of", Of(g), s.comps()...)
		mustHoldPairs(t, g, s, four)
		mustPart(t, g, s, four)
		for _, list := range some {
			mustList(t, fmt.Sprint("Sorted of ", list), Sorted(g, list), s.sorted(list)...)
		}
		if t.Failed() {
			t.Fatalf("of %v", l)
		}
	}
}

// dice answers numbers from 0 to n - 1 that look like chance, the same ones each time.
func dice(seed uint64) func(n int) int {
	seed = seed*0x9e3779b97f4a7c15 + 1
	return func(n int) int {
		seed = seed*6364136223846793005 + 1442695040888963407
		return int(seed>>33) % n
	}
}

// ofChance are records of few ids, each Id once, out of order, with few Seqs or many.
func ofChance(roll func(n int) int) []api.Record {
	var l []api.Record
	many, seqs := 1+roll(4), 1+roll(9)
	for range roll(20) {
		if i := id(roll(3), 1+roll(6)); !slices.Contains(idsOf(l), i) {
			l = append(l, rec(i, 1+roll(seqs)))
		}
	}
	there := idsOf(l)
	for at, i := range there {
		var deps []api.Id
		for range roll(many + 1) {
			dep := there[roll(len(there))]
			// Now and then it is one that may be missing.
			if roll(20) == 0 {
				dep = id(roll(3), 1+roll(7))
			}
			if dep != i {
				deps = append(deps, dep)
			}
		}
		l[at].Deps = ordered(deps)
	}
	return l
}

// P17.1 to P17.3: graphs of chance, against what must be told of them.
func TestOfChance(t *testing.T) {
	alone, together, open := 0, 0, 0
	for seed := range uint64(1500) {
		roll := dice(seed)
		l := ofChance(roll)
		g, s := mustMake(t, l), tell(l)
		mustHold(t, g, l)
		for range 10 {
			var list []api.Id
			for range roll(9) {
				list = append(list, id(roll(3), 1+roll(7)))
			}
			mustList(t, fmt.Sprint("Sorted of ", list), Sorted(g, list), s.sorted(list)...)
		}
		slices.Reverse(l)
		mustLists(t, "Of the same ones, turned", Of(mustMake(t, l)), Of(g)...)
		in := 0
		for _, comp := range Of(g) {
			in += len(comp)
			if len(comp) == 1 {
				alone++
			} else {
				together += len(comp)
			}
		}
		open += len(l) - in
		if t.Failed() {
			t.Fatalf("seed %d: %v", seed, l)
		}
	}
	if alone < 1000 || together < 1000 || open < 1000 {
		t.Error("so many records alone, together, and not closed:", alone, together, open)
	}
}

// rings are n rings of so many records each, one leading to the next one's beginning, and the last one to as many more as there are Deps; the Seqs rise against the edges.
func rings(n, size int, deps ...api.Id) []api.Record {
	l := make([]api.Record, n*size)
	i := func(at int) api.Id { return id(at%5, 1+at) }
	for at := range l {
		ring, place := at/size, at%size
		var to []api.Id
		if size > 1 {
			to = ids(i(ring*size + (place+1)%size))
		}
		switch {
		case place > 0:
		case ring+1 < n:
			to = append(to, i(at+size))
		default:
			to = append(to, deps...)
		}
		l[at] = rec(i(at), 1+len(l)-at, to...)
	}
	return l
}

// ringsComps are the components of rings.
func ringsComps(n, size int) [][]api.Id {
	var all [][]api.Id
	for ring := n - 1; ring >= 0; ring-- {
		var comp []api.Id
		for place := size - 1; place >= 0; place-- {
			at := ring*size + place
			comp = append(comp, id(at%5, 1+at))
		}
		all = append(all, comp)
	}
	return all
}

// P17.1 to P17.3: chains, rings, and chains of rings of a few, of a thousand, and of many records go through.
func TestLong(t *testing.T) {
	for _, many := range [][2]int{{1, 2}, {2, 1}, {7, 3}, {1000, 1}, {1, 1000}, {20, 50}, {500, 2}, {20000, 1}, {1, 20000}, {100, 200}} {
		n, size := many[0], many[1]
		l, want := rings(n, size), ringsComps(n, size)
		g := mustMake(t, l)
		mustLists(t, fmt.Sprintf("Of %d rings of %d", n, size), Of(g), want...)
		slices.Reverse(l)
		mustLists(t, fmt.Sprintf("Of %d rings of %d, turned", n, size), Of(mustMake(t, l)), want...)
		mustList(t, "Sorted of all", Sorted(g, idsOf(rings(n, size))), slices.Concat(want...)...)
		first, last := want[0], want[n-1]
		mustBe(t, "Mutual of the ends", Mutual(g, first[0], last[size-1]), n == 1)
		mustBe(t, "Mutual of the ends, turned", Mutual(g, last[size-1], first[0]), n == 1)
		mustBe(t, "Mutual within the last one", Mutual(g, last[0], last[size-1]), true)
		mustBe(t, "At of the last one", At(want, last[size-1]), n-1)
		// What is missing beneath the last one is reached by all.
		g = mustMake(t, rings(n, size, id(7, 1)))
		mustLists(t, "Of, above what is missing", Of(g))
		mustBe(t, "Mutual within the last one, above what is missing", Mutual(g, last[0], last[size-1]), true)
		mustBe(t, "Mutual with what is missing", Mutual(g, last[0], id(7, 1)), false)
		mustList(t, "Sorted, above what is missing", Sorted(g, idsOf(l)), slices.Concat(want...)...)
	}
}

// A chain and a ring of a thousand: without one record, only what does not reach it stands in components.
func TestLongWithGap(t *testing.T) {
	l := rings(1000, 1)
	for _, at := range []int{0, 1, 500, 998, 999} {
		lacking := slices.Delete(slices.Clone(l), at, at+1)
		mustLists(t, "Of a chain without one", Of(mustMake(t, lacking)), ringsComps(1000, 1)[:999-at]...)
		ring := rings(1, 1000)
		g := mustMake(t, slices.Delete(ring, at, at+1))
		mustLists(t, "Of a ring without one", Of(g))
		mustBe(t, "Mutual of a ring without one", Mutual(g, id(2, 3), id(3, 4)), false)
	}
}

// Many ways to one, layer by layer, are not all gone one by one: that would never end.
func TestManyWays(t *testing.T) {
	var l []api.Record
	var want [][]api.Id
	for layer := range 150 {
		for rep := range 7 {
			r := rec(id(rep, 1+layer), 1)
			for below := range 7 {
				if layer > 0 {
					r.Deps = append(r.Deps, id(below, layer))
				}
			}
			l = append(l, r)
		}
	}
	for _, i := range mustMake(t, l).Ids() {
		want = append(want, ids(i))
	}
	g := mustMake(t, l)
	mustLists(t, "Of", Of(g), want...)
	mustBe(t, "Mutual", Mutual(g, id(0, 150), id(6, 1)), false)
	// With a way back up to a top one, all that it reaches is one component.
	l[3].Deps = ids(id(5, 150))
	for at := range 7 {
		if at != 3 {
			l[at].Deps = ids(id(3, 1))
		}
	}
	g = mustMake(t, l)
	// Just those beside the top one to which it leads stand by themselves.
	top := ids(id(0, 150), id(1, 150), id(2, 150), id(3, 150), id(4, 150), id(6, 150))
	all := slices.DeleteFunc(g.Ids(), func(i api.Id) bool { return slices.Contains(top, i) })
	want = lists(all)
	for _, i := range top {
		want = append(want, ids(i))
	}
	mustLists(t, "Of, with a way back", Of(g), want...)
	mustBe(t, "Mutual, with a way back", Mutual(g, id(5, 150), id(6, 1)), true)
	mustBe(t, "Mutual with one beside it", Mutual(g, id(0, 150), id(6, 1)), false)
}

// P17.1, P17.2: a nil graph has no records, so no components, and none that is mutual, also with itself; At asks for no graph.
func TestNil(t *testing.T) {
	mustHold(t, nil, nil)
	mustLists(t, "Of", Of(nil))
	for _, i := range append(oddIds(), idsOf(some())...) {
		mustBe(t, fmt.Sprint("Mutual of ", i, " with itself"), Mutual(nil, i, i), false)
		mustBe(t, fmt.Sprint("Mutual of ", i, " with another one"), Mutual(nil, i, id(3, 4)), false)
		mustList(t, fmt.Sprint("Sorted of ", i), Sorted(nil, ids(i)))
		mustBe(t, "At of what a nil graph has", At(Of(nil), i), -1)
	}
	mustList(t, "Sorted of nil", Sorted(nil, nil))
	mustList(t, "Sorted of no ids", Sorted(nil, ids()))
	mustList(t, "Sorted of all", Sorted(nil, idsOf(some())))
	// What comes with an error is a nil graph, too.
	g, _ := edges.New(append(some(), some()[0]))
	mustHold(t, g, nil)
}

// spoil writes all over a list of ids, its spare room too.
func spoil(l []api.Id) {
	l = l[:cap(l)]
	for at := range l {
		l[at] = id(99, -99)
	}
}

// spoilAll writes all over lists of ids, the spare room too, or just over that.
func spoilAll(l [][]api.Id, ends bool) {
	for at := range l {
		if ends {
			spoil(l[at][len(l[at]):])
		} else {
			spoil(l[at])
		}
	}
	rest := l[len(l):cap(l)]
	for at := range rest {
		rest[at] = ids(id(99, -99))
	}
}

// What is handed out is new, and so is each list in it: writing into it, its spare room too, changes nothing else, and no later answer.
func TestAnswersAreNew(t *testing.T) {
	for n := 1; n <= 12; n++ {
		for size := 1; size <= 12; size++ {
			l, want := rings(n, size), ringsComps(n, size)
			g, all := mustMake(t, l), idsOf(l)
			told, sorted := Of(g), Sorted(g, all)
			spoilAll(Of(g), false)
			spoil(Sorted(g, all))
			mustLists(t, "Of, told before", told, want...)
			mustList(t, "Sorted, told before", sorted, slices.Concat(want...)...)
			mustLists(t, "Of, told again", Of(g), want...)
			mustList(t, "Sorted, told again", Sorted(g, all), sorted...)
			// The lists of one answer are each by itself, too.
			spoilAll(told, true)
			spoil(sorted[len(sorted):])
			mustLists(t, "Of, its spare room written into", told, want...)
			mustList(t, "Sorted, its spare room written into", sorted, slices.Concat(want...)...)
			for at := range told {
				spoil(told[at])
				mustLists(t, "the lists behind one that was written into", told[at+1:], want[at+1:]...)
			}
			mustList(t, "the ids handed in", all, idsOf(rings(n, size))...)
		}
	}
	g := mustMake(t, some())
	spoilAll(Of(g), false)
	spoil(Sorted(g, idsOf(some())))
	mustHold(t, g, some())
}

// What Sorted answers is not what it was handed, even where both are the same ids.
func TestSortedIsNotItsArgument(t *testing.T) {
	for n := range 30 {
		l := slots(5, 1, n)
		var made []api.Record
		for _, i := range l {
			made = append(made, rec(i, 1))
		}
		g := mustMake(t, made)
		got := Sorted(g, l)
		mustList(t, "Sorted", got, l...)
		spoil(got)
		mustList(t, "what was handed in", l, slots(5, 1, n)...)
		got = Sorted(g, l)
		spoil(l)
		mustList(t, "Sorted, told before", got, slots(5, 1, n)...)
	}
}

// whatIs is all that a graph tells by its own calls.
func whatIs(g *edges.Graph) string {
	s := fmt.Sprint(g.Len(), g.Edges(), g.Ids(), g.Missing())
	for _, i := range append(append(g.Ids(), g.Missing()...), oddIds()...) {
		r, ok := g.Record(i)
		s += fmt.Sprint(i, g.Has(i), r, ok, g.Users(i))
	}
	return s
}

// What the calls are handed is as it was, spare room and graph too; what stands in the spare room is none of it.
func TestArgumentsStay(t *testing.T) {
	doing := some()
	for at := range doing {
		doing[at].Batch = []api.Cmd{{Kind: api.Put, Key: "a", Value: math.Copysign(0, -1)}, {Kind: api.Get, Key: "b"}}
	}
	g := mustMake(t, doing)
	before := whatIs(g)
	room := ids(id(9, 9), id(3, 2), id(0, 1), id(3, 2), id(4, 4), id(3, 1), id(6, 1), id(8, 8), id(2, 4), id(-3, 7))
	kept := slices.Clone(room)
	l := room[1:6]
	rows := lists(ids(d), room[6:8], room[1:6], room[:1], room)
	for range 3 {
		mustList(t, "Sorted", Sorted(g, l), id(3, 1), id(3, 2), id(0, 1))
		Sorted(g, room)
		mustBe(t, "At", At(rows[:3], id(0, 1)), 2)
		mustBe(t, "At of what stands in the spare room", At(rows[:3], id(9, 9)), -1)
		mustLists(t, "the lists handed in", rows, ids(d), kept[6:8], kept[1:6], kept[:1], kept)
		mustLists(t, "Of", Of(g), someComps()...)
		mustBe(t, "Mutual", Mutual(g, id(3, 1), id(1, 9)), true)
		mustList(t, "what was handed in", room, kept...)
		if now := whatIs(g); now != before {
			t.Errorf("the graph became %s, of %s", now, before)
		}
	}
	mustHold(t, g, some())
}

// The same call answers the same, as often as it is made, of one graph and of many.
func TestAgainAndAgain(t *testing.T) {
	g := mustMake(t, some())
	for range 30 {
		mustHold(t, g, some())
		mustHold(t, mustMake(t, some()), some())
		mustLists(t, "Of", Of(g), someComps()...)
	}
}

// Two graphs are each by itself.
func TestTwoGraphs(t *testing.T) {
	more := append(some(), rec(id(4, 4), 3))
	one, other := mustMake(t, some()), mustMake(t, more)
	mustLists(t, "Of the one", Of(one), someComps()...)
	mustLists(t, "Of the other", Of(other),
		ids(id(1, 2)), ids(id(7, 7)), ids(id(4, 4)), ids(id(3, 1), id(1, 9)), ids(id(6, 1)), ids(id(2, 4), id(2, 10), id(0, 7)), ids(id(3, 2)), ids(id(0, 1)))
	mustHold(t, other, more)
	mustHold(t, one, some())
}
