package reach

import (
	"fmt"
	"math"
	"slices"
	"testing"

	"cortege/api"
	"cortege/edges"
)

func id(rep, slot int) api.Id { return api.Id{Rep: rep, Slot: slot} }

func ids(l ...api.Id) []api.Id             { return l }
func records(l ...api.Record) []api.Record { return l }

// rec is a record without commands.
func rec(i api.Id, deps ...api.Id) api.Record {
	return api.Record{Id: i, Seq: 1, Deps: deps}
}

// slots are n ids of a replica, from this slot on.
func slots(rep, first, n int) []api.Id {
	var l []api.Id
	for i := range n {
		l = append(l, id(rep, first+i))
	}
	return l
}

// oddIds are ids that none of the records here have or depend on: such as may be, and such as no id may be.
func oddIds() []api.Id {
	return ids(
		id(6, 6), id(0, 1<<20), id(7, 1<<20), id(5, 1),
		api.Id{}, id(8, 1), id(-1, 1), id(3, 0), id(3, -2), id(3, 1<<20+1), id(0, 1<<32+1), id(1<<32, 1), id(-8, 2),
		id(math.MinInt, math.MaxInt), id(math.MaxInt, math.MinInt), id(math.MaxInt, math.MaxInt), id(math.MinInt, math.MinInt),
	)
}

// ordered are l's ids by replica, then by slot, each once.
func ordered(l []api.Id) []api.Id {
	var in []api.Id
	for _, one := range l {
		at := 0
		for at < len(in) && (in[at].Rep < one.Rep || in[at].Rep == one.Rep && in[at].Slot < one.Slot) {
			at++
		}
		if at == len(in) || in[at] != one {
			in = slices.Insert(in, at, one)
		}
	}
	return in
}

// turns gives all orders of l.
func turns[T any](l []T) [][]T {
	if len(l) == 0 {
		return [][]T{nil}
	}
	var all [][]T
	for _, rest := range turns(l[1:]) {
		for at := range l {
			all = append(all, slices.Insert(slices.Clone(rest), at, l[0]))
		}
	}
	return all
}

// parts gives all lists that have some of l's elements, in l's order.
func parts[T any](l []T) [][]T {
	all := [][]T{nil}
	for _, one := range l {
		for _, part := range slices.Clone(all) {
			all = append(all, append(slices.Clone(part), one))
		}
	}
	return all
}

// mustMake is a graph of l, which must be one.
func mustMake(t *testing.T, l []api.Record) *edges.Graph {
	t.Helper()
	g, e := edges.New(l)
	if e != api.OK || g == nil {
		t.Fatalf("New of %v: %v, error %d", l, g, int(e))
	}
	return g
}

// mustList holds a list of ids against what it must be.
func mustList(t *testing.T, what string, got []api.Id, want ...api.Id) {
	t.Helper()
	if !slices.Equal(got, want) {
		t.Errorf("%.600s: %v, not %v", what, got, want)
	}
}

// mustBe holds what is told against what it must be.
func mustBe(t *testing.T, what string, got, want bool) {
	t.Helper()
	if got != want {
		t.Errorf("%.600s: %v", what, got)
	}
}

// story is what a graph of some records must tell. It goes along no ways: whether one reaches another one is worked out for all pairs at once.
type story struct {
	there map[api.Id]bool
	named []api.Id
	ways  map[api.Id]map[api.Id]bool
}

// tell goes through l, which has records that may be, each Id once.
func tell(l []api.Record) story {
	s := story{there: map[api.Id]bool{}, ways: map[api.Id]map[api.Id]bool{}}
	for _, r := range l {
		s.there[r.Id] = true
		s.named = append(append(s.named, r.Id), r.Deps...)
	}
	s.named = ordered(s.named)
	for _, i := range s.named {
		s.ways[i] = map[api.Id]bool{i: true}
	}
	for _, r := range l {
		for _, dep := range r.Deps {
			s.ways[r.Id][dep] = true
		}
	}
	for _, by := range s.named {
		for _, from := range s.named {
			if s.ways[from][by] {
				for to := range s.ways[by] {
					s.ways[from][to] = true
				}
			}
		}
	}
	return s
}

// path tells whether a reaches b.
func (s story) path(a, b api.Id) bool { return a == b || s.ways[a][b] }

// from are all ids that one of l reaches.
func (s story) from(l []api.Id) []api.Id {
	var all []api.Id
	for _, one := range l {
		all = append(all, one)
		for _, other := range s.named {
			if s.path(one, other) {
				all = append(all, other)
			}
		}
	}
	return ordered(all)
}

// isClosed tells whether i, and all that it reaches, is there.
func (s story) isClosed(i api.Id) bool {
	return !slices.ContainsFunc(s.from(ids(i)), func(o api.Id) bool { return !s.there[o] })
}

// closed are the ids of all records that are closed.
func (s story) closed() []api.Id {
	var all []api.Id
	for _, i := range s.named {
		if s.isClosed(i) {
			all = append(all, i)
		}
	}
	return all
}

// whole tells whether each id that one of l reaches is there, and one of l.
func (s story) whole(l []api.Id) bool {
	return !slices.ContainsFunc(s.from(l), func(o api.Id) bool { return !s.there[o] || !slices.Contains(l, o) })
}

// mustHoldLists holds what g tells of lists of ids.
func mustHoldLists(t *testing.T, g *edges.Graph, s story, lists ...[]api.Id) {
	t.Helper()
	for _, l := range lists {
		mustList(t, fmt.Sprint("From of ", l), From(g, l), s.from(l)...)
		mustBe(t, fmt.Sprint("Whole of ", l), Whole(g, l), s.whole(l))
	}
}

// mustHoldPaths holds what g tells of each pair of these.
func mustHoldPaths(t *testing.T, g *edges.Graph, s story, l []api.Id) {
	t.Helper()
	for _, a := range l {
		for _, b := range l {
			mustBe(t, fmt.Sprintf("Path of %v to %v", a, b), Path(g, a, b), s.path(a, b))
		}
	}
}

// mustHold holds what g tells against what a graph of l must tell: of single ids, of all of them, and of what is closed.
func mustHold(t *testing.T, g *edges.Graph, l []api.Record) {
	t.Helper()
	s := tell(l)
	closed := s.closed()
	mustList(t, "Closed", Closed(g), closed...)
	all := append(slices.Clone(s.named), oddIds()...)
	mustHoldPaths(t, g, s, all)
	mustHoldLists(t, g, s, nil, ids(), all, s.named, closed)
	for at := range all {
		mustHoldLists(t, g, s, all[at:at+1], all[:at], all[at:], s.from(all[at:at+1]))
	}
	for at, one := range closed {
		mustHoldLists(t, g, s, slices.Delete(slices.Clone(closed), at, at+1), append(slices.Clone(closed), one))
	}
}

// some are records out of order: two that depend on each other, a way to one, and by two ways; a ring of three that leads to what is missing, one that leads into that ring, and a missing id that two depend on.
func some() []api.Record {
	return records(
		rec(id(3, 2), id(0, 1), id(1, 9), id(3, 1)),
		rec(id(0, 1)),
		rec(id(1, 9), id(0, 1), id(3, 1)),
		rec(id(3, 1), id(1, 9)),
		rec(id(2, 4), id(2, 10)),
		rec(id(2, 10), id(0, 7)),
		rec(id(0, 7), id(0, 1), id(2, 4), id(4, 4)),
		rec(id(1, 2), id(2, 4)),
		rec(id(7, 7), id(3, 2), id(4, 4)),
		rec(id(6, 1)),
	)
}

// shape is a graph, and what must be told of it: closed, and of some lists of ids what is reached.
type shape struct {
	name   string
	l      []api.Record
	closed []api.Id
	from   [][2][]api.Id
}

// shapes are graphs of the kinds that there are, with what must be told of them written out.
func shapes() []shape {
	type told = [][2][]api.Id
	// In order they are b, d, a, c, gone, e.
	a, b, c, d, e, gone := id(1, 10), id(0, 5), id(2, 1), id(1, 9), id(7, 2), id(4, 4)
	return []shape{
		{"one", records(rec(a)), ids(a), told{{ids(a), ids(a)}, {ids(b), ids(b)}, {ids(a, b), ids(b, a)}}},
		{"one with what is missing", records(rec(a, gone)), nil,
			told{{ids(a), ids(a, gone)}, {ids(gone), ids(gone)}, {ids(gone, a), ids(a, gone)}}},
		{"chain", records(rec(a, b), rec(b, c), rec(c, d), rec(d)), ids(b, d, a, c),
			told{{ids(a), ids(b, d, a, c)}, {ids(c), ids(d, c)}, {ids(d), ids(d)}, {ids(c, b), ids(b, d, c)}}},
		{"chain to what is missing", records(rec(a, b), rec(b, c), rec(c, gone), rec(d)), ids(d),
			told{{ids(a), ids(b, a, c, gone)}, {ids(c), ids(c, gone)}, {ids(d), ids(d)}}},
		{"chain with a gap", records(rec(a, b), rec(b, gone), rec(c, d), rec(d)), ids(d, c),
			told{{ids(a), ids(b, a, gone)}, {ids(gone), ids(gone)}, {ids(c, a), ids(b, d, a, c, gone)}}},
		{"fork", records(rec(a, b, d, c), rec(b), rec(c), rec(d, gone)), ids(b, c),
			told{{ids(a), ids(b, d, a, c, gone)}, {ids(d), ids(d, gone)}, {ids(b, c), ids(b, c)}}},
		{"two ways to one", records(rec(a, b, c), rec(b, d), rec(c, d), rec(d)), ids(b, d, a, c),
			told{{ids(a), ids(b, d, a, c)}, {ids(b, c), ids(b, d, c)}, {ids(d), ids(d)}}},
		{"two ways, one of them with what is missing", records(rec(a, b, c), rec(b, d), rec(c, d, gone), rec(d)), ids(b, d),
			told{{ids(a), ids(b, d, a, c, gone)}, {ids(b), ids(b, d)}, {ids(c), ids(d, c, gone)}}},
		{"each other", records(rec(a, b), rec(b, a), rec(c, a)), ids(b, a, c),
			told{{ids(a), ids(b, a)}, {ids(b), ids(b, a)}, {ids(c), ids(b, a, c)}}},
		{"each other, with what is missing", records(rec(a, b), rec(b, a, gone), rec(c, a), rec(d)), ids(d),
			told{{ids(a), ids(b, a, gone)}, {ids(c), ids(b, a, c, gone)}}},
		{"ring", records(rec(a, b), rec(b, c), rec(c, d), rec(d, a), rec(e, c)), ids(b, d, a, c, e),
			told{{ids(d), ids(b, d, a, c)}, {ids(e), ids(b, d, a, c, e)}}},
		{"ring that leads to one", records(rec(a, b), rec(b, c), rec(c, d, a), rec(d)), ids(b, d, a, c),
			told{{ids(a), ids(b, d, a, c)}, {ids(d), ids(d)}}},
		{"ring with what is missing", records(rec(a, b), rec(b, c, gone), rec(c, d, a), rec(d), rec(e, a)), ids(d),
			told{{ids(c), ids(b, d, a, c, gone)}, {ids(e), ids(b, d, a, c, gone, e)}}},
		{"two parts", records(rec(a, b), rec(b), rec(c, d), rec(d, c, gone)), ids(b, a),
			told{{ids(a), ids(b, a)}, {ids(c), ids(d, c, gone)}, {ids(d, b), ids(b, d, c, gone)}}},
		{"two rings, one behind the other", records(rec(a, b), rec(b, a, c), rec(c, d), rec(d, c)), ids(b, d, a, c),
			told{{ids(a), ids(b, d, a, c)}, {ids(d), ids(d, c)}}},
	}
}

// mustBeClosed holds that Closed has all of l, if that is whole.
func mustBeClosed(t *testing.T, g *edges.Graph, l []api.Id) {
	t.Helper()
	closed := Closed(g)
	if Whole(g, l) && slices.ContainsFunc(l, func(i api.Id) bool { return !slices.Contains(closed, i) }) {
		t.Errorf("%v is whole, but Closed is %v", l, closed)
	}
}

// The chapter's example.
func TestExample(t *testing.T) {
	first, second, third := id(1, 1), id(0, 1), id(0, 2)
	l := records(rec(first, second), rec(second, third))
	g := mustMake(t, l)
	mustList(t, "Closed", Closed(g))
	mustList(t, "From of 1.1", From(g, ids(first)), second, third, first)
	mustHold(t, g, l)
}

// P16.1, P16.2: what each shape tells, in whatever order its records were handed in.
func TestShapes(t *testing.T) {
	for _, s := range shapes() {
		t.Run(s.name, func(t *testing.T) {
			for _, turn := range turns(s.l) {
				g := mustMake(t, turn)
				mustList(t, "Closed", Closed(g), s.closed...)
				mustBe(t, "Whole of what is closed", Whole(g, s.closed), true)
				for _, told := range s.from {
					mustList(t, fmt.Sprint("From of ", told[0]), From(g, told[0]), told[1]...)
				}
			}
			mustHold(t, mustMake(t, s.l), s.l)
		})
	}
}

// P16.1: From of several ids, in any order, and of the same one as often as it comes.
func TestFromOfSeveral(t *testing.T) {
	g := mustMake(t, some())
	want := ids(id(0, 1), id(1, 9), id(3, 1), id(5, 1), id(6, 1), id(8, 1))
	for _, turn := range turns(ids(id(3, 1), id(6, 1), id(5, 1), id(8, 1), id(1, 9))) {
		mustList(t, fmt.Sprint("From of ", turn), From(g, turn), want...)
		twice := slices.Concat(turn, turn[:2], turn)
		mustList(t, fmt.Sprint("From of ", twice), From(g, twice), want...)
	}
	mustList(t, "From of one, often", From(g, slices.Repeat(ids(id(6, 1)), 100)), id(6, 1))
}

// P16.1: From of no ids is nothing, of nil and of an empty list.
func TestFromOfNoIds(t *testing.T) {
	for _, l := range [][]api.Record{nil, some()} {
		g := mustMake(t, l)
		mustList(t, "From of nil", From(g, nil))
		mustList(t, "From of an empty list", From(g, ids()))
		mustList(t, "From of a list with spare room alone", From(g, ids(id(3, 2), id(4, 4))[:0]))
	}
}

// P16.1: an id that is not there, whether it is missing or no id may be it, reaches itself alone.
func TestNotThere(t *testing.T) {
	g := mustMake(t, some())
	for _, i := range append(oddIds(), id(4, 4)) {
		mustList(t, fmt.Sprint("From of ", i), From(g, ids(i)), i)
		mustBe(t, fmt.Sprint("Path to itself of ", i), Path(g, i, i), true)
		for _, r := range some() {
			mustBe(t, fmt.Sprintf("Path of %v to %v", i, r.Id), Path(g, i, r.Id), false)
		}
		mustBe(t, fmt.Sprint("Path to one that is missing of ", i), Path(g, i, id(4, 4)), i == id(4, 4))
		mustBe(t, fmt.Sprint("Whole of ", i), Whole(g, ids(i)), false)
	}
	all := append(oddIds(), oddIds()...)
	mustList(t, "From of all of them", From(g, all), ordered(all)...)
}

// P16.1: Path along one Dep and along several, to what is missing, around a ring, and not back.
func TestPath(t *testing.T) {
	g := mustMake(t, some())
	for _, s := range []struct {
		from, to api.Id
		want     bool
	}{
		{id(6, 1), id(6, 1), true}, {id(3, 1), id(3, 1), true}, {id(4, 4), id(4, 4), true},
		{id(1, 9), id(0, 1), true}, {id(0, 1), id(1, 9), false},
		{id(3, 2), id(0, 1), true}, {id(7, 7), id(0, 1), true}, {id(7, 7), id(1, 9), true}, {id(1, 9), id(7, 7), false},
		{id(3, 1), id(1, 9), true}, {id(1, 9), id(3, 1), true}, {id(3, 1), id(3, 2), false},
		{id(2, 4), id(0, 7), true}, {id(0, 7), id(2, 10), true}, {id(2, 10), id(2, 4), true}, {id(1, 2), id(0, 7), true}, {id(0, 7), id(1, 2), false},
		{id(0, 7), id(4, 4), true}, {id(1, 2), id(4, 4), true}, {id(7, 7), id(4, 4), true}, {id(3, 2), id(4, 4), false}, {id(4, 4), id(0, 7), false},
		{id(6, 1), id(0, 1), false}, {id(0, 1), id(6, 1), false}, {id(1, 2), id(3, 1), false},
	} {
		mustBe(t, fmt.Sprintf("Path of %v to %v", s.from, s.to), Path(g, s.from, s.to), s.want)
	}
}

// P16.2: what is closed of no records, of such as all are closed, and of such as none is.
func TestClosedOfAllAndNone(t *testing.T) {
	var all, none []api.Record
	for n := range 40 {
		i, back := id(n%8, 2+n), id((n+7)%8, 1+n)
		if n == 0 {
			all, none = append(all, rec(i)), append(none, rec(i, id(4, 4)))
			continue
		}
		all, none = append(all, rec(i, back)), append(none, rec(i, back))
	}
	mustList(t, "Closed of no records", Closed(mustMake(t, nil)))
	var want []api.Id
	for n, r := range all {
		want = append(want, r.Id)
		g := mustMake(t, all[:n+1])
		mustList(t, "Closed, when all are", Closed(g), ordered(want)...)
		mustBe(t, "Whole of all", Whole(g, want), true)
		g = mustMake(t, none[:n+1])
		mustList(t, "Closed, when none is", Closed(g))
		mustBe(t, "Whole of all, when none is closed", Whole(g, want), false)
	}
	mustHold(t, mustMake(t, all), all)
	mustHold(t, mustMake(t, none), none)
}

// P16.2: what reaches a missing id is not closed, near, far and around a ring; what does not is; in order.
func TestClosed(t *testing.T) {
	mustList(t, "Closed", Closed(mustMake(t, some())), id(0, 1), id(1, 9), id(3, 1), id(3, 2), id(6, 1))
	l := append(some(), rec(id(4, 4)))
	mustList(t, "Closed, when it is missing no more", Closed(mustMake(t, l)),
		id(0, 1), id(0, 7), id(1, 2), id(1, 9), id(2, 4), id(2, 10), id(3, 1), id(3, 2), id(4, 4), id(6, 1), id(7, 7))
	l = append(some(), rec(id(4, 4), id(3, 2), id(5, 5)))
	mustList(t, "Closed, when another one is missing", Closed(mustMake(t, l)), id(0, 1), id(1, 9), id(3, 1), id(3, 2), id(6, 1))
	// One that is missing beneath all leaves nothing but what has nothing to do with it.
	mustList(t, "Closed without 0.1", Closed(mustMake(t, slices.Delete(some(), 1, 2))), id(6, 1))
	// As many Deps as may be, all there but one, whichever that is.
	deps := slots(2, 1, 16)
	for at := range deps {
		l := records(rec(id(1, 10), deps...))
		for n, dep := range deps {
			if n != at {
				l = append(l, rec(dep))
			}
		}
		mustList(t, fmt.Sprint("Closed, with all but ", deps[at]), Closed(mustMake(t, l)), slices.Delete(slices.Clone(deps), at, at+1)...)
		mustHold(t, mustMake(t, l), l)
		l = append(l, rec(deps[at]))
		mustList(t, "Closed, with all", Closed(mustMake(t, l)), append(ids(id(1, 10)), deps...)...)
		mustHold(t, mustMake(t, l), l)
	}
}

// P16.2: Whole of lists that lack nothing, in any order, and of such as lack something, near and far.
func TestWhole(t *testing.T) {
	g := mustMake(t, some())
	for _, turn := range turns(ids(id(3, 2), id(0, 1), id(1, 9), id(3, 1))) {
		mustBe(t, fmt.Sprint("Whole of ", turn), Whole(g, turn), true)
		twice := slices.Concat(turn, turn[1:3])
		mustBe(t, fmt.Sprint("Whole of ", twice), Whole(g, twice), true)
		more := append(slices.Clone(turn), id(6, 1))
		mustBe(t, fmt.Sprint("Whole with one that reaches nothing else, of ", more), Whole(g, more), true)
		for _, i := range append(oddIds(), id(4, 4), id(2, 4), id(7, 7)) {
			for at := range len(turn) + 1 {
				with := slices.Insert(slices.Clone(turn), at, i)
				mustBe(t, fmt.Sprint("Whole of ", with), Whole(g, with), false)
			}
		}
		for at := range turn {
			lacking := slices.Delete(slices.Clone(turn), at, at+1)
			// 3.2 alone is reached by none of the others.
			mustBe(t, fmt.Sprint("Whole of ", lacking), Whole(g, lacking), turn[at] == id(3, 2))
		}
	}
	for _, l := range [][]api.Id{nil, {}, ids(id(3, 2))[:0]} {
		mustBe(t, "Whole of no ids", Whole(g, l), true)
		mustBe(t, "Whole of no ids, of no records", Whole(mustMake(t, nil), l), true)
	}
	var all []api.Id
	for _, r := range some() {
		all = append(all, r.Id)
	}
	mustBe(t, "Whole of all that are there", Whole(g, all), false)
	mustBe(t, "Whole of all, that is missing too", Whole(g, append(all, id(4, 4))), false)
	mustBe(t, "Whole of one that reaches nothing else", Whole(g, ids(id(0, 1))), true)
	mustBe(t, "Whole of that one, often", Whole(g, slices.Repeat(ids(id(0, 1)), 9)), true)
	// What lacks stands far behind: the last of a chain.
	l := chain(50, 0)
	for n := 2; n <= len(l); n++ {
		g, all := mustMake(t, l[:n]), idsOf(l[:n])
		mustBe(t, "Whole of a chain", Whole(g, all), true)
		mustBe(t, "Whole of a chain without its end", Whole(g, all[1:]), false)
		mustBe(t, "Whole of a chain without its beginning", Whole(g, all[:n-1]), true)
	}
}

// idsOf are the ids of l's records.
func idsOf(l []api.Record) []api.Id {
	var all []api.Id
	for _, r := range l {
		all = append(all, r.Id)
	}
	return all
}

// chain are n records, each of which has the one ahead of it as its Dep, and the first one so many of the replica 7 as Deps.
func chain(n, deps int) []api.Record {
	l := records(rec(id(0, 1), slots(7, 1, deps)...))
	for at := 1; at < n; at++ {
		l = append(l, rec(id(at%7, 1+at), l[at-1].Id))
	}
	return l
}

// P16.3, and the others: all graphs of up to four records with whichever Deps among four ids, of all lists of these.
func TestAllSmallGraphs(t *testing.T) {
	four := ids(id(1, 10), id(0, 3), id(1, 9), id(2, 1))
	lists := parts(four)
	var choices [4][]api.Record
	for at, i := range four {
		for _, deps := range parts(ordered(slices.Delete(slices.Clone(four), at, at+1))) {
			choices[at] = append(choices[at], rec(i, deps...))
		}
	}
	for n := range 9 * 9 * 9 * 9 {
		var l []api.Record
		for at := range four {
			// The ninth choice is that the record is not there.
			if choice := n % 9; choice < 8 {
				l = append(l, choices[at][choice])
			}
			n /= 9
		}
		g, s := mustMake(t, l), tell(l)
		mustList(t, "Closed", Closed(g), s.closed()...)
		mustHoldPaths(t, g, s, four)
		mustHoldLists(t, g, s, lists...)
		mustBe(t, "Closed is whole", Whole(g, Closed(g)), true)
		for _, list := range lists {
			mustBeClosed(t, g, list)
		}
		if t.Failed() {
			t.Fatalf("of %v", l)
		}
	}
}

// dice answers numbers from 0 to n - 1 that look like chance, the same ones each time.
func dice(seed uint64) func(n int) int {
	seed = seed*0x9e3779b97f4a7c15 + 1
	return func(n int) int {
		seed = seed*6364136223846793005 + 1442695040888963407
		return int(seed>>33) % n
	}
}

// ofChance are records of few ids, each Id once, out of order.
func ofChance(roll func(n int) int) []api.Record {
	var l []api.Record
	many := 1 + roll(4)
	for range roll(16) {
		r := rec(id(roll(3), 1+roll(6)))
		if slices.Contains(idsOf(l), r.Id) {
			continue
		}
		for range roll(many) {
			if dep := id(roll(3), 1+roll(6)+roll(2)); dep != r.Id {
				r.Deps = append(r.Deps, dep)
			}
		}
		r.Deps = ordered(r.Deps)
		l = append(l, r)
	}
	return l
}

// P16.1 to P16.3: graphs of chance, against what must be told of them.
func TestOfChance(t *testing.T) {
	closed, open := 0, 0
	for seed := range uint64(1500) {
		roll := dice(seed)
		l := ofChance(roll)
		g, s := mustMake(t, l), tell(l)
		mustHold(t, g, l)
		for range 10 {
			var list []api.Id
			for range roll(6) {
				list = append(list, id(roll(3), 1+roll(7)))
			}
			mustHoldLists(t, g, s, list, From(g, list))
			mustBeClosed(t, g, list)
			mustBeClosed(t, g, From(g, list))
		}
		told := Closed(g)
		mustBe(t, "Closed is whole", Whole(g, told), true)
		closed, open = closed+len(told), open+len(l)-len(told)
		if t.Failed() {
			t.Fatalf("seed %d: %v", seed, l)
		}
	}
	if closed < 2000 || open < 2000 {
		t.Error("so many records closed, and not:", closed, open)
	}
}

// P16.1, P16.2: a nil graph has no records: each id reaches itself alone, nothing is closed, and no ids alone are whole.
func TestNil(t *testing.T) {
	mustHold(t, nil, nil)
	mustList(t, "From", From(nil, ids(id(3, 1), id(0, 2), id(8, 0), id(3, 1), id(0, 2))), id(0, 2), id(3, 1), id(8, 0))
	mustList(t, "From of no ids", From(nil, nil))
	mustList(t, "Closed", Closed(nil))
	mustBe(t, "Path to itself", Path(nil, id(1, 1), id(1, 1)), true)
	mustBe(t, "Path to itself of what no id may be", Path(nil, id(-1, 0), id(-1, 0)), true)
	mustBe(t, "Path to another one", Path(nil, id(1, 1), id(1, 2)), false)
	mustBe(t, "Whole of nil", Whole(nil, nil), true)
	mustBe(t, "Whole of an empty list", Whole(nil, ids()), true)
	for _, i := range append(oddIds(), idsOf(some())...) {
		mustBe(t, fmt.Sprint("Whole of ", i), Whole(nil, ids(i)), false)
	}
	// What comes with an error is a nil graph, too.
	g, _ := edges.New(append(some(), some()[0]))
	mustHold(t, g, nil)
}

// A chain of many records is gone through whole, from both of its ends.
func TestLongChain(t *testing.T) {
	for _, n := range []int{1000, 20000} {
		l := chain(n, 0)
		g, all := mustMake(t, l), idsOf(l)
		sorted := g.Ids()
		mustList(t, "Closed", Closed(g), sorted...)
		mustList(t, "From of its beginning", From(g, all[n-1:]), sorted...)
		mustList(t, "From of its end", From(g, all[:1]), all[0])
		mustList(t, "From of all", From(g, all), sorted...)
		mustBe(t, "Path along it", Path(g, all[n-1], all[0]), true)
		mustBe(t, "Path against it", Path(g, all[0], all[n-1]), false)
		mustBe(t, "Whole", Whole(g, all), true)
		mustBe(t, "Whole without its end", Whole(g, all[1:]), false)
		mustBe(t, "Whole without one in its midst", Whole(g, slices.Delete(slices.Clone(all), n/2, n/2+1)), false)
		// With one missing beneath its end none is closed; without one in its midst those beneath are.
		g = mustMake(t, chain(n, 3))
		mustList(t, "Closed above what is missing", Closed(g))
		mustBe(t, "Path to what is missing", Path(g, all[n-1], id(7, 2)), true)
		mustBe(t, "Whole above what is missing", Whole(g, all), false)
		g = mustMake(t, slices.Delete(slices.Clone(l), n/2, n/2+1))
		below := mustMake(t, l[:n/2])
		mustList(t, "Closed beneath what is missing", Closed(g), below.Ids()...)
		mustList(t, "From of its beginning, with a gap", From(g, all[n-1:]), mustMake(t, l[n/2:]).Ids()...)
	}
}

// A ring of many records is gone around once, from wherever.
func TestLongRing(t *testing.T) {
	for _, n := range []int{1000, 20000} {
		l := chain(n, 0)
		l[0].Deps = ids(l[n-1].Id)
		g, all := mustMake(t, l), idsOf(l)
		sorted := g.Ids()
		mustList(t, "Closed", Closed(g), sorted...)
		for _, at := range []int{0, 1, n / 2, n - 1} {
			mustList(t, "From of one", From(g, all[at:at+1]), sorted...)
			mustBe(t, "Path to the next one", Path(g, all[at], all[(at+1)%n]), true)
			mustBe(t, "Whole without one", Whole(g, slices.Delete(slices.Clone(all), at, at+1)), false)
		}
		mustBe(t, "Whole", Whole(g, all), true)
		l[n/2].Deps = append(l[n/2].Deps, id(7, 1))
		g = mustMake(t, l)
		mustList(t, "Closed with one missing", Closed(g))
		mustBe(t, "Path to what is missing", Path(g, all[n/2+1], id(7, 1)), true)
		mustBe(t, "Whole with one missing", Whole(g, all), false)
	}
}

// Many ways to one, layer by layer, are not all gone one by one: that would never end.
func TestManyWays(t *testing.T) {
	var l []api.Record
	for layer := range 300 {
		for rep := range 7 {
			r := rec(id(rep, 1+layer))
			if layer > 0 {
				for below := range 7 {
					r.Deps = append(r.Deps, id(below, layer))
				}
			}
			l = append(l, r)
		}
	}
	g := mustMake(t, l)
	mustList(t, "Closed", Closed(g), g.Ids()...)
	mustList(t, "From of a top one", From(g, ids(id(3, 300))), mustMake(t, append(l[:299*7:299*7], l[299*7+3])).Ids()...)
	mustBe(t, "Path down", Path(g, id(0, 300), id(6, 1)), true)
	mustBe(t, "Path up", Path(g, id(0, 1), id(6, 300)), false)
	mustBe(t, "Whole", Whole(g, g.Ids()), true)
}

// spoil writes all over a list of ids, its spare room too.
func spoil(l []api.Id) {
	l = l[:cap(l)]
	for at := range l {
		l[at] = id(99, -99)
	}
}

// What is handed out is new: writing into it, its spare room too, changes no later answer, and none that was handed out.
func TestAnswersAreNew(t *testing.T) {
	for n := 1; n <= 40; n++ {
		l := chain(n, n%3)
		g, all := mustMake(t, l), idsOf(l)
		from, closed := From(g, all), Closed(g)
		wantFrom, wantClosed := tell(l).from(all), tell(l).closed()
		spoil(From(g, all))
		spoil(From(g, all[n-1:]))
		spoil(Closed(g))
		mustList(t, "From told before", from, wantFrom...)
		mustList(t, "Closed told before", closed, wantClosed...)
		mustHold(t, g, l)
		mustList(t, "the ids handed in", all, idsOf(l)...)
		for _, call := range []func() []api.Id{
			func() []api.Id { return From(g, all) }, func() []api.Id { return From(g, all[n-1:]) }, func() []api.Id { return Closed(g) },
		} {
			one, other := append(call(), id(5, 1)), append(call(), id(5, 2))
			if one[len(one)-1] != id(5, 1) || other[len(other)-1] != id(5, 2) || !slices.Equal(one[:len(one)-1], call()) {
				t.Errorf("with %d records: %v and %v", n, one, other)
			}
		}
	}
}

// What From answers is not what it was handed, even where both are the same ids.
func TestFromIsNotItsArgument(t *testing.T) {
	for n := range 20 {
		for _, g := range []*edges.Graph{nil, mustMake(t, some())} {
			l := slots(5, 1, n)
			got := From(g, l)
			mustList(t, "From", got, l...)
			spoil(got)
			mustList(t, "what was handed in", l, slots(5, 1, n)...)
			got = From(g, l)
			spoil(l)
			mustList(t, "From, told before", got, slots(5, 1, n)...)
		}
	}
}

// whatIs is all that a graph tells by its own calls.
func whatIs(g *edges.Graph) string {
	s := fmt.Sprint(g.Len(), g.Edges(), g.Ids(), g.Missing())
	for _, i := range append(append(g.Ids(), g.Missing()...), oddIds()...) {
		r, ok := g.Record(i)
		s += fmt.Sprint(i, g.Has(i), r, ok, g.Users(i))
	}
	return s
}

// What the calls are handed is as it was, spare room and graph too; what stands in the spare room is none of it.
func TestArgumentsStay(t *testing.T) {
	doing := some()
	for at := range doing {
		doing[at].Batch = []api.Cmd{{Kind: api.Put, Key: "a", Value: math.Copysign(0, -1)}, {Kind: api.Get, Key: "b"}}
	}
	g := mustMake(t, doing)
	before := whatIs(g)
	room := ids(id(9, 9), id(3, 2), id(0, 1), id(3, 2), id(1, 9), id(3, 1), id(6, 1), id(4, 4), id(2, 4), id(-3, 7))
	kept := slices.Clone(room)
	l := room[1:6]
	for range 3 {
		mustList(t, "From", From(g, l), id(0, 1), id(1, 9), id(3, 1), id(3, 2))
		mustBe(t, "Whole", Whole(g, l), true)
		mustBe(t, "Whole of less", Whole(g, l[:3]), false)
		mustBe(t, "Path", Path(g, l[0], l[1]), true)
		mustList(t, "Closed", Closed(g), id(0, 1), id(1, 9), id(3, 1), id(3, 2), id(6, 1))
		From(g, room)
		Whole(g, room)
		mustList(t, "what was handed in", room, kept...)
		if now := whatIs(g); now != before {
			t.Errorf("the graph became %s, of %s", now, before)
		}
	}
	mustHold(t, g, some())
}

// The same call answers the same, as often as it is made, of one graph and of many.
func TestAgainAndAgain(t *testing.T) {
	g := mustMake(t, some())
	for range 30 {
		mustHold(t, g, some())
		mustHold(t, mustMake(t, some()), some())
		mustHold(t, g, some())
	}
}

// Two graphs are each by itself.
func TestTwoGraphs(t *testing.T) {
	one, other := mustMake(t, some()), mustMake(t, append(some(), rec(id(4, 4))))
	mustBe(t, "Whole of the one", Whole(one, ids(id(4, 4))), false)
	mustBe(t, "Whole of the other", Whole(other, ids(id(4, 4))), true)
	mustHold(t, other, append(some(), rec(id(4, 4))))
	mustHold(t, one, some())
}

// What is reached is told one by one, each once, and no further than it is asked for.
func TestFollow(t *testing.T) {
	asked := 0
	next := func(i api.Id) []api.Id {
		asked++
		return ids(id(0, i.Slot+1), i, id(0, 1), id(0, i.Slot+1))
	}
	// The ids that lead from one to the next have no end, so this ends just if it is left.
	told := follow(ids(id(0, 1), id(0, 1)), next)
	for range 2 {
		var got []api.Id
		asked = 0
		for i := range told {
			got = append(got, i)
			if len(got) == 5 {
				break
			}
		}
		mustList(t, "what is told", got, slots(0, 1, 5)...)
		if asked > 5 {
			t.Error("asked so often:", asked)
		}
	}
}
