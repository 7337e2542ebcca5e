package traces

import (
	"fmt"
	"math"
	"slices"
	"strconv"
	"testing"

	"cortege/api"
	"cortege/edges"
)

func id(rep, slot int) api.Id { return api.Id{Rep: rep, Slot: slot} }

func ids(l ...api.Id) []api.Id             { return l }
func lists(l ...[]api.Id) [][]api.Id       { return l }
func records(l ...api.Record) []api.Record { return l }

func get(key string) api.Cmd { return api.Cmd{Kind: api.Get, Key: key} }
func put(key string) api.Cmd { return api.Cmd{Kind: api.Put, Key: key, Value: 1} }
func del(key string) api.Cmd { return api.Cmd{Kind: api.Delete, Key: key} }
func add(key string) api.Cmd { return api.Cmd{Kind: api.Add, Key: key, Value: -2} }

// rec is a record with these commands, and a Dep that is missing, since edges do not matter here.
func rec(i api.Id, batch ...api.Cmd) api.Record {
	return api.Record{Id: i, Seq: 1 + i.Slot%7, Deps: ids(id(4, 9)), Batch: batch}
}

// slots are n ids of a replica, from this slot on.
func slots(rep, first, n int) []api.Id {
	var l []api.Id
	for i := range n {
		l = append(l, id(rep, first+i))
	}
	return l
}

// oddIds are ids that none of the records here have or depend on: such as may be, and such as no id may be.
func oddIds() []api.Id {
	return ids(
		id(6, 6), id(0, 1<<20), id(7, 1<<20), id(5, 1),
		api.Id{}, id(8, 1), id(-1, 1), id(3, 0), id(3, -2), id(3, 1<<20+1), id(0, 1<<32+1), id(1<<32, 1), id(-8, 2),
		id(math.MinInt, math.MaxInt), id(math.MaxInt, math.MinInt), id(math.MaxInt, math.MaxInt), id(math.MinInt, math.MinInt),
	)
}

// turns gives all orders of l.
func turns[T any](l []T) [][]T {
	if len(l) == 0 {
		return [][]T{nil}
	}
	var all [][]T
	for _, rest := range turns(l[1:]) {
		for at := range l {
			all = append(all, slices.Insert(slices.Clone(rest), at, l[0]))
		}
	}
	return all
}

// parts gives all lists that have some of l's elements, in l's order.
func parts[T any](l []T) [][]T {
	all := [][]T{nil}
	for _, one := range l {
		for _, part := range slices.Clone(all) {
			all = append(all, append(slices.Clone(part), one))
		}
	}
	return all
}

// mustMake is a graph of l, which must be one.
func mustMake(t *testing.T, l []api.Record) *edges.Graph {
	t.Helper()
	g, e := edges.New(l)
	if e != api.OK || g == nil {
		t.Fatalf("New of %v: %v, error %d", l, g, int(e))
	}
	return g
}

// mustLists holds lists of ids against what they must be.
func mustLists(t *testing.T, what string, got [][]api.Id, want ...[]api.Id) {
	t.Helper()
	if !slices.EqualFunc(got, want, slices.Equal[[]api.Id]) {
		t.Errorf("%.600s: %.600s, not %.600s", what, fmt.Sprint(got), fmt.Sprint(want))
	}
}

// mustBe holds what is told against what it must be.
func mustBe[T comparable](t *testing.T, what string, got, want T) {
	t.Helper()
	if got != want {
		t.Errorf("%.600s: %v, not %v", what, got, want)
	}
}

// The ids of some. In the order of ids they are da, ra, wa, sa, rb, gone, mix, none, wb.
var (
	wa   = id(1, 10)
	da   = id(0, 5)
	ra   = id(1, 9)
	sa   = id(2, 1)
	wb   = id(7, 2)
	rb   = id(3, 3)
	mix  = id(5, 2)
	none = id(6, 1)
	gone = id(4, 4)
)

// some are records of which two write a, two read it, one writes b, one reads it, one reads a and writes b, and one has no commands.
func some() []api.Record {
	return records(
		rec(wa, put("a")),
		rec(da, del("a")),
		rec(ra, get("a")),
		rec(sa, get("a"), get("c")),
		rec(wb, get("c"), add("b")),
		rec(rb, get("b")),
		rec(mix, get("a"), put("b"), get("c")),
		rec(none),
	)
}

// story is what a graph of some records must tell.
type story map[api.Id]api.Record

// tell notes l, which has each Id once.
func tell(l []api.Record) story {
	s := story{}
	for _, r := range l {
		s[r.Id] = r
	}
	return s
}

// conflict tells whether two lists conflict: command by command of each two records.
func (s story) conflict(a, b []api.Id) bool {
	for _, i := range a {
		for _, j := range b {
			for _, one := range s[i].Batch {
				for _, other := range s[j].Batch {
					if one.Key == other.Key && (one.Kind != api.Get || other.Kind != api.Get) {
						return true
					}
				}
			}
		}
	}
	return false
}

// nth is the place of the list that is alike to this one, and has n such ones ahead of it, or -1.
func nth(l [][]api.Id, one []api.Id, n int) int {
	for at, other := range l {
		if slices.Equal(one, other) {
			if n == 0 {
				return at
			}
			n--
		}
	}
	return -1
}

// often tells how many lists are alike to this one.
func often(l [][]api.Id, one []api.Id) int {
	n := 0
	for nth(l, one, n) >= 0 {
		n++
	}
	return n
}

// alike tells whether each list of one order stands in the other one, as often.
func alike(a, b [][]api.Id) bool {
	for _, one := range slices.Concat(a, b) {
		if often(a, one) != often(b, one) {
			return false
		}
	}
	return true
}

// same tells whether two orders are the same but for swaps, pair by pair.
func (s story) same(a, b [][]api.Id) bool {
	if !alike(a, b) {
		return false
	}
	for behind, two := range a {
		for ahead, one := range a[:behind] {
			if s.conflict(one, two) && nth(b, one, often(a[:ahead], one)) > nth(b, two, often(a[:behind], two)) {
				return false
			}
		}
	}
	return true
}

// steps tells how many swaps make b of a, by making them: each time the list that comes next is fetched.
func steps(a, b [][]api.Id) int {
	if !alike(a, b) {
		return -1
	}
	left, count := slices.Clone(a), 0
	for _, one := range b {
		at := nth(left, one, 0)
		left, count = slices.Delete(left, at, at+1), count+at
	}
	return count
}

// swapped is l with the lists at i and i + 1 swapped.
func swapped(l [][]api.Id, i int) [][]api.Id {
	other := slices.Clone(l)
	other[i], other[i+1] = other[i+1], other[i]
	return other
}

// far tells of each order that swaps make of l how many it takes, at the least: of all swaps, or of those alone that may be.
func far(l [][]api.Id, may func(a, b []api.Id) bool) map[string]int {
	steps := map[string]int{fmt.Sprint(l): 0}
	for row := [][][]api.Id{l}; len(row) > 0; row = row[1:] {
		for i := range len(l) - 1 {
			other := swapped(row[0], i)
			if _, seen := steps[fmt.Sprint(other)]; !seen && may(other[i+1], other[i]) {
				steps[fmt.Sprint(other)] = 1 + steps[fmt.Sprint(row[0])]
				row = append(row, other)
			}
		}
	}
	return steps
}

// mustSwap holds what g tells of the swaps of l against what it must tell.
func mustSwap(t *testing.T, g *edges.Graph, s story, l [][]api.Id) {
	t.Helper()
	for _, i := range []int{math.MinInt, math.MinInt + 1, -1 << 32, -len(l) - 1, -len(l), -2, -1, len(l) - 1, len(l), len(l) + 1, 1 << 32, math.MaxInt - 1, math.MaxInt} {
		if i == 0 && len(l) > 1 {
			continue
		}
		got, done := Swap(g, l, i)
		mustBe(t, fmt.Sprintf("Swap of %v at %d", l, i), done, false)
		mustLists(t, fmt.Sprintf("Swap of %v at %d", l, i), got)
	}
	for i := range max(len(l)-1, 0) {
		what := fmt.Sprintf("Swap of %v at %d", l, i)
		got, done := Swap(g, l, i)
		if s.conflict(l[i], l[i+1]) {
			mustBe(t, what, done, false)
			mustLists(t, what, got)
			continue
		}
		mustBe(t, what, done, true)
		mustLists(t, what, got, swapped(l, i)...)
		// P19.4: it is the same but for swaps, one step away, and turned again it is as it was.
		mustBe(t, what+": Same", Same(g, l, got), true)
		mustBe(t, what+": Same, the other way round", Same(g, got, l), true)
		want := 1
		if slices.Equal(l[i], l[i+1]) {
			want = 0
		}
		mustBe(t, what+": Steps", Steps(g, l, got), want)
		back, again := Swap(g, got, i)
		mustBe(t, what+", again", again, true)
		mustLists(t, what+", again", back, l...)
	}
}

// mustHold holds what g tells of two orders, either way round, against what a graph of s must tell.
func mustHold(t *testing.T, g *edges.Graph, s story, a, b [][]api.Id) {
	t.Helper()
	for _, pair := range [][2][][]api.Id{{a, b}, {b, a}, {a, a}, {b, b}} {
		what := fmt.Sprintf(" of %v and %v", pair[0], pair[1])
		mustBe(t, "Same"+what, Same(g, pair[0], pair[1]), s.same(pair[0], pair[1]))
		mustBe(t, "Steps"+what, Steps(g, pair[0], pair[1]), steps(pair[0], pair[1]))
	}
	mustBe(t, fmt.Sprintf("Same of %v and itself", a), Same(g, a, a), true)
	mustBe(t, fmt.Sprintf("Steps of %v and itself", a), Steps(g, a, a), 0)
	mustSwap(t, g, s, a)
	for _, one := range a {
		for _, other := range b {
			mustBe(t, fmt.Sprintf("Conflict of %v and %v", one, other), Conflict(g, one, other), s.conflict(one, other))
		}
	}
}

// P19.1 to P19.3: the chapter's example: two that write one key, and two that read it.
func TestExample(t *testing.T) {
	one, other := ids(id(1, 1)), ids(id(1, 2))
	for _, told := range []struct {
		one, other api.Cmd
		want       bool
	}{
		{put("a"), put("a"), true},
		{put("a"), del("a"), true},
		{add("a"), put("a"), true},
		{add("a"), add("a"), true},
		{del("a"), del("a"), true},
		{get("a"), get("a"), false},
		{get("a"), put("a"), true},
		{del("a"), get("a"), true},
		{get("a"), add("a"), true},
		{put("a"), put("b"), false},
		{put("a"), get("b"), false},
		{put("a"), put("aa"), false},
	} {
		l := records(rec(one[0], told.one), rec(other[0], told.other))
		g, what := mustMake(t, l), fmt.Sprint(told.one, told.other)
		mustBe(t, "Conflict of "+what, Conflict(g, one, other), told.want)
		mustBe(t, "Conflict, turned, of "+what, Conflict(g, other, one), told.want)
		mustBe(t, "Same of "+what, Same(g, lists(one, other), lists(other, one)), !told.want)
		mustBe(t, "Same of "+what+" as they are", Same(g, lists(one, other), lists(one, other)), true)
		mustBe(t, "Steps of "+what, Steps(g, lists(one, other), lists(other, one)), 1)
		_, done := Swap(g, lists(one, other), 0)
		mustBe(t, "Swap of "+what, done, !told.want)
		mustHold(t, g, tell(l), lists(one, other), lists(other, one))
	}
}

// P19.1: two lists conflict by a record of each that is there, wherever it stands.
func TestConflict(t *testing.T) {
	g := mustMake(t, some())
	for _, told := range []struct {
		what string
		a, b []api.Id
		want bool
	}{
		{"two that write one key", ids(wa), ids(da), true},
		{"two that read it", ids(ra), ids(sa), false},
		{"one reads what the other one writes", ids(ra), ids(wa), true},
		{"one writes what the other one reads, behind another key", ids(da), ids(sa), true},
		{"other keys", ids(wa), ids(wb), false},
		{"a key that both read, and one that one of them writes", ids(sa), ids(wb), false},
		{"by the second of three commands", ids(mix), ids(rb), true},
		{"by the first of three commands", ids(mix), ids(wa), true},
		{"both read the third one, and the first one", ids(mix), ids(sa), false},
		{"the first ones", ids(wa, none, rb), ids(da, none, gone), true},
		{"the last ones", ids(none, rb, wa), ids(gone, none, da), true},
		{"the first one and the last one", ids(wa, none, rb), ids(gone, none, ra), true},
		{"those in the midst", ids(none, wb, rb), ids(ra, mix, gone), true},
		{"many that conflict with none", ids(ra, sa, none, gone), ids(sa, none, wb, ra), false},
		{"within one list alone", ids(wa, da), ids(wb), false},
		{"within either list", ids(wa, da, ra), ids(wb, rb), false},
		{"no ids", nil, ids(wa), false},
		{"no ids, empty", ids(), ids(wa, da), false},
		{"no ids, on both sides", nil, ids(), false},
		{"missing", ids(gone), ids(wa, da, ra, wb), false},
		{"missing, on both sides", ids(gone), ids(gone), false},
		{"missing, and one beside it", ids(gone, wa), ids(ra), true},
		{"one on both sides that conflicts with itself", ids(wa), ids(wa), true},
		{"one on both sides that conflicts with itself, among others", ids(none, wa), ids(wa, wb), true},
		{"one on both sides that does not", ids(ra), ids(ra), false},
		{"one on both sides that reads one key and writes another one", ids(mix), ids(mix), true},
		{"several on both sides that do not", ids(ra, sa, rb, none), ids(rb, none, ra, sa), false},
		{"without commands", ids(none), ids(wa, da, ra, wb, mix), false},
		{"without commands, on both sides", ids(none), ids(none), false},
		{"one and the same id often", ids(ra, ra, ra), ids(sa, sa), false},
		{"one and the same id often, written", ids(ra, ra, wa, wa), ids(sa, sa), true},
		{"odd ids", oddIds(), append(oddIds(), wa, ra, mix), false},
		{"odd ids on both sides", oddIds(), oddIds(), false},
		{"odd ids, and others", append(oddIds(), wa), append(oddIds(), ra), true},
		{"odd ids, and others that do not conflict", append(ids(sa), oddIds()...), append(ids(ra), oddIds()...), false},
	} {
		mustBe(t, told.what, Conflict(g, told.a, told.b), told.want)
		mustBe(t, told.what+", turned", Conflict(g, told.b, told.a), told.want)
	}
	// By one pair alone, wherever the two stand in their lists.
	for n := range 12 {
		for m := range 12 {
			one, other := slots(6, 2, 11), slots(5, 2, 11)
			one, other = slices.Insert(one, n, wb), slices.Insert(other, m, rb)
			mustBe(t, fmt.Sprintf("the ids at %d and %d", n, m), Conflict(g, one, other), true)
			one[n] = ra
			mustBe(t, fmt.Sprintf("other keys at %d and %d", n, m), Conflict(g, one, other), false)
		}
	}
}

// P19.1: by one pair of commands alone, wherever the two stand in their batches.
func TestConflictByOneCommand(t *testing.T) {
	one, other := id(1, 1), id(2, 2)
	for n := range api.MaxBatch {
		for m := range api.MaxBatch {
			var a, b []api.Cmd
			for at := range api.MaxBatch {
				a, b = append(a, put("x"+strconv.Itoa(at))), append(b, get("y"+strconv.Itoa(at)))
			}
			mustBe(t, "without the pair", Conflict(mustMake(t, records(rec(one, a...), rec(other, b...))), ids(one), ids(other)), false)
			for _, pair := range [][2]api.Cmd{{put("k"), get("k")}, {get("k"), add("k")}, {del("k"), put("k")}, {get("k"), get("k")}} {
				a[n], b[m] = pair[0], pair[1]
				g, want := mustMake(t, records(rec(one, a...), rec(other, b...))), pair[0].Kind != api.Get || pair[1].Kind != api.Get
				mustBe(t, fmt.Sprintf("the commands %v at %d and %d", pair, n, m), Conflict(g, ids(one), ids(other)), want)
				mustBe(t, fmt.Sprintf("the commands %v at %d and %d, turned", pair, n, m), Conflict(g, ids(other), ids(one)), want)
			}
		}
	}
	// A key that is read and written in one batch is written, in whichever order.
	for _, l := range [][]api.Cmd{{get("k"), put("k")}, {put("k"), get("k")}, {get("k"), put("k"), get("k")}, {get("k"), get("k"), del("k")}} {
		g := mustMake(t, records(rec(one, l...), rec(other, get("k"))))
		mustBe(t, fmt.Sprint("one that has ", l), Conflict(g, ids(one), ids(other)), true)
		mustBe(t, fmt.Sprint("turned, one that has ", l), Conflict(g, ids(other), ids(one)), true)
		mustBe(t, fmt.Sprint("itself, it has ", l), Conflict(g, ids(one), ids(one)), true)
	}
	// So it is, if one record of a list reads it and another one writes it.
	g := mustMake(t, records(rec(id(1, 1), get("k")), rec(id(1, 2), put("k")), rec(id(1, 3), get("k")), rec(other, get("k"))))
	for _, turn := range turns(slots(1, 1, 3)) {
		mustBe(t, fmt.Sprint("Conflict of ", turn), Conflict(g, turn, ids(other)), true)
		mustBe(t, fmt.Sprint("Conflict, turned, of ", turn), Conflict(g, ids(other), turn), true)
	}
}

// P19.1: all pairs of lists of some's ids.
func TestConflictOfAllLists(t *testing.T) {
	g, s := mustMake(t, some()), tell(some())
	all := parts(ids(wa, ra, sa, wb, rb, mix, none, gone))
	for _, one := range all {
		for _, other := range all {
			if Conflict(g, one, other) != s.conflict(one, other) {
				t.Fatalf("Conflict of %v and %v is not %v", one, other, s.conflict(one, other))
			}
		}
	}
}

// pair is two orders, whether they are the same but for swaps, and how many steps one is from the other one.
type pair struct {
	what  string
	a, b  [][]api.Id
	same  bool
	steps int
}

// mustPairs holds what some's graph tells of each pair, either way round.
func mustPairs(t *testing.T, pairs []pair) {
	t.Helper()
	g, s := mustMake(t, some()), tell(some())
	for _, p := range pairs {
		mustBe(t, p.what+": Same", Same(g, p.a, p.b), p.same)
		mustBe(t, p.what+": Same, the other way round", Same(g, p.b, p.a), p.same)
		mustBe(t, p.what+": Steps", Steps(g, p.a, p.b), p.steps)
		mustBe(t, p.what+": Steps, the other way round", Steps(g, p.b, p.a), p.steps)
		mustHold(t, g, s, p.a, p.b)
	}
}

// P19.1, P19.3: orders whose lists differ from one another.
func TestOrders(t *testing.T) {
	a, b, c, d, e := ids(wa), ids(wb), ids(ra), ids(sa), ids(none)
	mustPairs(t, []pair{
		{"one list", lists(a), lists(a), true, 0},
		{"several lists", lists(a, b, c, d), lists(a, b, c, d), true, 0},
		{"two swapped that do not conflict", lists(a, b), lists(b, a), true, 1},
		{"two swapped that do", lists(a, c), lists(c, a), false, 1},
		{"the first two swapped", lists(a, b, c, d), lists(b, a, c, d), true, 1},
		{"the first two swapped, that conflict", lists(a, c, b, d), lists(c, a, b, d), false, 1},
		{"the last two swapped", lists(a, b, c, d), lists(a, b, d, c), true, 1},
		{"the last two swapped, that conflict", lists(b, d, c, a), lists(b, d, a, c), false, 1},
		{"two in the midst swapped", lists(c, a, b, d), lists(c, b, a, d), true, 1},
		{"two in the midst swapped, that conflict", lists(e, a, c, d), lists(e, c, a, d), false, 1},
		{"two swaps", lists(a, b, c, d), lists(b, a, d, c), true, 2},
		{"two swaps, one of two that conflict", lists(b, e, c, a), lists(e, b, a, c), false, 2},
		{"one moved to the end", lists(b, a, c, d), lists(a, c, d, b), true, 3},
		{"one moved to the beginning", lists(a, c, d, e), lists(e, a, c, d), true, 3},
		{"one moved past one that conflicts with it", lists(a, b, e, d), lists(b, e, d, a), false, 3},
		{"five turned around", lists(b, e, c, d, ids(gone)), lists(ids(gone), d, c, e, b), true, 10},
		{"five turned around, two conflict", lists(a, b, c, e, ids(gone)), lists(ids(gone), e, c, b, a), false, 10},
		{"two that conflict, others between them", lists(a, b, e, c), lists(e, a, c, b), true, 3},
		{"two that conflict, turned, others between them", lists(a, b, e, c), lists(c, b, e, a), false, 5},
		{"two that conflict, turned, others about them", lists(b, e, a, c), lists(e, c, a, b), false, 4},
		{"all that do not conflict, moved", lists(c, d, b, e, a), lists(e, d, c, a, b), true, 5},
		{"the first and the last one, that conflict", lists(a, b, e, ids(gone), c), lists(c, b, e, ids(gone), a), false, 7},
		{"the first and the last one, that do not", lists(a, e, ids(gone), ids(rb), b), lists(b, e, ids(gone), ids(rb), a), false, 7},
		{"the first and the last one, that do not, and none between does", lists(a, e, ids(gone), ids(none, gone), b), lists(b, e, ids(gone), ids(none, gone), a), true, 7},
	})
}

// P19.1, P19.3: orders that do not have the same lists, as often.
func TestOtherLists(t *testing.T) {
	a, b, c, d := ids(wa), ids(wb), ids(ra), ids(sa)
	mustPairs(t, []pair{
		{"no lists, and one", nil, lists(a), false, -1},
		{"no lists, and one without ids", nil, lists(nil), false, -1},
		{"no lists, empty, and one without ids", lists(), lists(ids()), false, -1},
		{"the last one is not there", lists(a, b, c), lists(a, b), false, -1},
		{"the first one is not there", lists(a, b, c), lists(b, c), false, -1},
		{"one in the midst is not there", lists(a, b, c), lists(a, c), false, -1},
		{"one more without ids", lists(a, b), lists(a, b, nil), false, -1},
		{"another one", lists(a, b), lists(a, c), false, -1},
		{"all other ones", lists(a, b), lists(c, d), false, -1},
		{"one more often on one side", lists(a, a, b), lists(a, b, b), false, -1},
		{"one more often on one side, and longer", lists(a, b), lists(a, b, b), false, -1},
		{"one in another one's place", lists(a, b, c), lists(a, b, b), false, -1},
		{"the same ids in another order", lists(ids(ra, sa)), lists(ids(sa, ra)), false, -1},
		{"the same ids in another order, among others", lists(b, ids(ra, sa), a), lists(b, ids(sa, ra), a), false, -1},
		{"the same ids, one twice", lists(ids(ra, ra)), lists(ids(ra)), false, -1},
		{"the same ids, cut elsewhere", lists(ids(ra, sa), ids(rb)), lists(ids(ra), ids(sa, rb)), false, -1},
		{"the same ids, all in one", lists(ids(ra, sa), nil), lists(ids(ra), ids(sa)), false, -1},
		{"a beginning of it", lists(ids(ra, sa, rb)), lists(ids(ra, sa)), false, -1},
		{"a beginning of it, and another way on", lists(ids(ra, sa), ids(ra, rb)), lists(ids(ra, sa), ids(ra, none)), false, -1},
		{"an end of it", lists(ids(ra, sa, rb)), lists(ids(sa, rb)), false, -1},
		{"ends exchanged", lists(ids(ra, sa), ids(rb, none)), lists(ids(ra, none), ids(rb, sa)), false, -1},
		{"the Rep of one, and the Slot of another one", lists(ids(id(1, 9)), ids(id(2, 1))), lists(ids(id(1, 1)), ids(id(2, 9))), false, -1},
		{"digits cut elsewhere", lists(ids(id(1, 11))), lists(ids(id(11, 1))), false, -1},
		{"digits cut elsewhere, in lists", lists(ids(id(1, 2), id(3, 45))), lists(ids(id(1, 23), id(4, 5))), false, -1},
		{"Rep and Slot exchanged", lists(ids(id(2, 1))), lists(ids(id(1, 2))), false, -1},
	})
	odd := oddIds()
	for at, one := range odd {
		for other, two := range odd {
			want := -1
			if at == other {
				want = 0
			}
			g := mustMake(t, some())
			mustBe(t, fmt.Sprintf("Steps of %v and %v", one, two), Steps(g, lists(a, ids(one)), lists(a, ids(two))), want)
			mustBe(t, fmt.Sprintf("Same of %v and %v", one, two), Same(g, lists(a, ids(one)), lists(a, ids(two))), at == other)
		}
	}
}

// P19.1, P19.3: lists that are alike are not told apart: the first one is the first one, wherever it stands.
func TestAlike(t *testing.T) {
	w, r, n, b := ids(wa), ids(ra), ids(none), ids(rb)
	mustPairs(t, []pair{
		{"two alike", lists(n, n), lists(n, n), true, 0},
		{"two alike that conflict with themselves", lists(w, w), lists(w, w), true, 0},
		{"as often on both sides", lists(n, b, n), lists(n, n, b), true, 1},
		{"as often on both sides, from end to end", lists(n, n, n, b), lists(b, n, n, n), true, 3},
		{"one of them passes", lists(n, b, n, b), lists(b, n, b, n), true, 2},
		{"two and two, turned around", lists(n, n, b, b), lists(b, b, n, n), true, 4},
		{"they conflict with themselves, the other one with none", lists(w, b, w), lists(b, w, w), true, 1},
		{"they conflict with themselves, and move far", lists(w, w, b, n), lists(b, n, w, w), true, 4},
		{"they conflict with themselves, and with the other one", lists(w, r, w), lists(w, w, r), false, 1},
		{"they conflict with the other one, that moves to the beginning", lists(w, r, w), lists(r, w, w), false, 1},
		{"they conflict with the other one, that stays between", lists(w, b, r, w), lists(w, r, w, b), true, 2},
		{"they conflict with the other one, and not with themselves", lists(r, w, r), lists(r, r, w), false, 1},
		{"they conflict with the other one, and not with themselves, as it was", lists(r, w, r), lists(r, w, r), true, 0},
		{"the one between moves, they do not", lists(r, b, r, w), lists(b, r, r, w), true, 1},
		{"the first one would pass, the last one need not", lists(r, w, n, r), lists(r, n, w, r), true, 1},
		{"three, and two that conflict with them", lists(w, r, w, r, w), lists(w, r, w, r, w), true, 0},
		{"three, and two that conflict with them, moved", lists(w, r, w, r, w), lists(w, r, r, w, w), false, 1},
		{"three, and two that conflict with them, turned", lists(r, w, r, w, r), lists(w, r, r, r, w), false, 2},
		{"without ids", lists(nil, ids(), nil), lists(ids(), ids(), nil), true, 0},
		{"without ids, among others", lists(nil, w, ids(), r), lists(w, r, nil, nil), true, 3},
		{"without ids, one nil and one empty", lists(w, nil), lists(ids(), w), true, 1},
		{"missing, among others", lists(ids(gone), w, ids(gone)), lists(w, ids(gone), ids(gone)), true, 1},
	})
}

// P19.1, P19.3: lists that share an id conflict just if its record conflicts with itself, or others do.
func TestShared(t *testing.T) {
	mustPairs(t, []pair{
		{"they share one that writes", lists(ids(wa), ids(wa, none)), lists(ids(wa, none), ids(wa)), false, 1},
		{"they share one that reads", lists(ids(ra), ids(ra, none)), lists(ids(ra, none), ids(ra)), true, 1},
		{"they share one that reads, another one writes that", lists(ids(ra), ids(ra, da)), lists(ids(ra, da), ids(ra)), false, 1},
		{"they share one that is missing", lists(ids(gone, wa), ids(gone, wb)), lists(ids(gone, wb), ids(gone, wa)), true, 1},
		{"one twice in one of them", lists(ids(ra, ra), ids(ra)), lists(ids(ra), ids(ra, ra)), true, 1},
		{"the same ids in another order, side by side, read", lists(ids(ra, rb), ids(rb, ra)), lists(ids(rb, ra), ids(ra, rb)), true, 1},
		{"the same ids in another order, side by side, written", lists(ids(wa, rb), ids(rb, wa)), lists(ids(rb, wa), ids(wa, rb)), false, 1},
	})
	odd := oddIds()
	mustPairs(t, []pair{
		{"odd ids", lists(odd, ids(wa)), lists(ids(wa), odd), true, 1},
		{"odd ids, alone", lists(odd[:4], odd[4:9], odd[9:]), lists(odd[9:], odd[:4], odd[4:9]), true, 2},
		{"odd ids beside what conflicts", lists(append(odd[:3:3], ra), append(odd[:2:2], da)), lists(append(odd[:2:2], da), append(odd[:3:3], ra)), false, 1},
	})
}

// P19.1, P19.3: without lists, nil and empty, on either side.
func TestNoLists(t *testing.T) {
	for _, g := range []*edges.Graph{mustMake(t, nil), mustMake(t, some())} {
		for _, one := range [][][]api.Id{nil, {}, lists(ids(wa))[:0]} {
			for _, other := range [][][]api.Id{nil, {}, lists(ids(ra))[:0]} {
				mustBe(t, "Same of no lists", Same(g, one, other), true)
				mustBe(t, "Steps of no lists", Steps(g, one, other), 0)
			}
			mustSwap(t, g, tell(some()), one)
			mustBe(t, "Same of no lists and one", Same(g, one, lists(ids(wa))), false)
			mustBe(t, "Steps of no lists and one", Steps(g, lists(ids(wa)), one), -1)
		}
		for _, one := range [][]api.Id{nil, {}} {
			for _, other := range [][]api.Id{nil, {}} {
				mustBe(t, "Same of a list without ids", Same(g, lists(one), lists(other)), true)
				mustBe(t, "Steps of a list without ids", Steps(g, lists(one), lists(other)), 0)
				mustBe(t, "Conflict without ids", Conflict(g, one, other), false)
			}
		}
	}
	// Without records nothing conflicts.
	g := mustMake(t, nil)
	l := lists(ids(wa), ids(da), ids(wa), ids(ra), oddIds())
	for _, turn := range turns(l) {
		mustHold(t, g, story{}, l, turn)
	}
}

// P19.2: which places may be swapped.
func TestSwap(t *testing.T) {
	g := mustMake(t, some())
	a, b, c, d := ids(wa), ids(wb, none), ids(ra), ids(sa, rb)
	for _, told := range []struct {
		what string
		l    [][]api.Id
		i    int
		want [][]api.Id
	}{
		{"the first two", lists(a, b, c, a), 0, lists(b, a, c, a)},
		{"two in the midst", lists(a, b, c, a), 1, lists(a, c, b, a)},
		{"the last two", lists(a, b, c, d), 2, lists(a, b, d, c)},
		{"all of two", lists(c, d), 0, lists(d, c)},
		{"two that conflict", lists(a, c), 0, nil},
		{"two that conflict, the first ones", lists(a, d, b, b), 0, nil},
		{"two that conflict, in the midst", lists(c, b, d, a), 1, nil},
		{"two that conflict, the last ones", lists(c, b, d, a), 2, nil},
		{"two that conflict stand elsewhere", lists(a, d, b, c), 2, lists(a, d, c, b)},
		{"the last place", lists(c, d), 1, nil},
		{"above it", lists(c, d), 2, nil},
		{"far above it", lists(c, d), math.MaxInt, nil},
		{"below nought", lists(c, d), -1, nil},
		{"far below nought", lists(c, d), math.MinInt, nil},
		{"no lists", nil, 0, nil},
		{"no lists, below nought", nil, -1, nil},
		{"no lists, empty", lists(), -1, nil},
		{"one list", lists(c), 0, nil},
		{"one list, below nought", lists(c), -1, nil},
		{"one list, above it", lists(c), 1, nil},
		{"two that are alike", lists(c, c, a), 0, lists(c, c, a)},
		{"two that are alike, and conflict with themselves", lists(a, a, c), 0, nil},
		{"two that share an id that reads", lists(ids(ra, rb), c), 0, lists(c, ids(ra, rb))},
		{"two that share an id that writes", lists(ids(ra, da), ids(da)), 0, nil},
		{"one without ids, nil", lists(nil, a), 0, lists(a, nil)},
		{"one without ids, empty", lists(a, ids()), 0, lists(ids(), a)},
		{"two without ids", lists(a, nil, ids(), c), 1, lists(a, nil, nil, c)},
		{"none with ids", lists(nil, ids()), 0, lists(nil, nil)},
		{"missing", lists(ids(gone), a), 0, lists(a, ids(gone))},
		{"missing on both sides", lists(ids(gone), ids(gone, none)), 0, lists(ids(gone, none), ids(gone))},
		{"odd ids", lists(oddIds(), a, oddIds()), 1, lists(oddIds(), oddIds(), a)},
	} {
		got, done := Swap(g, told.l, told.i)
		mustBe(t, "Swap, "+told.what, done, told.want != nil)
		mustLists(t, "Swap, "+told.what, got, told.want...)
		if !done && got != nil {
			t.Errorf("Swap, %s: %v beside false", told.what, got)
		}
		mustSwap(t, g, tell(some()), told.l)
	}
}

// P19.1 to P19.4: all orders of up to five lists, each against each, by a search through all swaps.
func TestAllOrders(t *testing.T) {
	g, s := mustMake(t, some()), tell(some())
	roll := dice(3)
	from := lists(ids(wa), ids(da), ids(ra), ids(sa), ids(wb), ids(rb), ids(mix), ids(none), ids(gone), nil, ids(wa, wb), ids(wb, wa), ids(ra, rb), ids(sa, gone), oddIds()[:3])
	sets := [][][]api.Id{
		nil,
		lists(ids(wa)),
		lists(ids(wa), ids(ra), ids(wb), ids(rb), ids(none)),
		lists(ids(wa), ids(wb), ids(ra), ids(mix), ids(sa)),
		lists(ids(wa), ids(wa), ids(ra), ids(ra), ids(wb)),
		lists(ids(rb), ids(rb), ids(wb), ids(wa), ids(wa)),
		lists(ids(wa), ids(wa), ids(wa), ids(ra), ids(none)),
		lists(nil, ids(), ids(wa), ids(gone), ids(da)),
	}
	for n := range 40 {
		var l [][]api.Id
		for range 2 + n%4 {
			l = append(l, from[roll(len(from))])
		}
		sets = append(sets, l)
	}
	passed, same := 0, 0
	for _, set := range sets {
		orders := map[string][][]api.Id{}
		for _, turn := range turns(set) {
			orders[fmt.Sprint(turn)] = turn
		}
		for _, one := range orders {
			all := far(one, func(a, b []api.Id) bool { return true })
			free := far(one, func(a, b []api.Id) bool { return !s.conflict(a, b) })
			for name, other := range orders {
				_, want := free[name]
				what := fmt.Sprintf(" of %v and %v", one, other)
				if Same(g, one, other) != want || s.same(one, other) != want {
					t.Fatalf("Same%s: %v, not %v, and pair by pair %v", what, Same(g, one, other), want, s.same(one, other))
				}
				mustBe(t, "Steps"+what, Steps(g, one, other), all[name])
				if want {
					same++
				} else {
					passed++
				}
			}
			mustSwap(t, g, s, one)
		}
	}
	if same < 1000 || passed < 1000 {
		t.Error("so many orders are the same, and are not:", same, passed)
	}
}

// dice answers numbers from 0 to n - 1 that look like chance, the same ones each time.
func dice(seed uint64) func(n int) int {
	seed = seed*0x9e3779b97f4a7c15 + 1
	return func(n int) int {
		seed = seed*6364136223846793005 + 1442695040888963407
		return int(seed>>33) % n
	}
}

// ofChance are records of a few keys, and lists of their ids, some of them missing, some alike.
func ofChance(roll func(n int) int) ([]api.Record, [][]api.Id) {
	var l []api.Record
	for at := range 12 {
		var batch []api.Cmd
		for range roll(3) {
			key := strconv.Itoa(roll(9))
			batch = append(batch, []api.Cmd{get(key), get(key), put(key), add(key), del(key)}[roll(5)])
		}
		l = append(l, rec(id(at%4, 1+at), batch...))
	}
	var order [][]api.Id
	for range roll(14) {
		var list []api.Id
		for range roll(3) {
			at := roll(13)
			list = append(list, id(at%4, 1+at))
		}
		order = append(order, list)
		if roll(4) == 0 {
			order = append(order, order[roll(len(order))])
		}
	}
	return l, order
}

// P19.1 to P19.4: orders of chance: swaps that are told stay the same, those that are refused do not.
func TestOfChance(t *testing.T) {
	told, refused, moved := 0, 0, 0
	for seed := range uint64(300) {
		roll := dice(seed)
		l, order := ofChance(roll)
		g, s := mustMake(t, l), tell(l)
		now := order
		for range 40 {
			if len(order) < 2 {
				break
			}
			i := roll(len(order) - 1)
			next, done := Swap(g, now, i)
			if done {
				now, told = next, told+1
				continue
			}
			refused++
			// Of lists that are alike nobody can tell that they were swapped.
			if !slices.Equal(now[i], now[i+1]) {
				mustBe(t, "Same with two that conflict swapped", Same(g, now, swapped(now, i)), false)
			}
		}
		mustBe(t, "Same after swaps", Same(g, order, now), true)
		mustBe(t, "Steps after swaps", Steps(g, order, now), steps(order, now))
		mustHold(t, g, s, order, now)
		mixed := slices.Clone(order)
		for at := range mixed {
			other := roll(len(mixed))
			mixed[at], mixed[other] = mixed[other], mixed[at]
		}
		mustHold(t, g, s, order, mixed)
		mustHold(t, g, s, now, mixed)
		if len(mixed) > 0 {
			mustHold(t, g, s, now, mixed[1:])
			mustHold(t, g, s, now, append(slices.Clone(mixed[1:]), mixed[roll(len(mixed))]))
		}
		if Steps(g, order, now) > 3 {
			moved++
		}
		if t.Failed() {
			t.Fatalf("seed %d: %v, %v", seed, l, order)
		}
	}
	if told < 1000 || refused < 500 || moved < 100 {
		t.Error("so many swaps were told, and refused, and so many orders were moved far:", told, refused, moved)
	}
}

// many are n lists of so many ids each, whose records have a key each, and the graph of these.
func many(t *testing.T, n, size int) (*edges.Graph, [][]api.Id) {
	var l []api.Record
	var order [][]api.Id
	for at := range n {
		list := slots(at%7, 1+at*size, size)
		for place, i := range list {
			key := strconv.Itoa(at*size + place)
			// The first one of all and the last one of all have commands of a key of their own, too.
			batch := []api.Cmd{put(key), get("shared")}
			if at == n-1 && place == size-1 {
				batch = append(batch, get("ends"))
			}
			if at == 0 && place == 0 {
				batch = append(batch, put("ends"))
			}
			l = append(l, rec(i, batch...))
		}
		order = append(order, list)
	}
	return mustMake(t, l), order
}

// P19.1 to P19.3: a hundred lists of a hundred ids, and many more of fewer ids, or fewer of more, go through.
func TestLong(t *testing.T) {
	for _, long := range [][2]int{{2, 1}, {1, 100}, {100, 1}, {100, 100}, {1000, 3}, {3000, 1}, {2, 10000}, {20, 500}} {
		n, size := long[0], long[1]
		what := fmt.Sprintf("%d lists of %d: ", n, size)
		g, order := many(t, n, size)
		back := slices.Clone(order)
		slices.Reverse(back)
		mustBe(t, what+"Same as itself", Same(g, order, order), true)
		mustBe(t, what+"Steps to itself", Steps(g, order, order), 0)
		mustBe(t, what+"Steps, turned around", Steps(g, order, back), n*(n-1)/2)
		mustBe(t, what+"Steps to fewer", Steps(g, order, back[1:]), -1)
		mustBe(t, what+"Same, turned around: the first one and the last one conflict", Same(g, order, back), n == 1)
		mustBe(t, what+"Same, turned around without the last one", Same(g, order[:n-1], back[1:]), true)
		mustBe(t, what+"Same, turned around without the first one", Same(g, order[1:], back[:n-1]), true)
		mustBe(t, what+"Same, another one", Same(g, order, append(slices.Clone(order[1:]), ids(gone))), false)
		mustBe(t, what+"Conflict of the first one and the last one", Conflict(g, order[0], order[n-1]), true)
		mustBe(t, what+"Conflict of others", Conflict(g, slices.Concat(order[:n/2]...), slices.Concat(order[n/2:n-1]...)), false)
		mustBe(t, what+"Conflict of all", Conflict(g, slices.Concat(order[:n/2]...), slices.Concat(order[n/2:]...)), n > 1)
		moved := append(slices.Clone(order[1:]), order[0])
		mustBe(t, what+"Steps, the first one moved to the end", Steps(g, order, moved), n-1)
		mustBe(t, what+"Same, the first one moved to the end", Same(g, order, moved), n == 1)
		for _, i := range []int{0, n / 2, n - 3} {
			if got, done := Swap(g, order, i); n > 3 {
				mustBe(t, what+"Swap", done, true)
				mustLists(t, what+"Swap", got, swapped(order, i)...)
			}
		}
	}
}

// P19.1, P19.3: many lists that are alike are paired one by one.
func TestManyAlike(t *testing.T) {
	const n = 300
	g := mustMake(t, some())
	w, r, b := ids(wa), ids(ra), ids(rb)
	all := slices.Repeat(lists(w), n)
	mustBe(t, "Same of one list, often", Same(g, all, all), true)
	mustBe(t, "Steps of one list, often", Steps(g, all, all), 0)
	mustBe(t, "Same of one list, less often", Same(g, all, all[1:]), false)
	for at := range n {
		one, other := slices.Insert(slices.Clone(all), at, b), slices.Insert(slices.Clone(all), n-at, b)
		mustBe(t, "Steps of one that moves among many", Steps(g, one, other), max(at, n-at)-min(at, n-at))
		mustBe(t, "Same of one that moves among many", Same(g, one, other), true)
		other[n-at] = r
		one[at] = r
		mustBe(t, "Same of one that conflicts, and moves among many", Same(g, one, other), at == n-at)
	}
	one, other := slices.Repeat(lists(w, b), n), slices.Concat(slices.Repeat(lists(b), n), all)
	mustBe(t, "Steps of many between many", Steps(g, one, other), n*(n+1)/2)
	mustBe(t, "Same of many between many", Same(g, one, other), true)
	mustBe(t, "Same of many between many that conflict", Same(g, slices.Repeat(lists(w, r), n), slices.Concat(all, slices.Repeat(lists(r), n))), false)
	mustBe(t, "Same of many between many that conflict, as they are", Same(g, slices.Repeat(lists(w, r), n), slices.Repeat(lists(w, r), n)), true)
}

// P19.3: Steps of orders turned around, of each length.
func TestStepsTurned(t *testing.T) {
	g := mustMake(t, some())
	for n := range 120 {
		var order [][]api.Id
		for at := range n {
			order = append(order, ids(id(at%8, 1+at), wa))
		}
		back := slices.Clone(order)
		slices.Reverse(back)
		mustBe(t, fmt.Sprintf("Steps of %d, turned around", n), Steps(g, order, back), n*(n-1)/2)
		mustBe(t, fmt.Sprintf("Same of %d, turned around", n), Same(g, order, back), n < 2)
		mustBe(t, fmt.Sprintf("Steps of %d, turned around twice", n), Steps(g, slices.Concat(order, order), slices.Concat(back, back)), n*(n-1))
	}
}

// A nil graph is answered as rule 1 asks: nought, false, and nothing.
func TestNil(t *testing.T) {
	broken, _ := edges.New(append(some(), some()[0]))
	all := append(oddIds(), wa, da, ra, wb, none, gone)
	orders := [][][]api.Id{nil, {}, {nil}, {{}}, lists(ids(wa)), lists(ids(ra), ids(wb)), lists(ids(wb), ids(ra)), lists(all), lists(all, nil, all)}
	for _, g := range []*edges.Graph{nil, broken} {
		for _, one := range append(parts(all[len(all)-6:]), all, nil) {
			mustBe(t, "Conflict of nil", Conflict(g, one, all), false)
			mustBe(t, "Conflict of nil", Conflict(g, all, one), false)
			mustBe(t, "Conflict of nil", Conflict(g, one, one), false)
		}
		for _, one := range orders {
			for _, other := range orders {
				mustBe(t, fmt.Sprintf("Same of nil, %v and %v", one, other), Same(g, one, other), false)
				mustBe(t, fmt.Sprintf("Steps of nil, %v and %v", one, other), Steps(g, one, other), 0)
			}
			for _, i := range []int{math.MinInt, -1, 0, 1, 2, math.MaxInt} {
				got, done := Swap(g, one, i)
				mustBe(t, fmt.Sprintf("Swap of nil, %v at %d", one, i), done, false)
				mustLists(t, fmt.Sprintf("Swap of nil, %v at %d", one, i), got)
			}
		}
	}
}

// spoil writes all over a list of ids, its spare room too.
func spoil(l []api.Id) {
	l = l[:cap(l)]
	for at := range l {
		l[at] = id(99, -99)
	}
}

// spoilAll writes all over lists of ids, the spare room too, or just over that.
func spoilAll(l [][]api.Id, ends bool) {
	for at := range l {
		if ends {
			spoil(l[at][len(l[at]):])
		} else {
			spoil(l[at])
		}
	}
	rest := l[len(l):cap(l)]
	for at := range rest {
		rest[at] = ids(id(99, -99))
	}
}

// whatIs is all that a graph tells by its own calls.
func whatIs(g *edges.Graph) string {
	s := fmt.Sprint(g.Len(), g.Edges(), g.Ids(), g.Missing())
	for _, i := range append(append(g.Ids(), g.Missing()...), oddIds()...) {
		r, ok := g.Record(i)
		s += fmt.Sprint(i, g.Has(i), r, ok, g.Users(i))
	}
	return s
}

// What Swap hands out is new, and so is each list in it: none can grow into another one, and writing into it, its spare room too, changes nothing else.
func TestAnswersAreNew(t *testing.T) {
	for n := 2; n <= 20; n++ {
		for size := range 6 {
			var order, kept [][]api.Id
			for at := range n {
				order, kept = append(order, slots(1, 1+at*size, (at+size)%6)), append(kept, slots(1, 1+at*size, (at+size)%6))
			}
			g := mustMake(t, nil)
			for i := range n - 1 {
				want := swapped(kept, i)
				told, _ := Swap(g, order, i)
				other, _ := Swap(g, order, i)
				spoilAll(other, false)
				mustLists(t, "Swap, told before", told, want...)
				other, _ = Swap(g, order, i)
				mustLists(t, "Swap, told again", other, want...)
				spoilAll(told, true)
				mustLists(t, "Swap, its spare room written into", told, want...)
				for at := range told {
					_ = append(told[at], id(99, 99), id(99, -99))
					mustLists(t, "Swap, one of its lists grown", told, want...)
				}
				for at := range told {
					spoil(told[at])
					mustLists(t, "the lists behind one that was written into", told[at+1:], want[at+1:]...)
				}
				for at := range told {
					mustBe(t, "the length of one that was written into", len(told[at]), len(want[at]))
				}
				mustLists(t, "what was handed in", order, kept...)
				// Nor does what is told hang on what becomes of what was handed in.
				given := slices.Clone(kept)
				for at := range given {
					given[at] = slices.Clone(given[at])
				}
				told, _ = Swap(g, given, i)
				spoilAll(given, false)
				mustLists(t, "Swap, what was handed in written into", told, want...)
			}
		}
	}
}

// What the calls are handed is as it was, spare room and graph too; what stands in the spare room is none of it.
func TestArgumentsStay(t *testing.T) {
	g := mustMake(t, some())
	before := whatIs(g)
	room := ids(none, ra, wb, sa, wa, rb, gone, da, id(-3, 7))
	kept := slices.Clone(room)
	rows := lists(room[:1], room[1:3], room[3:4], room[5:6], room[4:5], room)
	other := lists(room[3:4], room[:1], room[1:3], room[:1])
	for range 3 {
		mustBe(t, "Same", Same(g, rows[:3], other[:3]), true)
		mustBe(t, "Same with what stands behind", Same(g, rows[:4], other), false)
		mustBe(t, "Steps", Steps(g, rows[:3], other[:3]), 2)
		mustBe(t, "Steps with what stands behind", Steps(g, rows[:4], other), -1)
		mustBe(t, "Conflict", Conflict(g, room[1:3], room[4:6]), true)
		mustBe(t, "Conflict with what stands in the spare room", Conflict(g, room[1:2], room[3:4]), false)
		mustBe(t, "Conflict with what stands in the spare room, turned", Conflict(g, room[3:4], room[1:2]), false)
		got, done := Swap(g, rows[:3], 1)
		mustBe(t, "Swap", done, true)
		mustLists(t, "Swap", got, kept[:1], kept[3:4], kept[1:3])
		spoilAll(got, false)
		_, done = Swap(g, rows[:3], 2)
		mustBe(t, "Swap with what stands behind", done, false)
		_, done = Swap(g, rows[:5], 3)
		mustBe(t, "Swap of the last ones", done, true)
		mustLists(t, "the lists handed in", rows, kept[:1], kept[1:3], kept[3:4], kept[5:6], kept[4:5], kept)
		mustLists(t, "the other ones", other, kept[3:4], kept[:1], kept[1:3], kept[:1])
		mustLists(t, "what was handed in", lists(room), kept)
		if now := whatIs(g); now != before {
			t.Errorf("the graph became %s, of %s", now, before)
		}
	}
}

// The same call answers the same, as often as it is made, of one graph and of many.
func TestAgainAndAgain(t *testing.T) {
	g, s := mustMake(t, some()), tell(some())
	one := lists(ids(wa), ids(wb), ids(sa, ra), nil, ids(mix), ids(wa), ids(gone, none))
	other := lists(ids(wb), ids(wa), nil, ids(sa, ra), ids(gone, none), ids(mix), ids(wa))
	for range 50 {
		mustBe(t, "Same", Same(g, one, other), true)
		mustBe(t, "Steps", Steps(g, one, other), 4)
		mustHold(t, g, s, one, other)
		mustHold(t, mustMake(t, some()), s, one, other)
	}
}

// Two graphs are each by itself: what conflicts in one may be without conflict in the other one.
func TestTwoGraphs(t *testing.T) {
	calm := some()
	for at := range calm {
		calm[at].Batch = calm[at].Batch[:0]
	}
	more := append(some(), rec(gone, put("c")))
	one, other, third := mustMake(t, some()), mustMake(t, calm), mustMake(t, more)
	l := lists(ids(wa), ids(ra), ids(gone), ids(sa))
	for _, turn := range turns(l) {
		mustHold(t, one, tell(some()), l, turn)
		mustHold(t, other, tell(calm), l, turn)
		mustHold(t, third, tell(more), l, turn)
	}
}
