package idset

import (
	"math"
	"slices"
	"testing"

	"cortege/api"
)

// row is ids in their order, each once, most of which may not be.
func row() []api.Id {
	var l []api.Id
	for _, rep := range []int{math.MinInt, -1 << 32, -2, -1, 0, 1, 2, 7, 8, 17, 1 << 32, 1<<32 + 1, math.MaxInt} {
		for _, slot := range []int{math.MinInt, -1 << 32, -17, -1, 0, 1, 2, 7, 17, 1048576, 1048577, 1 << 32, 1<<32 + 1, math.MaxInt} {
			l = append(l, api.Id{Rep: rep, Slot: slot})
		}
	}
	return l
}

// at makes ids of the places that they have in the row.
func at(places ...int) []api.Id {
	ids := row()
	var l []api.Id
	for _, place := range places {
		l = append(l, ids[place])
	}
	return l
}

// dice answers numbers from 0 to n - 1 that look like chance, the same ones each time.
func dice(seed uint64) func(n int) int {
	return func(n int) int {
		seed = seed*6364136223846793005 + 1442695040888963407
		return int(seed>>33) % n
	}
}

// mixed answers l's ids in another order.
func mixed(l []api.Id, seed uint64) []api.Id {
	roll, ids := dice(seed), slices.Clone(l)
	for i := len(ids) - 1; i > 0; i-- {
		j := roll(i + 1)
		ids[i], ids[j] = ids[j], ids[i]
	}
	return ids
}

// mustHold asks for just the ids of want, which stand in order, each once.
func mustHold(t *testing.T, s *Set, want []api.Id) {
	t.Helper()
	if got := s.Len(); got != len(want) {
		t.Errorf("Len: %d, not %d", got, len(want))
	}
	if got := s.List(); !slices.Equal(got, want) {
		t.Errorf("List: %v, not %v", got, want)
	}
	for _, id := range append(row(), want...) {
		if got := s.Has(id); got != slices.Contains(want, id) {
			t.Errorf("Has of %v: %v", id, got)
		}
	}
}

// P4.1, P4.2: sets of all kinds of lists; the first one is the chapter's example.
func TestNew(t *testing.T) {
	for _, c := range []struct{ l, want []api.Id }{
		{[]api.Id{{Rep: 1, Slot: 2}, {Rep: 1, Slot: 1}, {Rep: 1, Slot: 2}}, []api.Id{{Rep: 1, Slot: 1}, {Rep: 1, Slot: 2}}},
		{nil, nil},
		{[]api.Id{}, nil},
		{make([]api.Id, 0, 4), nil},
		{at(3, 2, 1)[:1], at(3)},
		{[]api.Id{{}}, []api.Id{{}}},
		{[]api.Id{{}, {}, {}}, []api.Id{{}}},
		{[]api.Id{{Rep: 2, Slot: 17}}, []api.Id{{Rep: 2, Slot: 17}}},
		{[]api.Id{{Rep: 2, Slot: 17}, {Rep: 2, Slot: 17}}, []api.Id{{Rep: 2, Slot: 17}}},
		{[]api.Id{{Rep: 2, Slot: 10}, {Rep: 2, Slot: 9}, {Rep: 0, Slot: 11}}, []api.Id{{Rep: 0, Slot: 11}, {Rep: 2, Slot: 9}, {Rep: 2, Slot: 10}}},
		{[]api.Id{{Rep: 8, Slot: 0}, {Rep: -1, Slot: 1048577}, {Rep: 8, Slot: 0}, {Rep: 0, Slot: 1}}, []api.Id{{Rep: -1, Slot: 1048577}, {Rep: 0, Slot: 1}, {Rep: 8, Slot: 0}}},
		{[]api.Id{{Rep: math.MaxInt, Slot: math.MinInt}, {Rep: math.MinInt, Slot: math.MaxInt}}, []api.Id{{Rep: math.MinInt, Slot: math.MaxInt}, {Rep: math.MaxInt, Slot: math.MinInt}}},
		{row(), row()},
		{mixed(append(row(), row()...), 1), row()},
	} {
		mustHold(t, New(c.l), c.want)
	}
}

// P4.1: a set that is made anew has l's ids alone, and nothing of what stood in it.
func TestRenew(t *testing.T) {
	s := New(row())
	for _, l := range [][]api.Id{at(1, 2, 3), at(3, 4), row(), nil, at(0), {}} {
		s.renew(l)
		mustHold(t, s, l)
	}
}

// P4.1: put in twice, taken out twice, and put in again, whatever the id is and whatever stands beside it.
func TestAddAndRemove(t *testing.T) {
	for i, id := range row() {
		others := slices.Delete(row(), i, i+1)
		for _, l := range [][]api.Id{nil, others[:1], others[len(others)-3:], others} {
			s := New(l)
			for range 3 {
				if !s.Add(id) || s.Add(id) {
					t.Fatalf("Add of %v beside %d others", id, len(l))
				}
				if !s.Has(id) || s.Len() != len(l)+1 {
					t.Fatalf("%v was put in beside %d others: there %v, Len %d", id, len(l), s.Has(id), s.Len())
				}
				if !s.Remove(id) || s.Remove(id) {
					t.Fatalf("Remove of %v beside %d others", id, len(l))
				}
				if s.Has(id) || s.Len() != len(l) || !slices.Equal(s.List(), l) {
					t.Fatalf("%v was taken out beside %d others: there %v, left %v", id, len(l), s.Has(id), s.List())
				}
			}
		}
	}
}

// P4.1: what New has put in is there for Add and Remove, once, however often the list has it.
func TestAddAndRemoveOfNew(t *testing.T) {
	a, b := api.Id{Rep: 1, Slot: 2}, api.Id{Rep: 1, Slot: 1}
	s := New([]api.Id{a, b, a})
	if s.Add(a) || s.Add(b) {
		t.Error("Add of what New has put in")
	}
	if !s.Remove(a) || s.Remove(a) || s.Has(a) {
		t.Error("an id that the list has twice must be taken out at once")
	}
	mustHold(t, s, []api.Id{b})
	if !s.Remove(b) || s.Remove(b) {
		t.Error("Remove of the last one")
	}
	mustHold(t, s, nil)
	if !s.Add(a) || s.Add(a) {
		t.Error("Add behind the last one was taken out")
	}
	mustHold(t, s, []api.Id{a})
}

// P4.1: what has just one of the two numbers, or both the other way round, is another id.
func TestOtherIds(t *testing.T) {
	l := []api.Id{{Rep: 1, Slot: 5}, {Rep: 2, Slot: 17}, {Rep: 7, Slot: 2}}
	s := New(l)
	for _, id := range []api.Id{{}, {Rep: 2, Slot: 5}, {Rep: 1, Slot: 17}, {Rep: 5, Slot: 1}, {Rep: 2, Slot: 7}, {Rep: 2, Slot: 16}, {Rep: 2, Slot: 18}, {Rep: -2, Slot: -17}, {Rep: 2 + 1<<32, Slot: 17}, {Rep: 2, Slot: 17 + 1<<32}} {
		if s.Has(id) || s.Remove(id) {
			t.Errorf("%v is there", id)
		}
	}
	mustHold(t, s, l)
}

// P4.1, P4.2, P4.3: a nil set has none, and takes none, also behind an Add.
func TestNil(t *testing.T) {
	var none *Set
	for _, id := range append(row(), api.Id{}) {
		if none.Has(id) || none.Add(id) || none.Has(id) || none.Remove(id) {
			t.Errorf("a nil set has, or takes, %v", id)
		}
	}
	if none.Len() != 0 || len(none.List()) != 0 {
		t.Errorf("a nil set has %d ids, %v", none.Len(), none.List())
	}
	empty, one := New(nil), New(at(7))
	for _, o := range []*Set{none, empty, one} {
		if got := none.Minus(o); len(got) != 0 {
			t.Errorf("Minus of a nil set: %v", got)
		}
	}
	if !none.Same(nil) || !none.Same(empty) || !empty.Same(nil) {
		t.Error("a nil set and an empty one are not the same")
	}
	if none.Same(one) || one.Same(nil) {
		t.Error("a nil set is the same as one with an id")
	}
	if got := empty.Minus(nil); len(got) != 0 {
		t.Errorf("Minus of an empty set and a nil one: %v", got)
	}
	if got := New(mixed(row(), 2)).Minus(nil); !slices.Equal(got, row()) {
		t.Errorf("Minus of the row and a nil set: %v", got)
	}
}

// P4.1: New keeps nothing of the list, and neither the set nor its changes reach it.
func TestNewLeavesItsList(t *testing.T) {
	for n := range 9 {
		room := at(8, 7, 7, 6, 5, 5, 4, 3, 2, 1, 0)
		before := slices.Clone(room)
		want := slices.Clone(room[:n])
		slices.SortFunc(want, inRow)
		want = slices.Compact(want)
		s, twin := New(room[:n]), New(room[:n])
		if !slices.Equal(room, before) {
			t.Fatalf("New of the first %d changed the list to %v", n, room)
		}
		for i := range room {
			room[i] = api.Id{Rep: 5, Slot: 55}
		}
		mustHold(t, s, want)
		for i := range room {
			room[i] = before[i]
		}
		s.Add(at(20)[0])
		for _, id := range want {
			s.Remove(id)
		}
		if !slices.Equal(room, before) {
			t.Errorf("changes of the set of the first %d changed the list to %v", n, room)
		}
		mustHold(t, s, at(20))
		mustHold(t, twin, want)
	}
}

// inRow puts ids of the row in its order, without asking the layer below.
func inRow(a, b api.Id) int {
	ids := row()
	return slices.Index(ids, a) - slices.Index(ids, b)
}

// P4.2: the order hangs on the ids alone, not on how they came, nor on which call it is.
func TestListInOrder(t *testing.T) {
	for n := 0; n <= len(row()); n += 7 {
		want := row()[:n]
		for seed := range uint64(10) {
			s := New(mixed(want, seed))
			for range 3 {
				if got := s.List(); !slices.Equal(got, want) {
					t.Fatalf("List of %d ids: %v", n, got)
				}
			}
		}
	}
}

// mustBeFresh asks for answers that share no memory, neither with each other nor with what makes them.
func mustBeFresh(t *testing.T, list func() []api.Id) {
	t.Helper()
	first, second := list(), list()
	want := slices.Clone(first)
	first = first[:cap(first)]
	for i := range first {
		first[i] = api.Id{Rep: 3, Slot: 33}
	}
	if !slices.Equal(second, want) {
		t.Errorf("two answers share their memory: %v, not %v", second, want)
	}
	_ = append(second, api.Id{Rep: 4, Slot: 44})
	if third := list(); !slices.Equal(third, want) {
		t.Errorf("an answer changed with those ahead of it: %v, not %v", third, want)
	}
}

// P4.2, P4.3: a list that was handed out goes on by itself, spare room too.
func TestListsAreNew(t *testing.T) {
	for n := range 20 {
		l := row()[:n]
		s, o := New(l), New(at(0, 3, 4, 11, 100))
		mustBeFresh(t, s.List)
		mustBeFresh(t, func() []api.Id { return s.Minus(o) })
		mustBeFresh(t, func() []api.Id { return s.Minus(nil) })
		mustHold(t, s, l)
		mustHold(t, o, at(0, 3, 4, 11, 100))

		list, rest, all := s.List(), s.Minus(o), s.Minus(nil)
		wantRest := slices.Clone(rest)
		s.Add(at(30)[0])
		for _, id := range l {
			s.Remove(id)
			o.Add(id)
		}
		if !slices.Equal(list, l) || !slices.Equal(rest, wantRest) || !slices.Equal(all, l) {
			t.Errorf("lists changed with their set: %v, %v, %v", list, rest, all)
		}
	}
}

// P4.3: sets held against each other, each as a list in order, each once, both ways.
func TestMinusAndSame(t *testing.T) {
	for _, c := range []struct {
		s, o, minus, back []api.Id
		same              bool
	}{
		{nil, nil, nil, nil, true},
		{at(5), nil, at(5), nil, false},
		{at(5), at(5), nil, nil, true},
		{at(5), at(6), at(5), at(6), false},
		// Equal ones, a part, and one that has nothing of it.
		{at(1, 2, 3), at(1, 2, 3), nil, nil, true},
		{at(1, 2, 3), at(1, 3), at(2), nil, false},
		{at(1, 2, 3), at(1), at(2, 3), nil, false},
		{at(1, 2, 3), at(2, 3), at(1), nil, false},
		{at(1, 2, 3), at(4, 5, 6), at(1, 2, 3), at(4, 5, 6), false},
		{at(1, 2, 3), at(0), at(1, 2, 3), at(0), false},
		// As many, but others.
		{at(1, 2, 3), at(1, 2, 4), at(3), at(4), false},
		{at(1, 3, 5), at(1, 2, 5), at(3), at(2), false},
		{at(1, 2, 3, 4), at(3, 4, 5, 6), at(1, 2), at(5, 6), false},
		// Both have just the Reps, or just the Slots, of each other.
		{[]api.Id{{Rep: 1, Slot: 2}, {Rep: 3, Slot: 4}}, []api.Id{{Rep: 1, Slot: 4}, {Rep: 3, Slot: 2}}, []api.Id{{Rep: 1, Slot: 2}, {Rep: 3, Slot: 4}}, []api.Id{{Rep: 1, Slot: 4}, {Rep: 3, Slot: 2}}, false},
		{[]api.Id{{Rep: 1, Slot: 2}}, []api.Id{{Rep: 2, Slot: 1}}, []api.Id{{Rep: 1, Slot: 2}}, []api.Id{{Rep: 2, Slot: 1}}, false},
		{[]api.Id{{}}, nil, []api.Id{{}}, nil, false},
		{row(), row(), nil, nil, true},
		{row(), row()[:90], row()[90:], nil, false},
		{row()[:90], row()[80:], row()[:80], row()[90:], false},
	} {
		for seed := range uint64(5) {
			s, o := New(mixed(c.s, seed)), New(mixed(append(c.o, c.o...), seed+7))
			if got := s.Minus(o); !slices.Equal(got, c.minus) {
				t.Errorf("%v Minus %v: %v, not %v", c.s, c.o, got, c.minus)
			}
			if got := o.Minus(s); !slices.Equal(got, c.back) {
				t.Errorf("%v Minus %v: %v, not %v", c.o, c.s, got, c.back)
			}
			if s.Same(o) != c.same || o.Same(s) != c.same {
				t.Errorf("Same of %v and %v: %v, back %v", c.s, c.o, s.Same(o), o.Same(s))
			}
			if !s.Same(s) || !o.Same(o) || len(s.Minus(s)) != 0 || len(o.Minus(o)) != 0 {
				t.Errorf("%v or %v, against itself", c.s, c.o)
			}
			mustHold(t, s, c.s)
			mustHold(t, o, c.o)
		}
	}
}

// P4.3: what was in a set once, and was taken out, counts no more.
func TestMinusAndSameBehindRemove(t *testing.T) {
	s, o := New(at(1, 2, 3)), New(at(2, 3, 4))
	s.Remove(at(1)[0])
	o.Remove(at(4)[0])
	if !s.Same(o) || !o.Same(s) || len(s.Minus(o)) != 0 || len(o.Minus(s)) != 0 {
		t.Errorf("%v and %v are not the same", s.List(), o.List())
	}
	o.Remove(at(2)[0])
	if got := s.Minus(o); s.Same(o) || o.Same(s) || !slices.Equal(got, at(2)) {
		t.Errorf("%v Minus %v: %v", s.List(), o.List(), got)
	}
	for _, id := range at(2, 3) {
		s.Remove(id)
		o.Remove(id)
	}
	if !s.Same(o) || !s.Same(nil) || !s.Same(New(nil)) || len(s.Minus(o)) != 0 {
		t.Error("sets out of which all was taken are not empty")
	}
}

// plain is the same set as a list in the order in which the ids came.
type plain []api.Id

func (p plain) minus(o plain) []api.Id {
	var l []api.Id
	for _, id := range row() {
		if slices.Contains(p, id) && !slices.Contains(o, id) {
			l = append(l, id)
		}
	}
	return l
}

// P4.1 to P4.3: two sets that change and change, held against lists.
func TestAgainstLists(t *testing.T) {
	roll := dice(4)
	for _, width := range []int{1, 2, 5, 40, len(row())} {
		ids := mixed(row(), uint64(width))[:width]
		sets, plains := [2]*Set{New(nil), New(nil)}, [2]plain{}
		for range 400 {
			which, id := roll(2), ids[roll(width)]
			s, there := sets[which], slices.Contains(plains[which], id)
			if roll(2) == 0 {
				if s.Add(id) == there {
					t.Fatalf("Add of %v, there %v", id, there)
				}
				if !there {
					plains[which] = append(plains[which], id)
				}
			} else {
				if s.Remove(id) != there {
					t.Fatalf("Remove of %v, there %v", id, there)
				}
				plains[which] = slices.DeleteFunc(plains[which], func(other api.Id) bool { return other == id })
			}
			for i := range 2 {
				s, o, p, q := sets[i], sets[1-i], plains[i], plains[1-i]
				if s.Len() != len(p) || !slices.Equal(s.List(), p.minus(nil)) || !slices.Equal(s.Minus(o), p.minus(q)) {
					t.Fatalf("%d ids, %v, without the other's %v; they are %v and %v", s.Len(), s.List(), s.Minus(o), p, q)
				}
				if s.Same(o) != (len(p.minus(q)) == 0 && len(q.minus(p)) == 0) {
					t.Fatalf("Same of %v and %v: %v", p, q, s.Same(o))
				}
			}
		}
	}
}

// P4.1 to P4.3: many ids.
func TestMany(t *testing.T) {
	const reps, slots = 8, 4000
	var want []api.Id
	for rep := range reps {
		for slot := range slots {
			want = append(want, api.Id{Rep: rep, Slot: slot + 1})
		}
	}
	s, o := New(nil), New(want)
	for _, id := range mixed(want, 5) {
		if !s.Add(id) {
			t.Fatalf("Add of %v", id)
		}
	}
	if s.Len() != len(want) || !slices.Equal(s.List(), want) || !s.Same(o) || !o.Same(s) {
		t.Fatalf("%d ids were put in: Len %d", len(want), s.Len())
	}
	var odd []api.Id
	for _, id := range mixed(want, 6) {
		if id.Slot%2 == 0 && !s.Remove(id) {
			t.Fatalf("Remove of %v", id)
		}
	}
	for _, id := range want {
		if id.Slot%2 == 1 {
			odd = append(odd, id)
		}
	}
	if s.Len() != len(odd) || !slices.Equal(s.List(), odd) || s.Same(o) || o.Same(s) {
		t.Fatalf("half of %d ids were taken out: Len %d", len(want), s.Len())
	}
	if rest := o.Minus(s); len(rest) != len(odd) || !slices.Equal(New(append(rest, odd...)).List(), want) {
		t.Fatal("both halves are not the whole")
	}
}
