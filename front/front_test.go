package front

import (
	"math"
	"slices"
	"testing"

	"cortege/api"
)

// ids makes ids of pairs of a Rep and a Slot.
func ids(pairs ...[2]int) []api.Id {
	var l []api.Id
	for _, pair := range pairs {
		l = append(l, api.Id{Rep: pair[0], Slot: pair[1]})
	}
	return l
}

// of makes ids of one replica.
func of(rep int, slots ...int) []api.Id {
	var l []api.Id
	for _, slot := range slots {
		l = append(l, api.Id{Rep: rep, Slot: slot})
	}
	return l
}

// upTo makes a replica's ids from slot 1 to the last one.
func upTo(rep, last int) []api.Id {
	var l []api.Id
	for slot := 1; slot <= last; slot++ {
		l = append(l, api.Id{Rep: rep, Slot: slot})
	}
	return l
}

// noReps are replicas that may not be; some of them would be one if they were cut to fewer bits.
func noReps() []int {
	return []int{math.MinInt, -1 << 32, -256, -8, -2, -1, 8, 9, 16, 255, 256, 1 << 16, 1 << 32, 1<<32 + 1, math.MaxInt}
}

// noSlots are slots that may not be.
func noSlots() []int {
	return []int{math.MinInt, -1 << 32, -1048576, -2, -1, 0, 1048577, 1048578, 1 << 21, 1 << 32, 1<<32 + 1, math.MaxInt}
}

// noIds are ids that may not be: of such replicas, of such slots, and of both.
func noIds() []api.Id {
	var l []api.Id
	for _, rep := range noReps() {
		for _, slot := range append(noSlots(), 1, 2, 3, 1048576) {
			l = append(l, api.Id{Rep: rep, Slot: slot})
		}
	}
	for rep := range 8 {
		l = append(l, of(rep, noSlots()...)...)
	}
	return l
}

// dice answers numbers from 0 to n - 1 that look like chance, the same ones each time.
func dice(seed uint64) func(n int) int {
	return func(n int) int {
		seed = seed*6364136223846793005 + 1442695040888963407
		return int(seed>>33) % n
	}
}

// mixed answers l's ids in another order.
func mixed(l []api.Id, seed uint64) []api.Id {
	roll, other := dice(seed), slices.Clone(l)
	for i := len(other) - 1; i > 0; i-- {
		j := roll(i + 1)
		other[i], other[j] = other[j], other[i]
	}
	return other
}

// mustMark marks ids, none of which was marked, none twice.
func mustMark(t *testing.T, f *Front, l []api.Id) {
	t.Helper()
	for _, id := range l {
		if !f.Mark(id) {
			t.Fatalf("Mark of %v: false", id)
		}
	}
}

// marked answers a front in which l's ids were marked, in their order.
func marked(t *testing.T, l []api.Id) *Front {
	t.Helper()
	f := New()
	mustMark(t, f, l)
	return f
}

// plain tells of a front what the chapter's words say of the ids that are marked, and nothing else.
type plain map[api.Id]bool

func plainOf(l []api.Id) plain {
	p := plain{}
	for _, id := range l {
		p[id] = true
	}
	return p
}

func (p plain) floor(rep int) int {
	floor := 0
	for p[api.Id{Rep: rep, Slot: floor + 1}] {
		floor++
	}
	return floor
}

func (p plain) above() []api.Id {
	var l []api.Id
	for rep := range 8 {
		var slots []int
		floor := p.floor(rep)
		for id := range p {
			if id.Rep == rep && id.Slot > floor {
				slots = append(slots, id.Slot)
			}
		}
		slices.Sort(slots)
		l = append(l, of(rep, slots...)...)
	}
	return l
}

// mustTell asks for the floors and for what stands above them.
func mustTell(t *testing.T, f *Front, floors [8]int, above []api.Id) {
	t.Helper()
	want := int64(len(above))
	for rep, floor := range floors {
		if got := f.Floor(rep); got != floor {
			t.Errorf("Floor of %d: %d, not %d", rep, got, floor)
		}
		want += int64(floor)
	}
	for _, rep := range noReps() {
		if got := f.Floor(rep); got != 0 {
			t.Errorf("Floor of %d, that may not be: %d", rep, got)
		}
	}
	if got := f.Above(); !slices.Equal(got, above) {
		t.Errorf("Above: %v, not %v", got, above)
	}
	if got := f.Len(); got != want {
		t.Errorf("Len: %d, not %d", got, want)
	}
}

// mustHold asks for just the ids of want, which are all that may be, each once.
func mustHold(t *testing.T, f *Front, want []api.Id) {
	t.Helper()
	p := plainOf(want)
	var floors [8]int
	for rep := range floors {
		floors[rep] = p.floor(rep)
	}
	mustTell(t, f, floors, p.above())
	if got := f.Len(); got != int64(len(want)) {
		t.Errorf("Len: %d, not %d", got, len(want))
	}
	for rep := range 8 {
		for _, slot := range []int{1, 2, 3, 4, 5, 6, 7, 8, 9, 10, 11, 12, 1000, 1048575, 1048576} {
			id := api.Id{Rep: rep, Slot: slot}
			if f.Has(id) != p[id] {
				t.Errorf("Has of %v: %v", id, f.Has(id))
			}
		}
	}
	for _, id := range want {
		for _, slot := range []int{id.Slot - 1, id.Slot, id.Slot + 1} {
			near := api.Id{Rep: id.Rep, Slot: slot}
			if f.Has(near) != p[near] {
				t.Errorf("Has of %v: %v", near, f.Has(near))
			}
		}
	}
	for _, id := range noIds() {
		if f.Has(id) {
			t.Errorf("Has of %v, that may not be", id)
		}
	}
}

// P5.1, P5.2: the chapter's example.
func TestExample(t *testing.T) {
	f := marked(t, ids([2]int{1, 2}, [2]int{1, 1}))
	mustTell(t, f, [8]int{1: 2}, nil)
	mustMark(t, f, of(1, 4))
	mustTell(t, f, [8]int{1: 2}, of(1, 4))
	mustHold(t, f, of(1, 1, 2, 4))
}

// P5.1: a new front has nothing, and nothing of what another one has.
func TestNew(t *testing.T) {
	f := New()
	if f == nil {
		t.Fatal("New: nil")
	}
	mustHold(t, f, nil)
	mustTell(t, f, [8]int{}, nil)
	mustMark(t, f, of(3, 1, 2, 5))
	mustHold(t, New(), nil)
	g := marked(t, of(3, 5, 1))
	mustHold(t, g, of(3, 1, 5))
	mustHold(t, f, of(3, 1, 2, 5))
}

// P5.1: an id that may not be is never marked, and leaves everything as it was.
func TestMarkOfNoId(t *testing.T) {
	for _, l := range [][]api.Id{nil, of(0, 1), of(7, 1048576), append(upTo(0, 4), of(7, 2, 3, 1048576)...)} {
		f := marked(t, l)
		for _, id := range noIds() {
			for range 2 {
				if f.Mark(id) || f.Has(id) {
					t.Fatalf("%v, that may not be, was marked beside %v", id, l)
				}
			}
			if f.Len() != int64(len(l)) {
				t.Fatalf("Mark of %v, that may not be: Len %d", id, f.Len())
			}
		}
		mustHold(t, f, l)
	}
}

// P5.1: ids at the ends of what may be.
func TestMarkAtTheEnds(t *testing.T) {
	for rep := range 8 {
		for _, slot := range []int{1, 2, 3, 17, 65536, 1048575, 1048576} {
			id := api.Id{Rep: rep, Slot: slot}
			f := New()
			if f.Has(id) || !f.Mark(id) || !f.Has(id) {
				t.Errorf("Mark of %v", id)
			}
			mustHold(t, f, []api.Id{id})
		}
	}
	f := marked(t, ids([2]int{0, 1}, [2]int{7, 1048576}, [2]int{0, 1048576}, [2]int{7, 1}))
	mustTell(t, f, [8]int{0: 1, 7: 1}, ids([2]int{0, 1048576}, [2]int{7, 1048576}))
}

// P5.1: what is marked is not marked again, be it below its floor, at it, or above it.
func TestMarkTwice(t *testing.T) {
	f, l := New(), of(2, 3, 1, 5, 2, 9, 4, 1048576)
	for i, id := range l {
		mustMark(t, f, l[i:i+1])
		for _, other := range l[:i+1] {
			if f.Mark(other) {
				t.Errorf("%v was marked again, behind %v", other, id)
			}
		}
		mustHold(t, f, l[:i+1])
	}
	mustTell(t, f, [8]int{2: 5}, of(2, 9, 1048576))
}

// P5.1, P5.2: an id of another replica, or with both numbers the other way round, is another id.
func TestOtherIds(t *testing.T) {
	f := marked(t, ids([2]int{1, 2}, [2]int{3, 1}))
	for _, id := range ids([2]int{2, 1}, [2]int{1, 1}, [2]int{1, 3}, [2]int{3, 2}, [2]int{0, 1}, [2]int{0, 2}, [2]int{2, 2}, [2]int{4, 1}) {
		if f.Has(id) {
			t.Errorf("%v is marked", id)
		}
	}
	mustTell(t, f, [8]int{3: 1}, of(1, 2))
	mustMark(t, f, ids([2]int{2, 1}))
	mustTell(t, f, [8]int{2: 1, 3: 1}, of(1, 2))
}

// P5.2: the floor and what stands above it, behind each Mark.
func TestFloorAndAbove(t *testing.T) {
	for _, c := range []struct {
		slots, floors []int
		above         [][]int
	}{
		// One behind the other, and the other way round.
		{[]int{1, 2, 3, 4}, []int{1, 2, 3, 4}, [][]int{nil, nil, nil, nil}},
		{[]int{4, 3, 2, 1}, []int{0, 0, 0, 4}, [][]int{{4}, {3, 4}, {2, 3, 4}, nil}},
		// Slot 1 comes last of several: over all of them, or up to the first gap.
		{[]int{2, 5, 3, 4, 1}, []int{0, 0, 0, 0, 5}, [][]int{{2}, {2, 5}, {2, 3, 5}, {2, 3, 4, 5}, nil}},
		{[]int{2, 3, 5, 6, 1}, []int{0, 0, 0, 0, 3}, [][]int{{2}, {2, 3}, {2, 3, 5}, {2, 3, 5, 6}, {5, 6}}},
		{[]int{3, 4, 5, 1}, []int{0, 0, 0, 1}, [][]int{{3}, {3, 4}, {3, 4, 5}, {3, 4, 5}}},
		// A gap that is filled, and one that stays.
		{[]int{1, 3, 2}, []int{1, 1, 3}, [][]int{nil, {3}, nil}},
		{[]int{1, 3, 5, 2}, []int{1, 1, 1, 3}, [][]int{nil, {3}, {3, 5}, {5}}},
		{[]int{1, 3, 5, 4}, []int{1, 1, 1, 1}, [][]int{nil, {3}, {3, 5}, {3, 4, 5}}},
		{[]int{1, 4, 2, 3}, []int{1, 1, 2, 4}, [][]int{nil, {4}, {4}, nil}},
		{[]int{1, 5, 4, 2, 3}, []int{1, 1, 1, 2, 5}, [][]int{nil, {5}, {4, 5}, {4, 5}, nil}},
		// In the order of numbers, not of digits; the last slot of all.
		{[]int{10, 9, 100, 11}, []int{0, 0, 0, 0}, [][]int{{10}, {9, 10}, {9, 10, 100}, {9, 10, 11, 100}}},
		{[]int{1048576, 1, 1048575, 2}, []int{0, 1, 1, 2}, [][]int{{1048576}, {1048576}, {1048575, 1048576}, {1048575, 1048576}}},
	} {
		for rep := range 8 {
			f := New()
			for i, slot := range c.slots {
				mustMark(t, f, of(rep, slot))
				var floors [8]int
				floors[rep] = c.floors[i]
				mustTell(t, f, floors, of(rep, c.above[i]...))
				mustHold(t, f, of(rep, c.slots[:i+1]...))
			}
		}
	}
}

// P5.2: a replica that may not be has no floor, whatever those beside it have.
func TestFloorOfNoReplica(t *testing.T) {
	f := New()
	for rep := range 8 {
		mustMark(t, f, upTo(rep, 3+rep))
	}
	for _, rep := range noReps() {
		if got := f.Floor(rep); got != 0 {
			t.Errorf("Floor of %d: %d", rep, got)
		}
	}
}

// P5.2: all replicas at once, each with a floor and a gap of its own, one taken behind the other.
func TestAllReplicas(t *testing.T) {
	floors := [8]int{3, 0, 7, 1, 0, 2, 11, 5}
	var all, above []api.Id
	for rep, floor := range floors {
		high := of(rep, floor+2, floor+3, floor+10)
		all = append(append(all, upTo(rep, floor)...), high...)
		above = append(above, high...)
	}
	for seed := range uint64(20) {
		f := marked(t, mixed(all, seed))
		mustTell(t, f, floors, above)
		mustHold(t, f, all)

		// A gap that is filled raises the floor of its replica alone.
		raised, filled := floors, slices.Clone(all)
		for rep := range 8 {
			gap := of(rep, floors[rep]+1)
			mustMark(t, f, gap)
			filled = append(filled, gap...)
			raised[rep] = floors[rep] + 3
			rest := slices.DeleteFunc(slices.Clone(above), func(id api.Id) bool {
				return id.Rep <= rep && id.Slot <= raised[id.Rep]
			})
			mustTell(t, f, raised, rest)
			mustHold(t, f, filled)
		}
	}
}

// P5.1 to P5.3: a nil front has nothing, takes nothing, and has no twin.
func TestNil(t *testing.T) {
	var none *Front
	for _, id := range append(noIds(), ids([2]int{0, 1}, [2]int{1, 2}, [2]int{7, 1048576}, [2]int{0, 1})...) {
		if none.Mark(id) || none.Has(id) {
			t.Errorf("a nil front has, or takes, %v", id)
		}
	}
	for _, rep := range append(noReps(), 0, 1, 2, 3, 4, 5, 6, 7) {
		if got := none.Floor(rep); got != 0 {
			t.Errorf("Floor of %d of a nil front: %d", rep, got)
		}
	}
	if none.Len() != 0 || len(none.Above()) != 0 {
		t.Errorf("a nil front has %d ids, %v", none.Len(), none.Above())
	}
	if none.Twin() != nil {
		t.Error("a nil front has a twin")
	}
}

// markOne marks id in a front whose marked ids are l, and answers those that are marked then.
func markOne(t *testing.T, f *Front, l []api.Id, id api.Id) []api.Id {
	t.Helper()
	there := slices.Contains(l, id)
	if f.Mark(id) == there {
		t.Errorf("Mark of %v, that was marked %v: %v", id, there, !there)
	}
	if there {
		return l
	}
	return append(slices.Clone(l), id)
}

// P5.3: a twin has the same; what is marked of one is not marked of the other, in whichever order they go on.
func TestTwin(t *testing.T) {
	for _, l := range [][]api.Id{
		nil,
		of(4, 1),
		of(4, 2),
		of(4, 2, 3),
		of(4, 1, 2, 3),
		of(4, 1, 2, 4, 5, 1048576),
		append(append(upTo(0, 5), of(4, 3, 4)...), of(7, 1, 3)...),
	} {
		for _, swapped := range []bool{false, true} {
			f := marked(t, l)
			g := f.Twin()
			if g == nil || g == f {
				t.Fatalf("the twin of %v is nil, or the front itself", l)
			}
			mustHold(t, f, l)
			mustHold(t, g, l)
			if swapped {
				f, g = g, f
			}
			inF, inG := l, l
			// Each goes on over gaps that both had, and then over those that the other one has filled.
			for _, slot := range []int{6, 1, 3, 2} {
				for _, rep := range []int{0, 4, 7} {
					inG = markOne(t, g, inG, api.Id{Rep: rep, Slot: slot})
				}
				mustHold(t, g, inG)
				mustHold(t, f, inF)
			}
			for _, slot := range []int{4, 2, 1, 5, 1048575} {
				for _, rep := range []int{3, 4, 7} {
					inF = markOne(t, f, inF, api.Id{Rep: rep, Slot: slot})
				}
				mustHold(t, f, inF)
				mustHold(t, g, inG)
			}
		}
	}
}

// P5.3: twins of twins, each of another moment.
func TestTwins(t *testing.T) {
	f := New()
	var fronts []*Front
	var lists [][]api.Id
	var l []api.Id
	for _, id := range ids([2]int{5, 3}, [2]int{5, 1}, [2]int{6, 2}, [2]int{5, 2}, [2]int{6, 1}, [2]int{5, 5}) {
		fronts, lists = append(fronts, f), append(lists, l)
		f = f.Twin()
		l = markOne(t, f, l, id)
	}
	fronts, lists = append(fronts, f), append(lists, l)
	for i, front := range fronts {
		mustHold(t, front, lists[i])
	}
	for i, front := range fronts {
		lists[i] = markOne(t, front, lists[i], api.Id{Rep: 5, Slot: 1})
		lists[i] = markOne(t, front, lists[i], api.Id{Rep: 5, Slot: 4})
		for j, other := range fronts {
			mustHold(t, other, lists[j])
		}
	}
}

// orders gives all orders of l's ids.
func orders(l []api.Id, f func(order []api.Id)) {
	var grow func(order, rest []api.Id)
	grow = func(order, rest []api.Id) {
		if len(rest) == 0 {
			f(order)
		}
		for i, id := range rest {
			grow(append(slices.Clone(order), id), slices.Delete(slices.Clone(rest), i, i+1))
		}
	}
	grow(nil, l)
}

// P5.4: all orders of a few ids, with gaps and without.
func TestAllOrders(t *testing.T) {
	for _, l := range [][]api.Id{
		upTo(0, 6),
		upTo(7, 6),
		of(3, 1, 2, 4, 5, 6, 8),
		of(3, 2, 3, 4, 5, 7, 8),
		append(upTo(2, 3), upTo(3, 3)...),
		append(of(0, 1, 3, 4), of(1, 2, 3, 1048576)...),
	} {
		orders(l, func(order []api.Id) {
			mustHold(t, marked(t, order), l)
		})
	}
}

// P5.4: many ids in many orders, doubled, and with ids between them that may not be.
func TestManyOrders(t *testing.T) {
	roll := dice(11)
	for _, width := range []int{1, 2, 12, 60} {
		for range 20 {
			there := plain{}
			for range 1 + roll(8*width) {
				there[api.Id{Rep: roll(8), Slot: 1 + roll(width)}] = true
			}
			var l []api.Id
			for rep := range 8 {
				for slot := 1; slot <= width; slot++ {
					if id := (api.Id{Rep: rep, Slot: slot}); there[id] {
						l = append(l, id)
					}
				}
			}
			for seed := range uint64(6) {
				f := New()
				for _, id := range mixed(append(append(noIds(), l...), l...), seed) {
					f.Mark(id)
				}
				mustHold(t, f, l)
				mustHold(t, marked(t, mixed(l, seed+50)), l)
			}
		}
	}
}

// P5.1 to P5.4: a front and its twins that go on and on, held against plain lists.
func TestAgainstLists(t *testing.T) {
	roll := dice(12)
	for _, width := range []int{3, 9, 40} {
		fronts := [3]*Front{New(), New(), New()}
		lists := [3][]api.Id{}
		for range 400 {
			which := roll(3)
			switch id := (api.Id{Rep: roll(10) - 1, Slot: roll(width + 1)}); {
			case roll(30) == 0:
				from := roll(3)
				fronts[which], lists[which] = fronts[from].Twin(), lists[from]
			case id.Rep < 0 || id.Rep > 7 || id.Slot < 1:
				if fronts[which].Mark(id) {
					t.Fatalf("Mark of %v, that may not be", id)
				}
			default:
				lists[which] = markOne(t, fronts[which], lists[which], id)
			}
			for i, f := range fronts {
				mustHold(t, f, lists[i])
			}
			if t.Failed() {
				t.FailNow()
			}
		}
	}
}

// P5.2: a list that was handed out goes on by itself, spare room too.
func TestAboveIsNew(t *testing.T) {
	for n := range 20 {
		var l []api.Id
		for i := range n {
			l = append(l, api.Id{Rep: i % 3, Slot: 2 + i})
		}
		f := marked(t, append(slices.Clone(l), upTo(6, 3)...))
		g := f.Twin()
		first, second, twins := f.Above(), f.Above(), g.Above()
		want := slices.Clone(first)
		first = first[:cap(first)]
		for i := range first {
			first[i] = api.Id{Rep: 3, Slot: 33}
		}
		if !slices.Equal(second, want) || !slices.Equal(twins, want) {
			t.Errorf("a list was changed, and others with it: %v and %v, not %v", second, twins, want)
		}
		_ = append(second, api.Id{Rep: 4, Slot: 44})
		mustHold(t, f, append(slices.Clone(l), upTo(6, 3)...))
		mustHold(t, g, append(slices.Clone(l), upTo(6, 3)...))

		// What was told stays, however the front goes on.
		mustMark(t, f, ids([2]int{0, 1}, [2]int{1, 1}, [2]int{1, 2}, [2]int{2, 1}, [2]int{2, 2}, [2]int{7, 1000}))
		if !slices.Equal(second, want) || !slices.Equal(twins, want) {
			t.Errorf("a list changed with its front: %v and %v, not %v", second, twins, want)
		}
	}
}

// P5.2, P5.4: all slots of a replica, the first one last, and then one more that may not be.
func TestWholeReplica(t *testing.T) {
	f := New()
	mustMark(t, f, ids([2]int{0, 1}, [2]int{2, 2}))
	for slot := 1048576; slot > 1; slot-- {
		if !f.Mark(api.Id{Rep: 1, Slot: slot}) {
			t.Fatalf("Mark of slot %d", slot)
		}
	}
	if f.Floor(1) != 0 || f.Len() != 1048577 || len(f.Above()) != 1048576 {
		t.Errorf("all but slot 1: floor %d, Len %d, %d above", f.Floor(1), f.Len(), len(f.Above()))
	}
	mustMark(t, f, of(1, 1))
	mustTell(t, f, [8]int{0: 1, 1: 1048576}, of(2, 2))
	mustTell(t, f.Twin(), [8]int{0: 1, 1: 1048576}, of(2, 2))
	for _, slot := range []int{1, 2, 1048575, 1048576, 1048577, 0} {
		if f.Mark(api.Id{Rep: 1, Slot: slot}) {
			t.Errorf("Mark of slot %d, of a replica whose slots are all marked", slot)
		}
	}
	mustTell(t, f, [8]int{0: 1, 1: 1048576}, of(2, 2))
}
