package vertex

import (
	"fmt"
	"math"
	"slices"
	"testing"
	"unsafe"

	"cortege/api"
)

func of(bits uint64) float64 { return math.Float64frombits(bits) }

func nan() float64       { return of(0x7ff8000000000001) }
func minusZero() float64 { return math.Copysign(0, -1) }

func id(rep, slot int) api.Id { return api.Id{Rep: rep, Slot: slot} }

func ids(l ...api.Id) []api.Id    { return l }
func cmds(l ...api.Cmd) []api.Cmd { return l }

func get(key string) api.Cmd            { return api.Cmd{Kind: api.Get, Key: key} }
func put(key string, f float64) api.Cmd { return api.Cmd{Kind: api.Put, Key: key, Value: f} }
func del(key string) api.Cmd            { return api.Cmd{Kind: api.Delete, Key: key} }
func add(key string, f float64) api.Cmd { return api.Cmd{Kind: api.Add, Key: key, Value: f} }

// rec is a record without commands.
func rec(i api.Id, seq int, deps ...api.Id) api.Record {
	return api.Record{Id: i, Seq: seq, Deps: deps}
}

// doing is a record with these commands.
func doing(r api.Record, l ...api.Cmd) api.Record {
	r.Batch = l
	return r
}

// slots are n ids of a replica, from this slot on.
func slots(rep, first, n int) []api.Id {
	var l []api.Id
	for i := range n {
		l = append(l, id(rep, first+i))
	}
	return l
}

// dice answers numbers from 0 to n - 1 that look like chance, the same ones each time.
func dice(seed uint64) func(n int) int {
	seed = seed*0x9e3779b97f4a7c15 + 1
	return func(n int) int {
		seed = seed*6364136223846793005 + 1442695040888963407
		return int(seed>>33) % n
	}
}

// mixed are l's ids in another order.
func mixed(l []api.Id, seed uint64) []api.Id {
	roll, other := dice(seed), slices.Clone(l)
	for at := range other {
		to := roll(at + 1)
		other[at], other[to] = other[to], other[at]
	}
	return other
}

// turns gives all orders of l.
func turns[T any](l []T) [][]T {
	if len(l) == 0 {
		return [][]T{nil}
	}
	var all [][]T
	for _, rest := range turns(l[1:]) {
		for at := range l {
			all = append(all, slices.Insert(slices.Clone(rest), at, l[0]))
		}
	}
	return all
}

// noReps are replicas that may not be; some of them would be one if they were cut to fewer bits.
func noReps() []int {
	return []int{math.MinInt, -1 << 32, -256, -8, -2, -1, 8, 9, 16, 255, 256, 1 << 16, 1 << 32, 1<<32 + 1, math.MaxInt}
}

// noIds are ids that may not be.
func noIds() []api.Id {
	var l []api.Id
	for _, rep := range noReps() {
		l = append(l, id(rep, 1), id(rep, 2), id(rep, 0), id(rep, math.MaxInt))
	}
	for _, slot := range []int{math.MinInt, -1 << 32, -1, 0, 1<<20 + 1, 1 << 21, 1<<32 + 1, math.MaxInt} {
		l = append(l, id(0, slot), id(1, slot), id(7, slot))
	}
	return l
}

// some are records that may be: with Deps, with commands of all kinds, and at the limits.
func some() []api.Record {
	return []api.Record{
		doing(rec(id(3, 2), 7, id(0, 1), id(1, 9), id(3, 1), id(7, 1<<20)), put("a", 1.5), get("b"), add("c", minusZero()), del("d")),
		doing(rec(id(0, 1), 1<<30, id(3, 2)), put("a", nan()), put("a", math.Inf(-1))),
		rec(id(7, 1<<20), 1),
		doing(rec(id(1, 10), 5, id(0, 1), id(0, 3), id(1, 9), id(2, 1)), slices.Repeat(cmds(add("twelve12char", 0.1)), 8)...),
		rec(id(1, 2), 5, slots(5, 1<<20-15, 16)...),
		doing(rec(id(0, 3), 2), put("z", 0)),
	}
}

// bad is a record, and the error that it has by itself.
type bad struct {
	r    api.Record
	want api.Errno
}

// badOf are records of an id that may be, each of which may not be: of each error one or more, alone and with all that come behind it.
func badOf(i api.Id) []bad {
	nine, odd := slices.Repeat(cmds(get("A")), 9), cmds(get("a"), get("A"))
	return []bad{
		{rec(i, 0), api.ErrSeq}, {rec(i, 1<<30+1), api.ErrSeq}, {rec(i, -1), api.ErrSeq}, {rec(i, math.MaxInt), api.ErrSeq},
		{doing(rec(i, math.MinInt, make([]api.Id, 17)...), nine...), api.ErrSeq},
		{rec(i, 1, slots(6, 100, 17)...), api.ErrDeps}, {doing(rec(i, 1, make([]api.Id, 17)...), nine...), api.ErrDeps},
		{rec(i, 1, id(8, 1)), api.ErrRep}, {doing(rec(i, 1, id(5, 7), id(-1, 0), i, i), nine...), api.ErrRep},
		{rec(i, 1, id(0, 0)), api.ErrSlot}, {doing(rec(i, 1, id(5, 7), id(6, 1<<20+1), i, i), nine...), api.ErrSlot},
		{rec(i, 1, i), api.ErrSelf}, {doing(rec(i, 1, i, i, id(8, 1)), nine...), api.ErrSelf},
		{rec(i, 1, id(6, 6), id(6, 6)), api.ErrOrder}, {rec(i, 1, id(6, 6), id(5, 7)), api.ErrOrder}, {doing(rec(i, 1, id(6, 6), id(6, 5), i), nine...), api.ErrOrder},
		{doing(rec(i, 1), slices.Repeat(cmds(get("a")), 9)...), api.ErrLen}, {doing(rec(i, 1), nine...), api.ErrLen},
		{doing(rec(i, 1), api.Cmd{}), api.ErrCmd}, {doing(rec(i, 1), odd...), api.ErrCmd}, {doing(rec(i, 1), api.Cmd{Kind: api.Get, Key: "a", Value: 1}), api.ErrCmd},
	}
}

// badIds are records whose Id may not be, whatever else is wrong.
func badIds() []bad {
	nine := slices.Repeat(cmds(get("A")), 9)
	return []bad{
		{api.Record{}, api.ErrSlot}, {rec(id(8, 1), 1), api.ErrRep}, {rec(id(-1, 0), 0), api.ErrRep}, {rec(id(1<<32+1, 1), 1), api.ErrRep},
		{doing(rec(id(math.MaxInt, math.MinInt), 0, make([]api.Id, 17)...), nine...), api.ErrRep},
		{rec(id(0, 0), 1), api.ErrSlot}, {rec(id(7, 1<<20+1), 1), api.ErrSlot}, {rec(id(1, -1), 1), api.ErrSlot}, {rec(id(1, 1<<32+1), 1), api.ErrSlot},
		{doing(rec(id(3, -2), 0, make([]api.Id, 17)...), nine...), api.ErrSlot},
	}
}

// allBad are records that may not be, of one id and of none.
func allBad(i api.Id) []bad { return append(badOf(i), badIds()...) }

// others are records of r's Id that differ from it in one thing or more.
func others(r api.Record) []api.Record {
	seq, deps, batch := r, r, r
	seq.Seq = r.Seq%(1<<30) + 1
	deps.Deps = ids(id(6, 1), id(6, 2))
	batch.Batch = cmds(put("other", 1))
	return []api.Record{seq, deps, batch, rec(r.Id, 3), doing(rec(r.Id, 1<<30-1, id(6, 9)), del("x"))}
}

// deep is a record in new memory, with its lists' spare room.
func deep(r api.Record) api.Record {
	r.Deps, r.Batch = slices.Clone(r.Deps[:cap(r.Deps)]), slices.Clone(r.Batch[:cap(r.Batch)])
	return r
}

func equalCmd(a, b api.Cmd) bool {
	return a.Kind == b.Kind && a.Key == b.Key && (math.Float64bits(a.Value) == math.Float64bits(b.Value) || a.Value != a.Value && b.Value != b.Value)
}

// equal tells whether two records are the same, the two zeros told apart.
func equal(a, b api.Record) bool {
	return a.Id == b.Id && a.Seq == b.Seq && slices.Equal(a.Deps, b.Deps) && slices.EqualFunc(a.Batch, b.Batch, equalCmd)
}

// plain is a store as the chapter's words say it, and nothing else: records in the order in which they were put, what is done, and the floors of the last Compact.
type plain struct {
	room      int
	kept      []api.Record
	finished  map[api.Id]bool
	compacted [8]int
}

func plainOf(room int) *plain { return &plain{room: room, finished: map[api.Id]bool{}} }

func (p *plain) record(i api.Id) (api.Record, bool) {
	for _, r := range p.kept {
		if r.Id == i {
			return r, true
		}
	}
	return api.Record{}, false
}

func (p *plain) status(i api.Id) int {
	_, kept := p.record(i)
	switch {
	case kept && p.finished[i]:
		return 2
	case kept:
		return 1
	case p.finished[i]:
		return 3
	}
	return 0
}

func (p *plain) floor(rep int) int {
	floor := 0
	for p.finished[id(rep, floor+1)] {
		floor++
	}
	return floor
}

// put answers what Put must, of a record that has this error by itself.
func (p *plain) put(b bad) api.Errno {
	if b.want != api.OK {
		return b.want
	}
	if b.r.Id.Slot <= p.compacted[b.r.Id.Rep] {
		return api.ErrStale
	}
	if was, kept := p.record(b.r.Id); kept && equal(was, b.r) {
		return api.ErrDup
	} else if kept {
		return api.ErrConflict
	}
	if len(p.kept) == p.room {
		return api.ErrFull
	}
	r := b.r
	r.Deps, r.Batch = slices.Clone(r.Deps), slices.Clone(r.Batch)
	p.kept = append(p.kept, r)
	return api.OK
}

func (p *plain) finish(i api.Id) bool {
	if p.status(i) != 1 {
		return false
	}
	p.finished[i] = true
	return true
}

func (p *plain) compact() int {
	for rep := range 8 {
		p.compacted[rep] = p.floor(rep)
	}
	before := len(p.kept)
	p.kept = slices.DeleteFunc(p.kept, func(r api.Record) bool {
		return p.finished[r.Id] && r.Id.Slot <= p.compacted[r.Id.Rep]
	})
	return before - len(p.kept)
}

// ids are those that are kept, by replica, then by slot.
func (p *plain) ids() []api.Id {
	var l []api.Id
	for _, r := range p.kept {
		l = append(l, r.Id)
	}
	slices.SortFunc(l, func(a, b api.Id) int { return (a.Rep-b.Rep)<<21 + a.Slot - b.Slot })
	return l
}

// mustStore is a store of this room, which must be one.
func mustStore(t *testing.T, room int) *Store {
	t.Helper()
	s, e := New(room)
	if e != api.OK || s == nil {
		t.Fatalf("New of %d: %v, error %d", room, s, int(e))
	}
	return s
}

// mustList holds a list of ids against what it must be.
func mustList(t *testing.T, what string, got []api.Id, want ...api.Id) {
	t.Helper()
	if !slices.Equal(got, want) {
		t.Errorf("%s: %v, not %v", what, got, want)
	}
}

// mustCount holds a number against what it must be.
func mustCount(t *testing.T, what string, got, want int) {
	t.Helper()
	if got != want {
		t.Errorf("%s: %d, not %d", what, got, want)
	}
}

// mustSay holds an error against what it must be.
func mustSay(t *testing.T, what string, got, want api.Errno) {
	t.Helper()
	if got != want {
		t.Errorf("%s: error %d, not %d", what, int(got), int(want))
	}
}

// mustTell holds the status and the record of one id.
func mustTell(t *testing.T, s *Store, p *plain, i api.Id) {
	t.Helper()
	if got, want := s.Status(i), p.status(i); got != want {
		t.Errorf("Status of %v: %d, not %d", i, got, want)
	}
	want, there := p.record(i)
	if got, ok := s.Record(i); ok != there || !equal(got, want) {
		t.Errorf("Record of %v: %v, %v, not %v, %v", i, got, ok, want, there)
	}
}

// mustCounts holds what a store tells of all its records together.
func mustCounts(t *testing.T, s *Store, p *plain) {
	t.Helper()
	mustList(t, "Kept", s.Kept(), p.ids()...)
	mustCount(t, "Free", s.Free(), p.room-len(p.kept))
	for rep := range 8 {
		mustCount(t, fmt.Sprint("Floor of ", rep), s.Floor(rep), p.floor(rep))
	}
}

// mustHold holds all that a store tells.
func mustHold(t *testing.T, s *Store, p *plain) {
	t.Helper()
	mustCounts(t, s, p)
	for _, rep := range noReps() {
		mustCount(t, fmt.Sprint("Floor of ", rep), s.Floor(rep), 0)
	}
	l := append(noIds(), id(0, 1), id(0, 1<<20), id(7, 1), id(7, 1<<20), id(6, 6))
	for _, r := range p.kept {
		l = append(append(l, r.Deps...), r.Id)
	}
	for i := range p.finished {
		l = append(l, i)
	}
	for _, i := range l {
		mustTell(t, s, p, i)
		mustTell(t, s, p, id(i.Rep, i.Slot-1))
		mustTell(t, s, p, id(i.Rep, i.Slot+1))
		mustTell(t, s, p, id(i.Slot, i.Rep))
	}
}

// pair is a store, and what it must tell.
type pair struct {
	s *Store
	p *plain
}

func pairOf(t *testing.T, room int) pair {
	t.Helper()
	return pair{mustStore(t, room), plainOf(room)}
}

// put puts a record that may be into both.
func (x pair) put(t *testing.T, l ...api.Record) {
	t.Helper()
	for _, r := range l {
		mustSay(t, fmt.Sprint("Put of ", r), x.s.Put(r), api.OK)
		x.p.put(bad{r, api.OK})
	}
}

// refuse holds that a record is answered this error, and that nothing has changed then.
func (x pair) refuse(t *testing.T, r api.Record, want api.Errno) {
	t.Helper()
	mustSay(t, fmt.Sprintf("Put of %.300s", fmt.Sprint(r)), x.s.Put(r), want)
	mustHold(t, x.s, x.p)
}

// finish makes records done that were put.
func (x pair) finish(t *testing.T, l ...api.Id) {
	t.Helper()
	for _, i := range l {
		if !x.s.Done(i) || !x.p.finish(i) {
			t.Errorf("Done of %v, which was put: false", i)
		}
		mustCount(t, fmt.Sprint("Status of ", i), x.s.Status(i), 2)
	}
}

// hold holds the store against what it must tell.
func (x pair) hold(t *testing.T) {
	t.Helper()
	mustHold(t, x.s, x.p)
}

// compact compacts both, and holds how many are gone, and P21.5.
func (x pair) compact(t *testing.T, want int) {
	t.Helper()
	before, free, floors := x.s.Kept(), x.s.Free(), [8]int{}
	var left []api.Id
	for rep := range floors {
		floors[rep] = x.s.Floor(rep)
	}
	for _, i := range before {
		if x.s.Status(i) == 1 || i.Slot > floors[i.Rep] {
			left = append(left, i)
		}
	}
	n := x.s.Compact()
	mustCount(t, "Compact", n, want)
	mustCount(t, "Compact of what must be told", x.p.compact(), want)
	mustList(t, "Kept behind Compact", x.s.Kept(), left...)
	mustCount(t, "Free behind Compact", x.s.Free(), free+n)
	for rep, floor := range floors {
		mustCount(t, "a floor behind Compact", x.s.Floor(rep), floor)
	}
	x.hold(t)
}

// made is a store of this room, into which ids were put, and some of which are done.
func made(t *testing.T, room int, l []api.Id, finished ...api.Id) pair {
	t.Helper()
	x := pairOf(t, room)
	for at, i := range l {
		x.put(t, rec(i, 1+at))
	}
	x.finish(t, finished...)
	x.hold(t)
	return x
}

// The chapter's example.
func TestExample(t *testing.T) {
	x := pairOf(t, 3)
	r := rec(id(1, 1), 1)
	x.put(t, r)
	x.finish(t, r.Id)
	x.compact(t, 1)
	mustCount(t, "Status", x.s.Status(r.Id), 3)
	x.refuse(t, r, api.ErrStale)
}

// P21.1: a room from 1 to 4096 is one, and all of it can be used; another one is none.
func TestNew(t *testing.T) {
	for _, room := range []int{1, 2, 3, 100, 4095, 4096} {
		x := pairOf(t, room)
		mustCount(t, "Free", x.s.Free(), room)
		x.hold(t)
		for slot := range room {
			x.put(t, rec(id(slot%8, 1+slot/8), 1))
		}
		mustCount(t, "Free of what is full", x.s.Free(), 0)
		mustSay(t, "Put into what is full", x.s.Put(rec(id(0, 1<<20), 1)), api.ErrFull)
		mustCounts(t, x.s, x.p)
	}
	for _, room := range []int{0, 4097, 4098, 8192, -1, -2, -4096, 1 << 32, 1<<32 + 1, -1<<32 + 1, 1<<16 + 1, math.MinInt, math.MinInt + 1, math.MaxInt} {
		if s, e := New(room); s != nil || e != api.ErrArg {
			t.Errorf("New of %d: %v, error %d, not nil, %d", room, s, int(e), int(api.ErrArg))
		}
	}
}

// P21.2 to P21.4: a nil store, and what comes with an error, has nothing, and takes nothing.
func TestNil(t *testing.T) {
	none, _ := New(0)
	for _, s := range []*Store{nil, none} {
		for range 3 {
			for _, r := range some() {
				mustSay(t, "Put into nil", s.Put(r), api.ErrNil)
			}
			for _, b := range allBad(id(4, 4)) {
				mustSay(t, "Put into nil of what may not be", s.Put(b.r), api.ErrNil)
			}
			for _, i := range append(noIds(), id(0, 1), id(3, 2), id(7, 1<<20)) {
				if s.Done(i) {
					t.Error("Done of nil:", i)
				}
			}
			mustCount(t, "Compact of nil", s.Compact(), 0)
			mustHold(t, s, plainOf(0))
		}
	}
}

// P21.2, P21.3: a record that was put is there, with all that it has.
func TestPut(t *testing.T) {
	for _, turn := range turns(some()) {
		x := pairOf(t, 6)
		for _, r := range turn {
			mustCount(t, "Status ahead of Put", x.s.Status(r.Id), 0)
			x.put(t, r)
			mustCount(t, "Status behind Put", x.s.Status(r.Id), 1)
		}
		x.hold(t)
		if t.Failed() {
			t.Fatalf("in the order %v", turn)
		}
	}
}

// P21.2: each error that a record has by itself stands ahead of all others: of a kept Id, a done one, a gone one, of a room that is used up.
func TestPutOfBad(t *testing.T) {
	l := ids(id(1, 1), id(1, 2), id(1, 3), id(2, 2))
	for _, room := range []int{4, 5} {
		x := made(t, room, l, l[0], l[1], l[3])
		for _, i := range append(l, id(4, 4), id(1, 4)) {
			for _, b := range allBad(i) {
				x.refuse(t, b.r, b.want)
			}
		}
		x.compact(t, 2)
		x.put(t, rec(id(4, 1), 1), rec(id(4, 2), 1))
		for _, i := range append(l, id(4, 1), id(4, 4)) {
			for _, b := range allBad(i) {
				x.refuse(t, b.r, b.want)
			}
		}
	}
}

// P21.2: a Slot at the compaction floor or below is stale, whatever the record; one above it is not.
func TestStale(t *testing.T) {
	const floor = 5
	x := made(t, 20, slots(1, 1, floor), slots(1, 1, floor)...)
	x.compact(t, floor)
	for slot := 1; slot <= floor; slot++ {
		r := rec(id(1, slot), slot)
		for _, other := range append(others(r), r) {
			x.refuse(t, other, api.ErrStale)
		}
	}
	x.put(t, rec(id(1, floor+1), 1))
	x.refuse(t, rec(id(1, floor), floor), api.ErrStale)
	// Another replica's floor is another one.
	for rep := range 8 {
		if rep != 1 {
			x.put(t, rec(id(rep, 1), 1), rec(id(rep, floor), 1))
		}
	}
	x.hold(t)
}

// P21.2: a floor that has risen since the last Compact makes nothing stale.
func TestNotStaleAheadOfCompact(t *testing.T) {
	l := slots(1, 1, 4)
	x := made(t, 4, l, l[:2]...)
	mustCount(t, "Floor", x.s.Floor(1), 2)
	x.refuse(t, rec(l[0], 1), api.ErrDup)
	x.refuse(t, rec(l[1], 3), api.ErrConflict)
	x.compact(t, 2)
	x.finish(t, l[2:]...)
	mustCount(t, "Floor", x.s.Floor(1), 4)
	x.refuse(t, rec(l[0], 1), api.ErrStale)
	x.refuse(t, rec(l[1], 2), api.ErrStale)
	x.refuse(t, rec(l[2], 3), api.ErrDup)
	x.refuse(t, rec(l[3], 3), api.ErrConflict)
	x.put(t, rec(id(1, 5), 1), rec(id(1, 6), 1))
	x.compact(t, 2)
	x.refuse(t, rec(l[2], 3), api.ErrStale)
	x.refuse(t, rec(l[3], 4), api.ErrStale)
	x.refuse(t, rec(id(1, 5), 1), api.ErrDup)
}

// P21.2: the same record again, and another one of its Id, when it was put, when it is done, when a Compact left it, and when it is gone.
func TestDupAndConflict(t *testing.T) {
	for _, first := range some() {
		for _, room := range []int{1, 5} {
			x := pairOf(t, room)
			x.put(t, first)
			for _, step := range []func(){func() {}, func() { x.finish(t, first.Id) }, func() { x.s.Compact(); x.p.compact() }} {
				step()
				same, other := api.ErrDup, api.ErrConflict
				if x.p.status(first.Id) == 3 {
					same, other = api.ErrStale, api.ErrStale
				}
				for range 2 {
					x.refuse(t, deep(first), same)
					for _, r := range others(first) {
						x.refuse(t, r, other)
					}
				}
			}
		}
	}
}

// P21.2: what differs in one command, one Dep, or one number is another record.
func TestNearlyTheSame(t *testing.T) {
	first := doing(rec(id(1, 1), 4, id(0, 1), id(0, 2)), put("a", 1), get("b"))
	x := pairOf(t, 1)
	x.put(t, first)
	for _, near := range []api.Record{
		doing(rec(id(1, 1), 5, id(0, 1), id(0, 2)), put("a", 1), get("b")),
		doing(rec(id(1, 1), 4, id(0, 1)), put("a", 1), get("b")),
		doing(rec(id(1, 1), 4, id(0, 1), id(0, 3)), put("a", 1), get("b")),
		doing(rec(id(1, 1), 4, id(0, 1), id(0, 2), id(0, 3)), put("a", 1), get("b")),
		doing(rec(id(1, 1), 4, id(0, 1), id(0, 2)), put("a", 1)),
		doing(rec(id(1, 1), 4, id(0, 1), id(0, 2)), get("b"), put("a", 1)),
		doing(rec(id(1, 1), 4, id(0, 1), id(0, 2)), add("a", 1), get("b")),
		doing(rec(id(1, 1), 4, id(0, 1), id(0, 2)), put("b", 1), get("b")),
		doing(rec(id(1, 1), 4, id(0, 1), id(0, 2)), put("a", 1.0000000000000002), get("b")),
		doing(rec(id(1, 1), 4, id(0, 1), id(0, 2)), put("a", 1), get("b"), get("b")),
	} {
		x.refuse(t, near, api.ErrConflict)
	}
	x.refuse(t, first, api.ErrDup)
}

// P21.2: all NaNs are one, and the two zeros are two; lists without an element are the same, nil or empty.
func TestNumbersAgain(t *testing.T) {
	numbers := []float64{nan(), of(0x7ff0000000000001), of(0xffffffffffffffff), of(0x7ff8000000000000), 0, minusZero(), 1, -1, math.Inf(1), math.Inf(-1), math.SmallestNonzeroFloat64}
	for a, one := range numbers {
		for b, other := range numbers {
			want := api.ErrConflict
			if a == b || a < 4 && b < 4 {
				want = api.ErrDup
			}
			for _, kind := range []func(string, float64) api.Cmd{put, add} {
				x := pairOf(t, 2)
				x.put(t, doing(rec(id(1, 1), 1), kind("a", one)))
				x.refuse(t, doing(rec(id(1, 1), 1), kind("a", other)), want)
				x.finish(t, id(1, 1))
				x.refuse(t, doing(rec(id(1, 1), 1), kind("a", other)), want)
			}
		}
	}
	x := pairOf(t, 2)
	x.put(t, rec(id(1, 1), 1), api.Record{Id: id(1, 2), Seq: 1, Deps: []api.Id{}, Batch: []api.Cmd{}})
	x.refuse(t, api.Record{Id: id(1, 1), Seq: 1, Deps: []api.Id{}, Batch: []api.Cmd{}}, api.ErrDup)
	x.refuse(t, rec(id(1, 2), 1), api.ErrDup)
}

// P21.2: behind a room that is used up nothing is taken, and what is kept or gone is told as such.
func TestFull(t *testing.T) {
	for room := 1; room <= 5; room++ {
		x := pairOf(t, room)
		x.put(t, rec(id(2, 1), 1))
		x.finish(t, id(2, 1))
		x.compact(t, 1)
		for slot := 1; slot <= room; slot++ {
			x.put(t, rec(id(1, slot), slot))
		}
		for range 2 {
			mustCount(t, "Free", x.s.Free(), 0)
			for _, i := range ids(id(1, room+1), id(2, 2), id(0, 1), id(7, 1<<20)) {
				x.refuse(t, rec(i, 1), api.ErrFull)
			}
			for slot := 1; slot <= room; slot++ {
				x.refuse(t, rec(id(1, slot), slot), api.ErrDup)
				x.refuse(t, rec(id(1, slot), slot+1), api.ErrConflict)
			}
			x.refuse(t, rec(id(2, 1), 1), api.ErrStale)
			x.refuse(t, rec(id(1, room+1), 0), api.ErrSeq)
			// What is done is kept, and takes room, till it is compacted.
			for slot := 1; slot <= room; slot++ {
				if x.p.status(id(1, slot)) == 1 {
					x.finish(t, id(1, slot))
				}
			}
		}
		x.compact(t, room)
		mustCount(t, "Free", x.s.Free(), room)
		x.put(t, rec(id(1, room+1), 1))
	}
}

// P21.2, P21.4: room that Compact gave back is used again, as often as that comes.
func TestRoomIsUsedAgain(t *testing.T) {
	for _, room := range []int{1, 2, 7} {
		s := mustStore(t, room)
		for round := range 300 {
			for at := range room {
				mustSay(t, "Put", s.Put(rec(id(5, 1+round*room+at), 1)), api.OK)
			}
			mustSay(t, "Put of one more", s.Put(rec(id(5, 1+(round+1)*room), 1)), api.ErrFull)
			for at := range room {
				if !s.Done(id(5, (round+1)*room-at)) {
					t.Fatal("Done: false, in the round", round)
				}
			}
			mustCount(t, "Free ahead of Compact", s.Free(), 0)
			mustCount(t, "Compact", s.Compact(), room)
			mustCount(t, "Free behind Compact", s.Free(), room)
			mustCount(t, "Floor", s.Floor(5), (round+1)*room)
		}
	}
}

// P21.3: Done of what was put, once; of all else nothing is done.
func TestDone(t *testing.T) {
	l := ids(id(1, 1), id(1, 2), id(2, 1), id(3, 4), id(0, 1))
	x := made(t, 6, l)
	no := append(noIds(), id(1, 3), id(2, 2), id(3, 1), id(3, 3), id(3, 5), id(4, 3), id(0, 2), id(7, 1<<20), id(1, 0))
	refuse := func(all ...api.Id) {
		for _, i := range all {
			if x.s.Done(i) {
				t.Errorf("Done of %v: true", i)
			}
			x.hold(t)
		}
	}
	refuse(no...)
	for at, i := range l {
		x.finish(t, i)
		x.hold(t)
		refuse(i)
		refuse(l[:at]...)
	}
	refuse(no...)
	x.compact(t, 4)
	refuse(l...)
	refuse(no...)
	// One that was told false is not done when it is put later.
	x.put(t, rec(id(1, 3), 1), rec(id(3, 1), 1))
	mustCount(t, "Status", x.s.Status(id(1, 3)), 1)
	mustCount(t, "Floor", x.s.Floor(1), 2)
	x.finish(t, id(1, 3), id(3, 1))
	x.hold(t)
}

// P21.3: the status goes from 0 to 3, step by step.
func TestStatus(t *testing.T) {
	for _, i := range ids(id(0, 1), id(3, 1), id(7, 1)) {
		x := pairOf(t, 2)
		want := func(n int) {
			t.Helper()
			for range 3 {
				mustCount(t, "Status", x.s.Status(i), n)
				x.hold(t)
			}
		}
		want(0)
		x.put(t, rec(i, 1))
		want(1)
		x.compact(t, 0)
		want(1)
		x.finish(t, i)
		want(2)
		x.compact(t, 1)
		want(3)
		x.compact(t, 0)
		want(3)
	}
	// One that a gap keeps stays done, however often it is compacted.
	x := made(t, 2, ids(id(1, 2)), id(1, 2))
	for range 3 {
		x.compact(t, 0)
		mustCount(t, "Status", x.s.Status(id(1, 2)), 2)
	}
}

// P21.3: the record that is kept, put or done, and none that is not there or gone.
func TestRecord(t *testing.T) {
	x := pairOf(t, 10)
	x.put(t, some()...)
	for _, want := range some() {
		for range 2 {
			if got, ok := x.s.Record(want.Id); !ok || !equal(got, want) {
				t.Errorf("Record of %v: %v, %v, not %v", want.Id, got, ok, want)
			}
			x.s.Done(want.Id)
			x.p.finish(want.Id)
		}
	}
	// Just 0.1 stands without a gap.
	x.compact(t, 1)
	if r, ok := x.s.Record(id(0, 1)); ok || !equal(r, api.Record{}) {
		t.Errorf("Record of what is gone: %v, %v", r, ok)
	}
	for _, f := range []float64{0, minusZero(), 1, -0.1, math.MaxFloat64, math.Inf(1), math.Inf(-1), nan(), of(0x7ff0000000000001)} {
		y := pairOf(t, 1)
		y.put(t, doing(rec(id(1, 1), 1), put("a", f), add("b", f)))
		y.hold(t)
	}
}

// P21.4: nothing put, nothing done, and again at once: none is gone.
func TestCompactOfNothing(t *testing.T) {
	x := pairOf(t, 5)
	x.compact(t, 0)
	x.put(t, rec(id(1, 1), 1), rec(id(1, 2), 1), rec(id(2, 2), 1))
	x.compact(t, 0)
	x.finish(t, id(1, 2), id(2, 2))
	x.compact(t, 0)
	x.finish(t, id(1, 1))
	x.compact(t, 2)
	x.compact(t, 0)
	x.compact(t, 0)
}

// P21.4: those that are done above a gap stay, and are gone when the gap is done and compacted; records that are not done stay.
func TestCompactAndGaps(t *testing.T) {
	x := made(t, 9, slots(1, 1, 7), id(1, 1), id(1, 2), id(1, 4), id(1, 6))
	x.compact(t, 2)
	mustList(t, "Kept", x.s.Kept(), slots(1, 3, 5)...)
	mustCount(t, "Status above a gap", x.s.Status(id(1, 4)), 2)
	mustCount(t, "Status of the gap", x.s.Status(id(1, 3)), 1)
	x.finish(t, id(1, 3))
	mustCount(t, "Floor", x.s.Floor(1), 4)
	mustCount(t, "Free", x.s.Free(), 4)
	x.compact(t, 2)
	mustList(t, "Kept", x.s.Kept(), slots(1, 5, 3)...)
	x.finish(t, id(1, 7))
	x.compact(t, 0)
	x.finish(t, id(1, 5))
	x.compact(t, 3)
	mustList(t, "Kept", x.s.Kept())
	// A gap that was not even put keeps those above it, too.
	x.put(t, rec(id(1, 9), 1), rec(id(1, 10), 1))
	x.finish(t, id(1, 9), id(1, 10))
	x.compact(t, 0)
	x.put(t, rec(id(1, 8), 1))
	x.compact(t, 0)
	x.finish(t, id(1, 8))
	x.compact(t, 3)
	mustCount(t, "Floor", x.s.Floor(1), 10)
}

// P21.4: each replica has its own floor, and its gaps are its own.
func TestCompactOfSeveral(t *testing.T) {
	var l, finished []api.Id
	for rep := range 8 {
		l = append(l, slots(rep, 1, 8)...)
		finished = append(finished, slots(rep, 1, rep)...)
		if rep < 6 {
			finished = append(finished, id(rep, rep+2))
		}
	}
	x := made(t, 64, mixed(l, 1), mixed(finished, 2)...)
	for rep := range 8 {
		mustCount(t, "Floor", x.s.Floor(rep), rep)
	}
	x.compact(t, 0+1+2+3+4+5+6+7)
	for rep := range 8 {
		mustCount(t, "Floor", x.s.Floor(rep), rep)
		x.put(t, rec(id(rep, 9+rep), 1))
		if rep > 0 {
			x.refuse(t, rec(id(rep, rep), 1), api.ErrStale)
		}
	}
	// The gap of one is done: those above it are gone, and no other one's.
	x.finish(t, id(3, 4))
	x.compact(t, 2)
	mustCount(t, "Floor", x.s.Floor(3), 5)
}

// P21.4, P21.5: ids done in any order, compacted behind any of them: the same is gone in the end, and the floors are the same.
func TestDoneInAnyOrder(t *testing.T) {
	l := append(slots(1, 1, 4), id(2, 1))
	for _, turn := range turns(l) {
		for when := range 1 << len(l) {
			x := pairOf(t, 6)
			for at, i := range l {
				x.put(t, rec(i, 1+at))
			}
			x.put(t, rec(id(1, 6), 9))
			taken := 0
			for at, i := range turn {
				x.finish(t, i)
				if when>>at&1 == 1 {
					n := x.s.Compact()
					mustCount(t, "Compact", n, x.p.compact())
					taken += n
					mustCounts(t, x.s, x.p)
				}
			}
			n := x.s.Compact()
			mustCount(t, "Compact in the end", n, x.p.compact())
			mustCount(t, "all that are gone", taken+n, len(l))
			mustList(t, "Kept", x.s.Kept(), id(1, 6))
			mustCount(t, "Floor of 1", x.s.Floor(1), 4)
			mustCount(t, "Floor of 2", x.s.Floor(2), 1)
			if t.Failed() {
				t.Fatalf("in the order %v, compacted behind %b", turn, when)
			}
		}
	}
}

// P21.4: Kept is in order by replica, then by slot, as numbers, whatever the order of the Puts and the Seqs.
func TestKept(t *testing.T) {
	want := ids(id(0, 2), id(0, 10), id(0, 1<<20), id(1, 1), id(2, 9), id(7, 3))
	for _, turn := range turns(want) {
		x := pairOf(t, 6)
		for at, i := range turn {
			x.put(t, rec(i, 10-at))
		}
		mustList(t, "Kept", x.s.Kept(), want...)
		x.finish(t, turn[:3]...)
		mustList(t, "Kept, some done", x.s.Kept(), want...)
		x.s.Compact()
		mustList(t, "Kept behind Compact", x.s.Kept(), slices.DeleteFunc(slices.Clone(want), func(i api.Id) bool {
			return i == id(1, 1) && slices.Contains(turn[:3], i)
		})...)
	}
}

// P21.4: the room less those that are kept, done ones too.
func TestFree(t *testing.T) {
	x := pairOf(t, 5)
	mustCount(t, "Free", x.s.Free(), 5)
	for slot := 1; slot <= 4; slot++ {
		x.put(t, rec(id(1, slot), 1))
		mustCount(t, "Free behind Put", x.s.Free(), 5-slot)
		x.refuse(t, rec(id(1, slot), 1), api.ErrDup)
		mustCount(t, "Free behind an error", x.s.Free(), 5-slot)
	}
	x.finish(t, id(1, 1), id(1, 2), id(1, 4))
	mustCount(t, "Free behind Done", x.s.Free(), 1)
	x.compact(t, 2)
	mustCount(t, "Free behind Compact", x.s.Free(), 3)
}

// P21.4: the first slot that is not done ends the floor; what is gone counts; it does not wait for Compact.
func TestFloor(t *testing.T) {
	x := made(t, 10, slots(4, 1, 6))
	floor := func(want int) {
		t.Helper()
		mustCount(t, "Floor", x.s.Floor(4), want)
		x.hold(t)
	}
	floor(0)
	x.finish(t, id(4, 2))
	floor(0)
	x.finish(t, id(4, 1))
	floor(2)
	x.finish(t, id(4, 5), id(4, 4))
	floor(2)
	x.compact(t, 2)
	floor(2)
	x.finish(t, id(4, 3))
	floor(5)
	x.compact(t, 3)
	floor(5)
	x.finish(t, id(4, 6))
	floor(6)
	for _, rep := range append(noReps(), 0, 1, 2, 3, 5, 6, 7) {
		mustCount(t, fmt.Sprint("Floor of ", rep), x.s.Floor(rep), 0)
	}
}

// steps does what the digits of n say: puts, makes done and compacts, and holds each answer.
func (x pair) steps(t *testing.T, l []api.Record, n, count int) {
	for range count {
		what := n % (2*len(l) + 1)
		n /= 2*len(l) + 1
		switch at := what / 2; {
		case what == 2*len(l):
			if got, want := x.s.Compact(), x.p.compact(); got != want {
				t.Errorf("Compact: %d, not %d", got, want)
			}
		case what%2 == 0:
			if got, want := x.s.Put(l[at]), x.p.put(bad{l[at], api.OK}); got != want {
				t.Errorf("Put of %v: error %d, not %d", l[at], int(got), int(want))
			}
		default:
			if got, want := x.s.Done(l[at].Id), x.p.finish(l[at].Id); got != want {
				t.Errorf("Done of %v: %v, not %v", l[at].Id, got, want)
			}
		}
	}
}

// P21.2 to P21.5: all ways in which a few records are put, made done and compacted, with too little room and with enough.
func TestAllOrders(t *testing.T) {
	for _, l := range [][]api.Record{
		{rec(id(1, 1), 1), rec(id(1, 2), 1), rec(id(1, 3), 1)},
		{rec(id(1, 1), 1), rec(id(1, 2), 1), rec(id(2, 1), 1)},
		{rec(id(1, 1), 1), rec(id(1, 1), 2), rec(id(1, 2), 1)},
	} {
		for _, room := range []int{1, 2, 3} {
			all := 1
			for range 6 {
				all *= 2*len(l) + 1
			}
			for n := range all {
				x := pair{mustStore(t, room), plainOf(room)}
				x.steps(t, l, n, 6)
				for _, r := range l {
					mustTell(t, x.s, x.p, r.Id)
				}
				mustCounts(t, x.s, x.p)
				if t.Failed() {
					t.Fatalf("room %d, %v, way %d", room, l, n)
				}
			}
		}
	}
}

// randomRecord is a record of few ids, that may be.
func randomRecord(roll func(n int) int) api.Record {
	r := rec(id(roll(3), 1+roll(7)), 1+roll(2))
	if dep := id(3, 1+roll(2)); roll(3) == 0 {
		r.Deps = ids(dep)
	}
	if roll(3) == 0 {
		r.Batch = cmds(put("a", []float64{0, minusZero(), nan(), of(0x7ff0000000000001)}[roll(4)]))
	}
	return r
}

// P21.1 to P21.5: histories of chance, with records that may not be, and others of an Id, against what must be told of them.
func TestOfChance(t *testing.T) {
	answers := map[api.Errno]int{}
	for seed := range uint64(2000) {
		roll := dice(seed)
		x := pairOf(t, 1+roll(8))
		for range 10 + roll(70) {
			switch roll(8) {
			case 0:
				x.compact(t, plainTwin(x.p).compact())
			case 1, 2, 3:
				i := id(roll(3), 1+roll(7))
				if got, want := x.s.Done(i), x.p.finish(i); got != want {
					t.Errorf("Done of %v: %v, not %v", i, got, want)
				}
			default:
				b := bad{randomRecord(roll), api.OK}
				if roll(12) == 0 {
					all := allBad(b.r.Id)
					b = all[roll(len(all))]
				}
				got, want := x.s.Put(b.r), x.p.put(b)
				mustSay(t, fmt.Sprint("Put of ", b.r), got, want)
				answers[want]++
			}
			mustCounts(t, x.s, x.p)
		}
		x.hold(t)
		if t.Failed() {
			t.Fatal("seed", seed)
		}
	}
	for _, e := range []api.Errno{api.OK, api.ErrRep, api.ErrSlot, api.ErrSeq, api.ErrDeps, api.ErrSelf, api.ErrOrder, api.ErrLen, api.ErrCmd, api.ErrStale, api.ErrDup, api.ErrConflict, api.ErrFull} {
		if answers[e] < 50 {
			t.Errorf("error %d came just %d times", int(e), answers[e])
		}
	}
}

// plainTwin is the same, to be asked ahead.
func plainTwin(p *plain) *plain {
	twin := *p
	twin.kept = slices.Clone(p.kept)
	return &twin
}

// The same call answers the same, as often as it is made, of one store and of many with one history.
func TestAgainAndAgain(t *testing.T) {
	l := append(slots(1, 1, 9), slots(4, 1, 9)...)
	for seed := range uint64(30) {
		x := made(t, 20, mixed(l, seed), slots(4, 2, 5)...)
		x.finish(t, mixed(slots(1, 1, 5), seed)...)
		x.compact(t, 5)
		for range 5 {
			x.hold(t)
			x.refuse(t, rec(id(1, 5), 99), api.ErrStale)
			x.refuse(t, rec(id(1, 6), 99), api.ErrConflict)
		}
		mustList(t, "Kept", x.s.Kept(), append(slots(1, 6, 4), slots(4, 1, 9)...)...)
	}
}

// Two stores do not know of each other.
func TestTwoStores(t *testing.T) {
	x, y := pairOf(t, 3), pairOf(t, 2)
	x.put(t, rec(id(1, 1), 1))
	y.hold(t)
	y.put(t, rec(id(1, 1), 2), rec(id(1, 2), 1))
	x.finish(t, id(1, 1))
	y.hold(t)
	x.compact(t, 1)
	y.hold(t)
	mustCount(t, "Status in the other one", y.s.Status(id(1, 1)), 1)
	y.refuse(t, rec(id(1, 1), 1), api.ErrConflict)
	y.finish(t, id(1, 2))
	x.hold(t)
	x.put(t, rec(id(1, 2), 1))
	y.compact(t, 0)
	x.hold(t)
}

// spoilIds writes all over a list of ids, its spare room too.
func spoilIds(l []api.Id) {
	l = l[:cap(l)]
	for at := range l {
		l[at] = id(99, -99)
	}
}

// spoil writes all over a record's lists, their spare room too.
func spoil(r api.Record) {
	spoilIds(r.Deps)
	l := r.Batch[:cap(r.Batch)]
	for at := range l {
		l[at] = api.Cmd{Kind: -7, Key: "spoilt", Value: -8}
	}
}

// roomy are some's records with spare room behind each of their lists, and what stands in it.
func roomy() []api.Record {
	var all []api.Record
	for _, r := range some() {
		deps := slices.Concat(ids(id(9, 9)), r.Deps, ids(id(0, 2), id(-1, -1)))
		batch := slices.Concat(cmds(api.Cmd{Kind: 9}), r.Batch, cmds(put("behind", of(0xffffffffffffffff)), api.Cmd{Kind: 8, Key: "?"}))
		r.Deps, r.Batch = deps[1:1+len(r.Deps)], batch[1:1+len(r.Batch)]
		all = append(all, r)
	}
	return all
}

// What Put is handed is as it was, its spare room too, with an error and without.
func TestArgumentsStay(t *testing.T) {
	all, as := roomy(), roomy()
	x := pairOf(t, 5)
	x.put(t, all[:5]...)
	x.refuse(t, all[5], api.ErrFull)
	x.refuse(t, all[0], api.ErrDup)
	conflict := all[1]
	conflict.Seq--
	x.refuse(t, conflict, api.ErrConflict)
	x.finish(t, id(0, 1))
	x.compact(t, 1)
	x.refuse(t, all[1], api.ErrStale)
	for _, i := range x.s.Kept() {
		r, _ := x.s.Record(i)
		spoil(r)
	}
	for at, r := range all {
		if !equal(deep(r), deep(as[at])) || len(r.Deps) != len(as[at].Deps) || len(r.Batch) != len(as[at].Batch) {
			t.Errorf("the record %d became %v", at, r)
		}
	}
}

// What Put is handed is not kept: writing into it later changes nothing that the store tells.
func TestArgumentsAreNotKept(t *testing.T) {
	all := roomy()
	x := pairOf(t, 6)
	for at, r := range all {
		mustSay(t, "Put", x.s.Put(r), api.OK)
		x.p.put(bad{some()[at], api.OK})
		spoil(r)
		x.hold(t)
	}
	for _, r := range some() {
		x.refuse(t, r, api.ErrDup)
		x.finish(t, r.Id)
	}
	x.hold(t)
	// One list that two records share is each one's own in the store.
	deps, batch := ids(id(0, 1), id(0, 2)), cmds(put("a", 1))
	y := pairOf(t, 2)
	y.put(t, api.Record{Id: id(1, 1), Seq: 1, Deps: deps, Batch: batch}, api.Record{Id: id(1, 2), Seq: 2, Deps: deps, Batch: batch})
	r, _ := y.s.Record(id(1, 1))
	spoil(r)
	y.hold(t)
	deps[0], batch[0] = id(0, 0), del("b")
	y.hold(t)
}

// What is refused is not kept, either: a record that a later one is held against stays the first one.
func TestRefusedIsNotKept(t *testing.T) {
	x := pairOf(t, 1)
	x.put(t, some()[0])
	for _, other := range others(some()[0]) {
		x.refuse(t, other, api.ErrConflict)
		x.refuse(t, other, api.ErrConflict)
		x.refuse(t, some()[0], api.ErrDup)
	}
	x.refuse(t, some()[1], api.ErrFull)
	x.refuse(t, some()[1], api.ErrFull)
	mustCount(t, "Status", x.s.Status(some()[1].Id), 0)
}

// deps are those that the store tells of an id's record.
func (x pair) deps(i api.Id) []api.Id {
	r, _ := x.s.Record(i)
	return r.Deps
}

// What Record and Kept hand out is new, and so is each list in it: writing into it, its spare room too, changes no later answer, and none that was handed out.
func TestAnswersAreNew(t *testing.T) {
	for n := range 41 {
		x := pairOf(t, 50)
		for at := range n {
			x.put(t, doing(rec(id(1, 40-at), 1, slots(2, 1+at, at%17)...), slices.Repeat(cmds(add("x", 1)), at%9)...))
		}
		before := x.s.Kept()
		spoilIds(x.s.Kept())
		x.hold(t)
		for _, want := range x.p.kept {
			r, _ := x.s.Record(want.Id)
			other, _ := x.s.Record(want.Id)
			spoil(r)
			if !equal(other, want) {
				t.Errorf("the record of %v became %v", want.Id, other)
			}
			one, two := append(other.Deps, id(5, 1)), append(x.deps(want.Id), id(5, 2))
			mustList(t, "Deps that grew", one, append(slices.Clone(want.Deps), id(5, 1))...)
			mustList(t, "Deps that grew", two, append(slices.Clone(want.Deps), id(5, 2))...)
			x.refuse(t, want, api.ErrDup)
		}
		one, other := append(x.s.Kept(), id(5, 1)), append(x.s.Kept(), id(5, 2))
		mustList(t, "Kept that grew", one, append(x.p.ids(), id(5, 1))...)
		mustList(t, "Kept that grew", other, append(x.p.ids(), id(5, 2))...)
		mustList(t, "Kept told before", before, x.p.ids()...)
		if t.Failed() {
			t.Fatal("with so many records:", n)
		}
	}
}

// What was handed out stays as it is, whatever the store does then.
func TestAnswersStay(t *testing.T) {
	x := pairOf(t, 6)
	x.put(t, some()...)
	list := x.s.Kept()
	want := slices.Clone(list)
	r, _ := x.s.Record(id(0, 1))
	x.finish(t, id(0, 1))
	x.compact(t, 1)
	x.put(t, rec(id(0, 2), 1))
	mustList(t, "Kept", list, want...)
	if !equal(r, some()[1]) {
		t.Errorf("the record became %v", r)
	}
}

// A store does not keep the text of which a key may be a piece.
func TestKeysAreNotKept(t *testing.T) {
	text := "somelongertext"
	s := mustStore(t, 1)
	mustSay(t, "Put", s.Put(doing(rec(id(1, 1), 1), get(text[4:10]), put(text[10:], 1))), api.OK)
	// No answer tells it, so the store is looked into.
	for at, piece := range []string{text[4:10], text[10:]} {
		if key := s.records[id(1, 1)].Batch[at].Key; key != piece || unsafe.StringData(key) == unsafe.StringData(piece) {
			t.Errorf("the key %q is the one that came, or is not %q", key, piece)
		}
	}
}

// A store with as many records as may be goes through, put and done in orders of chance.
func TestMany(t *testing.T) {
	var l []api.Id
	for rep := range 8 {
		l = append(l, slots(rep, 1, 512)...)
	}
	x := pairOf(t, 4096)
	for _, i := range mixed(l, 3) {
		x.put(t, rec(i, 1+i.Slot, id(i.Rep, i.Slot+1)))
	}
	mustCount(t, "Free", x.s.Free(), 0)
	mustList(t, "Kept", x.s.Kept(), l...)
	mustSay(t, "Put of one more", x.s.Put(rec(id(0, 513), 1)), api.ErrFull)
	gone := 0
	for at, i := range mixed(l, 4) {
		if !x.s.Done(i) || !x.p.finish(i) {
			t.Fatalf("Done of %v: false", i)
		}
		if at%256 == 255 {
			n := x.s.Compact()
			mustCount(t, "Compact", n, x.p.compact())
			gone += n
			mustCounts(t, x.s, x.p)
		}
	}
	mustCount(t, "all that are gone", gone, 4096)
	for rep := range 8 {
		mustCount(t, "Floor", x.s.Floor(rep), 512)
	}
	mustSay(t, "Put of one that is gone", x.s.Put(rec(id(7, 512), 1)), api.ErrStale)
	x.put(t, rec(id(7, 513), 1))
}

// All slots of a replica are put, done and compacted, up to the last one.
func TestAllSlots(t *testing.T) {
	s := mustStore(t, 4096)
	for first := 0; first < 1<<20; first += 4096 {
		for slot := first + 4096; slot > first; slot-- {
			if e := s.Put(rec(id(6, slot), 1)); e != api.OK || !s.Done(id(6, slot)) {
				t.Fatalf("Put of the slot %d: error %d, or Done: false", slot, int(e))
			}
		}
		if n := s.Compact(); n != 4096 || s.Free() != 4096 || s.Floor(6) != first+4096 {
			t.Fatalf("Compact: %d, Free %d, Floor %d", n, s.Free(), s.Floor(6))
		}
	}
	for _, slot := range []int{1, 2, 1 << 19, 1<<20 - 1, 1 << 20} {
		mustCount(t, "Status", s.Status(id(6, slot)), 3)
		mustSay(t, "Put", s.Put(rec(id(6, slot), 1)), api.ErrStale)
	}
	mustSay(t, "Put behind the last slot", s.Put(rec(id(6, 1<<20+1), 1)), api.ErrSlot)
	mustCount(t, "Status behind the last slot", s.Status(id(6, 1<<20+1)), 0)
	mustSay(t, "Put of another replica", s.Put(rec(id(5, 1), 1)), api.OK)
}
