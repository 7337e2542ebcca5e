package record

import (
	"cmp"
	"fmt"
	"math"
	"slices"
	"strings"
	"testing"
	"unsafe"

	"cortege/api"
)

const (
	oneNaN    uint64 = 0x7ff8000000000001
	minusZero uint64 = 1 << 63
)

func id(rep, slot int) api.Id { return api.Id{Rep: rep, Slot: slot} }

func ids(l ...api.Id) []api.Id { return l }

// with is a command whose value has these bits.
func with(kind int, key string, bits uint64) api.Cmd {
	return api.Cmd{Kind: kind, Key: key, Value: math.Float64frombits(bits)}
}

func get(key string) api.Cmd            { return api.Cmd{Kind: api.Get, Key: key} }
func put(key string) api.Cmd            { return api.Cmd{Kind: api.Put, Key: key, Value: 1} }
func cmds(l ...api.Cmd) []api.Cmd       { return l }
func times(n int, c api.Cmd) []api.Cmd  { return slices.Repeat(cmds(c), n) }
func slots(rep, first, n int) []api.Id  { return slotsBy(rep, first, n, 1) }
func falling(rep, last, n int) []api.Id { return slotsBy(rep, last, n, -1) }

// slotsBy gives n ids of a replica, the next slot by step further on.
func slotsBy(rep, first, n, step int) []api.Id {
	var l []api.Id
	for i := range n {
		l = append(l, id(rep, first+i*step))
	}
	return l
}

// good is a record that may be, in new memory each time.
func good() api.Record {
	return api.Record{
		Id: id(3, 40), Seq: 77,
		Deps:  ids(id(0, 9), id(1, 1), id(3, 39), id(3, 41), id(7, 1<<20)),
		Batch: cmds(put("a"), get("b"), with(api.Add, "c", minusZero), with(api.Put, "d", oneNaN)),
	}
}

// but is the good record with one change.
func but(change func(*api.Record)) api.Record {
	r := good()
	change(&r)
	return r
}

// wide gives numbers of int's whole range, most of them at an edge.
func wide() []int {
	return []int{
		math.MinInt, math.MinInt + 1, -1 << 33, -1 << 32, math.MinInt32, -9, -8, -1, 0, 1, 2, 6, 7, 8, 9, 255, 256,
		1<<20 - 1, 1 << 20, 1<<20 + 1, 1<<30 - 1, 1 << 30, 1<<30 + 1, math.MaxInt32, 1 << 32, 1<<32 + 1, 1<<33 + 7, math.MaxInt - 1, math.MaxInt,
	}
}

// badIds gives ids that may not be, each with its error.
func badIds() map[api.Id]api.Errno {
	bad := map[api.Id]api.Errno{}
	for _, n := range wide() {
		if n < 0 || n > 7 {
			bad[id(n, 1)], bad[id(n, 0)], bad[id(n, n)] = api.ErrRep, api.ErrRep, api.ErrRep
		}
		if n < 1 || n > 1<<20 {
			bad[id(0, n)], bad[id(3, n)], bad[id(7, n)] = api.ErrSlot, api.ErrSlot, api.ErrSlot
		}
	}
	return bad
}

// badCmds gives commands that may not be.
func badCmds() []api.Cmd {
	return []api.Cmd{{}, {Kind: 5, Key: "a"}, {Kind: -1, Key: "a", Value: 1}, put(""), get("A"), put("thirteen13cha"), {Kind: api.Get, Key: "a", Value: 1}, with(api.Delete, "a", minusZero), with(api.Get, "a", oneNaN)}
}

// show tells a record by its values' bits, too, since zeros and NaNs look alike.
func show(r api.Record) string {
	text := fmt.Sprintf("%v, Seq %d, %d Deps %.300v, %d commands", r.Id, r.Seq, len(r.Deps), fmt.Sprint(r.Deps), len(r.Batch))
	for _, c := range r.Batch {
		text += fmt.Sprintf(" {%d %.40q %x}", c.Kind, c.Key, math.Float64bits(c.Value))
	}
	return text
}

// dice answers numbers from 0 to n - 1 that look like chance, the same ones each time.
func dice(seed uint64) func(n int) int {
	return func(n int) int {
		seed = seed*6364136223846793005 + 1442695040888963407
		return int(seed>>33) % n
	}
}

// mustCheck holds Check against what is wanted.
func mustCheck(t *testing.T, r api.Record, want api.Errno) {
	t.Helper()
	if got := Check(r); got != want {
		t.Errorf("Check of %.600s: %d, not %d", show(r), int(got), int(want))
	}
}

// P8.1: records that may be; the first one is the chapter's example.
func TestCheckOfGood(t *testing.T) {
	for _, r := range []api.Record{
		{Id: id(1, 2), Seq: 1, Deps: ids(id(0, 1), id(1, 1))},
		good(), {Id: id(0, 1), Seq: 1}, {Id: id(7, 1<<20), Seq: 1 << 30}, {Id: id(0, 1), Seq: 1, Deps: ids(), Batch: cmds()},
		but(func(r *api.Record) { r.Deps, r.Batch = nil, nil }),
		but(func(r *api.Record) { r.Deps = r.Deps[:0:5] }),
		// One Dep, ahead of the Id and behind it, the least one and the greatest one.
		{Id: id(1, 2), Seq: 9, Deps: ids(id(1, 1))}, {Id: id(1, 2), Seq: 9, Deps: ids(id(1, 3))}, {Id: id(1, 2), Seq: 9, Deps: ids(id(0, 1))}, {Id: id(1, 2), Seq: 9, Deps: ids(id(7, 1<<20))},
		{Id: id(1, 2), Seq: 9, Deps: ids(id(2, 1))}, {Id: id(1, 2), Seq: 9, Deps: ids(id(0, 2), id(2, 2))},
		// By Rep first: a lesser slot of a later replica stands behind.
		{Id: id(1, 2), Seq: 9, Deps: ids(id(0, 9), id(1, 8), id(2, 7), id(3, 6))},
		{Id: id(1, 2), Seq: 9, Deps: ids(id(0, 9), id(0, 10), id(0, 99), id(0, 100))},
		// As many Deps and commands as there may be.
		{Id: id(4, 4), Seq: 5, Deps: slots(4, 5, 16), Batch: times(8, put("a"))}, {Id: id(4, 44), Seq: 5, Deps: slots(4, 5, 16)}, {Id: id(4, 4), Seq: 5, Deps: slots(4, 5, 15)},
		// What stands in the spare room is none of it.
		{Id: id(4, 4), Seq: 5, Deps: slots(4, 5, 20)[:16], Batch: times(9, put("a"))[:8]}, {Id: id(4, 4), Seq: 5, Deps: ids(id(4, 3), id(4, 4))[:1], Batch: cmds(put("a"), put(""))[:1]},
	} {
		mustCheck(t, r, api.OK)
	}
}

// P8.1: the Id's error, whatever its numbers are.
func TestCheckOfIds(t *testing.T) {
	for bad, want := range badIds() {
		mustCheck(t, but(func(r *api.Record) { r.Id = bad }), want)
		mustCheck(t, api.Record{Id: bad, Seq: 1}, want)
	}
	for _, rep := range []int{0, 1, 6, 7} {
		for _, slot := range []int{1, 2, 1<<20 - 1, 1 << 20} {
			mustCheck(t, api.Record{Id: id(rep, slot), Seq: 1, Deps: ids(id(5, 5))}, api.OK)
		}
	}
	mustCheck(t, api.Record{}, api.ErrSlot)
}

// P8.1: a Seq from 1 to MaxSeq.
func TestCheckOfSeqs(t *testing.T) {
	for _, seq := range wide() {
		want := api.OK
		if seq < 1 || seq > 1073741824 {
			want = api.ErrSeq
		}
		mustCheck(t, but(func(r *api.Record) { r.Seq = seq }), want)
		mustCheck(t, api.Record{Id: id(1, 2), Seq: seq}, want)
	}
}

// P8.1: how many Deps there are, ahead of what they are.
func TestCheckOfCounts(t *testing.T) {
	for n := range 40 {
		want := api.OK
		if n > 16 {
			want = api.ErrDeps
		}
		mustCheck(t, but(func(r *api.Record) { r.Deps = slots(5, 1, n) }), want)
	}
	for _, n := range []int{17, 18, 256, 1 << 16, 1<<16 + 16} {
		mustCheck(t, but(func(r *api.Record) { r.Deps = make([]api.Id, n) }), api.ErrDeps)
		mustCheck(t, but(func(r *api.Record) { r.Deps = slices.Repeat(ids(r.Id), n) }), api.ErrDeps)
		mustCheck(t, but(func(r *api.Record) { r.Deps = falling(5, 1<<20, n) }), api.ErrDeps)
	}
}

// P8.1: one Dep that may not be, in each place, ahead of its order.
func TestCheckOfBadDeps(t *testing.T) {
	for bad, want := range badIds() {
		for _, n := range []int{1, 2, 3, 15, 16} {
			for at := range n {
				deps := slots(5, 100, n)
				deps[at] = bad
				mustCheck(t, but(func(r *api.Record) { r.Deps = deps }), want)
			}
			mustCheck(t, but(func(r *api.Record) { r.Deps = slices.Repeat(ids(bad), n) }), want)
		}
	}
}

// P8.1: one Dep that is the Id, in each place, in order and out of order.
func TestCheckOfSelf(t *testing.T) {
	for _, n := range []int{1, 2, 3, 15, 16} {
		for at := range n {
			for _, self := range []api.Id{id(3, 40), id(0, 1), id(7, 1<<20)} {
				deps := slots(3, 40-at, n)
				deps[at] = self
				mustCheck(t, but(func(r *api.Record) { r.Id, r.Deps = self, deps }), api.ErrSelf)
			}
		}
		mustCheck(t, but(func(r *api.Record) { r.Deps = slices.Repeat(ids(r.Id), n) }), api.ErrSelf)
	}
	// The same slot of another replica, or another slot of the same one, is another id.
	mustCheck(t, but(func(r *api.Record) { r.Deps = ids(id(2, 40), id(3, 39), id(3, 41), id(4, 40)) }), api.OK)
}

// P8.1: one Dep that does not stand behind the one ahead of it, in each place; the first one is the chapter's example.
func TestCheckOfOrder(t *testing.T) {
	mustCheck(t, api.Record{Id: id(1, 2), Seq: 1, Deps: ids(id(1, 1), id(0, 1))}, api.ErrOrder)
	for _, n := range []int{2, 3, 15, 16} {
		for at := 1; at < n; at++ {
			for _, behind := range []int{0, -1, -2, -99} {
				deps := slots(5, 100, n)
				deps[at].Slot = deps[at-1].Slot + behind
				mustCheck(t, but(func(r *api.Record) { r.Deps = deps }), api.ErrOrder)
			}
			deps := slots(5, 100, n)
			deps[at] = id(4, 1<<20)
			mustCheck(t, but(func(r *api.Record) { r.Deps = deps }), api.ErrOrder)
		}
		mustCheck(t, but(func(r *api.Record) { r.Deps = falling(5, 100, n) }), api.ErrOrder)
		mustCheck(t, but(func(r *api.Record) { r.Deps = slices.Repeat(ids(id(5, 5)), n) }), api.ErrOrder)
	}
	mustCheck(t, but(func(r *api.Record) { r.Deps = ids(id(0, 9), id(0, 10), id(0, 9)) }), api.ErrOrder)
	mustCheck(t, but(func(r *api.Record) { r.Deps = ids(id(2, 1), id(1, 2)) }), api.ErrOrder)
	mustCheck(t, but(func(r *api.Record) { r.Deps = ids(id(1, 10), id(1, 9)) }), api.ErrOrder)
}

// P8.1: two faults of two Deps: the one that stands ahead is told, whichever it is.
func TestCheckOfTwoDeps(t *testing.T) {
	faults := []struct {
		spoil func(deps []api.Id, at int)
		want  api.Errno
	}{
		{func(deps []api.Id, at int) { deps[at].Rep = 8 }, api.ErrRep},
		{func(deps []api.Id, at int) { deps[at].Slot = 0 }, api.ErrSlot},
		{func(deps []api.Id, at int) { deps[at] = good().Id }, api.ErrSelf},
		{func(deps []api.Id, at int) { deps[at] = deps[at-1] }, api.ErrOrder},
	}
	for i := 1; i < 16; i++ {
		for j := i + 1; j < 16; j++ {
			for _, one := range faults {
				for _, other := range faults {
					deps := slots(5, 100, 16)
					other.spoil(deps, j)
					one.spoil(deps, i)
					mustCheck(t, but(func(r *api.Record) { r.Deps = deps }), one.want)
				}
			}
		}
	}
}

// P8.1: the error of the Batch.
func TestCheckOfBatches(t *testing.T) {
	for n := range 20 {
		want := api.OK
		if n > 8 {
			want = api.ErrLen
		}
		mustCheck(t, but(func(r *api.Record) { r.Batch = times(n, put("a")) }), want)
	}
	for _, c := range badCmds() {
		for n := 1; n < 12; n++ {
			want := api.ErrCmd
			if n > 8 {
				want = api.ErrLen
			}
			for at := range n {
				batch := times(n, get("z"))
				batch[at] = c
				mustCheck(t, but(func(r *api.Record) { r.Batch = batch }), want)
			}
		}
	}
}

// P8.1: any of the errors at once; the first one is told.
func TestCheckOfSeveral(t *testing.T) {
	faults := []struct {
		spoil func(*api.Record)
		want  api.Errno
	}{
		{func(r *api.Record) { r.Id.Rep = -1 }, api.ErrRep},
		{func(r *api.Record) { r.Id.Slot = 1<<20 + 1 }, api.ErrSlot},
		{func(r *api.Record) { r.Seq = 0 }, api.ErrSeq},
		{func(r *api.Record) { r.Deps = append(r.Deps, slots(7, 2, 12)...) }, api.ErrDeps},
		{func(r *api.Record) { r.Deps[0].Rep = 8 }, api.ErrRep},
		{func(r *api.Record) { r.Deps[1].Slot = 0 }, api.ErrSlot},
		{func(r *api.Record) { r.Deps[2] = r.Id }, api.ErrSelf},
		{func(r *api.Record) { r.Deps[4] = r.Deps[3] }, api.ErrOrder},
		{func(r *api.Record) { r.Batch = append(r.Batch, times(5, put("e"))...) }, api.ErrLen},
		{func(r *api.Record) { r.Batch[0].Key = "" }, api.ErrCmd},
	}
	for which := range 1 << len(faults) {
		r, want := good(), api.OK
		for at, f := range faults {
			if which>>at&1 == 0 {
				continue
			}
			f.spoil(&r)
			if want == api.OK {
				want = f.want
			}
		}
		mustCheck(t, r, want)
	}
}

// P8.1: several errors of one Dep: its own ahead of its order, and that it is the Id ahead of its order.
func TestCheckOfOneDepTwice(t *testing.T) {
	for _, p := range []struct {
		deps []api.Id
		want api.Errno
	}{
		{ids(id(2, 5), id(8, 0)), api.ErrRep}, {ids(id(2, 5), id(-1, 9)), api.ErrRep}, {ids(id(2, 5), id(2, 0)), api.ErrSlot}, {ids(id(2, 5), id(1, 0)), api.ErrSlot}, {ids(id(2, 5), id(1, 1<<20+1)), api.ErrSlot},
		{ids(id(4, 5), id(3, 40)), api.ErrSelf}, {ids(id(3, 41), id(3, 40)), api.ErrSelf}, {ids(id(3, 40), id(3, 40)), api.ErrSelf}, {ids(id(3, 40), id(3, 39)), api.ErrSelf}, {ids(id(3, 40), id(9, 9)), api.ErrSelf},
		{ids(id(4, 5), id(4, 5), id(3, 40)), api.ErrOrder}, {ids(id(4, 5), id(4, 4), id(9, 9)), api.ErrOrder}, {ids(id(4, 5), id(3, 41), id(3, 40)), api.ErrOrder},
	} {
		mustCheck(t, but(func(r *api.Record) { r.Deps = p.deps }), p.want)
	}
}

// wantOrder holds two ids against each other, number by number.
func wantOrder(a, b api.Id) int {
	return cmp.Or(cmp.Compare(a.Rep, b.Rep), cmp.Compare(a.Slot, b.Slot))
}

func mayBe(one api.Id) bool {
	return 0 <= one.Rep && one.Rep < 8 && 0 < one.Slot && one.Slot <= 1048576
}

// wantErr gathers all that is wrong with a record whose commands may be, and takes the first.
func wantErr(r api.Record) api.Errno {
	var wrong []api.Errno
	note := func(is bool, e api.Errno) {
		if is {
			wrong = append(wrong, e)
		}
	}
	note(r.Id.Rep < 0 || r.Id.Rep > 7, api.ErrRep)
	note(!mayBe(r.Id), api.ErrSlot)
	note(r.Seq < 1 || r.Seq > 1073741824, api.ErrSeq)
	note(len(r.Deps) > 16, api.ErrDeps)
	for at, dep := range r.Deps {
		note(dep.Rep < 0 || dep.Rep > 7, api.ErrRep)
		note(!mayBe(dep), api.ErrSlot)
		note(wantOrder(dep, r.Id) == 0, api.ErrSelf)
		note(at > 0 && wantOrder(r.Deps[max(at, 1)-1], dep) != -1, api.ErrOrder)
	}
	note(len(r.Batch) > 8, api.ErrLen)
	return append(wrong, api.OK)[0]
}

// records gives n records, most of which have few Deps, near their Id; some may not be.
func records(seed uint64, n int) []api.Record {
	roll := dice(seed)
	pick := func() api.Id {
		if roll(40) == 0 {
			return id(wide()[roll(len(wide()))], wide()[roll(len(wide()))])
		}
		return id(roll(3), 1+roll(3))
	}
	var l []api.Record
	for range n {
		r := api.Record{Id: pick(), Seq: 1 + roll(3)}
		if roll(20) == 0 {
			r.Seq = wide()[roll(len(wide()))]
		}
		for range roll(4) {
			r.Deps = append(r.Deps, pick())
		}
		if roll(2) == 0 {
			slices.SortFunc(r.Deps, wantOrder)
		}
		if roll(20) == 0 {
			r.Deps = append(r.Deps, slots(5, 1, 12+roll(4))...)
		}
		for range roll(3) + roll(2)*roll(2)*roll(9) {
			r.Batch = append(r.Batch, []api.Cmd{get("a"), put("a"), with(api.Put, "a", oneNaN), with(api.Add, "b", minusZero), with(api.Add, "b", 0)}[roll(5)])
		}
		l = append(l, r)
	}
	return l
}

// P8.1: all kinds of records.
func TestCheck(t *testing.T) {
	told := map[api.Errno]int{}
	for _, r := range records(1, 8000) {
		want := wantErr(r)
		mustCheck(t, r, want)
		told[want]++
	}
	for _, e := range []api.Errno{api.OK, api.ErrRep, api.ErrSlot, api.ErrSeq, api.ErrDeps, api.ErrSelf, api.ErrOrder, api.ErrLen} {
		if told[e] < 50 {
			t.Error("the records are too much alike:", told)
		}
	}
}

// mustSame holds Same of a and b against what is wanted, whichever comes first.
func mustSame(t *testing.T, a, b api.Record, want bool) {
	t.Helper()
	if got, back := Same(a, b), Same(b, a); got != want || back != want {
		t.Errorf("Same of %.500s and %.500s: %v, and the other way round %v, not %v", show(a), show(b), got, back, want)
	}
}

// P8.2: records that differ from the good one in one thing, each also from the others.
func TestSameButForOne(t *testing.T) {
	l := []api.Record{
		good(), {},
		but(func(r *api.Record) { r.Id.Rep = 4 }), but(func(r *api.Record) { r.Id.Slot = 41 }), but(func(r *api.Record) { r.Id = id(40, 3) }), but(func(r *api.Record) { r.Id = id(-3, 40) }), but(func(r *api.Record) { r.Id.Slot += 1 << 32 }),
		but(func(r *api.Record) { r.Seq = 78 }), but(func(r *api.Record) { r.Seq = -77 }), but(func(r *api.Record) { r.Seq = 0 }), but(func(r *api.Record) { r.Seq += 1 << 32 }), but(func(r *api.Record) { r.Seq = math.MaxInt }), but(func(r *api.Record) { r.Seq = math.MinInt }),
		but(func(r *api.Record) { r.Deps = nil }), but(func(r *api.Record) { r.Deps = r.Deps[:4] }), but(func(r *api.Record) { r.Deps = r.Deps[1:] }), but(func(r *api.Record) { r.Deps = append(r.Deps, id(0, 0)) }), but(func(r *api.Record) { r.Deps = append(r.Deps, r.Deps[4]) }), but(func(r *api.Record) { r.Deps = make([]api.Id, 17) }),
		but(func(r *api.Record) { slices.Reverse(r.Deps) }), but(func(r *api.Record) { r.Deps[0], r.Deps[1] = r.Deps[1], r.Deps[0] }), but(func(r *api.Record) { r.Deps[3], r.Deps[4] = r.Deps[4], r.Deps[3] }),
		but(func(r *api.Record) { r.Batch = nil }), but(func(r *api.Record) { r.Batch = r.Batch[:3] }), but(func(r *api.Record) { r.Batch = r.Batch[1:] }), but(func(r *api.Record) { r.Batch = append(r.Batch, api.Cmd{}) }), but(func(r *api.Record) { r.Batch = append(r.Batch, r.Batch[3]) }), but(func(r *api.Record) { slices.Reverse(r.Batch) }),
		but(func(r *api.Record) { r.Deps, r.Batch = nil, nil }),
	}
	for at := range good().Deps {
		l = append(l, but(func(r *api.Record) { r.Deps[at].Rep-- }), but(func(r *api.Record) { r.Deps[at].Slot++ }), but(func(r *api.Record) { r.Deps[at].Rep += 1 << 40 }), but(func(r *api.Record) { r.Deps[at].Slot = math.MinInt }))
	}
	for at := range good().Batch {
		l = append(l, but(func(r *api.Record) { r.Batch[at] = put("z") }), but(func(r *api.Record) { r.Batch[at].Kind = api.Delete }), but(func(r *api.Record) { r.Batch[at].Key += "x" }), but(func(r *api.Record) { r.Batch[at].Value = 5 }))
	}
	for i, a := range l {
		for j, b := range l {
			mustSame(t, a, b, i == j)
		}
	}
}

// P8.2: all NaNs are one, the two zeros are two; a list without an element may be nil or empty.
func TestSameOfLikes(t *testing.T) {
	for at := range 3 {
		value := func(kind int, bits uint64) api.Record {
			return but(func(r *api.Record) { r.Batch[at] = with(kind, "k", bits) })
		}
		for _, kind := range []int{api.Put, api.Add, api.Get, 9} {
			mustSame(t, value(kind, oneNaN), value(kind, 0xffffffffffffffff), true)
			mustSame(t, value(kind, 0x7ff0000000000001), value(kind, 0xfff8000000000000), true)
			mustSame(t, value(kind, oneNaN), value(kind, 0x7ff0000000000000), false)
			mustSame(t, value(kind, 0), value(kind, minusZero), false)
			mustSame(t, value(kind, minusZero), value(kind, minusZero), true)
		}
	}
	none := func(deps []api.Id, batch []api.Cmd) api.Record {
		return but(func(r *api.Record) { r.Deps, r.Batch = deps, batch })
	}
	for _, deps := range [][]api.Id{nil, {}, slots(1, 1, 4)[:0]} {
		for _, batch := range [][]api.Cmd{nil, {}, times(4, put("a"))[:0]} {
			mustSame(t, none(nil, nil), none(deps, batch), true)
			mustSame(t, none(ids(), cmds()), none(deps, batch), true)
			mustSame(t, none(ids(id(0, 0)), nil), none(deps, batch), false)
			mustSame(t, none(nil, cmds(api.Cmd{})), none(deps, batch), false)
		}
	}
	// The spare room is none of it.
	mustSame(t, none(slots(1, 1, 9)[:3], times(9, put("a"))[:2]), none(slots(1, 1, 3), times(2, put("a"))), true)
}

// P8.2: records that may not be, each with each.
func TestSameOfBad(t *testing.T) {
	l := []api.Record{{}, {Seq: math.MinInt}, {Deps: make([]api.Id, 1)}, {Deps: make([]api.Id, 17)}, {Deps: make([]api.Id, 18)}, {Batch: make([]api.Cmd, 1)}, {Batch: make([]api.Cmd, 9)}, {Batch: make([]api.Cmd, 10)}, {Deps: make([]api.Id, 9), Batch: make([]api.Cmd, 17)}}
	for bad := range badIds() {
		l = append(l, api.Record{Id: bad, Seq: 1}, but(func(r *api.Record) { r.Deps[1] = bad }), but(func(r *api.Record) { r.Deps = slices.Repeat(ids(bad), 17) }))
	}
	for _, c := range badCmds() {
		l = append(l, but(func(r *api.Record) { r.Batch[1] = c }), but(func(r *api.Record) { r.Batch = times(9, c) }))
	}
	for i, a := range l {
		for j, b := range l {
			mustSame(t, a, b, i == j)
		}
	}
}

// equal tells whether two records are the same to the bit.
func equal(a, b api.Record) bool {
	return a.Id == b.Id && a.Seq == b.Seq && slices.Equal(a.Deps, b.Deps) && slices.EqualFunc(a.Batch, b.Batch, equalCmd)
}

func equalCmd(a, b api.Cmd) bool {
	return a.Kind == b.Kind && a.Key == b.Key && math.Float64bits(a.Value) == math.Float64bits(b.Value)
}

// P8.2: all kinds of records, each with each.
func TestSame(t *testing.T) {
	l, same := records(2, 400), 0
	for i := range l {
		// Few Deps and commands, so that some are the same.
		l[i].Deps, l[i].Batch = l[i].Deps[:min(1, len(l[i].Deps))], l[i].Batch[:min(1, len(l[i].Batch))]
	}
	for _, a := range l {
		for _, b := range l {
			want := equal(a, b)
			mustSame(t, a, b, want)
			if want {
				same++
			}
		}
	}
	if same < len(l)+20 {
		t.Error("the records are too much apart:", same)
	}
}

// someCopied gives records of all kinds: those that may not be, and lists without an element, or with spare room.
func someCopied() []api.Record {
	l := append(records(3, 300),
		good(), api.Record{}, api.Record{Deps: ids(), Batch: cmds()}, api.Record{Id: id(math.MinInt, math.MaxInt), Seq: math.MinInt, Deps: slots(-1, -1, 40), Batch: times(40, api.Cmd{Kind: math.MaxInt, Key: "no key"})},
		but(func(r *api.Record) { r.Deps, r.Batch = r.Deps[:2], r.Batch[:1] }), but(func(r *api.Record) { r.Deps, r.Batch = r.Deps[:0], r.Batch[:0] }), but(func(r *api.Record) { r.Deps, r.Batch = r.Deps[1:3:4], r.Batch[1:2:3] }),
		but(func(r *api.Record) { r.Deps = nil }), but(func(r *api.Record) { r.Batch = nil }), but(func(r *api.Record) { r.Deps = falling(7, -4, 100) }), but(func(r *api.Record) { r.Batch[0].Key = strings.Repeat("k", 1000) }),
		but(func(r *api.Record) {
			r.Batch = cmds(with(api.Put, "a", 0xfff0000000000001), with(api.Get, "", minusZero))
		}))
	for _, c := range badCmds() {
		l = append(l, but(func(r *api.Record) { r.Batch[2] = c }))
	}
	return l
}

// deep is a record in new memory, made without Copy.
func deep(r api.Record) api.Record {
	return api.Record{Id: r.Id, Seq: r.Seq, Deps: slices.Clone(r.Deps), Batch: slices.Clone(r.Batch)}
}

// P8.2: a copy is the same record, to the bit.
func TestCopy(t *testing.T) {
	for _, r := range someCopied() {
		for range 3 {
			c := Copy(r)
			if !equal(c, r) || !Same(c, r) || !equal(Copy(c), r) || Check(c) != Check(r) || Cost(c) != Cost(r) {
				t.Errorf("Copy of %.400s: %.400s", show(r), show(c))
			}
		}
	}
}

// spoil writes all over a record's lists, their spare room too.
func spoil(r api.Record) {
	for at := range r.Deps[:cap(r.Deps)] {
		r.Deps[:cap(r.Deps)][at] = id(-5, -6)
	}
	for at := range r.Batch[:cap(r.Batch)] {
		r.Batch[:cap(r.Batch)][at] = api.Cmd{Kind: -7, Key: "spoilt", Value: -8}
	}
}

// whole is a record with its lists' spare room.
func whole(r api.Record) api.Record {
	return api.Record{Id: r.Id, Seq: r.Seq, Deps: r.Deps[:cap(r.Deps)], Batch: r.Batch[:cap(r.Batch)]}
}

// P8.2: what is written into the copy changes neither what was copied, nor its spare room, nor another copy.
func TestCopyIsNew(t *testing.T) {
	for _, r := range someCopied() {
		ahead, other := deep(whole(r)), Copy(r)
		want := deep(r)
		spoil(Copy(r))
		if !equal(whole(r), ahead) || !equal(other, want) {
			t.Fatalf("what was written into a copy is seen elsewhere: %.400s", show(r))
		}
		spoil(r)
		if !equal(other, want) {
			t.Fatalf("what was written into what was copied is seen in the copy: %.400s", show(other))
		}
	}
}

// P8.2: what is laid behind either's end is not seen behind the other one's.
func TestCopyGrowsByItself(t *testing.T) {
	for _, r := range someCopied() {
		a, b := Copy(r), Copy(r)
		ahead := deep(whole(r))
		a.Deps, a.Batch = append(a.Deps, id(1, 1)), append(a.Batch, put("one"))
		b.Deps, b.Batch = append(b.Deps, id(2, 2)), append(b.Batch, put("two"))
		if !equal(whole(r), ahead) || a.Deps[len(r.Deps)] != id(1, 1) || a.Batch[len(r.Batch)] != put("one") {
			t.Fatalf("what was laid behind a copy is seen elsewhere: %.400s", show(r))
		}
		c := Copy(r)
		want := deep(c)
		_, _ = append(r.Deps, id(3, 3)), append(r.Batch, put("three"))
		if !equal(c, want) || a.Deps[len(r.Deps)] != id(1, 1) || b.Batch[len(r.Batch)] != put("two") {
			t.Fatalf("what was laid behind what was copied is seen in the copy: %.400s", show(c))
		}
	}
}

// P8.2: what a list's spare room has does not come along.
func TestCopyOfSpareRoom(t *testing.T) {
	for n := range 5 {
		c := Copy(but(func(r *api.Record) {
			spoil(*r)
			r.Deps, r.Batch = r.Deps[:n], r.Batch[:min(n, 4)]
		}))
		for _, dep := range c.Deps[:cap(c.Deps)][n:] {
			if dep != (api.Id{}) {
				t.Errorf("behind %d Deps stands %v", n, dep)
			}
		}
		for _, one := range c.Batch[:cap(c.Batch)][min(n, 4):] {
			if one != (api.Cmd{}) {
				t.Errorf("behind %d commands stands %v", n, one)
			}
		}
	}
}

// P8.2: a copy does not keep the text of which a key may be a piece.
func TestCopyOfKeys(t *testing.T) {
	text := "some longer text"
	r := but(func(r *api.Record) { r.Batch = cmds(get(text[5:11]), put(text[12:]), put(text)) })
	c := Copy(r)
	for at := range c.Batch {
		if unsafe.StringData(c.Batch[at].Key) == unsafe.StringData(r.Batch[at].Key) {
			t.Errorf("the key %q is the one that came", c.Batch[at].Key)
		}
	}
}

// mustLess holds Less of a and b against the order that is wanted, both ways round, whatever else they have.
func mustLess(t *testing.T, a, b api.Record, order int) {
	t.Helper()
	if got, back := Less(a, b), Less(b, a); got != (order < 0) || back != (order > 0) {
		t.Errorf("Less of %.300s and %.300s: %v, and the other way round %v, not %d", show(a), show(b), got, back, order)
	}
}

func at(seq, rep, slot int) api.Record { return api.Record{Id: id(rep, slot), Seq: seq} }

// P8.3: by Seq first, then by Id, by Rep and then by Slot.
func TestLessOfSome(t *testing.T) {
	mustLess(t, at(5, 1, 2), at(6, 1, 2), -1)
	mustLess(t, at(5, 7, 9), at(6, 0, 1), -1)
	mustLess(t, at(6, 0, 1), at(5, 7, 9), 1)
	mustLess(t, at(5, 1, 2), at(5, 1, 3), -1)
	mustLess(t, at(5, 1, 9), at(5, 2, 1), -1)
	mustLess(t, at(5, 1, 9), at(5, 1, 10), -1)
	mustLess(t, at(9, 1, 1), at(10, 1, 1), -1)
	mustLess(t, at(5, 1, 2), at(5, 1, 2), 0)
	mustLess(t, good(), good(), 0)
	mustLess(t, api.Record{}, api.Record{}, 0)
	// The Deps and the Batch are none of it.
	mustLess(t, good(), at(77, 3, 40), 0)
	mustLess(t, good(), at(77, 3, 41), -1)
	mustLess(t, good(), at(76, 3, 41), 1)
	mustLess(t, but(func(r *api.Record) { r.Deps[0] = id(0, 1) }), good(), 0)
	mustLess(t, but(func(r *api.Record) { r.Batch = times(9, api.Cmd{}) }), good(), 0)
}

// P8.3: numbers in their whole range, whose differences leave it.
func TestLessOfWide(t *testing.T) {
	var l []api.Record
	edges := []int{math.MinInt, math.MinInt + 1, -1 << 32, -1, 0, 1, 1 << 32, math.MaxInt - 1, math.MaxInt}
	for _, seq := range edges {
		for _, rep := range []int{math.MinInt, -1, 0, 1, math.MaxInt} {
			for _, slot := range edges {
				l = append(l, at(seq, rep, slot))
			}
		}
	}
	// They were made in order.
	for i, a := range l {
		for j, b := range l {
			if got := Less(a, b); got != (i < j) {
				t.Fatalf("Less of %s and %s: %v", show(a), show(b), got)
			}
		}
	}
}

// P8.3: all kinds of records, each with each.
func TestLess(t *testing.T) {
	l := records(4, 300)
	for _, a := range l {
		for _, b := range l {
			mustLess(t, a, b, cmp.Or(cmp.Compare(a.Seq, b.Seq), wantOrder(a.Id, b.Id)))
		}
	}
}

// P8.3: one, and how many Deps there are, whatever they are.
func TestCost(t *testing.T) {
	for n := range 40 {
		for _, deps := range [][]api.Id{slots(5, 1, n), make([]api.Id, n), slots(5, 1, n+9)[:n], falling(-5, -6, n), slices.Repeat(ids(good().Id), n)} {
			for _, r := range []api.Record{{Deps: deps}, but(func(r *api.Record) { r.Deps = deps }), {Id: id(math.MinInt, 0), Seq: math.MaxInt, Deps: deps, Batch: times(30, api.Cmd{})}} {
				if got := Cost(r); got != n+1 {
					t.Errorf("Cost of %d Deps: %d", n, got)
				}
			}
		}
	}
	if got := Cost(api.Record{Deps: make([]api.Id, 1<<17)}); got != 131073 {
		t.Errorf("Cost of many Deps: %d", got)
	}
	if got := Cost(api.Record{Id: id(1, 1), Seq: 9, Batch: times(8, put("a"))}); got != 1 {
		t.Errorf("Cost without Deps: %d", got)
	}
}

// What is handed in is not changed, its spare room neither.
func TestArgumentsStay(t *testing.T) {
	other := good()
	otherAhead := deep(whole(other))
	for _, r := range someCopied() {
		ahead, deps, batch := deep(whole(r)), r.Deps, r.Batch
		Check(r)
		Copy(r)
		Cost(r)
		for _, b := range []api.Record{other, r} {
			Same(r, b)
			Same(b, r)
			Less(r, b)
			Less(b, r)
		}
		if !equal(whole(r), ahead) || !equal(whole(other), otherAhead) || len(r.Deps) != len(deps) || len(r.Batch) != len(batch) {
			t.Errorf("it was changed, or its spare room: %.400s", show(r))
		}
	}
}
