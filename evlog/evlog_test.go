package evlog

import (
	"math"
	"reflect"
	"slices"
	"strconv"
	"testing"

	"provost/api"
)

// mostEvents is the limit as the document writes it, for the expectations below.
const mostEvents = 64

// event is one of that revision, with something in each of its parts that tells which one it is.
func event(rev uint64) api.Event {
	n := int(rev%1000) + 1
	name := strconv.FormatUint(rev, 10)
	container := func(part string, ports ...int) api.Container {
		most := api.Res{CPU: n, Mem: n + 1, Pids: n + 2}
		return api.Container{Name: part + name, Image: "lib/" + part + ":" + name, Req: most, Lim: most, Ports: ports, Probe: api.Probe{Every: n, Fails: 2}}
	}
	return api.Event{Kind: api.EMod, Rev: rev, Pod: api.Pod{
		UID: n, Rev: rev, Phase: api.PRunning, Restarts: []int{n, 0}, Mark: api.WKilled, Grace: n,
		Spec: api.Spec{
			Name: "web" + name, Labels: []api.Label{{Key: "app", Val: "v" + name}, {Key: "k" + name}},
			Init: []api.Container{container("i")}, Main: []api.Container{container("m", n, n+1), container("n", n+2)},
			Restart: api.RFailure, Grace: n, Prio: 4,
		},
	}}
}

// events are those of these revisions.
func events(revs ...uint64) []api.Event {
	var l []api.Event
	for _, rev := range revs {
		l = append(l, event(rev))
	}
	return l
}

// revsOf are the events' revisions, in order.
func revsOf(l []api.Event) []uint64 {
	revs := []uint64{}
	for _, e := range l {
		revs = append(revs, e.Rev)
	}
	return revs
}

// alike tells whether two lists have the same events; one without an event may be nil or empty.
func alike(a, b []api.Event) bool {
	return len(a) == len(b) && (len(a) == 0 || reflect.DeepEqual(a, b))
}

// model is a log after the words of the chapter: all events that were ever added, and the floor, above which all are there.
type model struct {
	most  int
	all   []api.Event
	floor uint64
}

func (m *model) there() []api.Event { return m.since(m.floor) }

func (m *model) since(rev uint64) []api.Event {
	var l []api.Event
	for _, e := range m.all {
		if e.Rev > rev {
			l = append(l, e)
		}
	}
	return l
}

func (m *model) last() uint64 {
	last := m.floor
	for _, e := range m.there() {
		if e.Rev > last {
			last = e.Rev
		}
	}
	return last
}

func (m *model) add(e api.Event) api.Code {
	if e.Rev <= m.last() {
		return api.ErrShape
	}
	m.all = append(m.all, e)
	if l := m.there(); len(l) > m.most {
		m.floor = l[0].Rev
	}
	return api.OK
}

func (m *model) compact(to uint64) int {
	were, last := len(m.there()), m.last()
	if to > m.floor && to <= last {
		m.floor = to
	} else if to > last {
		m.floor = last
	}
	return were - len(m.there())
}

// around are revisions below, at and above all that a log knows of.
func (m *model) around() []uint64 {
	revs := []uint64{0, 1, m.floor - 1, m.floor, m.floor + 1, m.last() + 1, m.last() + 2, math.MaxInt64, math.MaxUint64}
	for _, e := range m.there() {
		revs = append(revs, e.Rev-1, e.Rev, e.Rev+1)
	}
	slices.Sort(revs)
	return slices.Compact(revs)
}

// both is a log, and what the words say of it.
type both struct {
	t *testing.T
	l *Log
	m model
}

// made is a new log of so many events at most, given as New is given it; want is how many those are.
func made(t *testing.T, most, want int) *both {
	t.Helper()
	return &both{t, New(most), model{most: want}}
}

func (b *both) add(e api.Event) {
	b.t.Helper()
	if code, want := b.l.Add(e), b.m.add(e); code != want {
		b.t.Fatalf("New(%d): Add of %d = %d, want %d; there are %v", b.m.most, e.Rev, int(code), int(want), revsOf(b.m.there()))
	}
	b.counts()
}

func (b *both) compact(to uint64) {
	b.t.Helper()
	floor, were := b.m.floor, revsOf(b.m.there())
	if n, want := b.l.Compact(to), b.m.compact(to); n != want {
		b.t.Fatalf("New(%d): Compact(%d) = %d, want %d; the floor was %d, there were %v", b.m.most, to, n, want, floor, were)
	}
	b.counts()
}

// counts holds Len, Floor and Last, asked twice: asking changes nothing.
func (b *both) counts() {
	b.t.Helper()
	for range 2 {
		if b.l.Len() != len(b.m.there()) || b.l.Floor() != b.m.floor || b.l.Last() != b.m.last() {
			b.t.Fatalf("New(%d): Len %d, Floor %d, Last %d; want %d, %d, %d", b.m.most, b.l.Len(), b.l.Floor(), b.l.Last(), len(b.m.there()), b.m.floor, b.m.last())
		}
	}
}

// tells holds what Since and After tell at a revision.
func (b *both) tells(rev uint64) {
	b.t.Helper()
	want, wantCode := b.m.since(rev), api.OK
	if rev < b.m.floor {
		want, wantCode = nil, api.ErrOld
	}
	all, code := b.l.Since(rev)
	if code != wantCode {
		b.t.Fatalf("New(%d), floor %d: Since(%d) = %d", b.m.most, b.m.floor, rev, int(code))
	}
	if got := whole(all); !alike(got, want) {
		b.t.Fatalf("New(%d), floor %d: Since(%d) = %v, want %v", b.m.most, b.m.floor, rev, revsOf(got), revsOf(want))
	}
	for _, most := range []int{math.MinInt, -1, 0, 1, 2, len(want) - 1, len(want), len(want) + 1, mostEvents, math.MaxInt} {
		few := want[:max(0, min(most, len(want)))]
		if got, code := b.l.After(rev, most); !alike(got, few) || code != wantCode {
			b.t.Fatalf("New(%d), floor %d: After(%d, %d) = %v, %d; want %v", b.m.most, b.m.floor, rev, most, revsOf(got), int(code), revsOf(few))
		}
	}
}

// holds holds all that a log tells.
func (b *both) holds() {
	b.t.Helper()
	b.counts()
	for _, rev := range b.m.around() {
		b.tells(rev)
	}
	b.counts()
}

// whole is what an iterator tells; beside an error it may be nil.
func whole(all func(func(api.Event) bool)) []api.Event {
	if all == nil {
		return nil
	}
	return slices.Collect(all)
}

// 12.1: how many events there may be
func TestHowManyEvents(t *testing.T) {
	for _, c := range []struct{ most, want int }{
		{math.MinInt, 1}, {math.MinInt + 1, 1}, {-1 << 32, 1}, {-65, 1}, {-5, 1}, {-1, 1}, {0, 1}, {1, 1}, {2, 2}, {3, 3}, {16, 16}, {32, 32},
		{62, 62}, {63, 63}, {64, 64}, {65, 64}, {66, 64}, {100, 64}, {128, 64}, {1 << 32, 64}, {1<<32 + 5, 64}, {math.MaxInt - 1, 64}, {math.MaxInt, 64},
	} {
		b := made(t, c.most, c.want)
		b.holds()
		for rev := range uint64(2*mostEvents + 3) {
			b.add(event(rev + 1))
		}
		b.holds()
		if b.l.Len() != c.want || b.l.Floor() != uint64(2*mostEvents+3-c.want) {
			t.Errorf("New(%d): %d events, floor %d", c.most, b.l.Len(), b.l.Floor())
		}
	}
}

// 12.1, 12.2: a log to which nothing came
func TestNewLog(t *testing.T) {
	for _, most := range []int{-1, 0, 1, 2, 64, 65} {
		l := New(most)
		if l.Len() != 0 || l.Floor() != 0 || l.Last() != 0 {
			t.Errorf("New(%d): Len %d, Floor %d, Last %d", most, l.Len(), l.Floor(), l.Last())
		}
		for _, rev := range []uint64{0, 1, math.MaxUint64} {
			all, code := l.Since(rev)
			if got := whole(all); code != api.OK || len(got) != 0 {
				t.Errorf("New(%d): Since(%d) = %v, %d", most, rev, revsOf(got), int(code))
			}
			if got, code := l.After(rev, 9); code != api.OK || len(got) != 0 {
				t.Errorf("New(%d): After(%d, 9) = %v, %d", most, rev, revsOf(got), int(code))
			}
			if n := l.Compact(rev); n != 0 || l.Floor() != 0 || l.Last() != 0 || l.Len() != 0 {
				t.Errorf("New(%d): Compact(%d) = %d, Floor %d", most, rev, n, l.Floor())
			}
		}
	}
}

// 12.1: the codes by their numbers, and the floor behind each event
func TestAddWrittenOut(t *testing.T) {
	l := New(3)
	for i, c := range []struct {
		rev         uint64
		code        api.Code
		n           int
		floor, last uint64
	}{
		{0, 4, 0, 0, 0},
		{1, 0, 1, 0, 1}, {1, 4, 1, 0, 1}, {0, 4, 1, 0, 1},
		{2, 0, 2, 0, 2}, {1, 4, 2, 0, 2}, {2, 4, 2, 0, 2},
		{7, 0, 3, 0, 7}, {6, 4, 3, 0, 7}, {3, 4, 3, 0, 7}, {7, 4, 3, 0, 7},
		{8, 0, 3, 1, 8}, {9, 0, 3, 2, 9}, {20, 0, 3, 7, 20}, {8, 4, 3, 7, 20}, {0, 4, 3, 7, 20},
		{21, 0, 3, 8, 21},
		{math.MaxInt64, 0, 3, 9, math.MaxInt64}, {1 << 63, 0, 3, 20, 1 << 63}, {math.MaxInt64, 4, 3, 20, 1 << 63},
		{math.MaxUint64, 0, 3, 21, math.MaxUint64},
		{math.MaxUint64, 4, 3, 21, math.MaxUint64}, {math.MaxUint64 - 1, 4, 3, 21, math.MaxUint64}, {0, 4, 3, 21, math.MaxUint64}, {1, 4, 3, 21, math.MaxUint64},
	} {
		if code := l.Add(event(c.rev)); code != c.code || l.Len() != c.n || l.Floor() != c.floor || l.Last() != c.last {
			t.Errorf("%d: Add of %d = %d; Len %d, Floor %d, Last %d", i, c.rev, int(code), l.Len(), l.Floor(), l.Last())
		}
	}
	if got, code := l.After(21, 9); code != api.OK || !alike(got, events(math.MaxInt64, 1<<63, math.MaxUint64)) {
		t.Errorf("After(21, 9) = %v, %d", revsOf(got), int(code))
	}
}

// The chapter's example
func TestExample(t *testing.T) {
	l := New(2)
	for _, rev := range []uint64{1, 3, 4} {
		if code := l.Add(event(rev)); code != 0 {
			t.Fatalf("Add of %d = %d", rev, int(code))
		}
	}
	all, code := l.Since(0)
	if l.Floor() != 1 || l.Last() != 4 || l.Len() != 2 || code != 120 || len(whole(all)) != 0 {
		t.Errorf("Floor %d, Last %d, Len %d, Since(0) = %d", l.Floor(), l.Last(), l.Len(), int(code))
	}
}

// 12.1: each revision is refused up to the last one, and may be above it, of a log with events, without, and with none left
func TestAddAroundTheLastRevision(t *testing.T) {
	begun := map[string]func() *both{
		"new":           func() *both { return made(t, 2, 2) },
		"one event":     func() *both { b := made(t, 2, 2); b.add(event(5)); return b },
		"all went":      func() *both { b := made(t, 2, 2); b.add(event(5)); b.compact(5); return b },
		"all went, too": func() *both { b := made(t, 2, 2); b.add(event(5)); b.compact(math.MaxUint64); return b },
		"full":          func() *both { b := made(t, 2, 2); b.add(event(2)); b.add(event(5)); return b },
		"more came":     func() *both { b := made(t, 2, 2); b.add(event(1)); b.add(event(2)); b.add(event(5)); return b },
		"one, and full": func() *both { b := made(t, 1, 1); b.add(event(2)); b.add(event(5)); return b },
		"the greatest":  func() *both { b := made(t, 2, 2); b.add(event(math.MaxUint64)); return b },
		"that went":     func() *both { b := made(t, 2, 2); b.add(event(math.MaxUint64)); b.compact(math.MaxUint64); return b },
	}
	for what, begin := range begun {
		for _, rev := range []uint64{0, 1, 2, 3, 4, 5, 6, 7, 8, 100, math.MaxInt64, 1 << 63, math.MaxUint64 - 1, math.MaxUint64} {
			b := begin()
			last := b.l.Last()
			b.add(event(rev))
			if b.holds(); b.l.Last() != max(rev, last) {
				t.Errorf("%s: Add of %d; Last %d, it was %d", what, rev, b.l.Last(), last)
			}
			// Once it is there, it is refused.
			many := b.l.Len()
			if code := b.l.Add(event(rev)); code != api.ErrShape || b.l.Len() != many {
				t.Errorf("%s: Add of %d twice = %d", what, rev, int(code))
			}
		}
	}
}

// 12.1: with a refusal nothing is changed, whatever else the event has
func TestRefusedEventsAreNotThere(t *testing.T) {
	b := made(t, 3, 3)
	for _, rev := range []uint64{2, 4, 6, 8} {
		b.add(event(rev))
	}
	for _, rev := range []uint64{0, 1, 2, 3, 4, 5, 6, 7, 8} {
		other := event(rev)
		other.Kind, other.Pod.Rev, other.Pod.Spec.Name = api.EDel, 99, "other"
		b.add(other)
		b.holds()
	}
}

// 12.1: an event's revision alone is asked for
func TestAnyEventMayBe(t *testing.T) {
	b := made(t, 64, 64)
	rev := uint64(0)
	for _, kind := range []int{api.EAdd, api.EMod, api.EDel, api.EMark, api.EOver, 0, 6, -1, math.MaxInt, math.MinInt} {
		rev++
		b.add(api.Event{Kind: kind, Rev: rev})
		rev += 3
		e := event(rev)
		e.Kind, e.Pod.Rev, e.Pod.UID = kind, 1, -7
		b.add(e)
	}
	rev++
	b.add(api.Event{Rev: rev, Pod: api.Pod{Restarts: make([]int, 100), Spec: api.Spec{Name: "-", Labels: make([]api.Label, 20), Init: make([]api.Container, 20), Main: make([]api.Container, 20)}}})
	b.holds()
}

// 12.1: each event more takes the first one, at each size that a log may have
func TestTheFirstGoes(t *testing.T) {
	for most := 1; most <= mostEvents; most++ {
		for _, step := range []uint64{1, 3} {
			b := made(t, most, most)
			for rev := step; rev <= uint64(most+1)*step; rev += step {
				b.add(event(rev))
				if floor := b.l.Floor(); rev <= uint64(most)*step && floor != 0 || rev > uint64(most)*step && floor != step {
					t.Fatalf("New(%d): the floor is %d behind %d", most, floor, rev)
				}
			}
			for rev := uint64(most+2) * step; rev <= uint64(3*most)*step; rev += step {
				b.add(event(rev))
			}
			b.tells(b.l.Floor())
			b.tells(b.l.Floor() - 1)
			if want := uint64(2*most) * step; b.l.Floor() != want {
				t.Fatalf("New(%d): the floor is %d, want %d", most, b.l.Floor(), want)
			}
		}
	}
}

// 12.3: the numbers, and what follows, written out
func TestCompactWrittenOut(t *testing.T) {
	begun := func() *Log {
		l := New(4)
		for _, rev := range []uint64{1, 3, 5, 9, 10} {
			l.Add(event(rev))
		}
		return l
	}
	for _, c := range []struct {
		to    uint64
		went  int
		floor uint64
		left  []uint64
	}{
		// Below the floor, and at it.
		{0, 0, 1, []uint64{3, 5, 9, 10}}, {1, 0, 1, []uint64{3, 5, 9, 10}},
		// Between the floor and the first event, and between two events.
		{2, 0, 2, []uint64{3, 5, 9, 10}}, {4, 1, 4, []uint64{5, 9, 10}}, {6, 2, 6, []uint64{9, 10}}, {7, 2, 7, []uint64{9, 10}}, {8, 2, 8, []uint64{9, 10}},
		// At an event.
		{3, 1, 3, []uint64{5, 9, 10}}, {5, 2, 5, []uint64{9, 10}}, {9, 3, 9, []uint64{10}},
		// At the last one, and above it.
		{10, 4, 10, nil}, {11, 4, 10, nil}, {12, 4, 10, nil}, {99, 4, 10, nil}, {1 << 63, 4, 10, nil}, {math.MaxUint64, 4, 10, nil},
	} {
		l := begun()
		if went := l.Compact(c.to); went != c.went || l.Floor() != c.floor || l.Len() != len(c.left) || l.Last() != 10 {
			t.Errorf("Compact(%d) = %d; Floor %d, Len %d, Last %d", c.to, went, l.Floor(), l.Len(), l.Last())
		}
		if got, code := l.After(c.floor, 9); code != api.OK || !alike(got, events(c.left...)) {
			t.Errorf("behind Compact(%d): After(%d, 9) = %v, %d", c.to, c.floor, revsOf(got), int(code))
		}
		if got, code := l.After(c.floor-1, 9); code != api.ErrOld || len(got) != 0 {
			t.Errorf("behind Compact(%d): After(%d, 9) = %v, %d", c.to, c.floor-1, revsOf(got), int(code))
		}
		// A second time nothing goes.
		if went := l.Compact(c.to); went != 0 || l.Floor() != c.floor || l.Len() != len(c.left) || l.Last() != 10 {
			t.Errorf("Compact(%d) again = %d; Floor %d", c.to, went, l.Floor())
		}
		for rev := range uint64(11) {
			if code := l.Add(event(rev)); code != api.ErrShape {
				t.Errorf("behind Compact(%d): Add of %d = %d", c.to, rev, int(code))
			}
		}
		if code := l.Add(event(11)); code != api.OK || l.Last() != 11 || l.Len() != min(len(c.left)+1, 4) {
			t.Errorf("behind Compact(%d): Add of 11 = %d; Last %d, Len %d", c.to, int(code), l.Last(), l.Len())
		}
	}
}

// 12.3: all revisions, once and once more, of logs without events, too, and what is added behind them
func TestCompactTwiceAndAddBehind(t *testing.T) {
	for _, most := range []int{1, 2, 3, 5} {
		for many := range uint64(6) {
			for first := range uint64(15) {
				for second := range uint64(15) {
					b := made(t, most, most)
					for rev := range many {
						b.add(event(2*rev + 2))
					}
					b.compact(first)
					b.tells(b.m.floor)
					b.compact(second)
					b.holds()
					for range uint64(3) {
						b.add(event(b.l.Last()))
						b.add(event(b.l.Last() + 1 + first%2))
						b.tells(b.m.floor)
					}
				}
			}
		}
	}
}

// 12.3: the floor goes up with what is compacted, and a full log has room for more events then
func TestCompactMakesRoom(t *testing.T) {
	b := made(t, 64, 64)
	for rev := range uint64(70) {
		b.add(event(rev + 1))
	}
	b.compact(60)
	if b.l.Len() != 10 || b.l.Floor() != 60 {
		t.Fatalf("Len %d, Floor %d", b.l.Len(), b.l.Floor())
	}
	for rev := range uint64(54) {
		b.add(event(rev + 71))
		if b.l.Floor() != 60 {
			t.Fatalf("the floor is %d behind %d", b.l.Floor(), rev+71)
		}
	}
	b.holds()
	b.add(event(200))
	if b.l.Floor() != 61 || b.l.Len() != 64 {
		t.Fatalf("Len %d, Floor %d", b.l.Len(), b.l.Floor())
	}
	b.compact(199)
	b.holds()
	b.compact(200)
	b.holds()
}

// 12.1, 12.3: a floor far below the first event is passed by the first event's revision, not by one
func TestTheFloorIsTheRevisionOfWhatWent(t *testing.T) {
	b := made(t, 2, 2)
	b.add(event(10))
	b.compact(4)
	b.compact(7)
	if b.l.Floor() != 7 || b.l.Len() != 1 {
		t.Fatalf("Floor %d, Len %d", b.l.Floor(), b.l.Len())
	}
	b.add(event(20))
	if b.l.Floor() != 7 {
		t.Fatalf("Floor %d", b.l.Floor())
	}
	b.add(event(30))
	if b.l.Floor() != 10 {
		t.Fatalf("Floor %d", b.l.Floor())
	}
	b.holds()
}

// 12.1 to 12.3: logs do not know of each other
func TestLogsAreApart(t *testing.T) {
	a, b := made(t, 2, 2), made(t, 2, 2)
	for rev := range uint64(5) {
		a.add(event(rev + 1))
		b.counts()
	}
	b.add(event(1))
	a.compact(5)
	a.holds()
	b.holds()
	made(t, 2, 2).holds()
}
