package store

import (
	"math"
	"math/rand"
	"slices"
	"testing"

	"provost/api"
	"provost/fail"
	"provost/spec"
)

// replay is what becomes of pods, which stand by their UIDs, by events, one behind the other.
func replay(t *testing.T, pods []api.Pod, events []api.Event) []api.Pod {
	t.Helper()
	pods = slices.Clone(pods)
	for _, e := range events {
		at := slices.IndexFunc(pods, func(p api.Pod) bool { return p.UID == e.Pod.UID })
		switch {
		case e.Rev != e.Pod.Rev:
			t.Fatalf("the event %d has a pod of %d", e.Rev, e.Pod.Rev)
		case e.Kind == api.EAdd && at < 0:
			pods = append(pods, e.Pod)
		case e.Kind == api.EMod && at >= 0:
			pods[at] = e.Pod
		case e.Kind == api.EDel && at >= 0:
			pods = slices.Delete(pods, at, at+1)
		default:
			t.Fatalf("an event of the kind %d, of the pod %d, and the pods are %v", e.Kind, e.Pod.UID, uidsOf(pods))
		}
	}
	slices.SortFunc(pods, func(a, b api.Pod) int { return a.UID - b.UID })
	return pods
}

// model is a store after the words of the chapter: all events that ever were, from which all else follows.
type model struct {
	most  uint64
	keeps int
	all   []api.Event
	floor uint64
	given int
}

func (m *model) rev() uint64 { return uint64(len(m.all)) }

func (m *model) pods(t *testing.T) []api.Pod { return replay(t, nil, m.all) }

func (m *model) pod(t *testing.T, uid int) (api.Pod, bool) {
	for _, p := range m.pods(t) {
		if p.UID == uid {
			return p, true
		}
	}
	return api.Pod{}, false
}

// change is a change, if there is a revision left for it.
func (m *model) change(kind int, p api.Pod) (api.Pod, api.Code) {
	if m.rev() == m.most {
		return api.Pod{}, api.ErrSpent
	}
	p.Rev = m.rev() + 1
	m.all = append(m.all, api.Event{Kind: kind, Rev: p.Rev, Pod: p})
	m.floor = max(m.floor, p.Rev-min(p.Rev, uint64(m.keeps)))
	return p, api.OK
}

func (m *model) create(t *testing.T, x api.Spec) (api.Pod, api.Code) {
	pods := m.pods(t)
	if e := spec.Check(x); e != nil {
		return api.Pod{}, fail.Code(e)
	}
	if slices.ContainsFunc(pods, func(p api.Pod) bool { return p.Spec.Name == x.Name }) {
		return api.Pod{}, api.ErrThere
	}
	if len(pods) == mostPods {
		return api.Pod{}, api.ErrFull
	}
	p, code := m.change(api.EAdd, api.Pod{UID: m.given + 1, Spec: x, Phase: 1, Restarts: make([]int, len(x.Main))})
	if code == api.OK {
		m.given++
	}
	return p, code
}

func (m *model) update(t *testing.T, uid int, rev uint64, x api.Spec) (api.Pod, api.Code) {
	p, ok := m.pod(t, uid)
	switch bad, frozen := spec.Check(x), spec.Frozen(p.Spec, x); {
	case !ok:
		return api.Pod{}, api.ErrUID
	case rev != p.Rev:
		return api.Pod{}, api.ErrStale
	case p.Mark != 0:
		return api.Pod{}, api.ErrState
	case bad != nil:
		return api.Pod{}, fail.Code(bad)
	case frozen != nil:
		return api.Pod{}, fail.Code(frozen)
	}
	p.Spec = x
	return m.change(api.EMod, p)
}

func (m *model) status(t *testing.T, uid, phase int, restarts []int) (api.Pod, api.Code) {
	p, ok := m.pod(t, uid)
	if !ok {
		return api.Pod{}, api.ErrUID
	}
	if phase != p.Phase && !slices.Contains([]([2]int){{1, 2}, {1, 3}, {1, 4}, {2, 3}, {2, 4}}, [2]int{p.Phase, phase}) {
		return api.Pod{}, api.ErrState
	}
	same := phase == p.Phase
	if len(restarts) != len(p.Spec.Main) {
		return api.Pod{}, api.ErrShape
	}
	for i, n := range restarts {
		if n < p.Restarts[i] {
			return api.Pod{}, api.ErrShape
		}
		same = same && n == p.Restarts[i]
	}
	if same {
		return p, api.OK
	}
	p.Phase, p.Restarts = phase, slices.Clone(restarts)
	return m.change(api.EMod, p)
}

func (m *model) mark(t *testing.T, uid, why, grace int) (api.Pod, api.Code) {
	p, ok := m.pod(t, uid)
	switch {
	case !ok:
		return api.Pod{}, api.ErrUID
	case why < 1 || why > 2 || grace < 0 || grace > mostGrace:
		return api.Pod{}, api.ErrShape
	case p.Mark != 0:
		return api.Pod{}, api.ErrState
	}
	p.Mark, p.Grace = why, grace
	return m.change(api.EMod, p)
}

func (m *model) drop(t *testing.T, uid int) (api.Pod, api.Code) {
	p, ok := m.pod(t, uid)
	switch {
	case !ok:
		return api.Pod{}, api.ErrUID
	case p.Mark == 0:
		return api.Pod{}, api.ErrState
	}
	p, code := m.change(api.EDel, p)
	return api.Pod{Rev: p.Rev}, code
}

func (m *model) compact(to uint64) int {
	floor := max(m.floor, min(to, m.rev()))
	went := int(floor - m.floor)
	m.floor = floor
	return went
}

// both is a store, and what the words say of it.
type both struct {
	t *testing.T
	s *Store
	m model
}

func begin(t *testing.T, most uint64, keeps int) *both {
	return &both{t, New(most, keeps), model{most: most, keeps: keeps}}
}

// told holds what a call told against what the words say, and the numbers.
func (b *both) told(what string, got api.Pod, code api.Code, want api.Pod, wantCode api.Code) {
	b.t.Helper()
	if code != wantCode || !alike(got, want) {
		b.t.Fatalf("%s = %+v, %d; want %+v, %d", what, got, int(code), want, int(wantCode))
	}
	if s := b.s; s.Rev() != b.m.rev() || s.Left() != b.m.most-b.m.rev() || s.Floor() != b.m.floor {
		b.t.Fatalf("behind %s: Rev %d, Left %d, Floor %d; want %d, floor %d", what, s.Rev(), s.Left(), s.Floor(), b.m.rev(), b.m.floor)
	}
}

func (b *both) create(x api.Spec) {
	b.t.Helper()
	p, code := b.s.Create(x)
	want, wantCode := b.m.create(b.t, x)
	b.told("Create", p, code, want, wantCode)
}

func (b *both) update(uid int, rev uint64, x api.Spec) {
	b.t.Helper()
	p, code := b.s.Update(uid, rev, x)
	want, wantCode := b.m.update(b.t, uid, rev, x)
	b.told("Update", p, code, want, wantCode)
}

func (b *both) status(uid, phase int, restarts []int) {
	b.t.Helper()
	p, code := b.s.Status(uid, phase, restarts)
	want, wantCode := b.m.status(b.t, uid, phase, restarts)
	b.told("Status", p, code, want, wantCode)
}

func (b *both) mark(uid, why, grace int) {
	b.t.Helper()
	p, code := b.s.Mark(uid, why, grace)
	want, wantCode := b.m.mark(b.t, uid, why, grace)
	b.told("Mark", p, code, want, wantCode)
}

func (b *both) drop(uid int) {
	b.t.Helper()
	n, code := b.s.Drop(uid)
	want, wantCode := b.m.drop(b.t, uid)
	b.told("Drop", api.Pod{Rev: n}, code, want, wantCode)
}

func (b *both) compact(to uint64) {
	b.t.Helper()
	if n, want := b.s.Compact(to), b.m.compact(to); n != want || b.s.Floor() != b.m.floor {
		b.t.Fatalf("Compact(%d) = %d, want %d; Floor %d, want %d", to, n, want, b.s.Floor(), b.m.floor)
	}
}

// holds holds all that a store tells: its pods are what all events that ever were say.
func (b *both) holds() {
	b.t.Helper()
	pods := b.m.pods(b.t)
	if got := b.s.List(nil); !slices.EqualFunc(got, pods, alike) || b.s.Len() != len(pods) {
		b.t.Fatalf("List = %+v, Len %d; want %+v", got, b.s.Len(), pods)
	}
	for uid := -1; uid < b.m.given+3; uid++ {
		want, ok := b.m.pod(b.t, uid)
		if p, code := b.s.Get(uid); ok != (code == api.OK) || !ok && code != api.ErrUID || !alike(p, want) {
			b.t.Fatalf("Get(%d) = %+v, %d; want %+v", uid, p, int(code), want)
		}
	}
	for _, e := range b.m.all {
		want := 0
		for _, p := range pods {
			if p.Spec.Name == e.Pod.Spec.Name {
				want = p.UID
			}
		}
		if got := b.s.Find(e.Pod.Spec.Name); got != want {
			b.t.Fatalf("Find(%q) = %d, want %d", e.Pod.Spec.Name, got, want)
		}
	}
	b.lists()
	b.after()
}

// lists holds what List tells of some labels.
func (b *both) lists() {
	b.t.Helper()
	for _, label := range []api.Label{{Key: "app", Val: "a"}, {Key: "env", Val: "x"}, {Key: "run", Val: "2"}, {Key: "run"}} {
		var want []api.Pod
		for _, p := range b.m.pods(b.t) {
			if slices.Contains(p.Spec.Labels, label) {
				want = append(want, p)
			}
		}
		if got := b.s.List([]api.Label{label}); !slices.EqualFunc(got, want, alike) {
			b.t.Fatalf("List(%v) = %+v, want %+v", label, got, want)
		}
	}
}

// after holds what After tells of each revision around those that there are.
func (b *both) after() {
	b.t.Helper()
	for rev := uint64(0); rev < b.m.rev()+3; rev++ {
		for _, most := range []int{-1, 0, 1, 2, 99} {
			want, wantCode := b.m.all[min(rev, b.m.rev()):], api.OK
			want = want[:min(len(want), max(most, 0))]
			if rev < b.m.floor {
				want, wantCode = nil, api.ErrOld
			}
			got, code := b.s.After(rev, most)
			if code != wantCode || !slices.EqualFunc(got, want, eventsAlike) {
				b.t.Fatalf("floor %d: After(%d, %d) = %+v, %d; want %+v", b.m.floor, rev, most, got, int(code), want)
			}
		}
	}
}

// someSpec is one of few, so that names are there and updates may be, and may not be each now and then.
func someSpec(rng *rand.Rand) api.Spec {
	name := string(rune('a' + rng.Intn(20)))
	x := small(name)
	if rng.Intn(3) > 0 {
		x = tagged(name, string(rune('1'+rng.Intn(3))))
	}
	switch rng.Intn(12) {
	case 0:
		x.Main[0].Image = "lib/init:1"
	case 1:
		x.Main = nil
	case 2:
		x.Prio = 11
	case 3:
		x.Labels = []api.Label{{Key: "run", Val: "2"}}
	}
	return x
}

// someUID is mostly that of a pod that is there.
func (b *both) someUID(rng *rand.Rand) int {
	pods := b.m.pods(b.t)
	if len(pods) == 0 || rng.Intn(8) == 0 {
		return rng.Intn(b.m.given+3) - 1
	}
	return pods[rng.Intn(len(pods))].UID
}

// someChange is a call of any kind, which may be or not.
func (b *both) someChange(rng *rand.Rand) {
	b.t.Helper()
	uid := b.someUID(rng)
	p, _ := b.m.pod(b.t, uid)
	switch rng.Intn(16) {
	case 0, 1, 2, 3, 4:
		b.create(someSpec(rng))
	case 5, 6, 7:
		x := someSpec(rng)
		if rng.Intn(4) > 0 {
			x.Name = p.Spec.Name
		}
		b.update(uid, p.Rev-min(p.Rev, uint64(rng.Intn(5)/4)), x)
	case 8, 9, 10:
		restarts := slices.Clone(p.Restarts)
		for i := range restarts {
			restarts[i] += rng.Intn(6)/2 - rng.Intn(5)/4
		}
		if rng.Intn(8) == 0 {
			restarts = append(restarts, 9)
		}
		b.status(uid, min(4, p.Phase+rng.Intn(4)/2-rng.Intn(8)/7), restarts)
	case 11, 12:
		b.mark(uid, rng.Intn(9)%4, rng.Intn(mostGrace+9)-4)
	case 13, 14:
		b.drop(uid)
	default:
		b.compact(b.m.floor + uint64(rng.Intn(4)))
	}
}

// 13.1 to 13.4: changes at random, held against the words
func TestChangesAtRandom(t *testing.T) {
	rng := rand.New(rand.NewSource(13))
	refused, full := 0, 0
	for range 60 {
		b := begin(t, uint64(rng.Intn(120)), 1+rng.Intn(mostEvents))
		for range 150 {
			b.someChange(rng)
			if rng.Intn(8) == 0 {
				b.holds()
			}
		}
		b.holds()
		if b.s.Left() == 0 {
			refused++
		}
		if len(b.m.pods(t)) == mostPods {
			full++
		}
	}
	if refused < 10 || full < 3 {
		t.Errorf("%d came to their last revision, and %d were full", refused, full)
	}
}

// reader has what List told once, and goes on with what After tells, so many events at a time.
type reader struct {
	pods []api.Pod
	at   uint64
	most int
}

// goesOn holds that what the reader had, and what came since, is what there is now; it begins again, if the log does not reach back so far.
func (r *reader) goesOn(t *testing.T, s *Store) (exact bool) {
	t.Helper()
	for {
		l, code := s.After(r.at, r.most)
		if r.at < s.Floor() {
			if code != api.ErrOld || len(l) != 0 {
				t.Fatalf("After(%d) below the floor %d = %v, %d", r.at, s.Floor(), revsOf(l), int(code))
			}
			r.pods, r.at = s.List(nil), s.Rev()
			return false
		}
		if code != api.OK || len(l) > r.most {
			t.Fatalf("After(%d, %d) = %v, %d", r.at, r.most, revsOf(l), int(code))
		}
		if len(l) == 0 {
			break
		}
		for i, rev := range revsOf(l) {
			if rev != r.at+uint64(i)+1 {
				t.Fatalf("After(%d, %d) = %v", r.at, r.most, revsOf(l))
			}
		}
		r.pods, r.at = replay(t, r.pods, l), l[len(l)-1].Rev
	}
	if got := s.List(nil); r.at != s.Rev() || !slices.EqualFunc(r.pods, got, alike) {
		t.Fatalf("at %d of %d the reader has\n%+v\nthere are\n%+v", r.at, s.Rev(), r.pods, got)
	}
	return true
}

// 13.4: what List told at any time, and the events since then, are what List tells later, as long as the log reaches back
func TestReadersGoOn(t *testing.T) {
	rng := rand.New(rand.NewSource(134))
	exact, again := 0, 0
	for range 40 {
		b := begin(t, 200, []int{1, 2, 3, 8, 64}[rng.Intn(5)])
		readers := []*reader{{most: 1}, {most: 2}, {most: 7}, {most: mostEvents}, {most: math.MaxInt}}
		for range 150 {
			b.someChange(rng)
			for i, r := range readers {
				if rng.Intn(1+2*i) > 0 {
					continue
				}
				if r.goesOn(t, b.s) {
					exact++
				} else {
					again++
				}
			}
		}
	}
	if exact < 1000 || again < 100 {
		t.Errorf("%d went on, and %d began again", exact, again)
	}
}

// 13.4: each event has another revision, and they rise, one by one, whatever is refused between them
func TestRevisionsRise(t *testing.T) {
	rng := rand.New(rand.NewSource(1304))
	for range 20 {
		b := begin(t, 90, mostEvents)
		last := uint64(0)
		for range 120 {
			b.someChange(rng)
			if now := b.s.Rev(); now != last {
				l, code := b.s.After(last, 9)
				if now != last+1 || b.s.Floor() < now && (code != api.OK || !slices.Equal(revsOf(l), []uint64{now}) || l[0].Pod.Rev != now) {
					t.Fatalf("behind %d comes %d: %+v, %d", last, now, l, int(code))
				}
				last = now
			}
		}
	}
}

// 13.1 to 13.4: all short orders of calls on small stores, held against the words
func TestAllShortOrders(t *testing.T) {
	const calls, kinds = 4, 11
	first := func(b *both) api.Pod {
		p, _ := b.m.pod(t, b.m.given)
		return p
	}
	for most := uint64(2); most <= 4; most += 2 {
		for order := range 14641 { // kinds to the power of calls
			b := begin(t, most, 2)
			for rest, done := order, 0; done < calls; rest, done = rest/kinds, done+1 {
				switch p := first(b); rest % kinds {
				case 0:
					b.create(small("a"))
				case 1:
					b.create(rich("b"))
				case 2:
					b.update(1, p.Rev, small("a"))
				case 3:
					b.update(b.m.given, p.Rev, tagged("b", "2"))
				case 4:
					b.status(b.m.given, 2, p.Restarts)
				case 5:
					b.status(1, 1, []int{1})
				case 6:
					b.status(1, 4, []int{0})
				case 7:
					b.mark(1, 1, 3)
				case 8:
					b.mark(b.m.given, 2, 0)
				case 9:
					b.drop(1)
				default:
					b.compact(b.s.Rev())
				}
			}
			b.holds()
		}
	}
}

// 13.1 to 13.4: each two bytes are a call, held against the words
func FuzzStore(f *testing.F) {
	f.Add(uint64(9), 3, []byte{0, 1, 0, 2, 1, 0, 2, 1, 3, 1, 4, 1, 5, 1})
	f.Add(uint64(1), 1, []byte{0, 1, 0, 1, 2, 200})
	f.Add(uint64(200), 64, []byte("some bytes, so that there are many of them, and again some bytes, so that there are more than a log may have"))
	f.Fuzz(func(t *testing.T, most uint64, keeps int, calls []byte) {
		b := begin(t, most, keeps)
		b.m.keeps = min(max(keeps, 1), mostEvents)
		for i := 0; i+1 < min(len(calls), 300); i += 2 {
			x := int(calls[i+1])
			uid := x % (b.m.given + 2)
			p, _ := b.m.pod(t, uid)
			y := tagged(string(rune('a'+x%20)), string(rune('1'+x/64)))
			switch calls[i] % 8 {
			case 0:
				b.create(y)
			case 1:
				b.create(small(string(rune('`' + x%20))))
			case 2:
				y.Name = p.Spec.Name
				b.update(uid, p.Rev, y)
			case 3:
				b.update(uid, uint64(x), y)
			case 4:
				b.status(uid, x%6, []int{x / 6, x / 9}[:min(2, len(p.Restarts))])
			case 5:
				b.mark(uid, x%3, 4*x)
			case 6:
				b.drop(uid)
			default:
				b.compact(uint64(x))
			}
		}
		b.holds()
	})
}
