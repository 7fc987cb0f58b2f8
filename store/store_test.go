package store

import (
	"fmt"
	"math"
	"slices"
	"testing"

	"provost/api"
	"provost/spec"
)

// The limits as the document writes them, for the expectations below.
const (
	mostPods   = 16
	mostEvents = 64
	mostGrace  = 1000
)

// small is a spec that may be, of one main container without anything that need not be.
func small(name string) api.Spec {
	return api.Spec{Name: name, Main: []api.Container{{Name: "m", Image: "app:1"}}, Restart: api.RNever}
}

// rich is a spec that may be, with something in each of its parts.
func rich(name string) api.Spec {
	most := api.Res{CPU: 3, Mem: 4, Pids: 5}
	return api.Spec{
		Name: name, Labels: []api.Label{{Key: "app", Val: name}, {Key: "env", Val: "x"}, {Key: "run"}},
		Init: []api.Container{{Name: "i", Image: "lib/init:1", Req: most, Lim: most}},
		Main: []api.Container{
			{Name: "m", Image: "lib/app:1", Req: most, Lim: most, Ports: []int{80, 81}, Probe: api.Probe{Every: 7, Fails: 2}},
			{Name: "n", Image: "log:2", Req: most, Ports: []int{90}},
		},
		Restart: api.RFailure, Grace: 8, Prio: 9,
	}
}

// tagged is rich(name), with another tag of its first image, another label and another Prio, which an update may change.
func tagged(name, tag string) api.Spec {
	x := rich(name)
	x.Main[0].Image = "lib/app:" + tag
	x.Labels[2].Val = tag
	x.Prio = 1
	return x
}

// made is a store of pods of these specs, their UIDs from 1 on, that has left revisions left.
func made(t *testing.T, left uint64, l ...api.Spec) *Store {
	t.Helper()
	s := New(uint64(len(l))+left, mostEvents)
	for i, x := range l {
		if p, code := s.Create(x); code != api.OK || p.UID != i+1 {
			t.Fatalf("Create of %q = %d, %d", x.Name, p.UID, int(code))
		}
	}
	return s
}

// alike tells whether two pods are the same; a list without a member may be nil or empty.
func alike(a, b api.Pod) bool {
	return a.UID == b.UID && a.Rev == b.Rev && spec.Same(a.Spec, b.Spec) && a.Phase == b.Phase && slices.Equal(a.Restarts, b.Restarts) && a.Mark == b.Mark && a.Grace == b.Grace
}

func eventsAlike(a, b api.Event) bool {
	return a.Kind == b.Kind && a.Rev == b.Rev && alike(a.Pod, b.Pod)
}

func uidsOf(l []api.Pod) []int {
	uids := []int{}
	for _, p := range l {
		uids = append(uids, p.UID)
	}
	return uids
}

func revsOf(l []api.Event) []uint64 {
	revs := []uint64{}
	for _, e := range l {
		revs = append(revs, e.Rev)
	}
	return revs
}

// picture is all that a store tells; it is the same of two stores that tell the same.
func picture(s *Store) string {
	text := fmt.Sprint(s.Len(), s.Rev(), s.Left(), s.Floor())
	for uid := -1; uid < 25; uid++ {
		p, code := s.Get(uid)
		text += fmt.Sprintf("\nGet(%d): %+v %d", uid, p, int(code))
		if code == api.OK {
			text += fmt.Sprintf(" found %d", s.Find(p.Spec.Name))
		}
	}
	events, code := s.After(s.Floor(), mostEvents)
	return text + fmt.Sprintf("\nList: %+v\nAfter: %+v %d", s.List(nil), events, int(code))
}

// refuses holds that do tells an error and the zero value, as often as it is asked, and that all is as it was.
func refuses(t *testing.T, what string, s *Store, want api.Code, do func() (api.Pod, api.Code)) {
	t.Helper()
	was := picture(s)
	for range 2 {
		if p, code := do(); code != want || !alike(p, api.Pod{}) {
			t.Errorf("%s = %+v, %d; want %d", what, p, int(code), int(want))
		}
		if now := picture(s); now != was {
			t.Errorf("%s is refused, and changed\n%s\nto\n%s", what, was, now)
		}
	}
}

// changes holds that do tells the pod want, which the store has then, by the next revision and one event of that kind.
func changes(t *testing.T, what string, s *Store, kind int, want api.Pod, do func() (api.Pod, api.Code)) {
	t.Helper()
	rev, left := s.Rev(), s.Left()
	want.Rev = rev + 1
	p, code := do()
	if code != api.OK || !alike(p, want) {
		t.Fatalf("%s = %+v, %d; want %+v", what, p, int(code), want)
	}
	if got, code := s.Get(want.UID); code != api.OK || !alike(got, want) {
		t.Errorf("behind %s: Get = %+v, %d; want %+v", what, got, int(code), want)
	}
	if s.Find(want.Spec.Name) != want.UID || !slices.ContainsFunc(s.List(nil), func(p api.Pod) bool { return alike(p, want) }) {
		t.Errorf("behind %s it is not found, or not among the pods", what)
	}
	took(t, what, s, rev, left, api.Event{Kind: kind, Rev: rev + 1, Pod: want})
}

// took holds that just that event came behind the revision rev.
func took(t *testing.T, what string, s *Store, rev, left uint64, e api.Event) {
	t.Helper()
	if s.Rev() != rev+1 || s.Left() != left-1 {
		t.Errorf("behind %s: Rev %d, Left %d; they were %d, %d", what, s.Rev(), s.Left(), rev, left)
	}
	l, code := s.After(rev, 9)
	if code != api.OK || len(l) != 1 || !eventsAlike(l[0], e) {
		t.Errorf("behind %s: After = %+v, %d; want %+v", what, l, int(code), e)
	}
}

// 13.1: a store to which nothing came, of each number of revisions and size of its log
func TestNewStore(t *testing.T) {
	for _, most := range []uint64{0, 1, 2, 100, math.MaxInt64, 1 << 63, math.MaxUint64} {
		for _, log := range []int{math.MinInt, -1, 0, 1, 3, 64, 65, math.MaxInt} {
			s := New(most, log)
			for range 2 {
				if s.Len() != 0 || s.Rev() != 0 || s.Left() != most || s.Floor() != 0 {
					t.Errorf("New(%d, %d): Len %d, Rev %d, Left %d, Floor %d", most, log, s.Len(), s.Rev(), s.Left(), s.Floor())
				}
				for _, rev := range []uint64{0, 1, math.MaxUint64} {
					l, code := s.After(rev, 9)
					if n := s.Compact(rev); n != 0 || len(l) != 0 || code != api.OK {
						t.Errorf("New(%d, %d): Compact(%d) = %d, After %v, %d", most, log, rev, n, revsOf(l), int(code))
					}
				}
				for _, uid := range []int{math.MinInt, -1, 0, 1, 2, math.MaxInt} {
					if p, code := s.Get(uid); code != api.ErrUID || !alike(p, api.Pod{}) {
						t.Errorf("New(%d, %d): Get(%d) = %+v, %d", most, log, uid, p, int(code))
					}
				}
				if s.Find("") != 0 || s.Find("web") != 0 || len(s.List(nil)) != 0 || len(s.List([]api.Label{{Key: "app"}})) != 0 {
					t.Errorf("New(%d, %d): a pod is found", most, log)
				}
			}
		}
	}
}

// 13.1: so many revisions there are, and no more
func TestHowManyRevisions(t *testing.T) {
	for _, most := range []uint64{0, 1, 2, 3, 7} {
		s := New(most, 3)
		for n := uint64(1); n <= most; n++ {
			if n == 1 {
				s.Create(small("web"))
			} else if _, code := s.Status(1, api.PPending, []int{int(n)}); code != api.OK {
				t.Fatalf("New(%d): change %d = %d", most, n, int(code))
			}
			if s.Rev() != n || s.Left() != most-n {
				t.Errorf("New(%d): Rev %d, Left %d behind %d changes", most, s.Rev(), s.Left(), n)
			}
		}
		refuses(t, fmt.Sprintf("New(%d): one more", most), s, api.ErrSpent, func() (api.Pod, api.Code) { return s.Create(small("db")) })
	}
}

// 13.1: the greatest number of revisions that there is
func TestTheGreatestNumberOfRevisions(t *testing.T) {
	s := New(math.MaxUint64, 3)
	p, code := s.Create(small("web"))
	if code != api.OK || p.Rev != 1 || s.Left() != math.MaxUint64-1 {
		t.Errorf("Create = %d, %d; Left %d", p.Rev, int(code), s.Left())
	}
}

// 13.1: how many events the log keeps
func TestHowManyEvents(t *testing.T) {
	for _, c := range []struct{ log, want int }{
		{math.MinInt, 1}, {-5, 1}, {-1, 1}, {0, 1}, {1, 1}, {2, 2}, {3, 3}, {63, 63}, {64, 64}, {65, 64}, {100, 64}, {1 << 32, 64}, {math.MaxInt, 64},
	} {
		s := New(1000, c.log)
		s.Create(small("web"))
		for n := 1; n < 100; n++ {
			s.Status(1, api.PPending, []int{n})
		}
		floor := uint64(100 - c.want)
		l, code := s.After(floor, 200)
		if code != api.OK || s.Floor() != floor || len(l) != c.want || l[0].Rev != floor+1 || l[c.want-1].Rev != 100 {
			t.Errorf("New(1000, %d): floor %d, After %v, %d; want %d", c.log, s.Floor(), revsOf(l), int(code), c.want)
		}
		if l, code := s.After(floor-1, 200); code != api.ErrOld || len(l) != 0 {
			t.Errorf("New(1000, %d): After(%d) = %v, %d", c.log, floor-1, revsOf(l), int(code))
		}
	}
}

// 13.1: numbers and events behind each kind of change, written out
func TestNumbersBehindEachChange(t *testing.T) {
	s := New(6, 3)
	for i, c := range []struct {
		do               func() api.Code
		n                int
		rev, left, floor uint64
		kind             int
	}{
		{func() api.Code { _, code := s.Create(rich("web")); return code }, 1, 1, 5, 0, 1},
		{func() api.Code { _, code := s.Create(small("db")); return code }, 2, 2, 4, 0, 1},
		{func() api.Code { _, code := s.Update(1, 1, tagged("web", "2")); return code }, 2, 3, 3, 0, 2},
		{func() api.Code { _, code := s.Status(2, 2, []int{4}); return code }, 2, 4, 2, 1, 2},
		{func() api.Code { _, code := s.Mark(1, 1, 9); return code }, 2, 5, 1, 2, 2},
		{func() api.Code { _, code := s.Drop(1); return code }, 1, 6, 0, 3, 3},
	} {
		if code := c.do(); code != 0 || s.Len() != c.n || s.Rev() != c.rev || s.Left() != c.left || s.Floor() != c.floor {
			t.Errorf("%d: %d; Len %d, Rev %d, Left %d, Floor %d", i, int(code), s.Len(), s.Rev(), s.Left(), s.Floor())
		}
		if l, code := s.After(c.rev-1, 9); code != 0 || len(l) != 1 || l[0].Kind != c.kind || l[0].Rev != c.rev || l[0].Pod.Rev != c.rev {
			t.Errorf("%d: After = %+v, %d", i, l, int(code))
		}
	}
	if l, code := s.After(3, 2); code != 0 || !slices.Equal(revsOf(l), []uint64{4, 5}) {
		t.Errorf("After(3, 2) = %v, %d", revsOf(l), int(code))
	}
	if l, code := s.After(2, 9); code != 120 || len(l) != 0 {
		t.Errorf("After(2, 9) = %v, %d", revsOf(l), int(code))
	}
}

// 13.1: what goes of the log goes of it alone
func TestCompact(t *testing.T) {
	begun := func() *Store {
		s := New(99, 4)
		s.Create(small("web"))
		for n := range 5 {
			s.Status(1, api.PPending, []int{n + 1})
		}
		return s
	}
	// The log has the revisions 3 to 6.
	for _, c := range []struct {
		to    uint64
		went  int
		floor uint64
		left  []uint64
	}{
		{0, 0, 2, []uint64{3, 4, 5, 6}}, {1, 0, 2, []uint64{3, 4, 5, 6}}, {2, 0, 2, []uint64{3, 4, 5, 6}},
		{3, 1, 3, []uint64{4, 5, 6}}, {4, 2, 4, []uint64{5, 6}}, {5, 3, 5, []uint64{6}},
		{6, 4, 6, nil}, {7, 4, 6, nil}, {math.MaxUint64, 4, 6, nil},
	} {
		s := begun()
		if went := s.Compact(c.to); went != c.went || s.Floor() != c.floor || s.Len() != 1 || s.Rev() != 6 || s.Left() != 93 {
			t.Errorf("Compact(%d) = %d; Floor %d, Len %d, Rev %d, Left %d", c.to, went, s.Floor(), s.Len(), s.Rev(), s.Left())
		}
		if went := s.Compact(c.to); went != 0 || s.Floor() != c.floor {
			t.Errorf("Compact(%d) again = %d; Floor %d", c.to, went, s.Floor())
		}
		if l, code := s.After(c.floor, 9); code != api.OK || !slices.Equal(revsOf(l), c.left) {
			t.Errorf("behind Compact(%d): After = %v, %d", c.to, revsOf(l), int(code))
		}
		if p, code := s.Get(1); code != api.OK || p.Rev != 6 || p.Restarts[0] != 5 {
			t.Errorf("behind Compact(%d): Get = %+v, %d", c.to, p, int(code))
		}
		// What is changed then is an event as ever.
		if p, code := s.Mark(1, api.WKilled, 0); code != api.OK || p.Rev != 7 {
			t.Errorf("behind Compact(%d): Mark = %+v, %d", c.to, p, int(code))
		}
		if l, code := s.After(6, 9); code != api.OK || len(l) != 1 || l[0].Rev != 7 {
			t.Errorf("behind Compact(%d) and Mark: After = %v, %d", c.to, revsOf(l), int(code))
		}
	}
}

// 13.1: a UID that is there, was there, and never was
func TestGet(t *testing.T) {
	s := made(t, 9, rich("web"), small("db"), small("job"))
	s.Mark(2, api.WKilled, 3)
	s.Drop(2)
	for uid, name := range map[int]string{1: "web", 3: "job"} {
		for range 2 {
			p, code := s.Get(uid)
			if code != api.OK || p.UID != uid || p.Rev != uint64(uid) || p.Spec.Name != name {
				t.Errorf("Get(%d) = %+v, %d", uid, p, int(code))
			}
		}
	}
	for _, uid := range []int{math.MinInt, -3, -1, 0, 2, 4, 1 + 1<<32, math.MaxInt} {
		refuses(t, fmt.Sprintf("Get(%d)", uid), s, 390, func() (api.Pod, api.Code) { return s.Get(uid) })
	}
	want := api.Pod{UID: 1, Rev: 1, Spec: rich("web"), Phase: 1, Restarts: []int{0, 0}}
	if p, _ := s.Get(1); !alike(p, want) {
		t.Errorf("Get(1) = %+v; want %+v", p, want)
	}
}

// 13.1: a name that is there, that went, and that came again
func TestFind(t *testing.T) {
	s := made(t, 20, small("web"), small("db"))
	finds := func(when, name string, want int) {
		t.Helper()
		for range 2 {
			if got := s.Find(name); got != want {
				t.Errorf("%s: Find(%q) = %d, want %d", when, name, got, want)
			}
		}
	}
	finds("made", "web", 1)
	finds("made", "db", 2)
	for _, name := range []string{"", "we", "webb", "Web", "b", "m", "app:1", "\xff", "web "} {
		finds("made", name, 0)
	}
	s.Update(1, 1, small("web"))
	s.Status(1, api.PFailed, []int{3})
	s.Mark(1, api.WEvicted, 0)
	finds("marked", "web", 1)
	s.Drop(1)
	finds("gone", "web", 0)
	finds("gone", "db", 2)
	s.Create(small("web"))
	finds("came again", "web", 3)
	finds("came again", "db", 2)
}

// 13.1: labels of all pods, of some and of none
func TestList(t *testing.T) {
	x := func(name string, labels ...api.Label) api.Spec {
		x := small(name)
		x.Labels = labels
		return x
	}
	env := func(val string) api.Label { return api.Label{Key: "env", Val: val} }
	tier := func(val string) api.Label { return api.Label{Key: "tier", Val: val} }
	s := made(t, 20, x("z", env("a")), x("y", env("a"), tier("b")), x("gone", env("a")), x("x", env("a"), tier("c")), x("w", env("a"), tier("b")))
	s.Mark(3, api.WKilled, 0)
	s.Drop(3)
	for _, c := range []struct {
		sel  []api.Label
		want []int
	}{
		{nil, []int{1, 2, 4, 5}}, {[]api.Label{}, []int{1, 2, 4, 5}}, {[]api.Label{env("a")}, []int{1, 2, 4, 5}},
		{[]api.Label{tier("b")}, []int{2, 5}}, {[]api.Label{env("a"), tier("b")}, []int{2, 5}}, {[]api.Label{tier("c")}, []int{4}},
		// No selector may be so, but labels fit it, or not.
		{[]api.Label{tier("b"), env("a"), tier("b")}, []int{2, 5}}, {[]api.Label{tier("b"), tier("c")}, nil},
		{[]api.Label{env("")}, nil}, {[]api.Label{env("b")}, nil}, {[]api.Label{tier("a")}, nil}, {[]api.Label{{Key: "tie", Val: "b"}}, nil}, {[]api.Label{{}}, nil},
		{slices.Repeat([]api.Label{tier("c")}, 1000), []int{4}},
	} {
		for range 2 {
			if got := s.List(c.sel); !slices.Equal(uidsOf(got), c.want) {
				t.Errorf("List(%v) = %v, want %v", c.sel, uidsOf(got), c.want)
			}
		}
	}
	for _, p := range s.List(nil) {
		if got, code := s.Get(p.UID); code != api.OK || !alike(p, got) {
			t.Errorf("List tells %+v, Get %+v", p, got)
		}
	}
	// Labels that changed are asked for as they are now.
	s.Update(1, 1, x("z", env("b"), tier("b")))
	if got := uidsOf(s.List([]api.Label{tier("b")})); !slices.Equal(got, []int{1, 2, 5}) {
		t.Errorf("behind Update: %v", got)
	}
	if got := uidsOf(s.List([]api.Label{env("a")})); !slices.Equal(got, []int{2, 4, 5}) {
		t.Errorf("behind Update: %v", got)
	}
}

// 13.1: the order is that of the UIDs, of as many pods as may be, each time
func TestListIsInOrder(t *testing.T) {
	s := New(200, 3)
	for round := range 4 {
		for n := range mostPods {
			s.Create(small(string(rune('p' - n))))
		}
		for range 20 {
			got := uidsOf(s.List(nil))
			if len(got) != mostPods || !slices.IsSorted(got) || got[mostPods-1] > mostPods*(round+1) {
				t.Fatalf("round %d: %v", round, got)
			}
		}
		for n, uid := range uidsOf(s.List(nil)) {
			if n%3 == round%3 {
				s.Mark(uid, api.WKilled, 0)
				s.Drop(uid)
			}
		}
	}
}

// 13.1: each pair of phases, and of numbers that are none
func TestNext(t *testing.T) {
	follow := []([2]int){{1, 2}, {1, 3}, {1, 4}, {2, 3}, {2, 4}}
	numbers := []int{math.MinInt, -4, -1, 0, 1, 2, 3, 4, 5, 6, 1 + 1<<32, math.MaxInt}
	may := 0
	for _, from := range numbers {
		for _, to := range numbers {
			for range 2 {
				if got, want := Next(from, to), slices.Contains(follow, [2]int{from, to}); got != want {
					t.Errorf("Next(%d, %d) = %v", from, to, got)
				} else if got {
					may++
				}
			}
		}
	}
	if may != 2*len(follow) {
		t.Errorf("%d may", may)
	}
}
