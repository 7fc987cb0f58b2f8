package store

import (
	"fmt"
	"math"
	"testing"

	"provost/api"
)

// The chapter's example
func TestExample(t *testing.T) {
	s := New(9, 9)
	p, code := s.Create(small("web"))
	if code != 0 || p.UID != 1 || p.Rev != 1 {
		t.Errorf("Create = %+v, %d", p, int(code))
	}
}

// 13.2: what a new pod is
func TestCreate(t *testing.T) {
	s := New(99, 9)
	four := small("four")
	four.Main = []api.Container{{Name: "a", Image: "x:1"}, {Name: "b", Image: "x:1"}, {Name: "c", Image: "x:1"}, {Name: "d", Image: "x:1"}}
	for i, c := range []struct {
		x        api.Spec
		restarts []int
	}{{rich("web"), []int{0, 0}}, {small("db"), []int{0}}, {four, []int{0, 0, 0, 0}}} {
		// Grace is not the spec's: that is of a mark.
		want := api.Pod{UID: i + 1, Spec: c.x, Phase: 1, Restarts: c.restarts, Mark: 0, Grace: 0}
		changes(t, "Create of "+c.x.Name, s, 1, want, func() (api.Pod, api.Code) { return s.Create(c.x) })
		if s.Len() != i+1 {
			t.Errorf("Len %d behind %d", s.Len(), i+1)
		}
	}
}

// 13.2: specs that may not be, each with the code of the first thing
func TestCreateOfASpecThatMayNotBe(t *testing.T) {
	for _, c := range []struct {
		what  string
		code  api.Code
		fault func(x *api.Spec)
	}{
		{"no name", 30, func(x *api.Spec) { x.Name = "" }},
		{"a name with a blank", 30, func(x *api.Spec) { x.Name = "a b" }},
		{"five labels", 2, func(x *api.Spec) { x.Labels = make([]api.Label, 5) }},
		{"a key", 31, func(x *api.Spec) { x.Labels[1].Key = "/" }},
		{"a value", 32, func(x *api.Spec) { x.Labels[2].Val = "/" }},
		{"keys that fall", 4, func(x *api.Spec) { x.Labels[1].Key = "a" }},
		{"four init containers", 2, func(x *api.Spec) { x.Init = make([]api.Container, 4) }},
		{"no main container", 2, func(x *api.Spec) { x.Main = nil }},
		{"five main containers", 2, func(x *api.Spec) { x.Main = make([]api.Container, 5) }},
		{"many main containers", 2, func(x *api.Spec) { x.Main = make([]api.Container, 100000) }},
		{"a container's name", 30, func(x *api.Spec) { x.Main[1].Name = "N" }},
		{"one name twice", 7, func(x *api.Spec) { x.Main[1].Name = "i" }},
		{"an image", 33, func(x *api.Spec) { x.Main[0].Image = "app" }},
		{"resources", 1, func(x *api.Spec) { x.Main[0].Req.CPU = -1 }},
		{"limits", 1, func(x *api.Spec) { x.Main[0].Lim.Mem = 3 }},
		{"a port", 1, func(x *api.Spec) { x.Main[0].Ports[1] = 65536 }},
		{"one port twice", 150, func(x *api.Spec) { x.Main[1].Ports[0] = 80 }},
		{"a probe", 1, func(x *api.Spec) { x.Main[0].Probe.Fails = 0 }},
		{"Restart", 1, func(x *api.Spec) { x.Restart = 0 }},
		{"Grace", 1, func(x *api.Spec) { x.Grace = 1001 }},
		{"Prio", 1, func(x *api.Spec) { x.Prio = 11 }},
		{"an image ahead of Prio", 33, func(x *api.Spec) { x.Prio, x.Main[0].Image = -1, "" }},
	} {
		s := made(t, 9, small("db"))
		x := rich("web")
		c.fault(&x)
		refuses(t, c.what, s, c.code, func() (api.Pod, api.Code) { return s.Create(x) })
		// No UID was taken by it.
		if p, code := s.Create(rich("web")); code != api.OK || p.UID != 2 || p.Rev != 2 {
			t.Errorf("%s: Create of what may be, then = %+v, %d", c.what, p, int(code))
		}
	}
	s := New(9, 9)
	refuses(t, "the zero spec", s, 30, func() (api.Pod, api.Code) { return s.Create(api.Spec{}) })
}

// 13.2: a name is there until its pod is gone
func TestCreateOfANameThatIsThere(t *testing.T) {
	s := made(t, 20, rich("web"), small("db"))
	there := func(when string) {
		t.Helper()
		for _, x := range []api.Spec{small("web"), rich("web"), small("db")} {
			refuses(t, when, s, 7, func() (api.Pod, api.Code) { return s.Create(x) })
		}
	}
	there("new")
	s.Update(1, 1, tagged("web", "2"))
	there("updated")
	s.Status(1, api.PDone, []int{0, 0})
	there("done")
	s.Mark(1, api.WKilled, 0)
	there("marked")
	s.Drop(1)
	want := api.Pod{UID: 3, Spec: small("web"), Phase: 1, Restarts: []int{0}}
	changes(t, "Create of a name that went", s, api.EAdd, want, func() (api.Pod, api.Code) { return s.Create(small("web")) })
	there("came again")
}

// full is a store of as many pods as may be, with left revisions left.
func full(t *testing.T, left uint64) *Store {
	t.Helper()
	var l []api.Spec
	for n := range mostPods {
		l = append(l, small(fmt.Sprint("p", n)))
	}
	return made(t, left, l...)
}

// 13.2: one pod more than may be, until one is gone, whatever else is changed
func TestCreateOfOnePodMore(t *testing.T) {
	s := full(t, 20)
	more := func() (api.Pod, api.Code) { return s.Create(small("more")) }
	if s.Len() != mostPods {
		t.Fatalf("%d pods", s.Len())
	}
	refuses(t, "one more", s, 8, more)
	s.Status(3, api.PFailed, []int{0})
	refuses(t, "one failed", s, 8, more)
	s.Mark(3, api.WEvicted, 0)
	refuses(t, "one is marked", s, 8, more)
	s.Drop(3)
	want := api.Pod{UID: 17, Spec: small("more"), Phase: 1, Restarts: []int{0}}
	changes(t, "one is gone", s, api.EAdd, want, more)
	refuses(t, "full again", s, 8, func() (api.Pod, api.Code) { return s.Create(small("p2")) })
	s.Mark(17, api.WKilled, 0)
	s.Drop(17)
	// The greatest UID is not given again either.
	want.UID = 18
	changes(t, "the last one is gone", s, api.EAdd, want, more)
}

// 13.2: each choice of what may be wrong at once, with the code that comes first
func TestCreateOrder(t *testing.T) {
	for wrong := range 16 {
		is := func(bit int) bool { return wrong&bit != 0 }
		x, want := small("new"), api.OK
		if is(2) {
			x.Name = "p0"
		}
		if is(1) {
			x.Restart = 4
		}
		switch {
		case is(1):
			want = api.ErrRange
		case is(2):
			want = api.ErrThere
		case is(4):
			want = api.ErrFull
		case is(8):
			want = api.ErrSpent
		}
		left := uint64(1)
		if is(8) {
			left = 0
		}
		s := made(t, left, small("p0"), small("p1"))
		if is(4) {
			s = full(t, left)
		}
		uid := s.Len() + 1
		do := func() (api.Pod, api.Code) { return s.Create(x) }
		if want != api.OK {
			refuses(t, fmt.Sprintf("Create, wrong %04b", wrong), s, want, do)
		} else {
			changes(t, "Create", s, api.EAdd, api.Pod{UID: uid, Spec: x, Phase: 1, Restarts: []int{0}}, do)
		}
	}
}

// 13.2: what an update may change, and all else stays
func TestUpdate(t *testing.T) {
	s := made(t, 20, small("db"), rich("web"))
	want := api.Pod{UID: 2, Spec: rich("web"), Phase: 1, Restarts: []int{0, 0}}
	now := rich("web")
	now.Labels = []api.Label{{Key: "z"}}
	now.Main[0].Image, now.Main[1].Image = "lib/app:2", "log:3"
	now.Restart, now.Grace, now.Prio = api.RAlways, 0, 0
	for i, x := range []api.Spec{tagged("web", "2"), tagged("web", "3"), now, rich("web")} {
		rev := s.Rev()
		want.Spec = x
		changes(t, fmt.Sprint("Update ", i), s, 2, want, func() (api.Pod, api.Code) { return s.Update(2, rev, x) })
	}
	// An update to what it is takes a revision, too.
	changes(t, "Update to the same", s, 2, want, func() (api.Pod, api.Code) { return s.Update(2, 6, rich("web")) })
	// Phase and restarts are as they were.
	s.Status(2, api.PRunning, []int{3, 1})
	want.Phase, want.Restarts, want.Spec = 2, []int{3, 1}, tagged("web", "4")
	changes(t, "Update of one that runs", s, 2, want, func() (api.Pod, api.Code) { return s.Update(2, 8, tagged("web", "4")) })
	s.Status(2, api.PDone, []int{3, 2})
	want.Phase, want.Restarts, want.Spec = 3, []int{3, 2}, rich("web")
	changes(t, "Update of one that is done", s, 2, want, func() (api.Pod, api.Code) { return s.Update(2, 10, rich("web")) })
	if p, _ := s.Get(1); p.Rev != 1 || s.Len() != 2 {
		t.Errorf("the other one is %+v", p)
	}
}

// 13.2: UIDs and revisions that are none, or another one's
func TestUpdateOfAnotherOne(t *testing.T) {
	s := made(t, 20, rich("web"), rich("db"), rich("gone"))
	s.Update(1, 1, tagged("web", "2"))
	s.Mark(3, api.WKilled, 0)
	s.Drop(3)
	// The pods are 1, of the revision 4, and 2, of the revision 2.
	for _, uid := range []int{math.MinInt, -1, 0, 3, 4, 1 + 1<<32, math.MaxInt} {
		for _, rev := range []uint64{0, 2, 3, 4, 5, 6} {
			refuses(t, fmt.Sprintf("Update(%d, %d)", uid, rev), s, 390, func() (api.Pod, api.Code) { return s.Update(uid, rev, rich("web")) })
		}
	}
	for _, rev := range []uint64{0, 1, 2, 3, 5, 6, 4 + 1<<32, math.MaxUint64} {
		refuses(t, fmt.Sprintf("Update(1, %d)", rev), s, 130, func() (api.Pod, api.Code) { return s.Update(1, rev, rich("web")) })
	}
	for _, rev := range []uint64{0, 1, 3, 4, 6} {
		refuses(t, fmt.Sprintf("Update(2, %d)", rev), s, 130, func() (api.Pod, api.Code) { return s.Update(2, rev, rich("db")) })
	}
	// A status is a change, and the revision is another one then.
	s.Status(2, api.PRunning, []int{0, 0})
	refuses(t, "Update(2, 2) behind Status", s, 130, func() (api.Pod, api.Code) { return s.Update(2, 2, rich("db")) })
	if p, code := s.Update(2, 7, rich("db")); code != api.OK || p.Rev != 8 {
		t.Errorf("Update(2, 7) = %+v, %d", p, int(code))
	}
}

// 13.2: each thing that an update may not change, and specs that may not be
func TestUpdateOfWhatIsFrozen(t *testing.T) {
	for _, c := range []struct {
		what  string
		code  api.Code
		fault func(x *api.Spec)
	}{
		{"the name", 4, func(x *api.Spec) { x.Name = "other" }},
		{"another pod's name", 4, func(x *api.Spec) { x.Name = "db" }},
		{"no init container", 4, func(x *api.Spec) { x.Init = nil }},
		{"an init container's image", 4, func(x *api.Spec) { x.Init[0].Image = "lib/init:2" }},
		{"a main container less", 4, func(x *api.Spec) { x.Main = x.Main[:1] }},
		{"one more", 4, func(x *api.Spec) { x.Main = append(x.Main, api.Container{Name: "o", Image: "log:2"}) }},
		{"their order", 4, func(x *api.Spec) { x.Main[0], x.Main[1] = x.Main[1], x.Main[0] }},
		{"resources", 4, func(x *api.Spec) { x.Main[0].Req.CPU-- }},
		{"a port", 4, func(x *api.Spec) { x.Main[1].Ports[0] = 91 }},
		{"a probe", 4, func(x *api.Spec) { x.Main[0].Probe.Every++ }},
		{"a repository", 33, func(x *api.Spec) { x.Main[1].Image = "app:2" }},
		{"an image ahead of a port", 33, func(x *api.Spec) { x.Main[0].Image, x.Main[1].Ports[0] = "log:1", 91 }},
		{"the zero spec", 30, func(x *api.Spec) { *x = api.Spec{} }},
		{"a label", 31, func(x *api.Spec) { x.Labels[0].Key = "" }},
		{"no image", 33, func(x *api.Spec) { x.Main[0].Image = "-" }},
		{"Restart", 1, func(x *api.Spec) { x.Restart = 4 }},
		{"what may not be ahead of what is frozen", 1, func(x *api.Spec) { x.Name, x.Prio = "other", 11 }},
	} {
		s := made(t, 9, rich("web"), rich("db"))
		x := rich("web")
		c.fault(&x)
		refuses(t, c.what, s, c.code, func() (api.Pod, api.Code) { return s.Update(1, 1, x) })
		want := api.Pod{UID: 1, Spec: tagged("web", "2"), Phase: 1, Restarts: []int{0, 0}}
		changes(t, "behind "+c.what+": Update", s, api.EMod, want, func() (api.Pod, api.Code) { return s.Update(1, 1, want.Spec) })
	}
}

// 13.2: what is frozen is held against the spec as it is now
func TestUpdateBehindUpdate(t *testing.T) {
	s := made(t, 20, rich("web"))
	s.Update(1, 1, tagged("web", "2"))
	other := tagged("web", "3")
	other.Main[0].Image = "lib/init:2"
	refuses(t, "another repository", s, 33, func() (api.Pod, api.Code) { return s.Update(1, 2, other) })
	if p, code := s.Update(1, 2, tagged("web", "3")); code != api.OK || p.Spec.Main[0].Image != "lib/app:3" {
		t.Errorf("Update = %+v, %d", p, int(code))
	}
}

// 13.2: each choice of what may be wrong at once, with the code that comes first
func TestUpdateOrder(t *testing.T) {
	for wrong := range 64 {
		is := func(bit int) bool { return wrong&bit != 0 }
		left := uint64(2)
		if is(32) {
			left = 1
		}
		// One revision is taken ahead of the update, by a mark or by something else.
		s := made(t, left, rich("web"))
		if is(4) {
			s.Mark(1, api.WKilled, 5)
		} else {
			s.Status(1, api.PRunning, []int{1, 0})
		}
		uid, rev, x := 1, uint64(2), tagged("web", "2")
		if is(1) {
			uid = 2
		}
		if is(2) {
			rev = 1
		}
		if is(8) {
			x.Grace = -1
		}
		if is(16) {
			x.Main[0].Image = "lib/init:2"
		}
		want := api.OK
		for i, code := range []api.Code{api.ErrUID, api.ErrStale, api.ErrState, api.ErrRange, api.ErrImage, api.ErrSpent} {
			if is(1 << i) {
				want = code
				break
			}
		}
		do := func() (api.Pod, api.Code) { return s.Update(uid, rev, x) }
		if want != api.OK {
			refuses(t, fmt.Sprintf("Update, wrong %06b", wrong), s, want, do)
		} else {
			changes(t, "Update", s, api.EMod, api.Pod{UID: 1, Spec: x, Phase: 2, Restarts: []int{1, 0}}, do)
		}
	}
}
