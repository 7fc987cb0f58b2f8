package store

import (
	"fmt"
	"math"
	"slices"
	"testing"

	"provost/api"
)

// inPhase is a store of one pod of two main containers, in that phase, with the restarts 2 and 5, that has left revisions left, and the pod.
func inPhase(t *testing.T, phase int, left uint64) (*Store, api.Pod) {
	t.Helper()
	s := made(t, left+1, rich("web"))
	p, code := s.Status(1, phase, []int{2, 5})
	want := api.Pod{UID: 1, Rev: 2, Spec: rich("web"), Phase: phase, Restarts: []int{2, 5}}
	if code != api.OK || !alike(p, want) {
		t.Fatalf("Status = %+v, %d", p, int(code))
	}
	return s, p
}

// 13.3: each phase from each one
func TestStatusPhases(t *testing.T) {
	follow := []([2]int){{1, 2}, {1, 3}, {1, 4}, {2, 3}, {2, 4}}
	for from := 1; from <= 4; from++ {
		for _, to := range []int{math.MinInt, -1, 0, 1, 2, 3, 4, 5, from + 1<<32, math.MaxInt} {
			for _, restarts := range [][]int{{2, 5}, {3, 5}} {
				s, p := inPhase(t, from, 3)
				what := fmt.Sprintf("Status of %d to %d, %v", from, to, restarts)
				do := func() (api.Pod, api.Code) { return s.Status(1, to, restarts) }
				p.Phase, p.Restarts = to, restarts
				switch {
				case slices.Contains(follow, [2]int{from, to}), to == from && restarts[0] == 3:
					changes(t, what, s, 2, p, do)
				case to == from:
					isAsItWas(t, what, s, p, do)
				default:
					refuses(t, what, s, 5, do)
				}
			}
		}
	}
}

// isAsItWas holds that do tells the pod as it is, as often as it is asked, and that all is as it was.
func isAsItWas(t *testing.T, what string, s *Store, want api.Pod, do func() (api.Pod, api.Code)) {
	t.Helper()
	was := picture(s)
	for range 2 {
		if p, code := do(); code != api.OK || !alike(p, want) {
			t.Errorf("%s = %+v, %d; want %+v", what, p, int(code), want)
		}
		if now := picture(s); now != was {
			t.Errorf("%s changed\n%s\nto\n%s", what, was, now)
		}
	}
}

// 13.3: too few restarts, too many, some that are less, and some that may be
func TestStatusRestarts(t *testing.T) {
	for _, c := range []struct {
		restarts []int
		may      bool
	}{
		{nil, false}, {[]int{}, false}, {[]int{2}, false}, {[]int{9}, false}, {[]int{2, 5, 0}, false}, {[]int{9, 9, 9}, false}, {make([]int, 4), false}, {make([]int, 100000), false},
		{[]int{1, 5}, false}, {[]int{0, 5}, false}, {[]int{2, 4}, false}, {[]int{0, 0}, false}, {[]int{-1, 5}, false}, {[]int{2, math.MinInt}, false},
		{[]int{1, 6}, false}, {[]int{3, 4}, false}, {[]int{5, 2}, false}, {[]int{math.MaxInt, 4}, false}, {[]int{1, math.MaxInt}, false},
		{[]int{3, 5}, true}, {[]int{2, 6}, true}, {[]int{3, 6}, true}, {[]int{100, 5}, true}, {[]int{1 << 30, 1 << 40}, true}, {[]int{math.MaxInt, math.MaxInt}, true},
	} {
		for _, phase := range []int{1, 2, 3, 4} {
			s, p := inPhase(t, 1, 3)
			what := fmt.Sprintf("Status to %d of %.9v", phase, c.restarts)
			do := func() (api.Pod, api.Code) { return s.Status(1, phase, c.restarts) }
			if !c.may {
				refuses(t, what, s, 4, do)
				continue
			}
			p.Phase, p.Restarts = phase, c.restarts
			changes(t, what, s, 2, p, do)
			// Each number is held against what it is now.
			less := slices.Clone(c.restarts)
			less[1]--
			refuses(t, what+", then less", s, 4, func() (api.Pod, api.Code) { return s.Status(1, phase, less) })
		}
	}
}

// 13.3: all as it was takes no revision and is no event, also where none is left, of each phase, and of a marked pod
func TestStatusAsItWas(t *testing.T) {
	for phase := 1; phase <= 4; phase++ {
		for _, left := range []uint64{0, 1, 9} {
			s, p := inPhase(t, phase, left)
			isAsItWas(t, "Status to the same", s, p, func() (api.Pod, api.Code) { return s.Status(1, phase, []int{2, 5}) })
			if s.Rev() != 2 || s.Left() != left {
				t.Errorf("Rev %d, Left %d", s.Rev(), s.Left())
			}
			if left > 0 {
				p, _ = s.Mark(1, api.WEvicted, 3)
				isAsItWas(t, "Status of a marked pod", s, p, func() (api.Pod, api.Code) { return s.Status(1, phase, []int{2, 5}) })
			}
		}
	}
	s := made(t, 0, small("web"))
	want := api.Pod{UID: 1, Rev: 1, Spec: small("web"), Phase: 1, Restarts: []int{0}}
	isAsItWas(t, "Status of a new pod", s, want, func() (api.Pod, api.Code) { return s.Status(1, 1, []int{0}) })
}

// 13.3: a marked pod goes on: the mark stays
func TestStatusOfAMarkedPod(t *testing.T) {
	s, p := inPhase(t, api.PPending, 5)
	p.Mark, p.Grace = api.WKilled, 7
	s.Mark(1, p.Mark, p.Grace)
	p.Phase = api.PRunning
	changes(t, "Status of a marked pod", s, api.EMod, p, func() (api.Pod, api.Code) { return s.Status(1, 2, []int{2, 5}) })
	p.Phase, p.Restarts = api.PFailed, []int{2, 6}
	changes(t, "Status of a marked pod", s, api.EMod, p, func() (api.Pod, api.Code) { return s.Status(1, 4, []int{2, 6}) })
}

// 13.3: UIDs that are none
func TestUnknownUIDs(t *testing.T) {
	s := made(t, 20, rich("web"), rich("gone"))
	s.Mark(2, api.WKilled, 0)
	s.Drop(2)
	for _, uid := range []int{math.MinInt, -1, 0, 2, 3, 1 + 1<<32, math.MaxInt} {
		for _, phase := range []int{0, 1, 2} {
			refuses(t, fmt.Sprintf("Status of %d", uid), s, 390, func() (api.Pod, api.Code) { return s.Status(uid, phase, []int{0, 0}) })
			refuses(t, fmt.Sprintf("Mark of %d", uid), s, 390, func() (api.Pod, api.Code) { return s.Mark(uid, phase, 0) })
		}
		refuses(t, fmt.Sprintf("Drop of %d", uid), s, 390, dropping(s, uid))
	}
}

// dropping is Drop, its revision told as a pod's.
func dropping(s *Store, uid int) func() (api.Pod, api.Code) {
	return func() (api.Pod, api.Code) {
		n, code := s.Drop(uid)
		return api.Pod{Rev: n}, code
	}
}

// 13.3: each choice of what may be wrong at once, with the code that comes first
func TestStatusOrder(t *testing.T) {
	for wrong := range 16 {
		is := func(bit int) bool { return wrong&bit != 0 }
		left := uint64(1)
		if is(8) {
			left = 0
		}
		s, p := inPhase(t, api.PRunning, left)
		uid, phase, restarts := 1, api.PDone, []int{2, 6}
		if is(1) {
			uid = 2
		}
		if is(2) {
			phase = api.PPending
		}
		if is(4) {
			restarts = []int{2, 4}
		}
		want := api.OK
		for i, code := range []api.Code{api.ErrUID, api.ErrState, api.ErrShape, api.ErrSpent} {
			if is(1 << i) {
				want = code
				break
			}
		}
		do := func() (api.Pod, api.Code) { return s.Status(uid, phase, restarts) }
		if want != api.OK {
			refuses(t, fmt.Sprintf("Status, wrong %04b", wrong), s, want, do)
		} else {
			p.Phase, p.Restarts = phase, restarts
			changes(t, "Status", s, api.EMod, p, do)
		}
	}
	// Where the phase or the restarts alone are other ones, no revision is no revision.
	s, _ := inPhase(t, api.PRunning, 0)
	refuses(t, "Status of another phase", s, 100, func() (api.Pod, api.Code) { return s.Status(1, api.PFailed, []int{2, 5}) })
	refuses(t, "Status of more restarts", s, 100, func() (api.Pod, api.Code) { return s.Status(1, api.PRunning, []int{2, 6}) })
}

// 13.3: each why, and each grace around the edges
func TestMark(t *testing.T) {
	for _, why := range []int{math.MinInt, -1, 0, 1, 2, 3, 1 + 1<<32, math.MaxInt} {
		for _, grace := range []int{math.MinInt, -1, 0, 1, 8, mostGrace - 1, mostGrace, mostGrace + 1, 1 << 32, math.MaxInt} {
			for _, phase := range []int{1, 3} {
				s, p := inPhase(t, phase, 3)
				what := fmt.Sprintf("Mark(1, %d, %d)", why, grace)
				do := func() (api.Pod, api.Code) { return s.Mark(1, why, grace) }
				if (why == 1 || why == 2) && grace >= 0 && grace <= mostGrace {
					p.Mark, p.Grace = why, grace
					changes(t, what, s, 2, p, do)
					refuses(t, what+" again", s, 5, do)
				} else {
					refuses(t, what, s, 4, do)
				}
			}
		}
	}
}

// 13.3: a pod is marked once, and stays so
func TestMarkOfAMarkedPod(t *testing.T) {
	for _, why := range []int{api.WKilled, api.WEvicted} {
		s := made(t, 9, rich("web"), rich("db"))
		s.Mark(1, why, 4)
		for _, again := range []int{api.WKilled, api.WEvicted} {
			for _, grace := range []int{0, 4, 5, mostGrace} {
				refuses(t, "Mark of a marked pod", s, 5, func() (api.Pod, api.Code) { return s.Mark(1, again, grace) })
			}
			refuses(t, "Mark of a marked pod, with too much", s, 4, func() (api.Pod, api.Code) { return s.Mark(1, again, mostGrace+1) })
		}
		refuses(t, "Mark of a marked pod, with none", s, 4, func() (api.Pod, api.Code) { return s.Mark(1, api.WNone, 4) })
		if p, code := s.Get(1); code != api.OK || p.Mark != why || p.Grace != 4 || p.Rev != 3 {
			t.Errorf("it is %+v, %d", p, int(code))
		}
		refuses(t, "Update of a marked pod", s, 5, func() (api.Pod, api.Code) { return s.Update(1, 3, rich("web")) })
		// The other one is not.
		want := api.Pod{UID: 2, Spec: rich("db"), Phase: 1, Restarts: []int{0, 0}, Mark: why}
		changes(t, "Mark of the other one", s, api.EMod, want, func() (api.Pod, api.Code) { return s.Mark(2, why, 0) })
	}
}

// 13.3: each choice of what may be wrong at once, with the code that comes first
func TestMarkOrder(t *testing.T) {
	for wrong := range 16 {
		is := func(bit int) bool { return wrong&bit != 0 }
		left := uint64(2)
		if is(8) {
			left = 1
		}
		s, p := inPhase(t, api.PRunning, left)
		if is(4) {
			s.Mark(1, api.WKilled, 3)
		} else {
			p, _ = s.Status(1, api.PRunning, []int{2, 6})
		}
		uid, grace := 1, 9
		if is(1) {
			uid = 2
		}
		if is(2) {
			grace = -1
		}
		want := api.OK
		for i, code := range []api.Code{api.ErrUID, api.ErrShape, api.ErrState, api.ErrSpent} {
			if is(1 << i) {
				want = code
				break
			}
		}
		do := func() (api.Pod, api.Code) { return s.Mark(uid, api.WEvicted, grace) }
		if want != api.OK {
			refuses(t, fmt.Sprintf("Mark, wrong %04b", wrong), s, want, do)
		} else {
			p.Mark, p.Grace = api.WEvicted, grace
			changes(t, "Mark", s, api.EMod, p, do)
		}
	}
}

// 13.3: one that goes: as it was, but for its revision
func TestDrop(t *testing.T) {
	for _, why := range []int{api.WKilled, api.WEvicted} {
		for phase := 1; phase <= 4; phase++ {
			s, _ := inPhase(t, phase, 4)
			s.Create(small("db"))
			refuses(t, "Drop of a pod that is not marked", s, 5, dropping(s, 1))
			p, _ := s.Mark(1, why, 6)
			rev, left := s.Rev(), s.Left()
			n, code := s.Drop(1)
			if code != api.OK || n != rev+1 || n != 5 {
				t.Errorf("Drop = %d, %d", n, int(code))
			}
			p.Rev = n
			took(t, "Drop", s, rev, left, api.Event{Kind: 3, Rev: n, Pod: p})
			if s.Len() != 1 || s.Find("web") != 0 || s.Find("db") != 2 || !slices.Equal(uidsOf(s.List(nil)), []int{2}) {
				t.Errorf("behind Drop: Len %d, Find %d, List %v", s.Len(), s.Find("web"), uidsOf(s.List(nil)))
			}
			refuses(t, "Get of one that went", s, 390, func() (api.Pod, api.Code) { return s.Get(1) })
			refuses(t, "Update of one that went", s, 390, func() (api.Pod, api.Code) { return s.Update(1, n, rich("web")) })
			refuses(t, "Status of one that went", s, 390, func() (api.Pod, api.Code) { return s.Status(1, phase, []int{2, 5}) })
			refuses(t, "Mark of one that went", s, 390, func() (api.Pod, api.Code) { return s.Mark(1, why, 0) })
			refuses(t, "Drop of one that went", s, 390, dropping(s, 1))
		}
	}
}

// 13.3: with no revision left what is marked stays; one more lets it go
func TestDropWithNoRevisionLeft(t *testing.T) {
	for _, left := range []uint64{0, 1} {
		s, _ := inPhase(t, api.PFailed, left+1)
		p, _ := s.Mark(1, api.WKilled, 0)
		if left == 0 {
			refuses(t, "Drop", s, 100, dropping(s, 1))
			if got, code := s.Get(1); code != api.OK || !alike(got, p) {
				t.Errorf("it is %+v, %d", got, int(code))
			}
			refuses(t, "Drop of another one", s, 390, dropping(s, 2))
		} else if n, code := s.Drop(1); n != 4 || code != api.OK || s.Left() != 0 {
			t.Errorf("Drop = %d, %d; Left %d", n, int(code), s.Left())
		}
	}
	s, _ := inPhase(t, api.PFailed, 0)
	refuses(t, "Drop of a pod that is not marked", s, 5, dropping(s, 1))
}

// 13.2, 13.3: once no revision is left, all that would change something is refused, and what asks is not
func TestNoRevisionLeft(t *testing.T) {
	s := made(t, 1, rich("web"), rich("db"))
	marked, _ := s.Mark(2, api.WKilled, 0)
	for what, do := range map[string]func() (api.Pod, api.Code){
		"Create":     func() (api.Pod, api.Code) { return s.Create(small("new")) },
		"Update":     func() (api.Pod, api.Code) { return s.Update(1, 1, tagged("web", "2")) },
		"the same":   func() (api.Pod, api.Code) { return s.Update(1, 1, rich("web")) },
		"Status":     func() (api.Pod, api.Code) { return s.Status(1, api.PRunning, []int{0, 0}) },
		"Status too": func() (api.Pod, api.Code) { return s.Status(2, api.PPending, []int{0, 1}) },
		"Mark":       func() (api.Pod, api.Code) { return s.Mark(1, api.WKilled, 0) },
		"Drop":       dropping(s, 2),
	} {
		refuses(t, what, s, 100, do)
	}
	isAsItWas(t, "Get", s, marked, func() (api.Pod, api.Code) { return s.Get(2) })
	if s.Find("web") != 1 || len(s.List(nil)) != 2 || s.Len() != 2 || s.Rev() != 3 || s.Left() != 0 {
		t.Errorf("Find %d, Len %d, Rev %d, Left %d", s.Find("web"), s.Len(), s.Rev(), s.Left())
	}
	if n := s.Compact(2); n != 2 || s.Floor() != 2 {
		t.Errorf("Compact(2) = %d; Floor %d", n, s.Floor())
	}
}
