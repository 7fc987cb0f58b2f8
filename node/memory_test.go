package node

import (
	"math"
	"reflect"
	"slices"
	"testing"

	"provost/api"
)

// spare is a list like l, with some of more in its spare room.
func spare[T any](l []T, more ...T) []T {
	return slices.Concat(l, more)[:len(l)]
}

// handed is a spec like s, that shares nothing with it, and in whose spare room stands what changes the answer, if it is read.
func handed(s api.Spec) api.Spec {
	great := api.Container{Name: "-", Req: same(math.MaxInt), Ports: []int{80, 80}}
	s.Labels = spare(s.Labels, api.Label{Key: "="})
	s.Init, s.Main = spare(s.Init, great), spare(s.Main, great)
	for _, l := range [][]api.Container{s.Init, s.Main} {
		for i := range l {
			l[i].Ports = spare(l[i].Ports, 80, 443, 4711, 0)
		}
	}
	return s
}

// room is s with what lies behind the lengths of its lists.
func room(s api.Spec) api.Spec {
	s.Labels = s.Labels[:cap(s.Labels)]
	s.Init, s.Main = slices.Clone(s.Init[:cap(s.Init)]), slices.Clone(s.Main[:cap(s.Main)])
	for _, l := range [][]api.Container{s.Init, s.Main} {
		for i := range l {
			l[i].Ports = l[i].Ports[:cap(l[i].Ports)]
		}
	}
	return s
}

// spoil makes another thing of all parts of s.
func spoil(s api.Spec) {
	for _, l := range [][]api.Container{s.Init[:cap(s.Init)], s.Main[:cap(s.Main)]} {
		for i := range l {
			for k := range l[i].Ports[:cap(l[i].Ports)] {
				l[i].Ports[:cap(l[i].Ports)][k] = 4711
			}
			l[i] = api.Container{Name: "x", Req: same(7), Ports: []int{4711}}
		}
	}
	clear(s.Labels[:cap(s.Labels)])
}

// rich is a spec with all that a spec may have.
func rich() api.Spec {
	s := large([]api.Res{three(1, 20, 3), three(3, 2, 1)}, []api.Res{three(5, 5, 5), three(1, 1, 1)}, 9, 10, 11, 12)
	s.Labels = []api.Label{{Key: "app", Val: "web"}, {Key: "tier", Val: ""}}
	s.Main[1].Lim, s.Main[1].Probe = three(2, 0, 1), api.Probe{Every: 1000, Fails: 10}
	s.Grace, s.Prio = 1000, 10
	return s
}

// R4: what was handed in is not changed, spare room too, whatever is answered
func TestHandedInIsNotChanged(t *testing.T) {
	port, place := rich(), rich()
	port.Main[1].Ports[2] = 80
	place.Main[0].Req.CPU = 40
	bad := rich()
	bad.Prio = 11
	for _, s := range []api.Spec{rich(), port, place, bad, pod(same(1), 9, 10), {}} {
		for _, uid := range []int{0, 1, 2} {
			b := some(t)
			x, was := handed(s), handed(s)
			fits, admit := b.n.Fits(x), b.n.Admit(uid, x)
			if wantFits, wantAdmit := b.m.fits(s), b.m.admit(uid, s); fits != wantFits || admit != wantAdmit {
				t.Errorf("%v: Fits = %d, want %d; Admit = %d, want %d", s, int(fits), int(wantFits), int(admit), int(wantAdmit))
			}
			if !reflect.DeepEqual(room(x), room(was)) {
				t.Errorf("%v is %v now", room(was), room(x))
			}
			b.holds()
		}
	}
}

// R4: what was handed in is not kept
func TestHandedInIsNotKept(t *testing.T) {
	b := some(t)
	x := handed(rich())
	if code := b.n.Admit(1, x); code != ok || b.m.admit(1, rich()) != ok {
		t.Fatalf("Admit = %d", int(code))
	}
	b.holds()
	spoil(x)
	b.holds()
	if b.n.Owner(4711) != 0 || b.n.Owner(12) != 1 {
		t.Errorf("Owner(4711) = %d, Owner(12) = %d", b.n.Owner(4711), b.n.Owner(12))
	}
	b.release(1)
	b.holds()
	b.admits(1, rich())
}

// R4: lists that were told are the asker's, spare room too
func TestPodsIsTheAskers(t *testing.T) {
	b := some(t)
	other, got := b.n.Pods(), b.n.Pods()
	slices.Reverse(got)
	clear(got)
	_ = append(got, 1, 2, 3)
	for i := range got[:cap(got)] {
		got[:cap(got)][i] = 77
	}
	if !slices.Equal(other, []int{2, 3, 5, math.MaxInt}) {
		t.Errorf("Pods, told ahead, is %v", other)
	}
	b.holds()
	b.admits(77, pod(same(1)))
	b.release(2)
	b.holds()
}

// R4: lists that were told stay as they were told, spare room too, and so do resources
func TestPodsStaysAsItWasTold(t *testing.T) {
	b := some(t)
	got := b.n.Pods()
	all := got[:cap(got)]
	want := slices.Clone(all)
	used, left := b.n.Used(), b.n.Left()
	b.admit(1, pod(same(1), 9))
	b.release(5)
	b.admit(4, pod(same(2)))
	b.release(2)
	b.release(math.MaxInt)
	b.holds()
	if !slices.Equal(all, want) || !slices.Equal(got, []int{2, 3, 5, math.MaxInt}) || used != three(61, 23, 12) || left != three(39, 177, 288) {
		t.Errorf("what was told is %v, %v, %v now; was %v", all, used, left, want)
	}
}
