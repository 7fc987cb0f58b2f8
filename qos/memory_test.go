package qos

import (
	"math"
	"reflect"
	"slices"
	"testing"

	"provost/api"
)

// spare is a list like l, with some of more in its spare room.
func spare[T any](l []T, more ...T) []T {
	return slices.Concat(l, more)[:len(l)]
}

// great is a container that says another thing of whatever pod it is in.
func great() api.Container {
	return box(three(math.MaxInt, math.MaxInt, math.MaxInt), three(1, 2, 3))
}

// handedSpec is a spec like s, that shares nothing with it, and in whose spare room stands what changes the answer, if it is read.
func handedSpec(s api.Spec) api.Spec {
	s.Labels = spare(s.Labels, api.Label{Key: "="})
	s.Init, s.Main = spare(s.Init, great(), great()), spare(s.Main, great(), great())
	for _, l := range [][]api.Container{s.Init, s.Main} {
		for i := range l {
			l[i].Ports = spare(l[i].Ports, 80, 443)
		}
	}
	return s
}

// handed are candidates like l, handed in like handedSpec; one that goes ahead of all stands in the spare room.
func handed(l []Cand) []Cand {
	made := spare(l, cand(77, math.MinInt, math.MinInt, math.MaxInt), cand(78, math.MinInt, math.MinInt, math.MaxInt))
	for i := range made {
		made[i].Spec = handedSpec(made[i].Spec)
	}
	return made
}

// roomOfSpec is s with what lies behind the lengths of its lists.
func roomOfSpec(s api.Spec) api.Spec {
	s.Labels = s.Labels[:cap(s.Labels)]
	s.Init, s.Main = slices.Clone(s.Init[:cap(s.Init)]), slices.Clone(s.Main[:cap(s.Main)])
	for _, l := range [][]api.Container{s.Init, s.Main} {
		for i := range l {
			l[i].Ports = l[i].Ports[:cap(l[i].Ports)]
		}
	}
	return s
}

// room is l with what lies behind the lengths of its lists, and of its specs' lists.
func room(l []Cand) []Cand {
	l = slices.Clone(l[:cap(l)])
	for i := range l {
		l[i].Spec = roomOfSpec(l[i].Spec)
	}
	return l
}

// some are candidates with all that a spec may have, in no order.
func some() []Cand {
	l := []Cand{cand(1, 0, 5, 5), cand(2, 0, 5, 6), cand(3, 5, 0, 99), cand(4, 0, 5, 9), cand(5, 0, 5, 1), cand(6, 3, 5, 5)}
	for i := range l {
		s := &l[i].Spec
		s.Labels = []api.Label{{Key: "app", Val: "web"}, {Key: "tier"}}
		s.Init = []api.Container{box(three(9, 4, 9), three(9, 4, 9)), box(three(0, 0, 1), api.Res{})}
		s.Main[0].Ports = []int{8080, 22}
	}
	// One whose init container asks for more, one that asks for too much, and one without containers.
	l[3].Spec.Init[1].Req.Mem = 8
	l[5].Spec.Main = append(l[5].Spec.Main, great(), great())
	l[0].Spec.Init, l[0].Spec.Main = nil, nil
	return l
}

// R4: what was handed in is not changed, spare room neither read nor written
func TestHandedInIsNotChanged(t *testing.T) {
	l := some()
	want := wantOrder(l)
	x, was := handed(l), handed(l)
	ordered(t, x, want...)
	for i, c := range x {
		for k, d := range x {
			if got := First(c, d); got != goes(l[i], l[k]) {
				t.Errorf("First(%v, %v) = %v", l[i], l[k], got)
			}
		}
		if got := Class(c.Spec); got != wantClass(l[i].Spec) {
			t.Errorf("Class(%v) = %d", l[i].Spec, got)
		}
	}
	if !reflect.DeepEqual(room(x), room(was)) {
		t.Errorf("%v was handed in, and is %v now", room(was), room(x))
	}
	// Of lists without an element, too.
	ordered(t, handed(nil))
	if got := Class(handedSpec(api.Spec{})); got != best {
		t.Errorf("Class of no containers = %d", got)
	}
	if got := Class(handedSpec(pod([]api.Container{none()}, []api.Container{none()}))); got != best {
		t.Errorf("Class of containers without anything = %d", got)
	}
	if got := Class(handedSpec(pod([]api.Container{just(1, 1, 1)}, []api.Container{just(2, 2, 2)}))); got != sure {
		t.Errorf("Class of sure containers = %d", got)
	}
}

// R4: a list that was told is the asker's, spare room too
func TestOrderIsTheAskers(t *testing.T) {
	l := some()
	want := wantOrder(l)
	other, got := Order(l), Order(l)
	clear(got[:cap(got)])
	_ = append(got, 1, 2, 3)
	if !slices.Equal(other, want) {
		t.Errorf("Order, told ahead, is %v", other)
	}
	ordered(t, l, want...)
	all := other[:cap(other)]
	was := slices.Clone(all)
	for i := range l {
		l[i] = cand(-i, i, 5, i)
	}
	Order(l)
	if !slices.Equal(all, was) {
		t.Errorf("Order, told ahead, is %v, and was %v", all, was)
	}
}
