package port

import (
	"slices"
	"testing"
)

// R4: what was handed in is not changed: neither its order, nor what lies behind it, whether it is taken or refused
func TestHandedInIsNotChanged(t *testing.T) {
	for _, owner := range []int{4, 0, -1} {
		for _, ports := range [][]int{{500, 3, 400}, {500, 80, 3}, {7, 5, 7}, {500, 0, 3}, {65536, 3}, {3, -1}, {9}, {}} {
			b := some(t)
			room := append(slices.Clone(ports), 600, 2, 5)
			want := slices.Clone(room)
			b.x.Take(owner, room[:len(ports)]...)
			b.m.take(owner, ports...)
			if !slices.Equal(room, want) {
				t.Errorf("Take(%d, %v) leaves %v", owner, ports, room)
			}
			b.holds()
		}
	}
}

// R4: what was handed in is not kept
func TestHandedInIsNotKept(t *testing.T) {
	b := made(t)
	ports := []int{80, 443, 22}
	b.x.Take(1, ports...)
	b.m.take(1, ports...)
	ports[0], ports[1], ports[2] = 1, 2, 3
	b.holds()
	b.take(2, ports...)
	b.holds()
	clear(ports)
	b.holds()
	b.free(1)
	b.holds()
}

// R4: a list that was told is the asker's, spare room too: the table, and other lists, are as they were, whatever becomes of it
func TestHeldIsTheAskers(t *testing.T) {
	b := some(t)
	for _, owner := range []int{1, 2, 3, 4} {
		want := b.m.held(owner)
		other := b.x.Held(owner)
		got := b.x.Held(owner)
		slices.Reverse(got)
		clear(got)
		_ = append(got, 1, 2, 3)
		for i := range got[:cap(got)] {
			got[:cap(got)][i] = 4443
		}
		if !slices.Equal(other, want) {
			t.Errorf("Held(%d), told ahead, is %v", owner, other)
		}
		b.holds()
	}
	b.take(4, 80)
	b.take(4, 3)
	b.free(2)
	b.holds()
}

// R4: a list that was told is not changed by the table, spare room too
func TestHeldStaysAsItWasTold(t *testing.T) {
	b := some(t)
	got := b.x.Held(2)
	room := got[:cap(got)]
	want := slices.Clone(room)
	b.take(2, 3, 60000)
	b.free(1)
	b.take(1, 22)
	b.free(2)
	b.take(7, 443, 80, 8080, 81, 1000, 2000)
	for range 3 {
		b.holds()
	}
	if !slices.Equal(room, want) || !slices.Equal(got, []int{80, 81, 443, 8080}) {
		t.Errorf("what Held told is %v, was %v", room, want)
	}
}
