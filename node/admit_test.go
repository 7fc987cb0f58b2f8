package node

import (
	"math"
	"testing"

	"provost/api"
)

// 16.2: written out, with what is used, what is left, and who has a port behind each call
func TestAdmitWrittenOut(t *testing.T) {
	n := New(three(10, 20, 30))
	for i, c := range []struct {
		uid   int
		s     api.Spec
		code  api.Code
		used  api.Res
		owner int
	}{
		{0, pod(same(1), 80), 1, api.Res{}, 0},
		{-1, pod(same(1), 80), 1, api.Res{}, 0},
		{math.MinInt, pod(same(1), 80), 1, api.Res{}, 0},
		{0, api.Spec{}, 1, api.Res{}, 0},
		{1, pod(same(-1), 80), 1, api.Res{}, 0},
		{1, pod(three(11, 1, 1), 80), 160, api.Res{}, 0},
		{1, pod(three(4, 5, 6), 80), 0, three(4, 5, 6), 1},
		{1, pod(three(4, 5, 6), 80), 7, three(4, 5, 6), 1},
		{1, pod(three(1, 1, 1)), 7, three(4, 5, 6), 1},
		{1, pod(three(11, 1, 1)), 7, three(4, 5, 6), 1},
		{1, pod(three(1, -1, 1)), 7, three(4, 5, 6), 1},
		{1, api.Spec{}, 7, three(4, 5, 6), 1},
		{0, pod(three(11, 1, 1), 80), 1, three(4, 5, 6), 1},
		{2, pod(three(1, 1, 1), 80), 150, three(4, 5, 6), 1},
		{2, pod(three(7, 1, 1), 80), 160, three(4, 5, 6), 1},
		{2, pod(three(7, 1, 1), 80, 80), 1, three(4, 5, 6), 1},
		{math.MaxInt, pod(three(6, 15, 24), 81), 0, three(10, 20, 30), 1},
		{math.MaxInt, pod(api.Res{}), 7, three(10, 20, 30), 1},
		{2, pod(three(0, 0, 1)), 160, three(10, 20, 30), 1},
		{2, pod(api.Res{}), 0, three(10, 20, 30), 1},
	} {
		code := n.Admit(c.uid, c.s)
		left := three(10-c.used.CPU, 20-c.used.Mem, 30-c.used.Pids)
		if code != c.code || n.Used() != c.used || n.Left() != left || n.Has() != three(10, 20, 30) || n.Owner(80) != c.owner {
			t.Errorf("%d: Admit(%d, %v) = %d, want %d; used %v, left %v, Owner(80) %d", i, c.uid, c.s, int(code), int(c.code), n.Used(), n.Left(), n.Owner(80))
		}
	}
}

// 16.2: all UIDs that may be, and what is below them
func TestAdmitOfEachUID(t *testing.T) {
	for _, uid := range []int{1, 4, 80, mostPort, mostPort + 1, 1 << 30, 1<<30 + 1, 1 << 31, 1 << 32, 1<<32 + 5, math.MaxInt - 1} {
		b := some(t)
		b.admits(uid, pod(three(39, 177, 288), 9))
		b.refused(errThere, uid, pod(api.Res{}))
		b.release(uid)
		b.holds()
	}
	for _, uid := range []int{0, -1, -2, -5, -80, -mostPort, math.MinInt + 1, math.MinInt, math.MinInt + 5} {
		some(t).refused(errRange, uid, pod(same(1), 9))
		made(t, same(9)).refused(errRange, uid, pod(api.Res{}))
	}
}

// 16.2: which code goes ahead, where several things are wrong at once, and that nothing is changed then
func TestAdmitOrderOfCodes(t *testing.T) {
	for _, c := range []struct {
		specs []api.Spec
		// What they are refused with, for a UID that may be, and is not there.
		code api.Code
	}{
		{[]api.Spec{pod(api.Res{}), pod(same(1), 9), pod(three(39, 177, 288), 9, 10)}, ok},
		{append(mayNot(same(mostRes), 80), mayNot(same(1), 9)...), errRange},
		{[]api.Spec{pod(three(40, 0, 0)), pod(three(0, 178, 0), 80), pod(three(0, 0, 289), 9, 443), pod(same(mostRes), 22)}, errRoom},
		{[]api.Spec{pod(api.Res{}, 80), pod(three(39, 177, 288), 9, 443), pod(same(1), 8080)}, errPort},
	} {
		for _, s := range c.specs {
			for _, uid := range []int{0, -1, math.MinInt} {
				some(t).refused(errRange, uid, s)
			}
			for _, uid := range []int{2, 3, 5, math.MaxInt} {
				some(t).refused(errThere, uid, s)
			}
			if c.code == ok {
				some(t).admits(1, s)
			} else {
				some(t).refused(c.code, 1, s)
			}
		}
	}
}

// 16.2: a pod that is refused may be admitted later, when there is room, and when its port is free
func TestAdmitOfWhatWasRefused(t *testing.T) {
	b := made(t, same(10))
	b.admits(1, pod(same(6), 80))
	b.refused(errRoom, 2, pod(same(5)))
	b.refused(errPort, 2, pod(same(4), 443, 80))
	b.admits(3, pod(same(4), 443))
	b.release(1)
	b.refused(errPort, 2, pod(same(5), 80, 443))
	b.admits(2, pod(same(6), 80))
	b.release(3)
	b.admits(1, pod(same(4), 443))
}

// 16.2: of one that was admitted, twice one behind the other, of ones that never were
func TestReleaseWrittenOut(t *testing.T) {
	n := some(t).n
	for i, c := range []struct {
		uid  int
		code api.Code
		left api.Res
		pods int
	}{
		{0, 390, three(39, 177, 288), 4}, {1, 390, three(39, 177, 288), 4}, {-2, 390, three(39, 177, 288), 4}, {80, 390, three(39, 177, 288), 4},
		{4, 390, three(39, 177, 288), 4}, {1<<32 + 5, 390, three(39, 177, 288), 4}, {math.MinInt, 390, three(39, 177, 288), 4}, {math.MaxInt - 1, 390, three(39, 177, 288), 4},
		{5, 0, three(69, 180, 291), 3}, {5, 390, three(69, 180, 291), 3},
		{math.MaxInt, 0, three(69, 180, 291), 2}, {math.MaxInt, 390, three(69, 180, 291), 2},
		{2, 0, three(100, 189, 295), 1}, {2, 390, three(100, 189, 295), 1},
		{3, 0, three(100, 200, 300), 0}, {3, 390, three(100, 200, 300), 0}, {5, 390, three(100, 200, 300), 0}, {0, 390, three(100, 200, 300), 0},
	} {
		if code := n.Release(c.uid); code != c.code || n.Left() != c.left || len(n.Pods()) != c.pods {
			t.Errorf("%d: Release(%d) = %d, want %d; left %v, pods %v", i, c.uid, int(code), int(c.code), n.Left(), n.Pods())
		}
	}
	if n.Used() != (api.Res{}) || n.Has() != three(100, 200, 300) {
		t.Errorf("used %v, has %v", n.Used(), n.Has())
	}
}

// 16.2: of each pod, and of the numbers beside: what a pod took is free, and all else stays
func TestReleaseOfEachPod(t *testing.T) {
	for _, uid := range some(t).m.near() {
		b := some(t)
		for range 2 {
			b.release(uid)
			b.holds()
		}
	}
}

// 16.2: what was freed is taken again, by another pod and by the same one, resources and ports
func TestWhatWasFreedIsTakenAgain(t *testing.T) {
	for _, uid := range []int{2, 3, 5, math.MaxInt} {
		for _, next := range []int{1, 2, 3, 5, 77, math.MaxInt} {
			b := some(t)
			was := b.m.pods[b.m.find(uid)]
			left := b.m.left()
			all := pod(three(left.CPU+was.asks.CPU, left.Mem+was.asks.Mem, left.Pids+was.asks.Pids), was.ports...)
			if next != uid && b.m.find(next) < 0 && was.asks != (api.Res{}) {
				b.refused(errRoom, next, all)
			}
			b.release(uid)
			if b.m.find(next) >= 0 {
				b.refused(errThere, next, all)
				continue
			}
			b.admits(next, all)
			if b.n.Left() != (api.Res{}) {
				t.Fatalf("left %v", b.n.Left())
			}
			b.release(next)
			b.admits(uid, pod(was.asks, was.ports...))
			if b.n.Left() != left {
				t.Fatalf("left %v, was %v", b.n.Left(), left)
			}
		}
	}
}
