package node

import (
	"math"
	"math/rand"
	"slices"
	"testing"

	"provost/api"
)

// pick is one of l.
func pick[T any](rng *rand.Rand, l ...T) T { return l[rng.Intn(len(l))] }

// someRes is what a container asks for: of each number some, seldom nothing, or one that may not be.
func someRes(rng *rand.Rand, some int) api.Res {
	r := three(rng.Intn(some+1), rng.Intn(some+1), rng.Intn(some+1))
	switch rng.Intn(12) {
	case 0:
		return api.Res{}
	case 1:
		return with(r, rng.Intn(3), pick(rng, math.MinInt, -1, 0, mostRes, mostRes+1, math.MaxInt))
	}
	return r
}

func someList(rng *rand.Rand, least, longest, some int) []api.Res {
	l := make([]api.Res, least+rng.Intn(longest-least+1))
	for i := range l {
		l[i] = someRes(rng, some)
	}
	return l
}

// someSpec is a spec that asks for some, and for ports of 1 to some; seldom one that may not be.
func someSpec(rng *rand.Rand, some int) api.Spec {
	ports := make([]int, rng.Intn(4))
	for i := range ports {
		ports[i] = 1 + rng.Intn(min(some+3, mostPort))
	}
	if rng.Intn(20) == 0 {
		ports = append(ports, pick(rng, -1, 0, 1, mostPort, mostPort+1))
	}
	s := large(someList(rng, 0, 2, some), someList(rng, 1, 3, some), ports...)
	if rng.Intn(30) == 0 {
		s.Restart = pick(rng, 0, 4)
	}
	return s
}

// someUID is one of a few, seldom none, or a great one.
func someUID(rng *rand.Rand) int {
	if rng.Intn(15) > 0 {
		return 1 + rng.Intn(9)
	}
	return pick(rng, math.MinInt, -1, 0, 1<<32+1, math.MaxInt)
}

// someChange is a call at random, and tells what it answered.
func someChange(b *both, rng *rand.Rand, some int) api.Code {
	b.t.Helper()
	switch rng.Intn(8) {
	case 0, 1:
		return b.release(someUID(rng))
	case 2:
		return b.fits(someSpec(rng, some))
	}
	return b.admit(someUID(rng), someSpec(rng, some))
}

// 16.1 to 16.3: calls at random, held against the words; each code that there is comes
func TestCallsAtRandom(t *testing.T) {
	rng := rand.New(rand.NewSource(1601))
	seen := map[api.Code]int{}
	for _, some := range []int{1, 4, 20, 400, mostPort, mostRes} {
		for round := range 30 {
			b := made(t, three(rng.Intn(4*some+1), rng.Intn(8*some+1), (round%9)*some))
			for range 80 {
				seen[someChange(b, rng, some)]++
				b.of(someUID(rng))
				b.owner(rng.Intn(some + 4))
			}
			b.holds()
		}
	}
	for _, code := range []api.Code{ok, errRange, errThere, errPort, errRoom, errUID} {
		if seen[code] < 50 {
			t.Errorf("the code %d came %d times", int(code), seen[code])
		}
	}
}

// 16.4: by all that the node tells: used is the sum of what the pods ask for, never more than it has, and no port is held twice
func TestWhatFollows(t *testing.T) {
	rng := rand.New(rand.NewSource(164))
	for _, some := range []int{1, 5, 40} {
		for range 40 {
			n := New(three(rng.Intn(9*some), rng.Intn(9*some), rng.Intn(9*some)))
			for range 60 {
				uid, before := someUID(rng), owners(n, some)
				gone := n.Release(uid) == ok
				follows(t, n)
				moved(t, before, owners(n, some), func(was, now int) bool { return gone && was == uid && now == 0 })
				uid, before = someUID(rng), owners(n, some)
				came := n.Admit(uid, someSpec(rng, some)) == ok
				follows(t, n)
				moved(t, before, owners(n, some), func(was, now int) bool { return came && was == 0 && now == uid })
			}
		}
	}
}

// owners are whose the ports are that are asked for at random.
func owners(n *Node, some int) []int {
	var l []int
	for port := range some + 4 {
		l = append(l, n.Owner(port))
	}
	return l
}

// moved holds that each port's owner is as before, but where it may be another one.
func moved(t *testing.T, before, now []int, may func(was, now int) bool) {
	t.Helper()
	for port := range now {
		if before[port] != now[port] && !may(before[port], now[port]) {
			t.Fatalf("%d was %d's, and is %d's", port, before[port], now[port])
		}
	}
}

// follows holds what the node tells against what else it tells.
func follows(t *testing.T, n *Node) {
	t.Helper()
	var sum api.Res
	for _, uid := range n.Pods() {
		r, there := n.Of(uid)
		if !there {
			t.Fatalf("%d is told, and not there", uid)
		}
		sum = three(sum.CPU+r.CPU, sum.Mem+r.Mem, sum.Pids+r.Pids)
	}
	has, left := n.Has(), n.Left()
	if n.Used() != sum || left != three(has.CPU-sum.CPU, has.Mem-sum.Mem, has.Pids-sum.Pids) || min(left.CPU, left.Mem, left.Pids) < 0 {
		t.Fatalf("has %v, used %v, left %v; the sum is %v", has, n.Used(), left, sum)
	}
}

// 16.4: what was admitted and released, in any order, leaves the node as it was
func TestAdmittedAndReleased(t *testing.T) {
	rng := rand.New(rand.NewSource(16))
	for range 200 {
		b := some(t)
		used, pods := b.n.Used(), b.n.Pods()
		var came []int
		for range 8 {
			if uid := 100 + rng.Intn(8); b.admit(uid, someSpec(rng, 12)) == ok {
				came = append(came, uid)
			}
		}
		for _, i := range rng.Perm(len(came)) {
			b.release(came[i])
		}
		b.holds()
		if b.n.Used() != used || !slices.Equal(b.n.Pods(), pods) {
			t.Fatalf("used %v, was %v; pods %v, were %v", b.n.Used(), used, b.n.Pods(), pods)
		}
		for port := range 20 {
			b.owner(port)
		}
		// All that is left may be taken.
		b.admits(1, pod(three(39, 177, 288), 9, 10, 11))
	}
}

// 16.1 to 16.4: all short orders of calls of a small node
func TestAllShortOrders(t *testing.T) {
	changes := []func(b *both){
		func(b *both) { b.admit(1, pod(three(1, 0, 2), 1)) },
		func(b *both) { b.admit(2, pod(three(2, 1, 0), 2, 1)) },
		func(b *both) { b.admit(2, pod(three(0, 2, 0), 3)) },
		func(b *both) { b.admit(3, pod(three(0, 1, 1), 2)) },
		func(b *both) { b.admit(1, pod(three(4, 0, 0), 4)) },
		func(b *both) { b.release(1) },
		func(b *both) { b.release(2) },
		func(b *both) { b.release(3) },
	}
	for order := range 4096 { // as many as there are changes, to the power of 4
		b := made(t, three(3, 2, 3))
		for rest, done := order, 0; done < 4; rest, done = rest/len(changes), done+1 {
			changes[rest%len(changes)](b)
		}
		for x := range 6 {
			b.of(x)
			b.owner(x)
		}
	}
}

// R7: the same calls tell the same
func TestTheSameCallsTellTheSame(t *testing.T) {
	told := func() []int {
		rng := rand.New(rand.NewSource(167))
		b := made(t, three(60, 70, 80))
		var l []int
		for range 200 {
			code, u := someChange(b, rng, 10), b.n.Used()
			l = append(append(l, int(code), u.CPU, u.Mem, u.Pids, b.n.Owner(5)), b.n.Pods()...)
		}
		return l
	}
	if !slices.Equal(told(), told()) {
		t.Error("the same calls tell another thing")
	}
}

// 16.1 to 16.4: each five bytes are a call, held against the words
func FuzzNode(f *testing.F) {
	f.Add(10, 10, 10, []byte{1, 4, 80, 81, 5, 2, 7, 80, 82, 9, 65, 0, 0, 0, 0})
	f.Add(-1, mostRes, math.MaxInt, []byte("some bytes, so that there are many of them"))
	f.Fuzz(func(t *testing.T, cpu, mem, pids int, calls []byte) {
		b := &both{t: t, n: New(three(cpu, mem, pids)), m: model{has: three(max(cpu, 0), max(mem, 0), max(pids, 0))}}
		for calls = calls[:min(len(calls), 300)]; len(calls) >= 5; calls = calls[5:] {
			uid, x, y := int(calls[0]%16), int(calls[1]), int(calls[2])
			s := large([]api.Res{three(y, 0, x)}, []api.Res{three(x, y, x), three(0, int(calls[4]), y)}, x, y, int(calls[3]))
			switch calls[0] / 32 {
			case 0, 1, 2:
				b.admit(uid, pod(three(x, y, int(calls[4])), int(calls[3]), y))
			case 3:
				b.release(uid)
			case 4:
				b.admit(uid, s)
			case 5:
				b.fits(s)
			case 6:
				b.admit(uid, pod(three(x<<33, y<<33, x<<32), mostPort+1-y))
			default:
				b.admit(uid-1, pod(three(x-y, y, x)))
			}
		}
		b.holds()
	})
}
