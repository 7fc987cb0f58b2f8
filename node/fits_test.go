package node

import (
	"math"
	"slices"
	"testing"

	"provost/api"
)

// mayNot are specs that may not be, a fault of each sort in each; but for it, they ask for r and this port.
func mayNot(r api.Res, port int) []api.Spec {
	var l []api.Spec
	for _, fault := range []func(s *api.Spec){
		func(s *api.Spec) { s.Name = "" },
		func(s *api.Spec) { s.Name = "A" },
		func(s *api.Spec) { s.Labels = make([]api.Label, 5) },
		func(s *api.Spec) { s.Labels = []api.Label{{Key: "!"}} },
		func(s *api.Spec) { s.Labels = []api.Label{{Key: "b"}, {Key: "a"}} },
		func(s *api.Spec) { s.Labels = []api.Label{{Key: "b", Val: "="}} },
		func(s *api.Spec) { s.Init = asking("i", r, r, r, r) },
		func(s *api.Spec) { s.Init = asking("-", r) },
		func(s *api.Spec) { s.Init = asking("m", r) },
		func(s *api.Spec) { s.Init = asking("i", three(0, mostRes+1, 0)) },
		func(s *api.Spec) { s.Init = asking("i", r); s.Init[0].Ports = []int{port} },
		func(s *api.Spec) { s.Main = nil },
		func(s *api.Spec) { s.Main = asking("m", r, r, r, r, r) },
		func(s *api.Spec) { s.Main[0].Name = "" },
		func(s *api.Spec) { s.Main[0].Image = "web" },
		func(s *api.Spec) { s.Main[0].Req.CPU = -1 },
		func(s *api.Spec) { s.Main[0].Req.Mem = -1 },
		func(s *api.Spec) { s.Main[0].Req.Pids = mostRes + 1 },
		func(s *api.Spec) { s.Main[0].Req = same(math.MaxInt) },
		func(s *api.Spec) { s.Main[0].Req = same(math.MinInt) },
		func(s *api.Spec) { s.Main = asking("m", same(math.MaxInt), same(math.MaxInt)) },
		func(s *api.Spec) { s.Main[0].Lim.Mem = -1 },
		func(s *api.Spec) { s.Main[0].Ports = []int{port, 7, port} },
		func(s *api.Spec) { s.Main[0].Ports = []int{port, 0} },
		func(s *api.Spec) { s.Main[0].Ports = []int{port, mostPort + 1} },
		func(s *api.Spec) { s.Main[0].Ports = []int{port, 2, 3, 4} },
		func(s *api.Spec) { s.Main[0].Probe = api.Probe{Every: 5} },
		func(s *api.Spec) { s.Restart = 0 },
		func(s *api.Spec) { s.Restart = 4 },
		func(s *api.Spec) { s.Grace = -1 },
		func(s *api.Spec) { s.Prio = 11 },
		func(s *api.Spec) { *s = api.Spec{} },
	} {
		s := pod(r, port)
		fault(&s)
		l = append(l, s)
	}
	return l
}

// 16.1: a spec that may not be is ErrRange, whatever of it may not; also where there is neither room nor its port
func TestFitsOfWhatMayNotBe(t *testing.T) {
	for _, r := range []api.Res{{}, same(1), three(40, 178, 289), same(mostRes)} {
		for _, port := range []int{9, 80, mostPort} {
			for i, s := range mayNot(r, port) {
				b := some(t)
				if code := b.fits(s); code != errRange {
					t.Fatalf("%d: the words say %d of %v", i, int(code), s)
				}
				b.refused(errRange, 7, s)
			}
		}
	}
}

// 16.1: written out
func TestFitsWrittenOut(t *testing.T) {
	n := New(three(10, 20, 30))
	n.Admit(1, pod(three(4, 5, 6), 80, 443))
	for _, c := range []struct {
		s    api.Spec
		code api.Code
	}{
		{pod(api.Res{}), 0},
		{pod(three(6, 15, 24)), 0},
		{pod(three(6, 15, 24), 81, 442, 444), 0},
		{pod(three(7, 15, 24)), 160},
		{pod(three(6, 16, 24)), 160},
		{pod(three(6, 15, 25)), 160},
		{pod(three(7, 0, 0)), 160},
		{pod(three(0, 16, 0)), 160},
		{pod(three(0, 0, 25)), 160},
		{pod(same(mostRes)), 160},
		{pod(api.Res{}, 80), 150},
		{pod(three(6, 15, 24), 443), 150},
		{pod(three(6, 15, 24), 1, 2, 80), 150},
		{pod(three(6, 15, 24), 1, 443, 2), 150},
		{pod(three(7, 15, 24), 80), 160},
		{pod(three(6, 15, 25), 9, 443), 160},
		{pod(three(0, 16, 0), 80), 160},
		{pod(three(-1, 0, 0)), 1},
		{pod(three(0, mostRes+1, 0), 80), 1},
		{pod(three(7, 15, 24), 0), 1},
		{pod(three(6, 15, 24), 80, 80), 1},
		{api.Spec{}, 1},
		{large([]api.Res{three(6, 0, 0), three(0, 15, 0)}, []api.Res{three(0, 0, 20), three(0, 0, 4)}), 0},
		{large([]api.Res{three(6, 15, 24), three(6, 15, 24)}, []api.Res{{}}), 0},
		{large([]api.Res{three(0, 0, 25)}, []api.Res{{}}), 160},
		{large([]api.Res{three(7, 0, 0), {}}, []api.Res{{}}), 160},
		{large(nil, []api.Res{three(3, 0, 0), three(3, 0, 0), three(1, 0, 0)}), 160},
		{large(nil, []api.Res{three(3, 0, 0), three(3, 0, 0), {}}, 1, 2, 3, 4), 0},
		{large(nil, []api.Res{{}, {}, {}}, 1, 2, 3, 80), 150},
		{large(nil, []api.Res{{}, {}, {}}, 1, 443, 3), 150},
		{large([]api.Res{three(0, 16, 0)}, []api.Res{{}, {}}, 1, 80), 160},
	} {
		if code := n.Fits(c.s); code != c.code || n.Used() != three(4, 5, 6) || !slices.Equal(n.Pods(), []int{1}) {
			t.Errorf("Fits(%v) = %d, want %d; used %v", c.s, int(code), int(c.code), n.Used())
		}
	}
}

// 16.1: just what is left, and one more and one less in each number alone, with one container and several
func TestFitsJustWhatIsLeft(t *testing.T) {
	for _, has := range []api.Res{three(40, 178, 289), three(1, 1, 1), three(mostRes, mostRes, mostRes), three(mostRes/2, 2, 30)} {
		for _, other := range []api.Res{{}, three(1, 0, 0), three(1, 1, 1)} {
			b := made(t, has)
			b.admits(1, pod(other, 80))
			left := b.m.left()
			for place := range 3 {
				for _, more := range []int{-1, 0, 1} {
					r := with(left, place, number(left, place)+more)
					want := ok
					if more > 0 {
						want = errRoom
					}
					if r.CPU < 0 || r.Mem < 0 || r.Pids < 0 || r.CPU > mostRes || r.Mem > mostRes || r.Pids > mostRes {
						want = errRange
					}
					for _, s := range []api.Spec{pod(r), large(nil, []api.Res{{}, r, {}}), large([]api.Res{r}, []api.Res{{}})} {
						if got := b.fits(s); got != want {
							t.Errorf("%v left: Fits of %v = %d, want %d", left, r, int(got), int(want))
						}
					}
				}
			}
			b.admits(2, pod(left, 443))
			b.refused(errRoom, 3, pod(three(0, 0, 1)))
			b.refused(errRoom, 3, pod(three(0, 1, 0)))
			b.refused(errRoom, 3, pod(three(1, 0, 0)))
			b.admits(3, pod(api.Res{}))
		}
	}
}

// 16.1: as much as one pod may ask for, on nodes that have that, and one less
func TestFitsOfTheGreatestPod(t *testing.T) {
	great := large(nil, []api.Res{same(mostRes), same(mostRes), same(mostRes), same(mostRes)})
	const all = mostMain * mostRes
	for _, c := range []struct {
		has  api.Res
		code api.Code
	}{
		{same(all), ok}, {same(all + 1), ok}, {same(math.MaxInt), ok},
		{three(all-1, all, all), errRoom}, {three(all, all-1, all), errRoom}, {three(all, all, all-1), errRoom},
		{same(all - 1), errRoom}, {same(mostRes), errRoom}, {same(0), errRoom}, {same(-1), errRoom}, {same(math.MinInt), errRoom},
	} {
		if got := New(c.has).Fits(great); got != c.code {
			t.Errorf("of a node with %v: Fits = %d, want %d", c.has, int(got), int(c.code))
		}
	}
}

// 16.1: a port that has an owner, in each container and at each of its places, beside others that have none
func TestFitsOfAPortThatIsTaken(t *testing.T) {
	for _, taken := range []int{80, 443, 1, 22, mostPort, 8080} {
		for place := range mostMain * mostPorts {
			s := large(nil, make([]api.Res, mostMain))
			for i := range s.Main {
				s.Main[i].Ports = []int{1000 + 3*i, 3000 + 3*i, 2000 + 3*i}
			}
			b := some(t)
			if code := b.fits(s); code != ok {
				t.Fatalf("Fits(%v) = %d", s, int(code))
			}
			s.Main[place/mostPorts].Ports[place%mostPorts] = taken
			if code := b.fits(s); code != errPort {
				t.Fatalf("Fits(%v) = %d", s, int(code))
			}
			b.refused(errPort, 9, s)
			s.Init = asking("i", three(40, 0, 0))
			b.refused(errRoom, 9, s)
		}
	}
}

// 16.1: to ask changes nothing, whatever is answered and how often one asks
func TestFitsChangesNothing(t *testing.T) {
	b := some(t)
	for _, s := range []api.Spec{pod(three(39, 177, 288), 9, 10, 11), pod(three(30, 1, 1), 7), pod(three(40, 0, 0), 8), pod(same(1), 6, 80), pod(same(-1), 5), {}} {
		for range 5 {
			b.fits(s)
		}
		b.holds()
		for _, port := range []int{5, 6, 7, 8, 9, 10, 11} {
			b.owner(port)
		}
	}
	b.admits(1, pod(three(39, 177, 288), 9, 10, 11))
}

// 16.1, 16.2: so many pods that what is used and what is asked for overflow, in each number alone
func TestSumsThatOverflow(t *testing.T) {
	const each = mostMain * mostRes
	great := large(nil, []api.Res{same(mostRes), same(mostRes), same(mostRes), same(mostRes)})
	n := New(same(math.MaxInt))
	many := 0
	for n.Left().CPU >= each {
		many++
		if code := n.Admit(many, great); code != ok {
			t.Fatalf("Admit(%d) = %d; used %v", many, int(code), n.Used())
		}
	}
	used, left := math.MaxInt-each+1, each-1
	if many != 1<<21-1 || n.Used() != same(used) || n.Left() != same(left) {
		t.Fatalf("%d pods: used %v, left %v", many, n.Used(), n.Left())
	}
	full := []api.Res{same(mostRes), same(mostRes), same(mostRes)}
	last := same(mostRes - 1)
	for place := range 3 {
		more := with(last, place, mostRes)
		fits := n.Fits(large(nil, append(slices.Clone(full), more), 80))
		alone := n.Fits(large(nil, slices.Repeat([]api.Res{with(api.Res{}, place, mostRes)}, mostMain)))
		admit := n.Admit(many+1, large(nil, append(slices.Clone(full), more), 80))
		if fits != errRoom || alone != errRoom || admit != errRoom || n.Used() != same(used) || n.Owner(80) != 0 {
			t.Errorf("one more in place %d: %d, %d, %d; used %v", place, int(fits), int(alone), int(admit), n.Used())
		}
	}
	if code := n.Admit(many+1, large(nil, append(slices.Clone(full), last), 80)); code != ok || n.Used() != same(math.MaxInt) || n.Left() != (api.Res{}) {
		t.Errorf("just what is left: %d; used %v", int(code), n.Used())
	}
	if code := n.Fits(pod(three(0, 1, 0))); code != errRoom {
		t.Errorf("one more than the greatest int: %d", int(code))
	}
	if n.Release(1) != ok || n.Left() != same(each) || n.Fits(great) != ok || len(n.Pods()) != many {
		t.Errorf("behind Release: left %v", n.Left())
	}
}
