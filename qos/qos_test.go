package qos

import (
	"math"
	"slices"
	"testing"

	"provost/api"
)

// What the document writes, for the expectations below.
const (
	sure  = 1
	burst = 2
	best  = 3
)

// three are resources of these numbers.
func three(cpu, mem, pids int) api.Res { return api.Res{CPU: cpu, Mem: mem, Pids: pids} }

// numbers are those of r.
func numbers(r api.Res) []int { return []int{r.CPU, r.Mem, r.Pids} }

// with are resources that have n in that place, and r's numbers in the others.
func with(r api.Res, place, n int) api.Res {
	*[]*int{&r.CPU, &r.Mem, &r.Pids}[place] = n
	return r
}

// box is a container that asks for req, and has the limits lim; what else it has says nothing of a class.
func box(req, lim api.Res) api.Container {
	return api.Container{Name: "a", Image: "web:1", Req: req, Lim: lim, Ports: []int{80, 443}, Probe: api.Probe{Every: 1000, Fails: 10}}
}

// just is a container whose limits are what it asks for.
func just(cpu, mem, pids int) api.Container { return box(three(cpu, mem, pids), three(cpu, mem, pids)) }

// none is a container that asks for nothing, and has no limit.
func none() api.Container { return just(0, 0, 0) }

// pod is one of these containers; what else it has says nothing of a class.
func pod(inits, mains []api.Container) api.Spec {
	return api.Spec{Name: "a", Labels: []api.Label{{Key: "sure", Val: "best"}}, Init: inits, Main: mains, Restart: api.RAlways, Grace: 1000, Prio: 10}
}

// wantClass says what the words say of a pod's class.
func wantClass(s api.Spec) int {
	some, alike := false, true
	for _, c := range append(slices.Clone(s.Init), s.Main...) {
		for place, req := range numbers(c.Req) {
			lim := numbers(c.Lim)[place]
			some = some || req != 0 || lim != 0
			alike = alike && req == lim
		}
		alike = alike && c.Req.CPU > 0 && c.Req.Mem > 0
	}
	if !some {
		return best
	}
	if alike {
		return sure
	}
	return burst
}

// classed holds Class of a pod of these containers; of the same ones the other way round, too.
func classed(t *testing.T, inits, mains []api.Container, want int) {
	t.Helper()
	s := pod(inits, mains)
	if got := Class(s); got != want || wantClass(s) != want {
		t.Errorf("Class of %v and %v = %d, want %d; the words say %d", inits, mains, got, want, wantClass(s))
	}
	turned := pod(slices.Clone(inits), slices.Clone(mains))
	slices.Reverse(turned.Init)
	slices.Reverse(turned.Main)
	if got := Class(turned); got != want {
		t.Errorf("Class of %v and %v, the other way round, = %d, want %d", inits, mains, got, want)
	}
}

// everywhere holds the class of a pod with the container x in each place beside others that are like y, among init and among main ones.
func everywhere(t *testing.T, x, y api.Container, want int) {
	t.Helper()
	for inits := range 4 {
		for mains := range 5 {
			l := slices.Repeat([]api.Container{y}, inits+mains)
			for place := range l {
				was := l[place]
				l[place] = x
				classed(t, l[:inits], l[inits:], want)
				l[place] = was
			}
		}
	}
}

// The chapter's numbers
func TestClassesAreNumbers(t *testing.T) {
	if Sure != 1 || Burst != 2 || Best != 3 {
		t.Errorf("the classes are %d, %d, %d", Sure, Burst, Best)
	}
}

// 17.1: without containers
func TestClassWithoutContainers(t *testing.T) {
	for _, s := range []api.Spec{{}, {Init: []api.Container{}, Main: []api.Container{}}, pod(nil, nil), {Name: "a", Prio: math.MinInt, Grace: math.MaxInt, Restart: -1}} {
		if got := Class(s); got != best {
			t.Errorf("Class(%v) = %d", s, got)
		}
	}
}

// 17.1: of containers alike, init ones alone, main ones alone, and both
func TestClassOfAlikeContainers(t *testing.T) {
	for _, c := range []struct {
		box  api.Container
		want int
	}{
		{none(), best},
		{just(1, 1, 1), sure},
		{just(1, 1, 0), sure},
		{just(1, 1, -1), sure},
		{just(1, 1, math.MinInt), sure},
		{just(1, 1<<40, 100), sure},
		{just(1<<40, 1, 0), sure},
		{just(math.MaxInt, math.MaxInt, math.MaxInt), sure},
		{just(0, 1, 1), burst},
		{just(1, 0, 1), burst},
		{just(0, 0, 1), burst},
		{just(-1, 1, 1), burst},
		{just(1, -1, 1), burst},
		{just(-1, -1, -1), burst},
		{just(math.MinInt, math.MinInt, math.MinInt), burst},
		{box(three(1, 1, 1), api.Res{}), burst},
		{box(api.Res{}, three(1, 1, 1)), burst},
		{box(three(1, 2, 3), three(3, 2, 1)), burst},
		{box(three(1, 2, 3), three(2, 1, 3)), burst},
		{box(three(1, 1, 1), three(-1, -1, -1)), burst},
		{box(three(1, 1, 1), three(1<<32+1, 1<<32+1, 1<<32+1)), burst},
	} {
		everywhere(t, c.box, c.box, c.want)
	}
}

// 17.1: one number other than 0, whichever and wherever, and the pod is not Best
func TestClassWithOneNumber(t *testing.T) {
	for place := range 3 {
		for _, n := range []int{math.MinInt, math.MinInt + 1, -1 << 32, -2, -1, 1, 2, 256, 1 << 16, 1 << 32, 1 << 40, math.MaxInt} {
			one := with(api.Res{}, place, n)
			everywhere(t, box(one, api.Res{}), none(), burst)
			everywhere(t, box(api.Res{}, one), none(), burst)
			everywhere(t, box(one, one), none(), burst)
		}
	}
}

// 17.1: of each of the containers the limits are what it asks for, and CPU and Mem are above 0; else it is Burst
func TestClassBesideSureContainers(t *testing.T) {
	for _, c := range []struct {
		box  api.Container
		want int
	}{
		{just(9, 8, 7), sure},
		{just(1, 1, 0), sure},
		{just(1, 1, -5), sure},
		{just(0, 5, 5), burst},
		{just(5, 0, 5), burst},
		{just(-1, 5, 5), burst},
		{just(5, -1, 5), burst},
		{just(math.MinInt, 5, 5), burst},
		{just(5, math.MinInt, 5), burst},
		{box(three(5, 5, 5), api.Res{}), burst},
		{box(api.Res{}, three(5, 5, 5)), burst},
		{box(three(5, 6, 7), three(6, 5, 7)), burst},
		{box(three(5, 6, 7), three(7, 6, 5)), burst},
	} {
		everywhere(t, c.box, just(5, 5, 5), c.want)
	}
}

// 17.1: one container that asks for something beside some that ask for nothing, and the other way round
func TestClassBesideContainersWithoutAnything(t *testing.T) {
	for _, x := range []api.Container{just(1, 1, 1), just(5, 6, 0), box(three(1, 1, 1), three(2, 2, 2))} {
		classed(t, nil, []api.Container{x, none()}, burst)
		classed(t, []api.Container{x, none()}, nil, burst)
		classed(t, []api.Container{x}, []api.Container{none()}, burst)
		classed(t, []api.Container{none()}, []api.Container{x}, burst)
		classed(t, []api.Container{none(), none()}, []api.Container{none(), none(), x}, burst)
		classed(t, []api.Container{x, none()}, []api.Container{x, x}, burst)
		classed(t, []api.Container{x, x}, []api.Container{x, none(), x}, burst)
	}
}

// 17.1: a limit that is one more or one less than what is asked for, in each number alone and wherever
func TestClassWithALimitBesideWhatIsAskedFor(t *testing.T) {
	req := three(5, 6, 7)
	for place, n := range numbers(req) {
		for _, lim := range []int{math.MinInt, -n, 0, n - 1, n + 1, n + 1<<32, math.MaxInt} {
			everywhere(t, box(req, with(req, place, lim)), just(5, 6, 7), burst)
			everywhere(t, box(with(req, place, lim), req), just(5, 6, 7), burst)
		}
		everywhere(t, box(req, req), just(5, 6, 7), sure)
	}
	// The greatest and the least number, which have a neighbour on one side alone.
	everywhere(t, box(three(1, math.MaxInt, 1), three(1, math.MaxInt-1, 1)), just(1, 1, 1), burst)
	everywhere(t, box(three(1, 1, math.MinInt), three(1, 1, math.MinInt+1)), just(1, 1, 1), burst)
}

// 17.1: the containers are held against one another one by one, not by their sums
func TestClassIsNotOfTheSums(t *testing.T) {
	more, less := box(three(5, 5, 5), three(6, 6, 6)), box(three(5, 5, 5), three(4, 4, 4))
	classed(t, nil, []api.Container{more, less}, burst)
	classed(t, []api.Container{more}, []api.Container{less}, burst)
	classed(t, []api.Container{just(1, 1, 1)}, []api.Container{just(-1, -1, -1)}, burst)
	classed(t, nil, []api.Container{just(1, 1, 1), just(-1, -1, -1)}, burst)
	classed(t, nil, []api.Container{just(1, 0, 0), just(0, 1, 0)}, burst)
	classed(t, []api.Container{just(1, 0, 0)}, []api.Container{just(0, 1, 0)}, burst)
	classed(t, nil, []api.Container{just(math.MaxInt, math.MaxInt, 0), just(math.MaxInt, math.MaxInt, 0)}, sure)
	classed(t, nil, slices.Repeat([]api.Container{just(1, 1, 0)}, 1000), sure)
	classed(t, nil, append(slices.Repeat([]api.Container{just(1, 1, 0)}, 1000), none()), burst)
	classed(t, nil, slices.Repeat([]api.Container{none()}, 1000), best)
}

// 17.1
func TestName(t *testing.T) {
	for class, want := range map[int]string{
		1: "sure", 2: "burst", 3: "best",
		0: "", 4: "", 5: "", -1: "", -2: "", -3: "", 256: "", 257: "", 1<<32 + 1: "", 1<<32 + 2: "", 1<<32 + 3: "", math.MinInt: "", math.MinInt + 1: "", math.MaxInt: "",
	} {
		if got := Name(class); got != want {
			t.Errorf("Name(%d) = %q, want %q", class, got, want)
		}
	}
}
