package node

import (
	"math"
	"reflect"
	"slices"
	"strconv"
	"testing"

	"provost/api"
	"provost/spec"
)

// What the document writes, for the expectations below.
const (
	mostRes   = 1 << 40
	mostPort  = 65535
	mostMain  = 4
	mostPorts = 3
	ok        = api.Code(0)
	errRange  = api.Code(1)
	errThere  = api.Code(7)
	errPort   = api.Code(150)
	errRoom   = api.Code(160)
	errUID    = api.Code(390)
)

// three are resources of these numbers.
func three(cpu, mem, pids int) api.Res { return api.Res{CPU: cpu, Mem: mem, Pids: pids} }

// same are resources of this number three times.
func same(n int) api.Res { return three(n, n, n) }

// number is the one of r in that place.
func number(r api.Res, place int) int { return []int{r.CPU, r.Mem, r.Pids}[place] }

// with are resources that have n in that place, and r's numbers in the others.
func with(r api.Res, place, n int) api.Res {
	*[]*int{&r.CPU, &r.Mem, &r.Pids}[place] = n
	return r
}

// asking are containers that ask for these.
func asking(name string, reqs ...api.Res) []api.Container {
	var l []api.Container
	for i, r := range reqs {
		l = append(l, api.Container{Name: name + strconv.Itoa(i), Image: "lib/web:1", Req: r})
	}
	return l
}

// pod is a spec that may be, if its numbers may: of one container that asks for r, and for these ports.
func pod(r api.Res, ports ...int) api.Spec { return large(nil, []api.Res{r}, ports...) }

// large is a spec of containers that ask for these; each main one but the last has one of the ports, and the last one all others.
func large(inits, mains []api.Res, ports ...int) api.Spec {
	s := api.Spec{Name: "a", Init: asking("i", inits...), Main: asking("m", mains...), Restart: api.RAlways}
	for i := range s.Main {
		many := min(1, len(ports))
		if i == len(s.Main)-1 {
			many = len(ports)
		}
		s.Main[i].Ports, ports = ports[:many:many], ports[many:]
	}
	return s
}

// admitted is a pod of a node, as it came.
type admitted struct {
	uid   int
	asks  api.Res
	ports []int
}

// model is a node after the words of the chapter: its pods, in the order in which they came.
type model struct {
	has  api.Res
	pods []admitted
}

// asks is what a pod of a spec that may be asks for.
func asks(s api.Spec) api.Res {
	var sum api.Res
	for _, c := range s.Main {
		sum.CPU += c.Req.CPU
		sum.Mem += c.Req.Mem
		sum.Pids += c.Req.Pids
	}
	for _, c := range s.Init {
		sum = three(max(sum.CPU, c.Req.CPU), max(sum.Mem, c.Req.Mem), max(sum.Pids, c.Req.Pids))
	}
	return sum
}

func (m *model) used() api.Res {
	var sum api.Res
	for _, p := range m.pods {
		sum.CPU += p.asks.CPU
		sum.Mem += p.asks.Mem
		sum.Pids += p.asks.Pids
	}
	return sum
}

func (m *model) left() api.Res {
	u := m.used()
	return three(m.has.CPU-u.CPU, m.has.Mem-u.Mem, m.has.Pids-u.Pids)
}

// find is the place of a pod, and -1 of one that is not there.
func (m *model) find(uid int) int {
	return slices.IndexFunc(m.pods, func(p admitted) bool { return p.uid == uid })
}

func (m *model) owner(port int) int {
	for _, p := range m.pods {
		if slices.Contains(p.ports, port) {
			return p.uid
		}
	}
	return 0
}

func (m *model) uids() []int {
	var l []int
	for _, p := range m.pods {
		l = append(l, p.uid)
	}
	slices.Sort(l)
	return l
}

func (m *model) fits(s api.Spec) api.Code {
	if spec.Check(s) != nil {
		return errRange
	}
	for place := range 3 {
		if number(asks(s), place) > number(m.left(), place) {
			return errRoom
		}
	}
	for _, c := range s.Main {
		for _, p := range c.Ports {
			if m.owner(p) != 0 {
				return errPort
			}
		}
	}
	return ok
}

func (m *model) admit(uid int, s api.Spec) api.Code {
	if uid < 1 {
		return errRange
	}
	if m.find(uid) >= 0 {
		return errThere
	}
	if code := m.fits(s); code != ok {
		return code
	}
	p := admitted{uid: uid, asks: asks(s)}
	for _, c := range s.Main {
		p.ports = append(p.ports, c.Ports...)
	}
	m.pods = append(m.pods, p)
	return ok
}

func (m *model) release(uid int) api.Code {
	at := m.find(uid)
	if at < 0 {
		return errUID
	}
	m.pods = slices.Delete(m.pods, at, at+1)
	return ok
}

// near are the numbers at the edges, and those of the pods and of the ports, and the ones beside them.
func (m *model) near() []int {
	l := []int{math.MinInt, math.MinInt + 1, -mostPort, -1, 0, 1, 2, 80, mostPort - 1, mostPort, mostPort + 1, 1 << 16, 1<<16 + 80, 1 << 32, 1<<32 + 80, math.MaxInt - 1, math.MaxInt}
	for _, p := range m.pods {
		for _, n := range append(slices.Clone(p.ports), p.uid) {
			l = append(l, n-1, n, -n, n^1<<16, n^1<<32)
			if n < math.MaxInt {
				l = append(l, n+1)
			}
		}
	}
	slices.Sort(l)
	return slices.Compact(l)
}

// both is a node, and what the words say of it.
type both struct {
	t *testing.T
	n *Node
	m model
}

// made is a node that has so much, from 0 on each.
func made(t *testing.T, has api.Res) *both {
	t.Helper()
	return &both{t: t, n: New(has), m: model{has: has}}
}

// some is a node that has 100/200/300, and of it 39/177/288 left; of its pods one has no port, and one asks for nothing.
func some(t *testing.T) *both {
	t.Helper()
	b := made(t, three(100, 200, 300))
	b.admit(5, large(nil, []api.Res{three(10, 1, 2), three(20, 2, 1)}, 443, 80))
	b.admit(2, large([]api.Res{three(1, 9, 1), three(31, 1, 1)}, []api.Res{three(4, 4, 4)}, 65535, 1, 22))
	b.admit(math.MaxInt, pod(api.Res{}, 8080))
	b.admit(3, pod(three(0, 11, 5)))
	b.holds()
	if len(b.m.pods) != 4 || b.m.left() != three(39, 177, 288) {
		t.Fatalf("some = %v, left %v", b.m.pods, b.m.left())
	}
	return b
}

// fits holds Fits against the words, and that it changes nothing.
func (b *both) fits(s api.Spec) api.Code {
	b.t.Helper()
	want := b.m.fits(s)
	for range 2 {
		if got := b.n.Fits(s); got != want {
			b.t.Fatalf("Fits(%v) = %d, want %d; there are %v", s, int(got), int(want), b.m)
		}
		b.sums()
	}
	return want
}

// admit holds Admit against the words; the spec is as it was then, spare room too, and nothing of it is kept.
func (b *both) admit(uid int, s api.Spec) api.Code {
	b.t.Helper()
	x := handed(s)
	was := handed(s)
	got, want := b.n.Admit(uid, x), b.m.admit(uid, s)
	if got != want {
		b.t.Fatalf("Admit(%d, %v) = %d, want %d; there are %v", uid, s, int(got), int(want), b.m)
	}
	if !reflect.DeepEqual(room(x), room(was)) {
		b.t.Fatalf("Admit(%d, %v) changed what it was handed: %v", uid, s, x)
	}
	spoil(x)
	b.sums()
	return want
}

// release holds Release against the words.
func (b *both) release(uid int) api.Code {
	b.t.Helper()
	were := slices.Clone(b.m.pods)
	got, want := b.n.Release(uid), b.m.release(uid)
	if got != want {
		b.t.Fatalf("Release(%d) = %d, want %d; there were %v", uid, int(got), int(want), were)
	}
	b.sums()
	return want
}

// sums holds what the node tells as a whole against the words.
func (b *both) sums() {
	b.t.Helper()
	if b.n.Has() != b.m.has || b.n.Used() != b.m.used() || b.n.Left() != b.m.left() {
		b.t.Fatalf("has %v, used %v, left %v; want %v, %v, %v; there are %v", b.n.Has(), b.n.Used(), b.n.Left(), b.m.has, b.m.used(), b.m.left(), b.m.pods)
	}
	if got := b.n.Pods(); !slices.Equal(got, b.m.uids()) {
		b.t.Fatalf("Pods = %v, want %v", got, b.m.uids())
	}
}

// holds holds all that the node tells against the words, twice: to ask changes nothing.
func (b *both) holds() {
	b.t.Helper()
	for range 2 {
		b.sums()
		for _, x := range b.m.near() {
			b.of(x)
			b.owner(x)
		}
	}
}

func (b *both) of(uid int) {
	b.t.Helper()
	var want api.Res
	at := b.m.find(uid)
	if at >= 0 {
		want = b.m.pods[at].asks
	}
	if got, there := b.n.Of(uid); got != want || there != (at >= 0) {
		b.t.Fatalf("Of(%d) = %v, %v; want %v, %v", uid, got, there, want, at >= 0)
	}
}

func (b *both) owner(port int) {
	b.t.Helper()
	if got, want := b.n.Owner(port), b.m.owner(port); got != want {
		b.t.Fatalf("Owner(%d) = %d, want %d; there are %v", port, got, want, b.m.pods)
	}
}

// refused holds that Admit is refused with that code, and that all is as it was, ports that nobody has among it.
func (b *both) refused(code api.Code, uid int, s api.Spec) {
	b.t.Helper()
	if got := b.admit(uid, s); got != code {
		b.t.Fatalf("Admit(%d, %v) = %d, want %d", uid, s, int(got), int(code))
	}
	b.holds()
	for _, p := range spec.Ports(s) {
		b.owner(p)
	}
}

// admits holds that Admit is not refused, and what the node tells then.
func (b *both) admits(uid int, s api.Spec) {
	b.t.Helper()
	if got := b.admit(uid, s); got != ok {
		b.t.Fatalf("Admit(%d, %v) = %d; there are %v", uid, s, int(got), b.m)
	}
	b.holds()
}

// 16.1: numbers of all sorts in each of the three places
func TestNewWrittenOut(t *testing.T) {
	for _, c := range []struct{ has, want api.Res }{
		{api.Res{}, api.Res{}},
		{three(4, 5, 6), three(4, 5, 6)},
		{three(1, 1, 1), three(1, 1, 1)},
		{three(-1, 5, 6), three(0, 5, 6)},
		{three(4, -5, 6), three(4, 0, 6)},
		{three(4, 5, -6), three(4, 5, 0)},
		{three(-4, 0, -6), three(0, 0, 0)},
		{same(math.MinInt), three(0, 0, 0)},
		{same(math.MaxInt), same(math.MaxInt)},
		{three(math.MaxInt, math.MinInt, mostRes+1), three(math.MaxInt, 0, mostRes+1)},
	} {
		n := New(c.has)
		if n.Has() != c.want || n.Left() != c.want || n.Used() != (api.Res{}) || len(n.Pods()) != 0 {
			t.Errorf("New(%v): has %v, left %v, used %v, pods %v", c.has, n.Has(), n.Left(), n.Used(), n.Pods())
		}
	}
}

// 16.1: numbers below 0 are as 0, for each number beside each
func TestNewOfEachNumber(t *testing.T) {
	numbers := []int{math.MinInt, -mostRes, -1, 0, 1, 2, mostRes, math.MaxInt}
	for _, cpu := range numbers {
		for _, mem := range numbers {
			for _, pids := range numbers {
				has := three(cpu, mem, pids)
				b := &both{t: t, n: New(has), m: model{has: three(max(cpu, 0), max(mem, 0), max(pids, 0))}}
				b.sums()
				b.fits(pod(api.Res{}))
				b.fits(pod(three(1, 0, 0)))
				b.fits(pod(three(0, 1, 0)))
				b.fits(pod(three(0, 0, 1)))
				b.admits(1, pod(api.Res{}, 80))
				b.release(1)
				b.holds()
			}
		}
	}
}

// 16.1, 16.3: of a new node nothing is used, no pod is there, and no port has an owner
func TestNewNodeHasNoPod(t *testing.T) {
	b := made(t, three(1, 2, 3))
	b.holds()
	for port := -3; port <= mostPort+3; port++ {
		if b.n.Owner(port) != 0 {
			t.Fatalf("Owner(%d) = %d", port, b.n.Owner(port))
		}
	}
	for _, uid := range []int{math.MinInt, -1, 0, 1, math.MaxInt} {
		if r, there := b.n.Of(uid); r != (api.Res{}) || there || b.n.Release(uid) != errUID {
			t.Errorf("Of(%d) = %v, %v", uid, r, there)
		}
	}
}

// R7: nodes know nothing of one another
func TestNodesSideBySide(t *testing.T) {
	one, two := made(t, same(9)), made(t, same(9))
	one.admits(1, pod(same(9), 80))
	two.holds()
	two.admits(1, pod(same(5), 80))
	two.admits(2, pod(same(4), 81))
	one.release(1)
	two.holds()
	one.holds()
	one.admits(2, pod(same(6), 81))
	two.release(2)
	one.holds()
	two.holds()
}

// 16.3: what an admitted pod asks for, written out: of a pod with init containers, and of those that are not there
func TestOfWrittenOut(t *testing.T) {
	n := New(same(1000))
	type list = []api.Res
	for i, c := range []struct {
		inits, mains list
		want         api.Res
	}{
		{nil, list{{}}, api.Res{}},
		{nil, list{three(1, 2, 3)}, three(1, 2, 3)},
		{nil, list{three(1, 2, 3), three(4, 5, 6)}, three(5, 7, 9)},
		{nil, list{three(1, 0, 0), three(0, 1, 0), three(0, 0, 1), three(1, 1, 1)}, three(2, 2, 2)},
		{list{three(9, 0, 0)}, list{three(1, 2, 3)}, three(9, 2, 3)},
		{list{three(0, 9, 0), three(0, 0, 9)}, list{three(1, 2, 3)}, three(1, 9, 9)},
		{list{three(4, 4, 4), three(5, 5, 5), three(3, 3, 3)}, list{three(2, 3, 1), three(2, 3, 1)}, three(5, 6, 5)},
		{list{three(6, 6, 6)}, list{{}}, three(6, 6, 6)},
	} {
		if code := n.Admit(i+1, large(c.inits, c.mains)); code != 0 {
			t.Fatalf("%d: Admit = %d", i, int(code))
		}
		if r, there := n.Of(i + 1); r != c.want || !there {
			t.Errorf("Of(%d) = %v, %v; want %v", i+1, r, there, c.want)
		}
	}
	if n.Used() != three(29, 34, 37) || n.Left() != three(971, 966, 963) {
		t.Errorf("used %v, left %v", n.Used(), n.Left())
	}
	n.Release(4)
	for _, uid := range []int{0, -1, -2, 4, 9, 80, 1<<32 + 1, math.MinInt, math.MaxInt} {
		if r, there := n.Of(uid); r != (api.Res{}) || there {
			t.Errorf("Of(%d) = %v, %v", uid, r, there)
		}
	}
}

// 16.3: rising, in whatever order they came and went
func TestPodsAreRising(t *testing.T) {
	want := []int{1, 2, 9, 10, 1 << 33, math.MaxInt}
	for _, order := range [][]int{{0, 1, 2, 3, 4, 5}, {5, 4, 3, 2, 1, 0}, {3, 0, 5, 1, 4, 2}, {2, 4, 1, 5, 0, 3}} {
		b := made(t, same(6))
		for _, i := range order {
			b.admits(want[i], pod(same(1), i+1))
		}
		if got := b.n.Pods(); !slices.Equal(got, want) {
			t.Errorf("%v: Pods = %v", order, got)
		}
		b.release(9)
		b.release(1)
		b.admits(7, pod(same(2)))
		if got := b.n.Pods(); !slices.Equal(got, []int{2, 7, 10, 1 << 33, math.MaxInt}) {
			t.Errorf("%v: Pods = %v", order, got)
		}
	}
}

// 16.3: of ports that somebody has, that nobody has, that were freed, and of numbers that are no ports
func TestOwnerWrittenOut(t *testing.T) {
	n := some(t).n
	for _, c := range []struct{ port, owner int }{
		{443, 5}, {80, 5}, {65535, 2}, {1, 2}, {22, 2}, {8080, math.MaxInt},
		{2, 0}, {3, 0}, {79, 0}, {81, 0}, {442, 0}, {65534, 0}, {8081, 0},
		{0, 0}, {-1, 0}, {-80, 0}, {65536, 0}, {65537, 0}, {1<<16 + 80, 0}, {1<<32 + 80, 0}, {math.MinInt, 0}, {math.MaxInt, 0},
	} {
		if got := n.Owner(c.port); got != c.owner {
			t.Errorf("Owner(%d) = %d, want %d", c.port, got, c.owner)
		}
	}
	n.Release(5)
	if n.Owner(443) != 0 || n.Owner(80) != 0 || n.Owner(22) != 2 || n.Owner(8080) != math.MaxInt {
		t.Errorf("behind Release: %d, %d, %d, %d", n.Owner(443), n.Owner(80), n.Owner(22), n.Owner(8080))
	}
}

// The chapter's example
func TestExample(t *testing.T) {
	n := New(same(4))
	one, two := n.Admit(1, pod(three(3, 1, 0))), n.Admit(2, pod(three(3, 1, 0)))
	if one != api.OK || two != api.ErrRoom || n.Used() != three(3, 1, 0) || n.Left() != three(1, 3, 4) {
		t.Errorf("%d, %d; used %v, left %v", int(one), int(two), n.Used(), n.Left())
	}
}
