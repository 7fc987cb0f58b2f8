package port

import (
	"maps"
	"math"
	"slices"
	"testing"

	"provost/api"
)

// What the document writes, for the expectations below.
const (
	mostPort = 65535
	ok       = api.Code(0)
	errRange = api.Code(1)
	errPort  = api.Code(150)
)

// entry is a port, and whose it is.
type entry struct{ port, owner int }

// model is a table after the words of the chapter: its entries, as they came.
type model []entry

func (m model) owner(port int) int {
	for _, e := range m {
		if e.port == port {
			return e.owner
		}
	}
	return 0
}

func (m model) held(owner int) []int {
	var ports []int
	for _, e := range m {
		if e.owner == owner {
			ports = append(ports, e.port)
		}
	}
	slices.Sort(ports)
	return ports
}

func (m model) inOrder() []entry {
	l := slices.Clone(m)
	slices.SortFunc(l, func(a, b entry) int { return a.port - b.port })
	return l
}

func (m *model) take(owner int, ports ...int) api.Code {
	if owner < 1 {
		return errRange
	}
	for _, p := range ports {
		if p < 1 || p > mostPort {
			return errRange
		}
	}
	for i, p := range ports {
		if m.owner(p) != 0 || slices.Contains(ports[:i], p) {
			return errPort
		}
	}
	for _, p := range ports {
		*m = append(*m, entry{p, owner})
	}
	return ok
}

func (m *model) free(owner int) int {
	n := len(m.held(owner))
	*m = slices.DeleteFunc(*m, func(e entry) bool { return e.owner == owner })
	return n
}

// around are numbers below, at and above all ports that have an owner, and at the edges.
func (m model) around() []int {
	l := []int{math.MinInt, math.MinInt + 1, -mostPort, -2, -1, 0, 1, 2, mostPort - 1, mostPort, mostPort + 1, mostPort + 2, 1 << 16, 1<<16 + 80, 1 << 32, 1<<32 + 80, math.MaxInt - 1, math.MaxInt}
	for _, e := range m {
		l = append(l, e.port-1, e.port, e.port+1, -e.port, e.port+1<<16, e.port+1<<32)
	}
	slices.Sort(l)
	return slices.Compact(l)
}

// owners are those that have ports, those beside them, and numbers at the edges.
func (m model) owners() []int {
	set := map[int]int{}
	for _, n := range []int{math.MinInt, -1, 0, 1, 2, math.MaxInt - 1, math.MaxInt} {
		set[n]++
	}
	for _, e := range m {
		for _, n := range []int{e.owner - 1, e.owner, -e.owner, e.owner ^ 1<<32, e.port} {
			set[n]++
		}
	}
	return slices.Sorted(maps.Keys(set))
}

// both is a table, and what the words say of it.
type both struct {
	t *testing.T
	x *Table
	m model
}

func made(t *testing.T) *both {
	t.Helper()
	return &both{t: t, x: New()}
}

// some is a table that three owners took ports of, some of them by several calls, and in no order.
func some(t *testing.T) *both {
	t.Helper()
	b := made(t)
	b.take(2, 443, 80, 8080)
	b.take(1, 22)
	b.take(3, 65535, 1)
	b.take(1, 65534, 2)
	b.take(2, 81)
	b.holds()
	return b
}

// take holds Take and Len behind it against the words; ports are as they were then, spare room too.
func (b *both) take(owner int, ports ...int) {
	b.t.Helper()
	handed := append(slices.Clone(ports), -7, 80, 9)[:len(ports)]
	room := handed[:len(ports)+3]
	want := slices.Clone(room)
	if code, should := b.x.Take(owner, handed...), b.m.take(owner, ports...); code != should || b.x.Len() != len(b.m) {
		b.t.Fatalf("Take(%d, %v) = %d, want %d; Len %d, want %d; there are %v", owner, ports, int(code), int(should), b.x.Len(), len(b.m), b.m)
	}
	if !slices.Equal(room, want) {
		b.t.Fatalf("Take(%d, %v) changed what it was handed: %v", owner, ports, room)
	}
	// What is written into it now is nobody's port.
	for i := range room {
		room[i] = 7777
	}
}

// free holds Free and Len behind it against the words.
func (b *both) free(owner int) {
	b.t.Helper()
	were := slices.Clone(b.m)
	if n, should := b.x.Free(owner), b.m.free(owner); n != should || b.x.Len() != len(b.m) {
		b.t.Fatalf("Free(%d) = %d, want %d; Len %d, want %d; there were %v", owner, n, should, b.x.Len(), len(b.m), were)
	}
}

// entriesOf are the ports and owners that an iterator tells to its end.
func entriesOf(all func(yield func(port, owner int) bool)) []entry {
	var l []entry
	all(func(port, owner int) bool {
		l = append(l, entry{port, owner})
		return true
	})
	return l
}

// lists holds what the table tells as a whole against the words.
func (b *both) lists() {
	b.t.Helper()
	if got := entriesOf(b.x.All()); !slices.Equal(got, b.m.inOrder()) || b.x.Len() != len(b.m) {
		b.t.Fatalf("All = %v, Len = %d; want %v", got, b.x.Len(), b.m.inOrder())
	}
}

// holds holds all that the table tells against the words, twice: to ask changes nothing.
func (b *both) holds() {
	b.t.Helper()
	for range 2 {
		b.lists()
		for _, p := range b.m.around() {
			if got, want := b.x.Owner(p), b.m.owner(p); got != want {
				b.t.Fatalf("Owner(%d) = %d, want %d; there are %v", p, got, want, b.m)
			}
		}
		for _, o := range b.m.owners() {
			if got, want := b.x.Held(o), b.m.held(o); !slices.Equal(got, want) {
				b.t.Fatalf("Held(%d) = %v, want %v; there are %v", o, got, want, b.m)
			}
		}
	}
}

// refused holds that a call is refused with that code, and that all is as it was; the ports that it named and that had no owner can be taken by somebody.
func (b *both) refused(code api.Code, owner int, ports ...int) {
	b.t.Helper()
	if got := b.x.Take(owner, ports...); got != code {
		b.t.Fatalf("Take(%d, %v) = %d, want %d", owner, ports, int(got), int(code))
	}
	b.holds()
	for _, p := range ports {
		if want := b.m.owner(p); b.x.Owner(p) != want {
			b.t.Fatalf("behind Take(%d, %v): Owner(%d) = %d, want %d", owner, ports, p, b.x.Owner(p), want)
		}
	}
	const nobody = 987654
	for _, p := range ports {
		if p >= 1 && p <= mostPort && b.m.owner(p) == 0 {
			b.take(nobody, p)
		}
	}
	b.free(nobody)
	b.holds()
}

// 15.1: a new table
func TestNewTableHasNoPort(t *testing.T) {
	x := New()
	if x == nil || x.Len() != 0 {
		t.Fatalf("New() = %v", x)
	}
	for p := -3; p <= mostPort+3; p++ {
		if o := x.Owner(p); o != 0 {
			t.Fatalf("Owner(%d) = %d", p, o)
		}
	}
	for p, o := range x.All() {
		t.Errorf("%d of %d is told", p, o)
	}
	made(t).holds()
}

// 15.1: tables know nothing of one another
func TestTablesSideBySide(t *testing.T) {
	one, two := made(t), made(t)
	one.take(1, 80, 443)
	two.holds()
	two.take(2, 443, 22)
	two.take(1, 80)
	one.free(1)
	two.holds()
	one.take(3, 443)
	one.holds()
	two.free(2)
	one.holds()
}

// 15.1: the codes by their numbers, written out
func TestTakeWrittenOut(t *testing.T) {
	x := New()
	if code := x.Take(1, 80); code != 0 {
		t.Fatalf("Take(1, 80) = %d", int(code))
	}
	for _, c := range []struct {
		owner int
		ports []int
		code  api.Code
		len   int
	}{
		{2, []int{443, 80}, 150, 1}, {2, []int{80, 443}, 150, 1}, {1, []int{80}, 150, 1}, {1, []int{443, 80}, 150, 1},
		{2, []int{443, 443}, 150, 1}, {2, []int{80, 80}, 150, 1}, {2, []int{443, 7, 443}, 150, 1},
		{0, nil, 1, 1}, {-1, nil, 1, 1}, {0, []int{443}, 1, 1}, {-1, []int{443}, 1, 1}, {math.MinInt, []int{443}, 1, 1},
		{2, []int{0}, 1, 1}, {2, []int{-1}, 1, 1}, {2, []int{65536}, 1, 1}, {2, []int{443, 0}, 1, 1}, {2, []int{65536, 443}, 1, 1},
		{0, []int{80}, 1, 1}, {0, []int{443, 443}, 1, 1}, {2, []int{80, 0}, 1, 1}, {2, []int{443, 443, 65536}, 1, 1}, {0, []int{0, 80}, 1, 1},
		{2, nil, 0, 1}, {2, []int{}, 0, 1}, {2, []int{443}, 0, 2}, {2, []int{65535, 1}, 0, 4}, {math.MaxInt, []int{3, 2, 4}, 0, 7}, {1, []int{81, 79}, 0, 9},
	} {
		if code := x.Take(c.owner, c.ports...); code != c.code || x.Len() != c.len {
			t.Errorf("Take(%d, %v) = %d; want %d; Len %d, want %d", c.owner, c.ports, int(code), int(c.code), x.Len(), c.len)
		}
	}
	want := []entry{{1, 2}, {2, math.MaxInt}, {3, math.MaxInt}, {4, math.MaxInt}, {79, 1}, {80, 1}, {81, 1}, {443, 2}, {65535, 2}}
	if got := entriesOf(x.All()); !slices.Equal(got, want) {
		t.Errorf("All = %v, want %v", got, want)
	}
}

// 15.1: none, one, and many, by all owners that may be
func TestTakeNoneOneAndMany(t *testing.T) {
	for _, owner := range []int{1, 2, 80, mostPort, mostPort + 1, 1 << 30, 1 << 31, 1 << 32, 1<<32 + 1, math.MaxInt - 1, math.MaxInt} {
		for _, ports := range [][]int{nil, {}, {1}, {80}, {mostPort}, {mostPort - 1}, {1, mostPort}, {mostPort, 1}, {3, 1, 2}, {9, 8, 7, 6, 5, 4, 3, 2, 1}, {256, 1, 257, 512, 255, 65280}} {
			b := made(t)
			b.take(owner, ports...)
			b.holds()
			if len(b.m) != len(ports) {
				t.Fatalf("Take(%d, %v) is refused", owner, ports)
			}
			b.take(owner)
			b.take(owner, 4443)
			b.holds()
		}
	}
}

// 15.1: an owner below 1
func TestTakeForNoOwner(t *testing.T) {
	for _, owner := range []int{0, -1, -2, -80, math.MinInt + 1, math.MinInt} {
		for _, ports := range [][]int{nil, {}, {3}, {3, 4}, {80}, {3, 80}, {3, 3}, {0}, {3, mostPort + 1}} {
			made(t).refused(errRange, owner, ports...)
			some(t).refused(errRange, owner, ports...)
		}
	}
}

// placed are lists of ports without an owner, with more in between at each place.
func placed(more ...int) [][]int {
	free := []int{3, 4444, 500}
	var l [][]int
	for place := range len(free) + 1 {
		l = append(l, slices.Insert(slices.Clone(free), place, more...))
	}
	return append(l, more)
}

// 15.1: what is no port, at each place
func TestTakeOfNoPort(t *testing.T) {
	for _, p := range []int{0, -1, -80, math.MinInt, mostPort + 1, mostPort + 2, 1<<16 + 80, 1<<32 + 80, math.MaxInt} {
		for _, ports := range placed(p) {
			made(t).refused(errRange, 4, ports...)
			some(t).refused(errRange, 4, ports...)
			some(t).refused(errRange, math.MaxInt, ports...)
		}
	}
	for _, p := range []int{1, mostPort} {
		for _, ports := range placed(p) {
			b := made(t)
			b.take(4, ports...)
			b.holds()
			if len(b.m) != len(ports) {
				t.Fatalf("Take(4, %v) is refused", ports)
			}
		}
	}
}

// 15.1: a port that has an owner, whoever it is, at each place
func TestTakeOfAPortThatIsTaken(t *testing.T) {
	for _, e := range some(t).m {
		for _, owner := range []int{1, 2, 3, 4, math.MaxInt} {
			for _, ports := range placed(e.port) {
				some(t).refused(errPort, owner, ports...)
			}
		}
	}
}

// 15.1: a port that stands twice, at each two places
func TestTakeOfAPortTwice(t *testing.T) {
	for _, p := range []int{1, 5, 80, 600, 5555, mostPort} {
		for _, once := range placed(p) {
			for place := range len(once) + 1 {
				ports := slices.Insert(slices.Clone(once), place, p)
				made(t).refused(errPort, 4, ports...)
				some(t).refused(errPort, 2, ports...)
			}
		}
		made(t).refused(errPort, 4, p, p, p)
	}
}

// 15.1, R1: what is out of its range is told ahead of what is taken or stands twice, wherever it stands
func TestRangeIsToldAheadOfPort(t *testing.T) {
	for _, bad := range [][]int{{80}, {1}, {mostPort}, {7, 7}, {80, 80}, {80, 7, 443}} {
		for _, ports := range placed(bad...) {
			some(t).refused(errPort, 2, ports...)
			some(t).refused(errRange, 0, ports...)
			some(t).refused(errRange, -1, ports...)
			for _, none := range []int{0, -1, mostPort + 1} {
				for place := range len(ports) + 1 {
					some(t).refused(errRange, 2, slices.Insert(slices.Clone(ports), place, none)...)
				}
			}
		}
	}
}

// 15.1: all ports that there are, one by one and as one, in several orders
func TestTakeOfAllPorts(t *testing.T) {
	rising := make([]int, mostPort)
	for i := range rising {
		rising[i] = i + 1
	}
	falling := slices.Clone(rising)
	slices.Reverse(falling)
	var mixed []int
	for i := range rising {
		mixed = append(mixed, i*7919%mostPort+1)
	}
	for _, ports := range [][]int{rising, falling, mixed} {
		one, all := New(), New()
		for i, p := range ports {
			if code := one.Take(p%5+1, p); code != ok || one.Len() != i+1 {
				t.Fatalf("Take(%d, %d) = %d; Len %d", p%5+1, p, int(code), one.Len())
			}
		}
		if code := all.Take(1, append(slices.Clone(ports), ports[99])...); code != errPort || all.Len() != 0 {
			t.Fatalf("Take of all ports, one twice = %d; Len %d", int(code), all.Len())
		}
		if code := all.Take(1, ports...); code != ok || all.Len() != mostPort || !slices.Equal(all.Held(1), rising) {
			t.Fatalf("Take of all ports = %d; Len %d", int(code), all.Len())
		}
		for _, p := range ports {
			if one.Owner(p) != p%5+1 || all.Owner(p) != 1 {
				t.Fatalf("Owner(%d) = %d, %d", p, one.Owner(p), all.Owner(p))
			}
		}
		if code := one.Take(6, 80); code != errPort || one.Free(1) != mostPort/5 || one.Len() != mostPort/5*4 || one.Owner(80) != 0 {
			t.Fatalf("of all ports: Take = %d; Len %d, Owner(80) = %d", int(code), one.Len(), one.Owner(80))
		}
	}
}

// 15.1: how many are freed, by none, one and many
func TestFreeWrittenOut(t *testing.T) {
	x := New()
	x.Take(1, 443, 80)
	x.Take(2, 22)
	x.Take(3)
	x.Take(1, 81)
	for _, c := range []struct{ owner, n, len int }{
		{0, 0, 4}, {-1, 0, 4}, {math.MinInt, 0, 4}, {math.MaxInt, 0, 4}, {80, 0, 4}, {4, 0, 4}, {3, 0, 4},
		{1, 3, 1}, {1, 0, 1}, {2, 1, 0}, {2, 0, 0}, {1, 0, 0}, {0, 0, 0},
	} {
		if n := x.Free(c.owner); n != c.n || x.Len() != c.len {
			t.Errorf("Free(%d) = %d, want %d; Len %d, want %d", c.owner, n, c.n, x.Len(), c.len)
		}
	}
	if n := New().Free(1); n != 0 {
		t.Errorf("of a new table: Free(1) = %d", n)
	}
}

// 15.1: what was freed has no owner, what others have stays, and both twice
func TestFreeOfEachOwner(t *testing.T) {
	for _, owner := range some(t).m.owners() {
		b := some(t)
		for range 2 {
			b.free(owner)
			b.holds()
		}
	}
	// All owners, in each order.
	for _, order := range [][]int{{1, 2, 3}, {1, 3, 2}, {2, 1, 3}, {2, 3, 1}, {3, 1, 2}, {3, 2, 1}} {
		b := some(t)
		for _, owner := range order {
			b.free(owner)
			b.holds()
		}
		if len(b.m) != 0 {
			t.Fatalf("%v: %v is left", order, b.m)
		}
	}
}

// 15.1: what was freed is taken again, by another owner and by the same one
func TestWhatWasFreedIsTakenAgain(t *testing.T) {
	for _, owner := range []int{1, 2, 3} {
		for _, next := range []int{1, 2, 3, 4, math.MaxInt} {
			b := some(t)
			ports := b.m.held(owner)
			b.free(owner)
			for range 2 {
				b.take(next, ports...)
				b.holds()
				if got := b.x.Owner(ports[0]); got != next {
					t.Fatalf("Owner(%d) = %d, want %d", ports[0], got, next)
				}
			}
			b.take(owner, ports[0])
			b.free(next)
			b.take(owner, ports...)
			b.holds()
		}
	}
}

// 15.2: whose a port is
func TestOwnerWrittenOut(t *testing.T) {
	x := New()
	x.Take(7, 65535, 80)
	x.Take(math.MaxInt, 1, 81)
	for _, c := range []struct{ port, owner int }{
		{80, 7}, {65535, 7}, {1, math.MaxInt}, {81, math.MaxInt}, {79, 0}, {82, 0}, {2, 0}, {65534, 0}, {7, 0},
		{0, 0}, {-1, 0}, {-80, 0}, {65536, 0}, {65616, 0}, {1<<32 + 80, 0}, {math.MinInt, 0}, {math.MaxInt, 0},
	} {
		for range 2 {
			if got := x.Owner(c.port); got != c.owner {
				t.Errorf("Owner(%d) = %d, want %d", c.port, got, c.owner)
			}
		}
	}
}

// 15.2: rising, whatever the order in which the ports were taken, by one call or by several
func TestHeldIsRising(t *testing.T) {
	want := []int{1, 80, 443, 65535}
	for _, order := range [][]int{{0, 1, 2, 3}, {3, 2, 1, 0}, {1, 3, 0, 2}, {2, 0, 3, 1}, {3, 0, 1, 2}, {1, 0, 3, 2}} {
		for cut := range len(order) + 1 {
			b := made(t)
			var ports []int
			for _, i := range order {
				ports = append(ports, want[i])
			}
			b.take(5, ports[:cut]...)
			b.take(6, 81, 2, 65534)
			b.take(5, ports[cut:]...)
			b.holds()
			if got := b.x.Held(5); !slices.Equal(got, want) {
				t.Errorf("%v, cut at %d: Held(5) = %v", ports, cut, got)
			}
		}
	}
}

// 15.2: of owners who have none
func TestHeldOfWhoHasNone(t *testing.T) {
	b := some(t)
	b.take(9)
	b.free(2)
	for _, owner := range []int{math.MinInt, -1, 0, 2, 4, 9, 22, mostPort, math.MaxInt} {
		if got := b.x.Held(owner); len(got) != 0 {
			t.Errorf("Held(%d) = %v", owner, got)
		}
		if got := New().Held(owner); len(got) != 0 {
			t.Errorf("of a new table: Held(%d) = %v", owner, got)
		}
	}
}

// The chapter's example
func TestExample(t *testing.T) {
	x := New()
	one, two := x.Take(1, 80), x.Take(2, 443, 80)
	if one != api.OK || two != api.ErrPort || x.Len() != 1 || x.Owner(443) != 0 || x.Owner(80) != 1 {
		t.Errorf("%d, %d; Len %d", int(one), int(two), x.Len())
	}
}
