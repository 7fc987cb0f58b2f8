package qos

import (
	"math"
	"math/big"
	"slices"
	"testing"

	"provost/api"
)

// cand is a candidate whose main container asks for so much Mem, and that uses so much of it; of CPU and Pids it says the other way round.
func cand(uid, prio, ask, use int) Cand {
	return Cand{UID: uid, Spec: api.Spec{Prio: prio, Main: []api.Container{{Req: three(use, ask, use), Lim: three(0, use, 0)}}}, Use: three(ask, use, ask)}
}

// asks is how much Mem a pod asks for; none, if a sum overflows on its way.
func asks(s api.Spec) *big.Int {
	most := big.NewInt(0)
	for place := range 3 {
		sum := big.NewInt(0)
		for _, c := range s.Main {
			sum.Add(sum, big.NewInt(int64(numbers(c.Req)[place])))
			if !sum.IsInt64() {
				return big.NewInt(0)
			}
		}
		if place == 1 {
			most = sum
		}
	}
	for _, c := range s.Init {
		if n := big.NewInt(int64(c.Req.Mem)); n.Cmp(most) > 0 {
			most = n
		}
	}
	return most
}

// above is by how much a candidate's use of Mem is above what it asks for, the greatest int at most; not above 0, where it is not above that.
func above(c Cand) *big.Int {
	over := new(big.Int).Sub(big.NewInt(int64(c.Use.Mem)), asks(c.Spec))
	if most := big.NewInt(math.MaxInt); over.Cmp(most) > 0 {
		return most
	}
	return over
}

// goes says what the words say of whether a goes ahead of b.
func goes(a, b Cand) bool {
	x, y := above(a), above(b)
	if x.Sign() > 0 && y.Sign() <= 0 {
		return true
	}
	if x.Sign() <= 0 && y.Sign() > 0 {
		return false
	}
	if a.Spec.Prio != b.Spec.Prio {
		return a.Spec.Prio < b.Spec.Prio
	}
	if x.Sign() > 0 && x.Cmp(y) != 0 {
		return x.Cmp(y) > 0
	}
	return a.UID > b.UID
}

// wantOrder says what the words say: time and again the one goes that none of those that are left goes ahead of.
func wantOrder(l []Cand) []int {
	l = slices.Clone(l)
	var uids []int
	for len(l) > 0 {
		at := slices.IndexFunc(l, func(c Cand) bool { return !slices.ContainsFunc(l, func(x Cand) bool { return goes(x, c) }) })
		uids = append(uids, l[at].UID)
		l = slices.Delete(l, at, at+1)
	}
	return uids
}

// first holds First of two against the words, both ways, and of each with itself.
func first(t *testing.T, a, b Cand) {
	t.Helper()
	for range 2 {
		for _, c := range [][2]Cand{{a, b}, {b, a}, {a, a}, {b, b}} {
			if got, want := First(c[0], c[1]), goes(c[0], c[1]); got != want {
				t.Fatalf("First(%v, %v) = %v, want %v", c[0], c[1], got, want)
			}
		}
	}
}

// ahead holds that a goes ahead of b, and not the other way round.
func ahead(t *testing.T, a, b Cand) {
	t.Helper()
	if !First(a, b) || First(b, a) {
		t.Errorf("First of %v and %v is %v, the other way round %v", a, b, First(a, b), First(b, a))
	}
	first(t, a, b)
	ordered(t, []Cand{a, b}, a.UID, b.UID)
	ordered(t, []Cand{b, a}, a.UID, b.UID)
}

// ordered holds Order and Victim.
func ordered(t *testing.T, l []Cand, want ...int) {
	t.Helper()
	for range 2 {
		if got := Order(l); !slices.Equal(got, want) {
			t.Fatalf("Order(%v) = %v, want %v", l, got, want)
		}
		victim, ok := Victim(l)
		if ok != (len(want) > 0) || ok && victim != want[0] || !ok && victim != 0 {
			t.Fatalf("Victim(%v) = %d, %v; want the first of %v", l, victim, ok, want)
		}
	}
}

// 17.2: a use above what is asked for goes ahead of one that is not, whatever else there is
func TestFirstByWhetherItIsAbove(t *testing.T) {
	for _, c := range [][2]Cand{
		// Just that, one more, one less.
		{cand(1, 10, 5, 6), cand(9, 0, 5, 5)},
		{cand(1, 10, 5, 6), cand(9, 0, 5, 4)},
		{cand(1, 10, 5, 6), cand(9, 0, 6, 6)},
		{cand(1, 10, 0, 1), cand(9, 0, 0, 0)},
		{cand(1, 10, 0, 1), cand(9, 0, 1<<40, 1<<40)},
		{cand(1, 10, -1, 0), cand(9, 0, 0, 0)},
		{cand(1, 10, -2, -1), cand(9, 0, -1, -1)},
		{cand(1, math.MaxInt, 0, 1), cand(2, math.MinInt, 5, 5)},
		{cand(math.MinInt, 10, 0, 1), cand(math.MaxInt, 0, 5, 5)},
		{cand(1, 0, 5, 6), cand(2, 0, 5, 5)},
		{cand(1, 0, 5, 6), cand(1, 0, 5, 5)},
		// So far above, or not so, that the difference is no int.
		{cand(1, 10, math.MinInt, math.MaxInt), cand(9, 0, 5, 5)},
		{cand(1, 10, math.MinInt, 0), cand(9, 0, 0, 0)},
		{cand(1, 10, -1, math.MaxInt), cand(9, 0, 0, math.MinInt)},
		{cand(1, 10, 0, 1), cand(9, 0, math.MaxInt, math.MinInt)},
		{cand(1, 10, 0, 1), cand(9, 0, 1, math.MinInt)},
		{cand(1, 10, 0, 1), cand(9, 0, math.MaxInt, -2)},
		{cand(1, 10, math.MaxInt-1, math.MaxInt), cand(9, 0, math.MaxInt, math.MaxInt)},
		{cand(1, 10, math.MinInt, math.MinInt+1), cand(9, 0, math.MinInt, math.MinInt)},
	} {
		ahead(t, c[0], c[1])
	}
}

// 17.2: of two that are both above, or both not, the one whose Prio is less goes first
func TestFirstByPrio(t *testing.T) {
	for _, c := range [][2]int{{0, 1}, {0, 10}, {9, 10}, {-1, 0}, {-2, -1}, {-1, 1}, {0, 1 << 32}, {math.MinInt, math.MinInt + 1}, {math.MinInt, 0}, {math.MinInt, 1}, {math.MinInt, math.MaxInt}, {-2, math.MaxInt}, {math.MaxInt - 1, math.MaxInt}} {
		ahead(t, cand(1, c[0], 5, 6), cand(9, c[1], 5, 99))
		ahead(t, cand(1, c[0], 5, 5), cand(9, c[1], 5, 5))
		ahead(t, cand(1, c[0], 5, 4), cand(9, c[1], 5, 5))
		ahead(t, cand(1, c[0], 5, 6), cand(9, c[1], math.MinInt, math.MaxInt))
		ahead(t, cand(3, c[0], 5, 5), cand(3, c[1], 5, 5))
	}
}

// 17.2: of two that are above, with one Prio, the one that is more above goes first
func TestFirstByHowMuchItIsAbove(t *testing.T) {
	for _, c := range [][2]Cand{
		{cand(1, 4, 5, 7), cand(9, 4, 5, 6)},
		{cand(1, 4, 5, 7), cand(9, 4, 7, 8)},
		{cand(1, 4, 0, 3), cand(9, 4, 5, 7)},
		{cand(1, 4, 0, 3), cand(9, 4, 1<<40, 1<<40+2)},
		{cand(1, 4, -5, -1), cand(9, 4, 0, 3)},
		{cand(1, 4, -5, 0), cand(9, 4, 0, 4)},
		{cand(1, 4, 0, 1<<32), cand(9, 4, 0, 1<<32-1)},
		{cand(1, 4, 0, math.MaxInt), cand(9, 4, 0, math.MaxInt-1)},
		{cand(1, 4, math.MinInt, -1), cand(9, 4, 0, math.MaxInt-1)},
		// What is too much for an int counts as the greatest one.
		{cand(1, 4, -1, math.MaxInt), cand(9, 4, 0, math.MaxInt-1)},
		{cand(1, 4, math.MinInt, math.MaxInt), cand(9, 4, 1, math.MaxInt)},
		{cand(1, 4, math.MinInt, 0), cand(9, 4, math.MinInt, -2)},
		{cand(1, 4, math.MinInt, 5), cand(9, 4, 4, 5)},
	} {
		ahead(t, c[0], c[1])
	}
}

// 17.2: of two that are alike in all else the one whose UID is greater goes first; by how much they are not above is nothing
func TestFirstByUID(t *testing.T) {
	for _, c := range [][2]int{{2, 1}, {10, 9}, {1, 0}, {0, -1}, {-1, -2}, {1, -1}, {1 << 32, 5}, {math.MaxInt, math.MaxInt - 1}, {math.MaxInt, math.MinInt}, {math.MaxInt, -2}, {0, math.MinInt}, {1, math.MinInt}, {math.MinInt + 1, math.MinInt}} {
		ahead(t, cand(c[0], 4, 5, 5), cand(c[1], 4, 5, 5))
		ahead(t, cand(c[0], 4, 5, 6), cand(c[1], 4, 5, 6))
		ahead(t, cand(c[0], 4, 5, 6), cand(c[1], 4, 99, 100))
		ahead(t, cand(c[0], 4, 5, 5), cand(c[1], 4, 5, 0))
		ahead(t, cand(c[0], 4, 5, 0), cand(c[1], 4, 5, 5))
		ahead(t, cand(c[0], 4, 5, 5), cand(c[1], 4, math.MaxInt, math.MinInt))
		ahead(t, cand(c[0], 4, math.MaxInt, math.MinInt), cand(c[1], 4, 5, 5))
		// Two that are more above than an int can be.
		ahead(t, cand(c[0], 4, -1, math.MaxInt), cand(c[1], 4, math.MinInt, math.MaxInt))
		ahead(t, cand(c[0], 4, 0, math.MaxInt), cand(c[1], 4, math.MinInt, math.MaxInt))
		ahead(t, cand(c[0], 4, math.MinInt, 0), cand(c[1], 4, math.MinInt, math.MaxInt))
	}
}

// 17.2: CPU, Pids, limits, and what else a spec has say nothing
func TestFirstLooksAtNothingElse(t *testing.T) {
	a, b := cand(2, 4, 5, 6), cand(1, 4, 5, 6)
	b.Use.CPU, b.Use.Pids = math.MaxInt, math.MaxInt
	b.Spec.Main[0].Req.CPU, b.Spec.Main[0].Req.Pids = math.MinInt, math.MinInt
	b.Spec.Main[0].Lim = three(1, 1, 1)
	ahead(t, a, b)
	b.Spec.Name, b.Spec.Grace, b.Spec.Restart, b.Spec.Labels = "b", 1000, api.RAlways, []api.Label{{Key: "a"}}
	ahead(t, a, b)
	a.Spec.Init = []api.Container{box(three(99, 4, 99), api.Res{})}
	ahead(t, a, b)
	// A pod of the class best goes by the same as one of the class sure.
	best, sure := Cand{UID: 1}, Cand{UID: 2, Spec: pod(nil, []api.Container{just(1, 1, 1)})}
	sure.Spec.Prio = 0
	ahead(t, sure, best)
	sure.Use.Mem, best.Use.Mem = 3, 1
	ahead(t, sure, best)
}

// asking are containers that ask for these.
func asking(reqs ...api.Res) []api.Container {
	var l []api.Container
	for _, r := range reqs {
		l = append(l, api.Container{Req: r})
	}
	return l
}

// 17.2: what a pod asks for is chapter 14's; where it overflows, it counts as zero
func TestFirstByWhatAPodAsksFor(t *testing.T) {
	type list = []api.Res
	most, least := math.MaxInt, math.MinInt
	for i, c := range []struct {
		inits, mains list
		asks         int
	}{
		{nil, nil, 0},
		{nil, list{three(0, 2, 0), three(0, 3, 0)}, 5},
		{nil, list{three(0, 2, 0), three(0, 3, 0), three(0, -4, 0)}, 1},
		{list{three(0, 9, 0)}, list{three(0, 3, 0)}, 9},
		{list{three(0, 2, 0), three(0, 9, 0), three(0, 4, 0)}, list{three(0, 3, 0), three(0, 3, 0)}, 9},
		{list{three(0, 5, 0), three(0, 5, 0)}, list{three(0, 3, 0), three(0, 3, 0)}, 6},
		{list{three(9, 5, 9)}, list{three(1, 7, 1)}, 7},
		{list{three(0, 4, 0)}, nil, 4},
		{list{three(0, -4, 0)}, nil, 0},
		{list{three(0, -4, 0)}, list{three(0, -9, 0)}, -4},
		// A sum that overflows, in Mem and in the others, and on the way alone.
		{nil, list{three(0, most, 0), three(0, 1, 0)}, 0},
		{nil, list{three(0, most-1, 0), three(0, 1, 0)}, most},
		{nil, list{three(0, least, 0), three(0, -1, 0)}, 0},
		{nil, list{three(0, most, 0), three(0, 1, 0), three(0, -9, 0)}, 0},
		{nil, list{three(0, most, 0), three(0, -9, 0), three(0, 1, 0)}, most - 8},
		{nil, list{three(most, 7, 0), three(1, 7, 0)}, 0},
		{nil, list{three(0, 7, least), three(0, 7, -1)}, 0},
		{list{three(0, 100, 0)}, list{three(0, most, 0), three(0, 1, 0)}, 0},
		{list{three(0, 100, 0)}, list{three(most, 7, 0), three(1, 7, 0)}, 0},
	} {
		s := api.Spec{Prio: 4, Init: asking(c.inits...), Main: asking(c.mains...)}
		if n := asks(s); !n.IsInt64() || n.Int64() != int64(c.asks) {
			t.Fatalf("%d: the words say %v", i, n)
		}
		// Its use is just that, or one more.
		at := func(uid, use int) Cand { return Cand{UID: uid, Spec: s, Use: api.Res{Mem: use}} }
		ahead(t, cand(1, 9, 5, 6), at(9, c.asks))
		if c.asks < most {
			ahead(t, at(1, c.asks+1), cand(9, 0, 5, 5))
			ahead(t, at(2, c.asks+1), cand(1, 4, 5, 6))
			ahead(t, cand(3, 4, 5, 6), at(2, c.asks+1))
			ahead(t, cand(1, 4, 5, 7), at(2, c.asks+1))
		}
		if c.asks < most-2 {
			ahead(t, at(1, c.asks+3), cand(2, 4, 5, 7))
		}
	}
}

// 17.2: each pair of candidates at the edges, held against the words
func TestFirstAtTheEdges(t *testing.T) {
	edges := []int{math.MinInt, math.MinInt + 1, -1, 0, 1, math.MaxInt - 1, math.MaxInt}
	var l []Cand
	for _, ask := range edges {
		for _, use := range edges {
			for _, prio := range []int{math.MinInt, 0, math.MaxInt} {
				l = append(l, cand(len(l)%3-1, prio, ask, use))
			}
		}
	}
	for _, a := range l {
		for _, b := range l {
			if got, want := First(a, b), goes(a, b); got != want {
				t.Fatalf("First(%v, %v) = %v, want %v", a, b, got, want)
			}
		}
	}
	ordered(t, l, wantOrder(l)...)
}

// 17.2: of none, and of one
func TestOrderOfNoneAndOfOne(t *testing.T) {
	ordered(t, nil)
	ordered(t, []Cand{})
	ordered(t, make([]Cand, 0, 9))
	for _, uid := range []int{1, 7, 0, -3, math.MinInt, math.MaxInt} {
		ordered(t, []Cand{{UID: uid}}, uid)
		ordered(t, []Cand{cand(uid, 3, 5, 6)}, uid)
	}
}

// permuted calls f with all orders of l.
func permuted(l []Cand, f func(l []Cand)) {
	var from func(at int)
	from = func(at int) {
		if at == len(l) {
			f(l)
			return
		}
		for i := at; i < len(l); i++ {
			l[at], l[i] = l[i], l[at]
			from(at + 1)
			l[at], l[i] = l[i], l[at]
		}
	}
	from(0)
}

// 17.2, 17.3: all orders of a few come to the same one, written out
func TestOrderOfAFew(t *testing.T) {
	for _, c := range []struct {
		l    []Cand
		want []int
	}{
		{[]Cand{cand(1, 0, 5, 5), cand(2, 0, 5, 6), cand(3, 5, 0, 99), cand(4, 0, 5, 9), cand(5, 0, 5, 1), cand(6, 3, 5, 5)}, []int{4, 2, 3, 5, 1, 6}},
		{[]Cand{cand(1, 1, 5, 5), cand(2, 2, 5, 5), cand(3, 3, 5, 5), cand(4, 1, 5, 6), cand(5, 2, 5, 6), cand(6, 3, 5, 6)}, []int{4, 5, 6, 1, 2, 3}},
		{[]Cand{cand(-1, 0, 0, 0), cand(0, 0, 0, 0), cand(1, 0, 0, 0), cand(math.MinInt, 0, 0, 0), cand(math.MaxInt, 0, 0, 0)}, []int{math.MaxInt, 1, 0, -1, math.MinInt}},
		{[]Cand{cand(1, 0, 0, 9), cand(2, 0, 0, 8), cand(3, 0, 0, 7), cand(4, 0, 0, 6), cand(5, 0, 9, 9)}, []int{1, 2, 3, 4, 5}},
		{[]Cand{cand(1, 0, math.MinInt, math.MaxInt), cand(2, 0, math.MinInt, 0), cand(3, 0, 0, math.MaxInt), cand(4, 0, 0, math.MaxInt-1)}, []int{3, 2, 1, 4}},
		// Some are alike in all, and some have one UID alone.
		{[]Cand{cand(3, 0, 5, 6), cand(3, 0, 5, 6), cand(3, 0, 5, 6)}, []int{3, 3, 3}},
		{[]Cand{cand(3, 0, 5, 6), cand(2, 0, 5, 6), cand(3, 0, 5, 6), cand(2, 0, 5, 6), cand(1, 0, 5, 6)}, []int{3, 3, 2, 2, 1}},
		{[]Cand{cand(7, 0, 5, 6), cand(7, 0, 5, 5), cand(2, 0, 5, 5), cand(8, 0, 5, 5), cand(8, 9, 5, 5)}, []int{7, 8, 7, 2, 8}},
	} {
		permuted(c.l, func(l []Cand) { ordered(t, l, c.want...) })
	}
}

// The chapter's example
func TestExample(t *testing.T) {
	for prio := range 11 {
		for other := range 11 {
			ahead(t, cand(1, prio, 5, 6), cand(2, other, 5, 5))
		}
	}
}
