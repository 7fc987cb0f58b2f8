package res

import (
	"math/rand"
	"slices"
	"testing"

	"provost/api"
)

// threesOf are all resources of these numbers.
func threesOf(numbers ...int) []api.Res {
	var all []api.Res
	for _, cpu := range numbers {
		for _, mem := range numbers {
			for _, pids := range numbers {
				all = append(all, three(cpu, mem, pids))
			}
		}
	}
	return all
}

// orders are all orders of l.
func orders(l []api.Res) [][]api.Res {
	if len(l) == 0 {
		return [][]api.Res{nil}
	}
	var all [][]api.Res
	for i, first := range l {
		for _, others := range orders(slices.Concat(l[:i], l[i+1:])) {
			all = append(all, append([]api.Res{first}, others...))
		}
	}
	return all
}

// anyInt is a number of any size, often one at the edges.
func anyInt(rng *rand.Rand) int {
	if rng.Intn(3) == 0 {
		edges := edgeInts()
		return edges[rng.Intn(len(edges))]
	}
	return int(rng.Uint64()) >> rng.Intn(64)
}

func anyRes(rng *rand.Rand) api.Res { return three(anyInt(rng), anyInt(rng), anyInt(rng)) }

func anyList(rng *rand.Rand, longest int) []api.Res {
	l := make([]api.Res, rng.Intn(longest+1))
	for i := range l {
		l[i] = anyRes(rng)
	}
	return l
}

// takenAway holds that Sub takes away again what was added: always from a, where none of a's numbers is below 0.
func takenAway(t *testing.T, a, b api.Res) {
	t.Helper()
	sum, ok := Add(a, b)
	if !ok {
		return
	}
	want, wantOk := a, Fits(api.Res{}, a)
	if !wantOk {
		want = api.Res{}
	}
	got, ok := Sub(sum, b)
	tells(t, "Sub", []api.Res{sum, b}, got, ok, want, wantOk)
}

// 14.1, 14.2, 14.3: each two resources of numbers at the edges
func TestAllPairsAtTheEdges(t *testing.T) {
	all := threesOf(least, -1, 0, 2, most)
	for _, a := range all {
		for _, b := range all {
			pair(t, a, b)
			takenAway(t, a, b)
		}
	}
	for _, x := range edgeInts() {
		for _, y := range edgeInts() {
			for place := range 3 {
				a, b := with(three(7, 6, 5), place, x), with(three(4, -3, 5), place, y)
				pair(t, a, b)
				takenAway(t, a, b)
			}
		}
	}
}

// 14.1: whoever fits two that ask for some has them left, and the greater one of both fits
func TestWhatFitsIsLeft(t *testing.T) {
	rng := rand.New(rand.NewSource(14))
	for range 20000 {
		a, b := anyRes(rng), anyRes(rng)
		both := Max(a, b)
		if !Fits(a, both) || !Fits(b, both) || Fits(a, b) != (both == b) {
			t.Fatalf("Max(%v, %v) = %v", a, b, both)
		}
		if over := Over(a, b); Fits(a, b) != (over == api.Res{}) {
			t.Fatalf("Over(%v, %v) = %v; Fits %v", a, b, over, Fits(a, b))
		}
		if rest, ok := Sub(a, b); ok {
			sum, fits := Add(rest, b)
			tells(t, "Add", []api.Res{rest, b}, sum, fits, a, true)
			tells(t, "Over", []api.Res{a, b}, Over(a, b), true, rest, true)
		}
	}
}

// 14.3: all orders of some resources from 0 on
func TestSumsAreTheSameInAnyOrder(t *testing.T) {
	for _, l := range [][]api.Res{
		nil,
		{three(1, 2, 3)},
		{three(1, 2, 3), three(4, 5, 6)},
		{three(1, 0, 0), three(0, 1, 0), three(0, 0, 1)},
		{three(1, 20, 300), three(4000, 5, 60), three(700, 8000, 9), three(10, 11, 12), three(0, 0, 0), three(1, 20, 300)},
		{three(most-6, 0, 1<<62), three(1, most, 1<<61), three(2, 0, 1<<60), three(3, 0, 1<<60-1), three(0, 0, 0)},
	} {
		want, wantOk := wantSum(l...)
		if !wantOk {
			t.Fatalf("%v overflows", l)
		}
		for _, mixed := range orders(l) {
			got, ok := Sum(mixed...)
			tells(t, "Sum", mixed, got, ok, want, true)
		}
	}
}

// 14.3: turned round and mixed at random, and taken away one by one in any order
func TestSumsMixedAtRandom(t *testing.T) {
	rng := rand.New(rand.NewSource(3))
	for range 3000 {
		l := make([]api.Res, rng.Intn(20))
		shift := rng.Intn(58)
		for i := range l {
			l[i] = three(rng.Intn(1<<58)>>shift, rng.Intn(1<<58), rng.Intn(1<<(shift+1)))
		}
		want, wantOk := wantSum(l...)
		mixed := slices.Clone(l)
		slices.Reverse(mixed)
		for range 5 {
			got, ok := Sum(mixed...)
			tells(t, "Sum", mixed, got, ok, want, wantOk)
			rng.Shuffle(len(mixed), func(i, j int) { mixed[i], mixed[j] = mixed[j], mixed[i] })
		}
		if !wantOk {
			t.Fatalf("%v overflows", l)
		}
		rest, ok := want, true
		for i, r := range mixed {
			behind, _ := wantSum(mixed[i+1:]...)
			before := rest
			rest, ok = Sub(rest, r)
			tells(t, "Sub", []api.Res{before, r}, rest, ok, behind, true)
		}
	}
}

// 14.3: where an order makes numbers below 0 overflow on the way, another one need not
func TestOrderMattersWhereOneOverflows(t *testing.T) {
	l := []api.Res{three(most, 0, 0), three(1, 0, 0), three(-1, 0, 0)}
	fit := 0
	for _, mixed := range orders(l) {
		want, wantOk := wantSum(mixed...)
		got, ok := Sum(mixed...)
		tells(t, "Sum", mixed, got, ok, want, wantOk)
		if ok {
			fit++
		}
	}
	// All but the two that begin with the greatest and the 1, in either order.
	if fit != 4 {
		t.Errorf("%d orders of %v do not overflow, want 4", fit, l)
	}
}

// 14.1, 14.2, 14.3
func TestAllAtRandom(t *testing.T) {
	rng := rand.New(rand.NewSource(41))
	for range 10000 {
		a, b := anyRes(rng), anyRes(rng)
		pair(t, a, b)
		takenAway(t, a, b)
		if Text(a) != wantText(a) {
			t.Fatalf("Text(%v) = %q", a, Text(a))
		}
		l := anyList(rng, 6)
		got, ok := Sum(l...)
		want, wantOk := wantSum(l...)
		tells(t, "Sum", l, got, ok, want, wantOk)
		s := pod(anyList(rng, 4), anyList(rng, 5))
		want, wantOk = wantOf(s)
		asks(t, s, want, wantOk)
	}
}

// 14.1, 14.2, 14.3
func FuzzRes(f *testing.F) {
	for _, n := range edgeInts() {
		f.Add(n, 0, 1, -n, most, least, n, n, n)
		f.Add(most, n, least, 1, -1, n, 0, 0, 1)
	}
	f.Fuzz(func(t *testing.T, a, b, c, d, e, g, h, i, j int) {
		x, y, z := three(a, b, c), three(d, e, g), three(h, i, j)
		pair(t, x, y)
		takenAway(t, x, y)
		if Text(x) != wantText(x) {
			t.Fatalf("Text(%v) = %q", x, Text(x))
		}
		l := []api.Res{x, y, z}
		got, ok := Sum(l...)
		want, wantOk := wantSum(l...)
		tells(t, "Sum", l, got, ok, want, wantOk)
		for split := range 4 {
			s := pod(l[:split], l[split:])
			want, wantOk = wantOf(s)
			asks(t, s, want, wantOk)
		}
	})
}
