package qos

import (
	"math"
	"math/rand"
	"slices"
	"testing"

	"provost/api"
)

// pick is one of l.
func pick[T any](rng *rand.Rand, l ...T) T { return l[rng.Intn(len(l))] }

// someNumber is a small one, seldom one below 0 or at an edge.
func someNumber(rng *rand.Rand) int {
	if rng.Intn(9) > 0 {
		return rng.Intn(6)
	}
	return pick(rng, math.MinInt, math.MinInt+1, -7, -1, 1<<32, 1<<40, math.MaxInt-1, math.MaxInt)
}

func someRes(rng *rand.Rand) api.Res {
	return three(someNumber(rng), someNumber(rng), someNumber(rng))
}

// someBoxes are up to so many containers, often ones whose limits are what they ask for.
func someBoxes(rng *rand.Rand, longest int) []api.Container {
	l := make([]api.Container, rng.Intn(longest+1))
	for i := range l {
		l[i].Req = pick(rng, api.Res{}, three(1, 2, 3), three(2, 1, 0), someRes(rng))
		l[i].Lim = pick(rng, l[i].Req, l[i].Req, l[i].Req, l[i].Req, someRes(rng))
	}
	return l
}

func someSpec(rng *rand.Rand) api.Spec {
	return api.Spec{Init: someBoxes(rng, 2), Main: someBoxes(rng, 3), Prio: pick(rng, 0, 0, 1, 2, someNumber(rng))}
}

// someCand is a candidate at random; its use is often near what it asks for.
func someCand(rng *rand.Rand) Cand {
	c := Cand{UID: 1 + rng.Intn(8), Spec: someSpec(rng), Use: someRes(rng)}
	if n := asks(c.Spec); rng.Intn(2) == 0 && n.Int64() < math.MaxInt-9 {
		c.Use.Mem = int(n.Int64()) + rng.Intn(4)
	}
	return c
}

func someCands(rng *rand.Rand, many int) []Cand {
	l := make([]Cand, many)
	for i := range l {
		l[i] = someCand(rng)
	}
	return l
}

// 17.1: pods at random, held against the words; each class comes
func TestClassAtRandom(t *testing.T) {
	rng := rand.New(rand.NewSource(171))
	seen := map[int]int{}
	for range 20000 {
		s := someSpec(rng)
		got := Class(s)
		if want := wantClass(s); got != want {
			t.Fatalf("Class(%v) = %d, want %d", s, got, want)
		}
		seen[got]++
	}
	for class := range 3 {
		if seen[class+1] < 500 {
			t.Errorf("the class %d came %d times", class+1, seen[class+1])
		}
	}
}

// 17.2: candidates at random, held against the words
func TestOrderAtRandom(t *testing.T) {
	rng := rand.New(rand.NewSource(172))
	for range 20000 {
		first(t, someCand(rng), someCand(rng))
	}
	for many := range 40 {
		for range 20 {
			l := someCands(rng, many)
			ordered(t, l, wantOrder(l)...)
		}
	}
	l := someCands(rng, 300)
	ordered(t, l, wantOrder(l)...)
}

// 17.2: the order in which candidates come says nothing
func TestOrderOfMixed(t *testing.T) {
	rng := rand.New(rand.NewSource(1720))
	for range 30 {
		l := someCands(rng, 60)
		want := Order(l)
		for range 20 {
			rng.Shuffle(len(l), func(i, k int) { l[i], l[k] = l[k], l[i] })
			ordered(t, l, want...)
		}
	}
}

// unlike are candidates at random with UIDs that are all unlike.
func unlike(rng *rand.Rand, many int) []Cand {
	l := someCands(rng, many)
	for i, uid := range rng.Perm(many) {
		l[i].UID = uid + 1
	}
	return l
}

// 17.3: of two with unlike UIDs just one goes first, and whoever goes first of some goes ahead of each of them
func TestWhatFollows(t *testing.T) {
	rng := rand.New(rand.NewSource(173))
	for range 200 {
		l := unlike(rng, 2+rng.Intn(30))
		for i, a := range l {
			for k, b := range l {
				if i != k && First(a, b) == First(b, a) {
					t.Fatalf("First of %v and %v is %v, both ways", a, b, First(a, b))
				}
			}
		}
		byUID := map[int]Cand{}
		for _, c := range l {
			byUID[c.UID] = c
		}
		uids := Order(l)
		if victim, ok := Victim(l); !ok || victim != uids[0] || len(uids) != len(l) {
			t.Fatalf("Victim(%v) = %d, %v; Order = %v", l, victim, ok, uids)
		}
		for i, uid := range uids {
			for _, behind := range uids[i+1:] {
				if !First(byUID[uid], byUID[behind]) {
					t.Fatalf("%v stands ahead of %v, and does not go first", byUID[uid], byUID[behind])
				}
			}
		}
	}
}

// 17.3: in all orders of a few at random
func TestWhatFollowsOfAFew(t *testing.T) {
	rng := rand.New(rand.NewSource(1730))
	for range 60 {
		l := unlike(rng, 5)
		want := wantOrder(l)
		permuted(l, func(l []Cand) {
			if got := Order(l); !slices.Equal(got, want) {
				t.Fatalf("Order(%v) = %v, want %v", l, got, want)
			}
			victim, ok := Victim(l)
			if !ok {
				t.Fatalf("Victim(%v) = %d, false", l, victim)
			}
			at := slices.IndexFunc(l, func(c Cand) bool { return c.UID == victim })
			for i, c := range l {
				if First(l[at], c) != (i != at) || First(c, l[at]) {
					t.Fatalf("%v is the victim, beside %v", l[at], c)
				}
			}
		})
	}
}

// 17.1, 17.2: each eight bytes are a candidate, held against the words
func FuzzQos(f *testing.F) {
	f.Add(0, 0, []byte{1, 0, 5, 5, 0, 0, 0, 0, 2, 0, 5, 6, 0, 0, 1, 1, 3, 5, 0, 99, 7, 3, 1, 0})
	f.Add(math.MaxInt, math.MinInt, []byte("some bytes, so that there are many of them: 0123456789"))
	f.Fuzz(func(t *testing.T, x, y int, bytes []byte) {
		var l []Cand
		for bytes = bytes[:min(len(bytes), 160)]; len(bytes) >= 8; bytes = bytes[8:] {
			n := func(i int) int { return int(bytes[i]) }
			at := func(i int) int { return []int{0, 1, n(i), -n(i), x, y, x + n(i), y - n(i)}[n(i)%8] }
			c := Cand{UID: n(0) % 16, Use: three(at(4), at(5), at(6))}
			c.Spec.Prio = at(1)
			c.Spec.Main = []api.Container{{Req: three(at(2), at(3), at(7)), Lim: three(at(2), at(3), at(6))}, {Req: three(at(1), at(5), at(1))}}[:n(2)/64%3%2+n(3)%2]
			if n(4)%4 == 0 {
				c.Spec.Init = []api.Container{{Req: three(at(7), at(7), at(3)), Lim: three(at(7), at(7), at(2))}}
			}
			if got, want := Class(c.Spec), wantClass(c.Spec); got != want {
				t.Fatalf("Class(%v) = %d, want %d", c.Spec, got, want)
			}
			for _, other := range l {
				first(t, c, other)
			}
			l = append(l, c)
		}
		ordered(t, l, wantOrder(l)...)
	})
}
