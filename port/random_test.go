package port

import (
	"math"
	"math/rand"
	"slices"
	"testing"
)

// somePort is a number of 1 to some, seldom one at the edges, or one that is no port.
func somePort(rng *rand.Rand, some int) int {
	if rng.Intn(40) > 0 {
		return 1 + rng.Intn(some)
	}
	edges := []int{math.MinInt, -1, 0, 1, mostPort, mostPort, mostPort, mostPort + 1, 1<<32 + 1, math.MaxInt}
	return edges[rng.Intn(len(edges))]
}

// someOwner is one of a few, seldom one that is none, or a great one.
func someOwner(rng *rand.Rand) int {
	if rng.Intn(20) > 0 {
		return 1 + rng.Intn(6)
	}
	edges := []int{math.MinInt, -1, 0, 1 << 32, math.MaxInt, math.MaxInt}
	return edges[rng.Intn(len(edges))]
}

// someChange is a call at random: some ports are taken, or freed.
func someChange(b *both, rng *rand.Rand, some int) {
	b.t.Helper()
	if rng.Intn(8) == 0 {
		b.free(someOwner(rng))
		return
	}
	ports := make([]int, rng.Intn(5))
	for i := range ports {
		ports[i] = somePort(rng, some)
	}
	b.take(someOwner(rng), ports...)
}

// 15.1, 15.2: calls at random, held against the words
func TestCallsAtRandom(t *testing.T) {
	rng := rand.New(rand.NewSource(1502))
	for _, some := range []int{1, 3, 12, 60, 400, mostPort} {
		for range 15 {
			b := made(t)
			for range 150 {
				someChange(b, rng, some)
				b.lists()
				p, o := somePort(rng, some), someOwner(rng)
				if got, want := b.x.Owner(p), b.m.owner(p); got != want {
					t.Fatalf("Owner(%d) = %d, want %d; there are %v", p, got, want, b.m)
				}
				if got, want := b.x.Held(o), b.m.held(o); !slices.Equal(got, want) {
					t.Fatalf("Held(%d) = %v, want %v; there are %v", o, got, want, b.m)
				}
			}
			b.holds()
		}
	}
}

// 15.3: what one took is that one's, and nobody else's, until that one frees it, whatever others do
func TestOneOwner(t *testing.T) {
	const one = 100
	rng := rand.New(rand.NewSource(153))
	for range 60 {
		b := made(t)
		for range 20 {
			someChange(b, rng, 30)
		}
		b.take(one, 31, 1000, mostPort-1)
		for p := range 30 {
			if rng.Intn(4) == 0 {
				b.take(one, p+1)
			}
		}
		want := b.m.held(one)
		if len(want) < 3 {
			t.Fatalf("%v is taken", want)
		}
		for range 100 {
			someChange(b, rng, 32)
			others := someOwner(rng)
			b.take(others, want[rng.Intn(len(want))])
			b.take(others, 1+rng.Intn(40), want[rng.Intn(len(want))])
			isOnes(b, one, want)
		}
		b.free(one)
		for _, p := range want {
			if o := b.x.Owner(p); o != 0 {
				t.Fatalf("freed: Owner(%d) = %d", p, o)
			}
			b.take(7, p)
		}
		b.holds()
	}
}

// isOnes holds that these ports, and no others, are one's, by all that the table tells.
func isOnes(b *both, one int, want []int) {
	b.t.Helper()
	if got := b.x.Held(one); !slices.Equal(got, want) {
		b.t.Fatalf("Held(%d) = %v, want %v", one, got, want)
	}
	seen := map[int]int{}
	for p, o := range b.x.All() {
		seen[p]++
		if (o == one) != slices.Contains(want, p) || seen[p] > 1 {
			b.t.Fatalf("All tells that %d is %d's, for the %d. time", p, o, seen[p])
		}
	}
	for o := range 8 {
		for _, p := range b.x.Held(o) {
			if slices.Contains(want, p) {
				b.t.Fatalf("%d is %d's, too", p, o)
			}
		}
	}
	for _, p := range want {
		if o := b.x.Owner(p); o != one {
			b.t.Fatalf("Owner(%d) = %d, want %d", p, o, one)
		}
	}
}

// 15.1 to 15.3: all short orders of calls of small tables
func TestAllShortOrders(t *testing.T) {
	changes := []func(b *both){
		func(b *both) { b.take(1, 2) },
		func(b *both) { b.take(2, 2, 1) },
		func(b *both) { b.take(2, 3) },
		func(b *both) { b.take(1, 3, 1) },
		func(b *both) { b.take(1, 4, 4) },
		func(b *both) { b.take(2, 4, 0) },
		func(b *both) { b.free(1) },
		func(b *both) { b.free(2) },
	}
	for order := range 4096 { // as many as there are changes, to the power of 4
		b := made(t)
		for rest, done := order, 0; done < 4; rest, done = rest/len(changes), done+1 {
			changes[rest%len(changes)](b)
			b.lists()
		}
		for p := range 6 {
			if got, want := b.x.Owner(p), b.m.owner(p); got != want {
				t.Fatalf("Owner(%d) = %d, want %d; there are %v", p, got, want, b.m)
			}
		}
		for o := range 4 {
			if got, want := b.x.Held(o), b.m.held(o); !slices.Equal(got, want) {
				t.Fatalf("Held(%d) = %v, want %v; there are %v", o, got, want, b.m)
			}
		}
	}
}

// R7: the same calls tell the same
func TestTheSameCallsTellTheSame(t *testing.T) {
	told := func() []entry {
		rng := rand.New(rand.NewSource(157))
		b := made(t)
		var l []entry
		for range 200 {
			someChange(b, rng, 50)
			l = append(l, entriesOf(b.x.All())...)
		}
		return l
	}
	if !slices.Equal(told(), told()) {
		t.Error("the same calls tell another thing")
	}
}

// 15.1 to 15.3: each three bytes are a call, held against the words
func FuzzTable(f *testing.F) {
	f.Add([]byte{1, 80, 80, 2, 187, 80, 65, 0, 0})
	f.Add([]byte{1, 1, 255, 2, 0, 3, 66, 1, 1, 3, 7, 7, 0, 5, 6, 67, 0, 0})
	f.Add([]byte("some bytes, so that there are many of them, and again some bytes"))
	f.Fuzz(func(t *testing.T, calls []byte) {
		b := made(t)
		for calls = calls[:min(len(calls), 300)]; len(calls) >= 3; calls = calls[3:] {
			owner, from, to := int(calls[0]%8), int(calls[1]), int(calls[2])
			switch calls[0] / 32 {
			case 0, 1:
				b.take(owner, from, to)
			case 2, 3:
				b.free(owner)
			case 4:
				b.take(owner, mostPort-from, mostPort+1-to)
			case 5:
				b.take(owner, from*257, to*256)
			case 6:
				b.take(owner, from, to, from+to, from-to)
			default:
				b.take(owner, from)
				b.lists()
			}
		}
		b.holds()
	})
}
