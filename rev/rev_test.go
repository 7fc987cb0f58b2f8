package rev

import (
	"math"
	"math/rand"
	"testing"

	"provost/api"
)

// greatest are the greatest revisions of counters: few, and around the places where an int, and a number of 64 bits, end.
func greatest() []uint64 {
	return []uint64{
		0, 1, 2, 3, 5, 16, 255, 256, 257, 1<<31 - 1, 1 << 31, 1<<32 - 1, 1 << 32,
		math.MaxInt64 - 1, math.MaxInt64, math.MaxInt64 + 1, math.MaxUint64 - 1, math.MaxUint64,
	}
}

// sizes are arguments of Take at the edges, whatever is left.
func sizes() []int {
	return []int{0, -1, -2, -1 << 31, -1 << 32, math.MinInt, math.MinInt + 1, 1, 2, 3, 1 << 31, 1 << 32, math.MaxInt - 1, math.MaxInt}
}

// at tells a counter of that number.
func at(t *testing.T, most, now uint64) *Rev {
	t.Helper()
	r := New(most)
	for reached := uint64(0); reached < now; {
		step := min(now-reached, math.MaxInt)
		reached += step
		if _, code := r.Take(int(step)); code != api.OK || r.Now() != reached {
			t.Fatalf("New(%d): Take(%d) = %d behind %d; Now %d", most, step, int(code), reached-step, r.Now())
		}
	}
	return r
}

// holds asks twice how far a counter is: asking changes nothing.
func holds(t *testing.T, r *Rev, most, now uint64) {
	t.Helper()
	for range 2 {
		if r.Now() != now || r.Left() != most-now {
			t.Fatalf("New(%d): Now %d, Left %d; want %d, %d", most, r.Now(), r.Left(), now, most-now)
		}
	}
}

// takes holds what Take tells against the words, and tells the number behind it.
func takes(t *testing.T, r *Rev, most, now uint64, n int) uint64 {
	t.Helper()
	first, code := r.Take(n)
	want, wantCode := now+1, api.OK
	switch {
	case n < 1:
		want, wantCode = 0, api.ErrRange
	case most-now < uint64(n):
		want, wantCode = 0, api.ErrSpent
	}
	if first != want || code != wantCode {
		t.Fatalf("New(%d) at %d: Take(%d) = %d, %d; want %d, %d", most, now, n, first, int(code), want, int(wantCode))
	}
	if code == api.OK {
		now += uint64(n)
	}
	holds(t, r, most, now)
	return now
}

// nexts holds what Next tells against the words, and tells the number behind it.
func nexts(t *testing.T, r *Rev, most, now uint64) uint64 {
	t.Helper()
	n, code := r.Next()
	want, wantCode := now+1, api.OK
	if now == most {
		want, wantCode = 0, api.ErrSpent
	}
	if n != want || code != wantCode {
		t.Fatalf("New(%d) at %d: Next() = %d, %d; want %d, %d", most, now, n, int(code), want, int(wantCode))
	}
	if code == api.OK {
		now++
	}
	holds(t, r, most, now)
	return now
}

// 10.1
func TestNewToldNone(t *testing.T) {
	for _, most := range greatest() {
		holds(t, New(most), most, 0)
	}
}

// 10.1 and the chapter's example
func TestNextToTheGreatestAndBeyond(t *testing.T) {
	r := New(2)
	for i, c := range []struct {
		n    uint64
		code api.Code
		left uint64
	}{{1, api.OK, 1}, {2, api.OK, 0}, {0, api.ErrSpent, 0}, {0, api.ErrSpent, 0}, {0, api.ErrSpent, 0}} {
		if n, code := r.Next(); n != c.n || code != c.code || r.Left() != c.left || r.Now() != 2-c.left {
			t.Errorf("%d: Next() = %d, %d; Now %d, Left %d", i, n, int(code), r.Now(), r.Left())
		}
	}
	for _, most := range []uint64{0, 1, 2, 3, 5, 16, 255, 256, 257} {
		r, now := New(most), uint64(0)
		for range most + 5 {
			now = nexts(t, r, most, now)
		}
	}
}

// 10.1: the codes by their numbers
func TestCodesOfTake(t *testing.T) {
	r := New(1)
	for i, c := range []struct {
		n     int
		first uint64
		code  api.Code
	}{{0, 0, 1}, {-1, 0, 1}, {2, 0, 100}, {1, 1, 0}, {1, 0, 100}, {0, 0, 1}, {-1, 0, 1}, {math.MinInt, 0, 1}, {math.MaxInt, 0, 100}} {
		if first, code := r.Take(c.n); first != c.first || code != c.code {
			t.Errorf("%d: Take(%d) = %d, %d; want %d, %d", i, c.n, first, int(code), c.first, int(c.code))
		}
	}
}

// 10.1: each size at the beginning, in the middle, and near the end, where as many as are left, one less and one more are among them
func TestTakeAtTheEdges(t *testing.T) {
	for _, most := range greatest() {
		for _, now := range []uint64{0, 1, 2, most / 2, most - min(most, math.MaxInt), most - min(most, 3), most - min(most, 2), most - min(most, 1), most} {
			if now > most {
				continue
			}
			tries := sizes()
			for _, near := range []uint64{most - now - 1, most - now, most - now + 1} {
				tries = append(tries, int(near))
			}
			for _, n := range tries {
				r := at(t, most, now)
				holds(t, r, most, now)
				behind := takes(t, r, most, now, n)
				behind = nexts(t, r, most, behind)
				takes(t, r, most, behind, n)
			}
		}
	}
}

// 10.1, written out: the greatest number that there is, in steps of the greatest int
func TestTakeOfTheGreatestInt(t *testing.T) {
	r := New(math.MaxUint64)
	for i, c := range []struct {
		n          int
		first, now uint64
		code       api.Code
	}{
		{math.MaxInt, 1, math.MaxInt, api.OK},
		{math.MaxInt, 1 << 63, math.MaxUint64 - 1, api.OK},
		{math.MaxInt, 0, math.MaxUint64 - 1, api.ErrSpent},
		{2, 0, math.MaxUint64 - 1, api.ErrSpent},
		{1, math.MaxUint64, math.MaxUint64, api.OK},
		{1, 0, math.MaxUint64, api.ErrSpent},
		{math.MaxInt, 0, math.MaxUint64, api.ErrSpent},
	} {
		first, code := r.Take(c.n)
		if first != c.first || code != c.code || r.Now() != c.now || r.Left() != math.MaxUint64-c.now {
			t.Errorf("%d: Take(%d) = %d, %d; Now %d, Left %d", i, c.n, first, int(code), r.Now(), r.Left())
		}
	}
	if n, code := r.Next(); n != 0 || code != api.ErrSpent {
		t.Errorf("Next() = %d, %d", n, int(code))
	}
}

// 10.1: a refusal leaves all that was left to be told
func TestRefusedTakesTellNothing(t *testing.T) {
	r := New(4)
	for want := uint64(1); want <= 4; want++ {
		for _, n := range []int{0, -1, math.MinInt, int(4-want) + 2, math.MaxInt} {
			takes(t, r, 4, want-1, n)
		}
		if n, code := r.Next(); n != want || code != api.OK {
			t.Fatalf("Next() = %d, %d; want %d", n, int(code), want)
		}
	}
}

// 10.1: counters do not know of each other
func TestCountersAreApart(t *testing.T) {
	a, b := New(3), New(3)
	takes(t, a, 3, 0, 3)
	holds(t, b, 3, 0)
	nexts(t, b, 3, 0)
	holds(t, a, 3, 3)
	takes(t, b, 3, 1, 2)
	holds(t, New(3), 3, 0)
}

// 10.3: all ways to mix short calls on small counters
func TestAllShortMixes(t *testing.T) {
	const calls, kinds = 5, 6
	for most := range uint64(5) {
		for mix := range 7776 { // kinds to the power of calls
			r, now := New(most), uint64(0)
			for rest, done := mix, 0; done < calls; rest, done = rest/kinds, done+1 {
				if n := rest%kinds - 1; n < 0 {
					now = nexts(t, r, most, now)
				} else {
					now = takes(t, r, most, now, n)
				}
			}
		}
	}
}

// 10.3: each revision that is told is written down, and none is there twice
func TestEachIsToldOnceAndTheyRise(t *testing.T) {
	rng := rand.New(rand.NewSource(10))
	for range 300 {
		most := rng.Intn(200)
		r := New(uint64(most))
		told := map[uint64]bool{}
		last, refused := uint64(0), false
		for range 150 {
			n, first, code := 1, uint64(0), api.OK
			if rng.Intn(2) == 0 {
				first, code = r.Next()
				if refused = refused || code != api.OK; refused && code != api.ErrSpent {
					t.Fatalf("New(%d): Next() = %d, %d behind a refusal", most, first, int(code))
				}
			} else {
				n = rng.Intn(12) - 1
				first, code = r.Take(n)
			}
			if code != api.OK {
				if first != 0 || r.Now() != last {
					t.Fatalf("New(%d): %d, %d tells something; Now %d, want %d", most, first, int(code), r.Now(), last)
				}
				continue
			}
			if refused {
				t.Fatalf("New(%d): Take(%d) = %d behind a refusal", most, n, first)
			}
			for step := range uint64(n) {
				if rev := first + step; told[rev] || rev <= last || rev > uint64(most) {
					t.Fatalf("New(%d): %d is told behind %d", most, rev, last)
				}
				last = first + step
				told[last] = true
			}
		}
		if uint64(len(told)) != r.Now() {
			t.Fatalf("New(%d): %d were told, Now %d", most, len(told), r.Now())
		}
	}
}

// 10.1, 10.3: calls at random of counters of all sizes, held against the words
func TestMixedAtRandom(t *testing.T) {
	rng := rand.New(rand.NewSource(29))
	for range 3000 {
		most := rng.Uint64() >> rng.Intn(64)
		r, now := New(most), uint64(0)
		for range 30 {
			switch rng.Intn(6) {
			case 0:
				now = takes(t, r, most, now, int(rng.Uint64()))
			case 1:
				now = takes(t, r, most, now, int(rng.Uint64()>>(1+rng.Intn(63))))
			case 2:
				now = takes(t, r, most, now, int(most-now)+rng.Intn(3)-1)
			case 3:
				now = takes(t, r, most, now, sizes()[rng.Intn(len(sizes()))])
			case 4:
				now = takes(t, r, most, now, int(most-now)/(1+rng.Intn(4)))
			default:
				now = nexts(t, r, most, now)
			}
		}
	}
}

// 10.3: once Next refuses, all are refused
func TestOnceRefusedAllAre(t *testing.T) {
	for _, most := range greatest() {
		r := at(t, most, most)
		for range 3 {
			nexts(t, r, most, most)
			for _, n := range sizes() {
				if takes(t, r, most, most, n) != most {
					t.Fatalf("New(%d): Take(%d) behind a refusal", most, n)
				}
			}
		}
	}
}

// 10.1, 10.3
func FuzzRev(f *testing.F) {
	for _, most := range greatest() {
		f.Add(most, 1, 2, math.MaxInt)
		f.Add(most, int(most), 0, -1)
		f.Add(most, math.MaxInt, math.MaxInt, 1)
	}
	f.Fuzz(func(t *testing.T, most uint64, a, b, c int) {
		r, now := New(most), uint64(0)
		for _, n := range []int{a, b, c, a} {
			now = nexts(t, r, most, takes(t, r, most, now, n))
		}
	})
}
