package evlog

import (
	"math"
	"math/rand"
	"slices"
	"testing"

	"provost/api"
)

// 12.4: who is told all that is above some revision has all of it, whatever went
func TestSinceTellsAllAboveTheFloor(t *testing.T) {
	rng := rand.New(rand.NewSource(124))
	for range 200 {
		b := someLog(t, rng)
		for _, rev := range b.m.around() {
			if rev < b.m.floor {
				continue
			}
			all, code := b.l.Since(rev)
			// What the reader had already, and what it is told, are all that ever came.
			had := []api.Event{}
			for _, e := range b.m.all {
				if e.Rev <= rev {
					had = append(had, e)
				}
			}
			if got := append(had, slices.Collect(all)...); code != api.OK || !alike(got, b.m.all) {
				t.Fatalf("floor %d: all up to %d, and Since(%d), are %v, %d; want %v", b.m.floor, rev, rev, revsOf(got), int(code), revsOf(b.m.all))
			}
		}
	}
}

// someLog is a log at random, in which events came and went.
func someLog(t *testing.T, rng *rand.Rand) *both {
	t.Helper()
	most := 1 + rng.Intn(8)
	b := made(t, most, most)
	for range rng.Intn(30) {
		someChange(b, rng)
	}
	return b
}

// someChange is an event that comes, may be or not, or some that go.
func someChange(b *both, rng *rand.Rand) {
	b.t.Helper()
	switch near := b.m.last() + uint64(rng.Intn(5)); rng.Intn(8) {
	case 0:
		b.compact(max(b.m.floor, 1) - 1 + uint64(rng.Intn(6)))
	case 1:
		b.compact(near - min(near, 3))
	case 2:
		b.add(event(near - min(near, 3)))
	default:
		b.add(event(near + uint64(rng.Intn(2))))
	}
}

// reader goes on from the last revision that it saw.
type reader struct {
	at    uint64
	seen  []uint64
	reads func(l *Log, rev uint64) ([]api.Event, api.Code)
}

// readers go on by all that Since tells, by its first event, and by After with several bounds.
func readers() []*reader {
	since := func(most int) func(l *Log, rev uint64) ([]api.Event, api.Code) {
		return func(l *Log, rev uint64) ([]api.Event, api.Code) {
			all, code := l.Since(rev)
			var got []api.Event
			if code == api.OK {
				for e := range all {
					if got = append(got, e); len(got) == most {
						break
					}
				}
			}
			return got, code
		}
	}
	after := func(most int) func(l *Log, rev uint64) ([]api.Event, api.Code) {
		return func(l *Log, rev uint64) ([]api.Event, api.Code) { return l.After(rev, most) }
	}
	return []*reader{{reads: since(1)}, {reads: since(2)}, {reads: since(99)}, {reads: after(1)}, {reads: after(3)}, {reads: after(64)}}
}

// goesOn reads once, and holds that each event is seen once and in order, or that some went that were not seen; the reader begins at the floor again then.
func (r *reader) goesOn(t *testing.T, b *both) {
	t.Helper()
	got, code := r.reads(b.l, r.at)
	if r.at < b.m.floor {
		if code != api.ErrOld || len(got) != 0 {
			t.Fatalf("floor %d: behind %d: %v, %d", b.m.floor, r.at, revsOf(got), int(code))
		}
		r.at = b.l.Floor()
		r.seen = nil
		for _, e := range b.m.all {
			if e.Rev <= r.at {
				r.seen = append(r.seen, e.Rev)
			}
		}
		return
	}
	if code != api.OK {
		t.Fatalf("floor %d: behind %d: %d", b.m.floor, r.at, int(code))
	}
	if len(got) == 0 && r.at < b.m.last() {
		t.Fatalf("floor %d: behind %d nothing comes, up to %d", b.m.floor, r.at, b.m.last())
	}
	for _, e := range got {
		r.seen = append(r.seen, e.Rev)
		r.at = e.Rev
	}
	ever := revsOf(b.m.all)
	if len(r.seen) > len(ever) || !slices.Equal(r.seen, ever[:len(r.seen)]) {
		t.Fatalf("floor %d: seen %v, of %v", b.m.floor, r.seen, ever)
	}
}

// 12.4: readers that go on again and again, while events come and go
func TestReadersSeeEachEventOnceInOrder(t *testing.T) {
	rng := rand.New(rand.NewSource(12))
	exact := 0
	for range 150 {
		most := 1 + rng.Intn(12)
		b := made(t, most, most)
		l := readers()
		for range 60 {
			someChange(b, rng)
			for _, r := range l {
				if rng.Intn(3) > 0 {
					r.goesOn(t, b)
				}
			}
		}
		for _, r := range l {
			// However far behind it is, it comes to the last one.
			for range mostEvents + 2 {
				r.goesOn(t, b)
			}
			if r.at != b.m.last() || !slices.Equal(r.seen, revsOf(b.m.all)) {
				t.Fatalf("the reader is at %d, the log at %d", r.at, b.m.last())
			}
			exact++
		}
	}
	if exact != 150*6 {
		t.Errorf("%d readers came to the end", exact)
	}
}

// 12.1 to 12.3: changes at random, held against the words
func TestChangesAtRandom(t *testing.T) {
	rng := rand.New(rand.NewSource(1203))
	for range 150 {
		most := rng.Intn(70) - 2
		b := made(t, most, min(max(most, 1), mostEvents))
		for range rng.Intn(120) {
			someChange(b, rng)
			b.tells(b.m.floor)
			b.tells(b.m.last() - min(b.m.last(), uint64(rng.Intn(9))))
		}
		b.holds()
	}
}

// 12.1 to 12.3: near the greatest revision that there is
func TestChangesNearTheGreatest(t *testing.T) {
	for _, most := range []int{1, 2, 3} {
		for behind := range uint64(6) {
			for to := range uint64(6) {
				b := made(t, most, most)
				for left := behind + 1; left > 0; left-- {
					b.add(event(math.MaxUint64 - left + 1))
				}
				b.holds()
				b.compact(math.MaxUint64 - to)
				b.holds()
				b.add(event(math.MaxUint64))
				b.add(event(0))
				b.add(event(1))
				b.compact(math.MaxUint64)
				b.holds()
			}
		}
	}
}

// 12.1 to 12.4: all short orders of changes of small logs
func TestAllShortOrders(t *testing.T) {
	const changes, kinds = 5, 8
	for most := 1; most <= 3; most++ {
		for order := range 32768 { // kinds to the power of changes
			b := made(t, most, most)
			for rest, done := order, 0; done < changes; rest, done = rest/kinds, done+1 {
				switch last := b.m.last(); rest % kinds {
				case 0:
					b.add(api.Event{Rev: last})
				case 1:
					b.add(api.Event{Rev: last + 1})
				case 2:
					b.add(api.Event{Rev: last + 3})
				case 3:
					b.compact(b.m.floor)
				case 4:
					b.compact(b.m.floor + 1)
				case 5:
					b.compact(b.m.floor + 2)
				case 6:
					b.compact(last)
				default:
					b.compact(last + 1)
				}
			}
			b.tells(b.m.floor)
			b.tells(b.m.floor + 2)
			if b.m.floor > 0 {
				b.tells(b.m.floor - 1)
			}
		}
	}
}

// 12.1 to 12.3: each byte is a change, held against the words
func FuzzLog(f *testing.F) {
	f.Add(2, []byte{1, 3, 4})
	f.Add(3, []byte{1, 2, 3, 4, 200, 5, 250, 255, 1})
	f.Add(-1, []byte{0, 9, 130, 131, 160, 1, 1, 1})
	f.Add(64, []byte("some bytes, so that there are many of them, and again some bytes, so that there are more than a log may have"))
	f.Fuzz(func(t *testing.T, most int, changes []byte) {
		b := made(t, most, min(max(most, 1), mostEvents))
		for _, x := range changes[:min(len(changes), 300)] {
			size := uint64(x % 32)
			switch x / 32 {
			case 0, 1, 2:
				b.add(event(b.m.last() + size))
			case 3:
				b.add(event(size))
			case 4:
				b.compact(b.m.floor + size)
			case 5:
				b.compact(b.m.last() - min(b.m.last(), size))
			case 6:
				b.compact(b.m.last() + size)
			default:
				b.tells(b.m.floor - min(b.m.floor, 16) + size)
			}
		}
		b.holds()
	})
}
