package evlog

import (
	"iter"
	"math"
	"slices"
	"testing"

	"provost/api"
)

// some is a log of four events at most: its floor is 3, and it has the events 5, 6, 9 and 12.
func some(t *testing.T) *both {
	t.Helper()
	b := made(t, 4, 4)
	for _, rev := range []uint64{1, 3, 5, 6, 9, 12} {
		b.add(event(rev))
	}
	return b
}

// 12.2: the codes by their numbers, written out
func TestSinceAndAfterWrittenOut(t *testing.T) {
	b := some(t)
	for _, c := range []struct {
		rev  uint64
		code api.Code
		want []uint64
	}{
		// Below the floor, and at it.
		{0, 120, nil}, {1, 120, nil}, {2, 120, nil}, {3, 0, []uint64{5, 6, 9, 12}},
		// Between the floor and the first event, at events, and between two.
		{4, 0, []uint64{5, 6, 9, 12}}, {5, 0, []uint64{6, 9, 12}}, {6, 0, []uint64{9, 12}}, {7, 0, []uint64{9, 12}}, {8, 0, []uint64{9, 12}},
		{9, 0, []uint64{12}}, {10, 0, []uint64{12}}, {11, 0, []uint64{12}},
		// At the last one, and above it.
		{12, 0, nil}, {13, 0, nil}, {99, 0, nil}, {1 << 63, 0, nil}, {math.MaxUint64, 0, nil},
	} {
		want := events(c.want...)
		for range 2 {
			all, code := b.l.Since(c.rev)
			if got := whole(all); code != c.code || !alike(got, want) {
				t.Errorf("Since(%d) = %v, %d; want %v", c.rev, revsOf(got), int(code), c.want)
			}
			for _, most := range []int{math.MinInt, -2, -1, 0} {
				if got, code := b.l.After(c.rev, most); code != c.code || len(got) != 0 {
					t.Errorf("After(%d, %d) = %v, %d", c.rev, most, revsOf(got), int(code))
				}
			}
			for _, most := range []int{1, 2, 3, 4, 5, 64, 65, math.MaxInt} {
				if got, code := b.l.After(c.rev, most); code != c.code || !alike(got, want[:min(most, len(want))]) {
					t.Errorf("After(%d, %d) = %v, %d", c.rev, most, revsOf(got), int(code))
				}
			}
		}
		b.counts()
	}
}

// 12.2: beside an error there is no event; who goes through what there is meets none
func TestSinceOfWhatIsTooOld(t *testing.T) {
	b := some(t)
	all, code := b.l.Since(2)
	if code != api.ErrOld {
		t.Fatalf("Since(2) = %d", int(code))
	}
	for e := range all {
		t.Errorf("%d is told", e.Rev)
	}
}

// 12.2: only as far as one likes
func TestSinceInPart(t *testing.T) {
	b := some(t)
	want := events(5, 6, 9, 12)
	for many := range 6 {
		all, code := b.l.Since(3)
		if code != api.OK {
			t.Fatalf("Since(3) = %d", int(code))
		}
		var got []api.Event
		asked := 0
		all(func(e api.Event) bool {
			asked++
			got = append(got, e)
			return len(got) < many
		})
		// Whoever refuses the first event was asked once.
		if few := want[:min(max(many, 1), 4)]; !alike(got, few) || asked != len(few) {
			t.Errorf("%d of them: %v, asked %d times", many, revsOf(got), asked)
		}
		b.counts()
	}
	b.holds()
}

// 12.2: an iterator that nobody goes through, or that some go through, in part and as a whole, tells the same each time
func TestSinceTakenTwice(t *testing.T) {
	b := some(t)
	want := events(6, 9, 12)
	if _, code := b.l.Since(5); code != api.OK {
		t.Fatalf("Since(5) = %d", int(code))
	}
	all, _ := b.l.Since(5)
	other, _ := b.l.Since(5)
	for range 3 {
		for e := range all {
			if e.Rev == 9 {
				break
			}
		}
		if got := slices.Collect(all); !alike(got, want) {
			t.Errorf("taken twice: %v", revsOf(got))
		}
	}
	if got := slices.Collect(other); !alike(got, want) {
		t.Errorf("another one: %v", revsOf(got))
	}
	b.holds()
}

// 12.2: an iterator within itself, and two side by side
func TestSinceSideBySide(t *testing.T) {
	b := some(t)
	all, _ := b.l.Since(3)
	var got []uint64
	for outer := range all {
		for inner := range all {
			if inner.Rev > outer.Rev {
				break
			}
			got = append(got, inner.Rev)
		}
	}
	if want := []uint64{5, 5, 6, 5, 6, 9, 5, 6, 9, 12}; !slices.Equal(got, want) {
		t.Errorf("within itself: %v", got)
	}
	late, _ := b.l.Since(6)
	nextOf, stop := iter.Pull(all)
	defer stop()
	nextLate, stopLate := iter.Pull(late)
	defer stopLate()
	for i, want := range []struct{ one, two uint64 }{{5, 9}, {6, 12}, {9, 0}, {12, 0}, {0, 0}} {
		one, ok := nextOf()
		two, okLate := nextLate()
		if one.Rev != want.one || two.Rev != want.two || ok != (want.one > 0) || okLate != (want.two > 0) {
			t.Errorf("%d: %d, %v and %d, %v", i, one.Rev, ok, two.Rev, okLate)
		}
	}
}

// R4: what was told stays as it was told, while events come and go
func TestSinceWhileTheLogChanges(t *testing.T) {
	b := some(t)
	held := map[uint64]iter.Seq[api.Event]{}
	for rev := uint64(3); rev < 14; rev++ {
		held[rev], _ = b.l.Since(rev)
	}
	first, _ := b.l.After(3, 2)
	want := map[uint64][]api.Event{}
	for rev := range held {
		want[rev] = b.m.since(rev)
	}
	same := func(when string) {
		t.Helper()
		for rev, all := range held {
			if got := slices.Collect(all); !alike(got, want[rev]) {
				t.Errorf("%s: what Since(%d) told is %v now", when, rev, revsOf(got))
			}
		}
		if !alike(first, events(5, 6)) {
			t.Errorf("%s: what After(3, 2) told is %v now", when, revsOf(first))
		}
	}
	same("at once")
	b.add(event(13))
	same("one came")
	b.compact(9)
	same("some went")
	for rev := range uint64(20) {
		b.add(event(rev + 14))
	}
	same("many came")
	b.compact(99)
	same("all went")
	b.add(event(100))
	same("one came then")
	b.holds()
}

// 12.2: the log is changed by whoever goes through it
func TestTheLogChangesMeanwhile(t *testing.T) {
	b := some(t)
	all, _ := b.l.Since(3)
	var got []api.Event
	for e := range all {
		got = append(got, e)
		switch e.Rev {
		case 5:
			b.add(event(13))
		case 6:
			b.compact(12)
		case 9:
			b.add(event(14))
			b.compact(99)
		}
	}
	if !alike(got, events(5, 6, 9, 12)) || b.l.Len() != 0 || b.l.Floor() != 14 {
		t.Errorf("%v are told; Len %d, Floor %d", revsOf(got), b.l.Len(), b.l.Floor())
	}
}

// 12.2: to ask changes nothing, whatever is asked
func TestAskingChangesNothing(t *testing.T) {
	b := some(t)
	for range 3 {
		for _, rev := range b.m.around() {
			b.l.Since(rev)
			b.l.After(rev, 2)
			b.counts()
		}
	}
	b.holds()
}
