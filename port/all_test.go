package port

import (
	"iter"
	"maps"
	"math"
	"slices"
	"testing"
)

// 15.2: by the ports, rising, to the end
func TestAllWrittenOut(t *testing.T) {
	x := New()
	x.Take(2, 443, 80)
	x.Take(1, 65535, 22, 1)
	x.Take(math.MaxInt, 81)
	x.Free(3)
	want := []entry{{1, 1}, {22, 1}, {80, 2}, {81, math.MaxInt}, {443, 2}, {65535, 1}}
	var got []entry
	for port, owner := range x.All() {
		got = append(got, entry{port, owner})
	}
	if !slices.Equal(got, want) {
		t.Errorf("All = %v, want %v", got, want)
	}
	x.Free(2)
	if got := entriesOf(x.All()); !slices.Equal(got, []entry{{1, 1}, {22, 1}, {81, math.MaxInt}, {65535, 1}}) {
		t.Errorf("behind Free: All = %v", got)
	}
}

// 15.2: only as far as one likes; whoever likes no more is not asked again
func TestAllInPart(t *testing.T) {
	b := some(t)
	want := b.m.inOrder()
	for many := range len(want) + 2 {
		var got []entry
		b.x.All()(func(port, owner int) bool {
			got = append(got, entry{port, owner})
			return len(got) < many
		})
		// Whoever refuses the first one was asked once.
		if !slices.Equal(got, want[:min(max(many, 1), len(want))]) {
			t.Errorf("%d of them: %v", many, got)
		}
		b.lists()
	}
	for port := range b.x.All() {
		if port == 80 {
			break
		}
		if port > 80 {
			t.Errorf("%d is told", port)
		}
	}
	b.holds()
}

// 15.2: of tables without ports: a new one, one of which all were freed, one that refused all
func TestAllOfNone(t *testing.T) {
	freed, refused := some(t), made(t)
	for _, owner := range []int{1, 2, 3} {
		freed.free(owner)
	}
	refused.take(0, 80)
	refused.take(1, 80, 80)
	refused.take(1)
	for _, b := range []*both{made(t), freed, refused} {
		for range 2 {
			for port, owner := range b.x.All() {
				t.Errorf("%d of %d is told", port, owner)
			}
		}
		b.holds()
	}
}

// 15.2: an iterator that nobody goes through, or that some go through, in part and as a whole, tells the same each time
func TestAllTakenTwice(t *testing.T) {
	b := some(t)
	want := b.m.inOrder()
	b.x.All()
	all, other := b.x.All(), b.x.All()
	for range 3 {
		for port := range all {
			if port >= 80 {
				break
			}
		}
		if got := entriesOf(all); !slices.Equal(got, want) {
			t.Errorf("taken twice: %v", got)
		}
	}
	if got := entriesOf(other); !slices.Equal(got, want) {
		t.Errorf("another one: %v", got)
	}
	b.holds()
}

// 15.2: an iterator within itself, and two side by side
func TestAllSideBySide(t *testing.T) {
	b := made(t)
	b.take(1, 30, 10)
	b.take(2, 20)
	all := b.x.All()
	var got []int
	for outer := range all {
		for inner := range all {
			if inner > outer {
				break
			}
			got = append(got, inner)
		}
	}
	if !slices.Equal(got, []int{10, 10, 20, 10, 20, 30}) {
		t.Errorf("within itself: %v", got)
	}
	next, stop := iter.Pull2(all)
	defer stop()
	late, stopLate := iter.Pull2(all)
	defer stopLate()
	next()
	for i, want := range []struct{ one, two entry }{{entry{20, 2}, entry{10, 1}}, {entry{30, 1}, entry{20, 2}}, {entry{}, entry{30, 1}}, {entry{}, entry{}}} {
		onePort, oneOwner, _ := next()
		twoPort, twoOwner, _ := late()
		if one, two := (entry{onePort, oneOwner}), (entry{twoPort, twoOwner}); one != want.one || two != want.two {
			t.Errorf("%d: %v and %v, want %v", i, one, two, want)
		}
	}
}

// R4: what All told stays as it was told, while ports are taken and freed
func TestAllWhileTheTableChanges(t *testing.T) {
	b := some(t)
	all, want := b.x.All(), b.m.inOrder()
	none := New().All()
	same := func(when string) {
		t.Helper()
		if got := entriesOf(all); !slices.Equal(got, want) {
			t.Errorf("%s: what All told is %v now", when, got)
		}
		if got := entriesOf(none); len(got) != 0 {
			t.Errorf("%s: of a table without ports: %v", when, got)
		}
		b.holds()
	}
	same("at once")
	b.take(4, 3, 60000)
	same("some came")
	b.free(2)
	same("some went")
	b.take(5, 80, 443)
	same("some came again, of another owner")
	for _, owner := range []int{1, 3, 4, 5} {
		b.free(owner)
	}
	same("all went")
	b.take(9, 9, 99, 999, 9999, 7, 77, 777, 7777)
	same("others came")
}

// R4: the table is changed by whoever goes through it
func TestTheTableChangesMeanwhile(t *testing.T) {
	b := some(t)
	want := b.m.inOrder()
	var got []entry
	for port, owner := range b.x.All() {
		got = append(got, entry{port, owner})
		switch len(got) {
		case 1:
			b.take(4, 3, 60000)
		case 2, 4:
			b.free(owner)
		case 6:
			b.free(4)
			b.take(5, port)
		}
		b.holds()
	}
	if !slices.Equal(got, want) {
		t.Errorf("All = %v, want %v", got, want)
	}
}

// 15.2: All, Held, Owner and Len say the same of one table
func TestAllThatIsToldAgrees(t *testing.T) {
	b := some(t)
	byOwner := map[int][]int{}
	n := 0
	for port, owner := range b.x.All() {
		byOwner[owner] = append(byOwner[owner], port)
		n++
		if b.x.Owner(port) != owner {
			t.Errorf("Owner(%d) = %d, want %d", port, b.x.Owner(port), owner)
		}
	}
	if n != b.x.Len() || n != 9 || len(byOwner) != 3 {
		t.Errorf("%d ports of %d owners; Len %d", n, len(byOwner), b.x.Len())
	}
	for _, owner := range slices.Sorted(maps.Keys(byOwner)) {
		if got := b.x.Held(owner); !slices.Equal(got, byOwner[owner]) {
			t.Errorf("Held(%d) = %v, want %v", owner, got, byOwner[owner])
		}
	}
}
