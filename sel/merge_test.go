package sel

import (
	"fmt"
	"math/rand"
	"slices"
	"sort"
	"testing"

	"provost/api"
)

// wantMerge says what the words say: which value each key has, and the keys in order; one value for each.
func wantMerge(a, b labels) (labels, bool) {
	vals := map[string]string{}
	var keys []string
	for _, label := range append(slices.Clone(a), b...) {
		val, there := vals[label.Key]
		if there && val != label.Val {
			return nil, false
		}
		if !there {
			keys = append(keys, label.Key)
		}
		vals[label.Key] = label.Val
	}
	sort.Strings(keys)
	var l labels
	for _, key := range keys {
		l = append(l, api.Label{Key: key, Val: vals[key]})
	}
	return l, true
}

// merges holds Merge against what it is to tell.
func merges(t *testing.T, a, b, want labels, wantOk bool) {
	t.Helper()
	aWas, bWas := whole(a), whole(b)
	for range 2 {
		if got, ok := Merge(a, b); !slices.Equal(got, want) || ok != wantOk {
			t.Fatalf("Merge(%v, %v) = %v, %v; want %v, %v", a, b, got, ok, want, wantOk)
		}
	}
	keep(t, "Merge", a, aWas)
	keep(t, "Merge", b, bWas)
}

// 11.2
func TestMerge(t *testing.T) {
	for _, c := range []struct {
		a, b, want labels
		ok         bool
	}{
		// With none.
		{nil, nil, nil, true}, {labels{}, nil, nil, true}, {lab(), lab(), nil, true},
		{lab("a", "x"), nil, lab("a", "x"), true}, {lab(), lab("a", "", "b", "y"), lab("a", "", "b", "y"), true},
		// Without a key in common.
		{lab("a", "x"), lab("b", "x"), lab("a", "x", "b", "x"), true},
		{lab("b", "x"), lab("a", "x"), lab("a", "x", "b", "x"), true},
		{lab("b", "1", "d", "2"), lab("a", "3", "c", "4"), lab("a", "3", "b", "1", "c", "4", "d", "2"), true},
		{lab("a", "1", "b", "2"), lab("c", "3", "d", "4"), lab("a", "1", "b", "2", "c", "3", "d", "4"), true},
		{lab("a", "1", "d", "2"), lab("b", "3", "c", "4"), lab("a", "1", "b", "3", "c", "4", "d", "2"), true},
		// Values do not tell the order; keys do, byte by byte.
		{lab("b", "a"), lab("a", "b"), lab("a", "b", "b", "a"), true},
		{lab("a/b", "1", "ab", "2"), lab("a", "3", "a-b", "4", "a0", "5", "b", "6"), lab("a", "3", "a-b", "4", "a/b", "1", "a0", "5", "ab", "2", "b", "6"), true},
		// Keys in common at the same value.
		{lab("a", "x"), lab("a", "x"), lab("a", "x"), true}, {lab("a", ""), lab("a", ""), lab("a", ""), true},
		{lab("b", "x"), lab("a", "x", "b", "x"), lab("a", "x", "b", "x"), true},
		{lab("a", "1", "b", "2", "c", "3"), lab("b", "2", "c", "3", "d", "4"), lab("a", "1", "b", "2", "c", "3", "d", "4"), true},
		// Keys in common at unlike values.
		{lab("a", "x"), lab("a", "y"), nil, false}, {lab("a", ""), lab("a", "y"), nil, false}, {lab("a", "x"), lab("a", ""), nil, false},
		{lab("a", "x"), lab("a", "X"), nil, false}, {lab("a", "x"), lab("a", "xx"), nil, false},
		{lab("a", "x", "b", "1"), lab("b", "2"), nil, false}, {lab("b", "1", "c", "x"), lab("a", "y", "b", "2"), nil, false},
		{lab("a", "x", "b", "x", "c", "1"), lab("a", "x", "b", "x", "c", "2"), nil, false},
		{lab("a", "1", "b", "x", "c", "x"), lab("a", "2", "b", "x", "c", "x"), nil, false},
		// As many labels as there may be, of both.
		{lab("a", "1", "c", "3", "e", "5", "g", "7"), lab("b", "2", "d", "4", "f", "6", "h", "8"), lab("a", "1", "b", "2", "c", "3", "d", "4", "e", "5", "f", "6", "g", "7", "h", "8"), true},
		{lab("e", "5", "f", "6", "g", "7", "h", "8"), lab("a", "1", "b", "2", "c", "3", "d", "4"), lab("a", "1", "b", "2", "c", "3", "d", "4", "e", "5", "f", "6", "g", "7", "h", "8"), true},
		{lab("a", "1", "b", "2", "c", "3", "d", "4"), lab("a", "1", "b", "2", "c", "3", "d", "4"), lab("a", "1", "b", "2", "c", "3", "d", "4"), true},
		{lab("a", "1", "b", "2", "c", "3", "d", "4"), lab("d", "4", "e", "5", "f", "6", "g", "7"), lab("a", "1", "b", "2", "c", "3", "d", "4", "e", "5", "f", "6", "g", "7"), true},
		{lab("a", "1", "b", "2", "c", "3", "d", "4"), lab("d", "5", "e", "5", "f", "6", "g", "7"), nil, false},
	} {
		merges(t, c.a, c.b, c.want, c.ok)
		merges(t, c.b, c.a, c.want, c.ok)
	}
}

// P1: what is no selector is merged as well, by the same words
func TestMergeOfWhatIsNoSelector(t *testing.T) {
	for _, c := range []struct {
		a, b, want labels
		ok         bool
	}{
		{lab("b", "1", "a", "2"), nil, lab("a", "2", "b", "1"), true},
		{lab("a", "x", "a", "x"), lab("a", "x"), lab("a", "x"), true},
		{lab("a", "x", "a", "y"), nil, nil, false},
		{lab("", "", "-", "/"), lab("A", "\xff"), lab("", "", "-", "/", "A", "\xff"), true},
	} {
		merges(t, c.a, c.b, c.want, c.ok)
		merges(t, c.b, c.a, c.want, c.ok)
	}
	all := shortLists(3, lab("a", "x", "a", "y", "b", "x", "", "")...)
	for _, a := range all {
		for _, b := range all {
			want, ok := wantMerge(a, b)
			merges(t, a, b, want, ok)
		}
	}
}

// 11.2: what is handed in twice is merged with itself
func TestMergeOfOneWithItself(t *testing.T) {
	for _, l := range selectors([]string{"a", "a-b", "a/b", "b"}, []string{"", "x"}) {
		merges(t, l, l, l, true)
	}
	roomy := lab("a", "1", "b", "2", "c", "3", "d", "4")
	merges(t, roomy[:2], roomy[1:], roomy, true)
}

// 11.2, 11.4: each two selectors out of four keys, held against the words, and against all labels
func TestWhatFitsAMergedSelectorFitsBoth(t *testing.T) {
	all := selectors([]string{"a", "a-b", "a/b", "b"}, []string{"", "x"})
	for _, a := range all {
		for _, b := range all {
			want, wantOk := wantMerge(a, b)
			merges(t, a, b, want, wantOk)
			merged, ok := Merge(a, b)
			for _, l := range all {
				if (ok && Fits(merged, l)) != (Fits(a, l) && Fits(b, l)) {
					t.Fatalf("Merge(%v, %v) = %v, %v: %v fits %v, but one of them and not the other", a, b, merged, ok, l, Fits(merged, l))
				}
			}
			if ok && !(Covers(a, merged) && Covers(b, merged)) {
				t.Fatalf("Merge(%v, %v) = %v, which is not covered", a, b, merged)
			}
		}
	}
}

// someSelector is a selector at random, out of many keys and few values.
func someSelector(rng *rand.Rand, most int) labels {
	var l labels
	for key := range 12 {
		if len(l) < most && rng.Intn(3) == 0 {
			l = append(l, api.Label{Key: fmt.Sprintf("k%02d", key), Val: fmt.Sprint(rng.Intn(3))[:rng.Intn(2)]})
		}
	}
	return lab(textsOf(l)...)
}

// 11.2, 11.4
func TestMergeAtRandom(t *testing.T) {
	rng := rand.New(rand.NewSource(112))
	for range 5000 {
		a, b, l := someSelector(rng, 4), someSelector(rng, 4), someSelector(rng, 12)
		want, wantOk := wantMerge(a, b)
		merges(t, a, b, want, wantOk)
		merged, ok := Merge(a, b)
		l = append(l, a...)
		if rng.Intn(2) == 0 {
			l = append(l, b...)
		}
		if ok && Fits(merged, l) != (Fits(a, l) && Fits(b, l)) {
			t.Fatalf("Merge(%v, %v) = %v: of %v", a, b, merged, l)
		}
	}
}

// R4
func TestMergedSelectorsAreNewMemory(t *testing.T) {
	ab, bc := own(lab("a", "xx", "b", "yy")), own(lab("b", "yy", "c", "zz"))
	none := own(lab())
	one, _ := Merge(ab, bc)
	two, _ := Merge(ab, bc)
	left, _ := Merge(ab, none)
	right, _ := Merge(none, bc)
	itself, _ := Merge(ab, ab)
	apart(t, "Merge", ab, bc, one, two, left, right, itself)
	for _, l := range []labels{one, two, left, right, itself} {
		for i := range l {
			l[i] = api.Label{}
		}
		_ = append(l, api.Label{})
	}
	if !slices.Equal(ab, lab("a", "xx", "b", "yy")) || !slices.Equal(bc, lab("b", "yy", "c", "zz")) {
		t.Error("selectors are changed with what they were merged to")
	}
}

// 11.2
func TestGet(t *testing.T) {
	many := lab("b", "1", "a", "2", "", "none", "a/b", "", "b", "3", "a", "", "A", "4", "c", "", "c", "5")
	for _, c := range []struct {
		l    labels
		key  string
		want string
		ok   bool
	}{
		{nil, "a", "", false}, {nil, "", "", false}, {labels{}, "a", "", false}, {lab(), "a", "", false},
		{lab("a", "x"), "a", "x", true}, {lab("a", "x"), "b", "", false}, {lab("a", "x"), "x", "", false},
		{lab("a", "x"), "", "", false}, {lab("a", "x"), "A", "", false}, {lab("a", "x"), "a/", "", false}, {lab("a/b", "x"), "a", "", false},
		{lab("a", ""), "a", "", true}, {lab("", "x"), "", "x", true}, {lab("", ""), "", "", true},
		{lab("a", "x", "b", "y"), "a", "x", true}, {lab("a", "x", "b", "y"), "b", "y", true}, {lab("a", "x", "b", "y"), "c", "", false},
		{lab("a", "x", "a", "y"), "a", "x", true}, {lab("a", "y", "a", "x"), "a", "y", true}, {lab("a", "", "a", "x"), "a", "", true},
		{lab("b", "x", "a", "y", "a", "z"), "a", "y", true},
		{many, "a", "2", true}, {many, "b", "1", true}, {many, "", "none", true}, {many, "a/b", "", true}, {many, "A", "4", true},
		{many, "c", "", true}, {many, "d", "", false}, {many, "a\x00", "", false},
		{lab("\xff", "/"), "\xff", "/", true},
	} {
		was := whole(c.l)
		for range 2 {
			if got, ok := Get(c.l, c.key); got != c.want || ok != c.ok {
				t.Errorf("Get(%v, %q) = %q, %v; want %q, %v", c.l, c.key, got, ok, c.want, c.ok)
			}
		}
		keep(t, "Get", c.l, was)
	}
}

// 11.2: of each list the first label with that key, held against the words
func TestGetOfAllShortLists(t *testing.T) {
	for _, l := range shortLists(4, lab("a", "", "a", "x", "b", "y", "", "z")...) {
		for _, key := range []string{"", "a", "b", "c"} {
			i := slices.IndexFunc(l, func(label api.Label) bool { return label.Key == key })
			want := ""
			if i >= 0 {
				want = l[i].Val
			}
			if got, ok := Get(l, key); got != want || ok != (i >= 0) {
				t.Fatalf("Get(%v, %q) = %q, %v", l, key, got, ok)
			}
		}
	}
}

// R4
func TestGottenValuesAreNewMemory(t *testing.T) {
	l := own(lab("a", "xx", "b", "yy"))
	one, _ := Get(l, "b")
	two, _ := Get(l, "b")
	apart(t, "Get", l, one, two)
}
