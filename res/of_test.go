package res

import (
	"math"
	"reflect"
	"slices"
	"testing"

	"provost/api"
)

// asking are containers that ask for these, and have much of what a pod does not ask for; one that asks for all there is stands in their spare room.
func asking(reqs ...api.Res) []api.Container {
	l := make([]api.Container, 0, len(reqs)+1)
	for _, r := range reqs {
		l = append(l, api.Container{Name: "a", Image: "web:1", Req: r, Lim: three(most, most, most), Ports: []int{80}, Probe: api.Probe{Every: 1000, Fails: 10}})
	}
	l[:cap(l)][len(l)] = api.Container{Req: three(most, most, most)}
	return l
}

// pod is one whose containers ask for these.
func pod(inits, mains []api.Res) api.Spec {
	return api.Spec{Name: "a", Init: asking(inits...), Main: asking(mains...), Restart: api.RAlways, Grace: 1000, Prio: 10}
}

// wantOf says what the words say: number by number the greatest of the sum of the main containers and of each init one.
func wantOf(s api.Spec) (api.Res, bool) {
	var mains []api.Res
	for _, c := range s.Main {
		mains = append(mains, c.Req)
	}
	want, ok := wantSum(mains...)
	if !ok {
		return api.Res{}, false
	}
	for place := range 3 {
		numbers := []int{number(want, place)}
		for _, c := range s.Init {
			numbers = append(numbers, number(c.Req, place))
		}
		want = with(want, place, slices.Max(numbers))
	}
	return want, true
}

// asks holds what Of tells, and that the spec stays as it was, spare room too.
func asks(t *testing.T, s api.Spec, want api.Res, ok bool) {
	t.Helper()
	was := s
	was.Init, was.Main = slices.Clone(s.Init[:cap(s.Init)]), slices.Clone(s.Main[:cap(s.Main)])
	for range 2 {
		got, gotOk := Of(s)
		tells(t, "Of", []any{s.Init, s.Main}, got, gotOk, want, ok)
	}
	s.Init, s.Main = s.Init[:cap(s.Init)], s.Main[:cap(s.Main)]
	if !reflect.DeepEqual(s, was) {
		t.Fatalf("Of: %v was handed in, and is %v now", was, s)
	}
}

// 14.2
func TestOf(t *testing.T) {
	type list = []api.Res
	for _, c := range []struct {
		inits, mains list
		want         api.Res
		ok           bool
	}{
		{nil, nil, api.Res{}, true},
		// Main containers alone: their sum, whatever it is.
		{nil, list{three(1, 2, 3)}, three(1, 2, 3), true},
		{nil, list{three(1, 2, 3), three(4, 5, 6)}, three(5, 7, 9), true},
		{nil, list{three(1, 0, 0), three(0, 1, 0), three(0, 0, 1), three(1, 1, 1)}, three(2, 2, 2), true},
		{nil, list{three(-1, -2, -3)}, three(-1, -2, -3), true},
		{nil, list{three(-1, 2, -3), three(-4, -5, 6)}, three(-5, -3, 3), true},
		{nil, list{three(least, most, least)}, three(least, most, least), true},
		// Init containers alone: the greatest of each number, and at least the sum of none.
		{list{three(1, 2, 3)}, nil, three(1, 2, 3), true},
		{list{three(1, 2, 3), three(3, 2, 1)}, nil, three(3, 2, 3), true},
		{list{three(1, 1, 9), three(1, 9, 1), three(9, 1, 1)}, nil, three(9, 9, 9), true},
		{list{three(-1, -2, -3)}, nil, api.Res{}, true},
		{list{three(-1, 2, -3), three(-4, -5, -6)}, nil, three(0, 2, 0), true},
		{list{three(most, most, most), three(most, most, most)}, nil, three(most, most, most), true},
		{list{three(least, least, least)}, nil, api.Res{}, true},
		// Both: number by number the greater one of the two.
		{list{three(9, 1, 0), three(0, 0, 7)}, list{three(3, 3, 0), three(4, 4, 0)}, three(9, 7, 7), true},
		{list{three(8, 6, 9)}, list{three(3, 3, 3), three(4, 4, 4)}, three(8, 7, 9), true},
		{list{three(6, 8, 6)}, list{three(3, 3, 3), three(4, 4, 4)}, three(7, 8, 7), true},
		{list{three(6, 6, 8)}, list{three(3, 3, 3), three(4, 4, 4)}, three(7, 7, 8), true},
		{list{three(7, 7, 7)}, list{three(3, 3, 3), three(4, 4, 4)}, three(7, 7, 7), true},
		{list{three(1, 1, 1), three(2, 2, 2), three(3, 3, 3)}, list{three(4, 4, 4)}, three(4, 4, 4), true},
		{list{three(1, 1, 1), three(2, 2, 2), three(3, 3, 3)}, list{three(-4, 4, 2)}, three(3, 4, 3), true},
		// The last of several init containers asks for least.
		{list{three(5, 5, 5), three(1, 1, 1)}, list{three(2, 2, 2)}, three(5, 5, 5), true},
		// Below 0, the greater one still.
		{list{three(-5, -5, -5)}, list{three(-7, -3, -5)}, three(-5, -3, -5), true},
		{list{three(-5, -6, -7), three(-6, -5, -8)}, list{three(-4, -4, -4), three(-4, -4, -4)}, three(-5, -5, -7), true},
		{list{three(0, 0, 0)}, list{three(-1, -2, -3)}, three(0, 0, 0), true},
		{list{three(-1, -2, -3)}, list{three(0, 0, 0)}, three(0, 0, 0), true},
		{list{three(least, least, least)}, list{three(least, least+1, -1)}, three(least, least+1, -1), true},
		// A sum that overflows, though the init containers ask for as much as may be.
		{nil, list{three(most, 0, 0), three(1, 0, 0)}, api.Res{}, false},
		{nil, list{three(0, most, 0), three(5, 1, 5)}, api.Res{}, false},
		{nil, list{three(0, 0, least), three(0, 0, -1)}, api.Res{}, false},
		{list{three(1, 2, 3)}, list{three(0, 0, most), three(0, 0, 1)}, api.Res{}, false},
		{list{three(most, most, most)}, list{three(most, 0, 0), three(1, 0, 0)}, api.Res{}, false},
		{list{three(0, 0, 0)}, list{three(0, least, 0), three(0, -1, 0)}, api.Res{}, false},
		// The whole would fit, but for the order.
		{nil, list{three(most, 0, 0), three(1, 0, 0), three(-1, 0, 0)}, api.Res{}, false},
		{nil, list{three(most, 0, 0), three(-1, 0, 0), three(1, 0, 0)}, three(most, 0, 0), true},
		{list{three(1, 1, 1)}, list{three(0, 0, least), three(0, 0, -1), three(0, 0, 1)}, api.Res{}, false},
		// What the init containers ask for is not added up.
		{list{three(most, 0, 0), three(most, 0, 0), three(1, 0, 0)}, list{three(1, 0, 0)}, three(most, 0, 0), true},
		// More containers than a pod may have.
		{slices.Repeat(list{three(5, 0, 0)}, 50), slices.Repeat(list{three(1, 2, 3)}, 100), three(100, 200, 300), true},
	} {
		asks(t, pod(c.inits, c.mains), c.want, c.ok)
	}
}

// 14.2: nil and empty lists are the same
func TestOfWithoutContainers(t *testing.T) {
	for _, s := range []api.Spec{{}, {Init: []api.Container{}, Main: []api.Container{}}, pod(nil, nil), {Name: "a", Prio: most, Grace: most}} {
		asks(t, s, api.Res{}, true)
	}
}

// 14.2
func TestOver(t *testing.T) {
	for _, c := range []struct{ use, ask, want api.Res }{
		{three(1, 2, 3), three(1, 2, 3), three(0, 0, 0)},
		{three(0, 1, 2), three(1, 2, 3), three(0, 0, 0)},
		{three(0, 0, 0), three(0, 0, 0), three(0, 0, 0)},
		{three(3, 2, 3), three(1, 2, 3), three(2, 0, 0)},
		{three(1, 5, 3), three(1, 2, 3), three(0, 3, 0)},
		{three(1, 2, 7), three(1, 2, 3), three(0, 0, 4)},
		{three(3, 5, 7), three(1, 2, 3), three(2, 3, 4)},
		{three(0, 5, 0), three(1, 2, 3), three(0, 3, 0)},
		{three(-1, -2, -3), three(-1, -2, -3), three(0, 0, 0)},
		{three(-1, -2, -3), three(0, 0, 0), three(0, 0, 0)},
		{three(0, 0, 0), three(-1, -2, -3), three(1, 2, 3)},
		{three(-1, -2, -3), three(-2, -1, -33), three(1, 0, 30)},
		{three(5, 0, -5), three(-5, -5, -6), three(10, 5, 1)},
	} {
		tells(t, "Over", []api.Res{c.use, c.ask}, Over(c.use, c.ask), true, c.want, true)
	}
}

// 14.2: in each place alone
func TestOverAtTheEdges(t *testing.T) {
	for _, c := range []struct{ use, ask, want int }{
		{most, 0, most},
		{most, 1, most - 1},
		{most, most, 0},
		{most, most - 1, 1},
		{most - 1, most, 0},
		{most, -1, most},
		{most - 1, -1, most},
		{most - 2, -1, most - 1},
		{most, -2, most},
		{most, least, most},
		{0, least, most},
		{0, least + 1, most},
		{0, least + 2, most - 1},
		{-1, least, most},
		{-2, least, most - 1},
		{least, least, 0},
		{least + 1, least, 1},
		{1 << 62, -1 << 62, most},
		// Such a difference wraps round to one above 0.
		{least, 1, 0},
		{least, most, 0},
		{-2, most, 0},
	} {
		for place := range 3 {
			use, ask := with(three(4, 5, -6), place, c.use), with(three(4, 2, -7), place, c.ask)
			want := with(three(0, 3, 1), place, c.want)
			tells(t, "Over", []api.Res{use, ask}, Over(use, ask), true, want, true)
		}
	}
}

// 14.2
func TestText(t *testing.T) {
	for _, c := range []struct {
		r    api.Res
		want string
	}{
		{api.Res{}, "0/0/0"},
		{three(1, 2, 3), "1/2/3"},
		{three(10, 200, 3000), "10/200/3000"},
		{three(-1, -20, -300), "-1/-20/-300"},
		{three(0, -1, 1), "0/-1/1"},
		{three(500, 1<<40, 100), "500/1099511627776/100"},
		{three(math.MaxInt, 0, 0), "9223372036854775807/0/0"},
		{three(0, math.MaxInt-1, 0), "0/9223372036854775806/0"},
		{three(0, math.MinInt, 0), "0/-9223372036854775808/0"},
		{three(0, 0, math.MinInt+1), "0/0/-9223372036854775807"},
		{three(math.MinInt, math.MaxInt, math.MinInt), "-9223372036854775808/9223372036854775807/-9223372036854775808"},
	} {
		if got := Text(c.r); got != c.want {
			t.Errorf("Text(%v) = %q, want %q", c.r, got, c.want)
		}
	}
	for _, n := range edgeInts() {
		for place := range 3 {
			r := with(three(1, 2, 3), place, n)
			if got := Text(r); got != wantText(r) {
				t.Errorf("Text(%v) = %q, want %q", r, got, wantText(r))
			}
		}
	}
}
