package res

import (
	"math"
	"math/big"
	"reflect"
	"slices"
	"strconv"
	"testing"

	"provost/api"
)

const most, least = math.MaxInt, math.MinInt

// three are resources of these numbers.
func three(cpu, mem, pids int) api.Res { return api.Res{CPU: cpu, Mem: mem, Pids: pids} }

// number is the one of r in that place.
func number(r api.Res, place int) int {
	return []int{r.CPU, r.Mem, r.Pids}[place]
}

// with are resources that have n in that place, and r's numbers in the others.
func with(r api.Res, place, n int) api.Res {
	*[]*int{&r.CPU, &r.Mem, &r.Pids}[place] = n
	return r
}

// edgeInts are numbers around the places where sums and differences stop to fit.
func edgeInts() []int {
	out := []int{0, 3, -3, 10, -10, most, most - 1, most - 2, least, least + 1, least + 2}
	for _, shift := range []int{0, 1, 31, 32, 40, 61, 62} {
		for _, near := range []int{-1, 0, 1} {
			out = append(out, 1<<shift+near, -1<<shift+near)
		}
	}
	slices.Sort(out)
	return slices.Compact(out)
}

// exact reckons number by number without a greatest int, and tells false where an int can not be what comes out.
func exact(a, b api.Res, reckon func(z, x, y *big.Int) *big.Int) (api.Res, bool) {
	var out api.Res
	for place := range 3 {
		n := reckon(new(big.Int), big.NewInt(int64(number(a, place))), big.NewInt(int64(number(b, place))))
		if !n.IsInt64() {
			return api.Res{}, false
		}
		out = with(out, place, int(n.Int64()))
	}
	return out, true
}

func wantAdd(a, b api.Res) (api.Res, bool) { return exact(a, b, (*big.Int).Add) }

func wantSum(l ...api.Res) (api.Res, bool) {
	sum, ok := api.Res{}, true
	for _, r := range l {
		if sum, ok = wantAdd(sum, r); !ok {
			return api.Res{}, false
		}
	}
	return sum, true
}

func wantFits(a, b api.Res) bool { return a.CPU <= b.CPU && a.Mem <= b.Mem && a.Pids <= b.Pids }

func wantSub(a, b api.Res) (api.Res, bool) {
	if b.CPU > a.CPU || b.Mem > a.Mem || b.Pids > a.Pids {
		return api.Res{}, false
	}
	return exact(a, b, (*big.Int).Sub)
}

func wantMax(a, b api.Res) api.Res {
	return three(max(a.CPU, b.CPU), max(a.Mem, b.Mem), max(a.Pids, b.Pids))
}

func wantOver(use, ask api.Res) api.Res {
	out, _ := exact(use, ask, func(z, x, y *big.Int) *big.Int {
		if z.Sub(x, y); z.Sign() < 0 {
			return z.SetInt64(0)
		}
		if !z.IsInt64() {
			return z.SetInt64(most)
		}
		return z
	})
	return out
}

func wantText(r api.Res) string {
	return strconv.Itoa(r.CPU) + "/" + strconv.Itoa(r.Mem) + "/" + strconv.Itoa(r.Pids)
}

// tells holds resources that were told, and whether there are any, against those that are to be told.
func tells(t *testing.T, what string, args any, got api.Res, ok bool, want api.Res, wantOk bool) {
	t.Helper()
	if got != want || ok != wantOk {
		t.Fatalf("%s%v = %v, %v; want %v, %v", what, args, got, ok, want, wantOk)
	}
}

// pair holds all that is told of two resources against the words, twice: what is told hangs on nothing else.
func pair(t *testing.T, a, b api.Res) {
	t.Helper()
	args := []api.Res{a, b}
	for range 2 {
		got, ok := Add(a, b)
		want, wantOk := wantAdd(a, b)
		tells(t, "Add", args, got, ok, want, wantOk)
		got, ok = Sum(a, b)
		tells(t, "Sum", args, got, ok, want, wantOk)
		got, ok = Sub(a, b)
		want, wantOk = wantSub(a, b)
		tells(t, "Sub", args, got, ok, want, wantOk)
		tells(t, "Max", args, Max(a, b), Fits(a, b), wantMax(a, b), wantFits(a, b))
		tells(t, "Over", args, Over(a, b), true, wantOver(a, b), true)
	}
}

// 14.1 and the chapter's example
func TestAddNumberByNumber(t *testing.T) {
	for _, c := range []struct {
		a, b, want api.Res
	}{
		{three(1, 2, 3), three(4, 5, 6), three(5, 7, 9)},
		{three(0, 0, 0), three(0, 0, 0), three(0, 0, 0)},
		{three(1, 2, 3), three(0, 0, 0), three(1, 2, 3)},
		{three(0, 0, 0), three(1, 2, 3), three(1, 2, 3)},
		{three(-1, -2, -3), three(-4, -5, -6), three(-5, -7, -9)},
		{three(-1, 2, -3), three(4, -5, 6), three(3, -3, 3)},
		{three(1, 0, 0), three(0, 20, 0), three(1, 20, 0)},
		{three(0, 0, 300), three(1, 0, 0), three(1, 0, 300)},
		{three(api.MaxRes, api.MaxRes, api.MaxRes), three(api.MaxRes, 1, -1), three(1<<41, 1<<40+1, 1<<40-1)},
		{three(most, least, most), three(least, most, -most), three(-1, -1, 0)},
	} {
		got, ok := Add(c.a, c.b)
		tells(t, "Add", []api.Res{c.a, c.b}, got, ok, c.want, true)
		got, ok = Add(c.b, c.a)
		tells(t, "Add", []api.Res{c.b, c.a}, got, ok, c.want, true)
	}
}

// 14.1: in each place alone; beside one that overflows nothing is told of the others
func TestAddAtTheEdges(t *testing.T) {
	for _, c := range []struct {
		a, b, want int
		ok         bool
	}{
		{most, 0, most, true},
		{most - 1, 1, most, true},
		{most - 1, 2, 0, false},
		{most, 1, 0, false},
		{most, most, 0, false},
		{most, -1, most - 1, true},
		{1 << 62, 1 << 62, 0, false},
		{1 << 62, 1<<62 - 1, most, true},
		{least, 0, least, true},
		{least + 1, -1, least, true},
		{least + 1, -2, 0, false},
		{least, -1, 0, false},
		{least, least, 0, false},
		{least, 1, least + 1, true},
		{-1 << 62, -1 << 62, least, true},
		{-1 << 62, -1<<62 - 1, 0, false},
		{least, most, -1, true},
	} {
		for place := range 3 {
			a, b := with(three(10, 20, 30), place, c.a), with(three(1, -2, 3), place, c.b)
			want := api.Res{}
			if c.ok {
				want = with(three(11, 18, 33), place, c.want)
			}
			got, ok := Add(a, b)
			tells(t, "Add", []api.Res{a, b}, got, ok, want, c.ok)
			got, ok = Add(b, a)
			tells(t, "Add", []api.Res{b, a}, got, ok, want, c.ok)
			got, ok = Sum(a, b)
			tells(t, "Sum", []api.Res{a, b}, got, ok, want, c.ok)
		}
	}
}

// 14.1: one behind the other, from zero on
func TestSum(t *testing.T) {
	for _, c := range []struct {
		l    []api.Res
		want api.Res
		ok   bool
	}{
		{nil, api.Res{}, true},
		{[]api.Res{}, api.Res{}, true},
		{[]api.Res{three(1, 2, 3)}, three(1, 2, 3), true},
		{[]api.Res{three(-1, least, most)}, three(-1, least, most), true},
		{[]api.Res{three(1, 2, 3), three(4, 5, 6)}, three(5, 7, 9), true},
		{[]api.Res{three(1, 2, 3), three(4, 5, 6), three(-10, 0, 20), three(0, 1, 0)}, three(-5, 8, 29), true},
		{[]api.Res{three(-1, -1, -1), three(-2, -3, -4)}, three(-3, -4, -5), true},
		{[]api.Res{three(most, 0, 0), three(0, most, 0), three(0, 0, most)}, three(most, most, most), true},
		{slices.Repeat([]api.Res{three(1, -2, 1<<40)}, 1000), three(1000, -2000, 1000<<40), true},
		// What comes back to what an int can be behind an overflow on the way is none.
		{[]api.Res{three(-1, 0, 0), three(most, 0, 0), three(1, 0, 0)}, three(most, 0, 0), true},
		{[]api.Res{three(least, least, least), three(most, most, most), three(most, most, most), three(1, 1, 1)}, three(most, most, most), true},
		{[]api.Res{three(1, 1, 1), three(most, 0, 0), three(-1, -1, -1)}, api.Res{}, false},
		{slices.Repeat([]api.Res{three(0, 0, 1<<60)}, 7), three(0, 0, 7<<60), true},
		{slices.Repeat([]api.Res{three(0, 0, 1<<60)}, 8), api.Res{}, false},
	} {
		got, ok := Sum(c.l...)
		tells(t, "Sum", c.l, got, ok, c.want, c.ok)
	}
	for place := range 3 {
		for _, c := range []struct {
			numbers []int
			want    int
			ok      bool
		}{
			{[]int{most, 1, -1}, 0, false},
			{[]int{most, -1, 1}, most, true},
			{[]int{1, most, -1}, 0, false},
			{[]int{-1, most, 1}, most, true},
			{[]int{-1, 1, most}, most, true},
			{[]int{least, -1, 1}, 0, false},
			{[]int{least, 1, -1}, least, true},
			{[]int{-1, least, 1}, 0, false},
			{[]int{most, least, most, 1}, most, true},
			{[]int{most, most, least, least}, 0, false},
			{[]int{0, 0, 0, most, 0, 1, 0}, 0, false},
			{[]int{least, most, 1}, 0, true},
		} {
			var l []api.Res
			for i, n := range c.numbers {
				l = append(l, with(three(i, i, i), place, n))
			}
			want, n := api.Res{}, len(l)*(len(l)-1)/2
			if c.ok {
				want = with(three(n, n, n), place, c.want)
			}
			got, ok := Sum(l...)
			tells(t, "Sum", l, got, ok, want, c.ok)
		}
	}
}

// 14.1
func TestSub(t *testing.T) {
	for _, c := range []struct {
		a, b, want api.Res
		ok         bool
	}{
		{three(5, 7, 9), three(4, 5, 6), three(1, 2, 3), true},
		{three(5, 7, 9), three(0, 0, 0), three(5, 7, 9), true},
		{three(5, 7, 9), three(5, 7, 9), three(0, 0, 0), true},
		{three(0, 0, 0), three(0, 0, 0), three(0, 0, 0), true},
		{three(5, 7, 9), three(-5, -7, -9), three(10, 14, 18), true},
		{three(-5, -7, -9), three(-6, -8, -19), three(1, 1, 10), true},
		{three(-5, -7, -9), three(-5, -7, -9), three(0, 0, 0), true},
		{three(0, 0, 0), three(-1, -2, -3), three(1, 2, 3), true},
		{three(4, 6, 8), three(5, 7, 9), api.Res{}, false},
		{three(-1, -1, -1), three(0, 0, 0), api.Res{}, false},
		{three(most, most, most), three(most, most, most), three(0, 0, 0), true},
		{three(least, least, least), three(least, least, least), three(0, 0, 0), true},
		{three(most, most, most), three(least, 0, 0), api.Res{}, false},
		// The second is above in one place, and the difference overflows in another.
		{three(0, most, 0), three(1, -1, 0), api.Res{}, false},
	} {
		got, ok := Sub(c.a, c.b)
		tells(t, "Sub", []api.Res{c.a, c.b}, got, ok, c.want, c.ok)
	}
}

// 14.1: in each place alone; beside one that is not to be told nothing is told of the others
func TestSubAtTheEdges(t *testing.T) {
	for _, c := range []struct {
		a, b, want int
		ok         bool
	}{
		{3, 2, 1, true},
		{3, 3, 0, true},
		{3, 4, 0, false},
		{-3, -3, 0, true},
		{-3, -2, 0, false},
		{-3, -4, 1, true},
		{-1, 0, 0, false},
		{0, 1, 0, false},
		{0, most, 0, false},
		{most - 1, most, 0, false},
		{most, most - 1, 1, true},
		{most, 0, most, true},
		{most, 1, most - 1, true},
		{most, -1, 0, false},
		{most - 1, -1, most, true},
		{most - 1, -2, 0, false},
		{1 << 62, -1 << 62, 0, false},
		{1<<62 - 1, -1 << 62, most, true},
		{0, least, 0, false},
		{0, least + 1, most, true},
		{-1, least, most, true},
		{1, least, 0, false},
		{1, least + 1, 0, false},
		{1, least + 2, most, true},
		{most, least, 0, false},
		{least, least, 0, true},
		{least + 1, least, 1, true},
		{least, least + 1, 0, false},
		// Such a difference wraps round to one from 0 on.
		{least, 1, 0, false},
		{least, most, 0, false},
		{-2, most, 0, false},
	} {
		for place := range 3 {
			a, b := with(three(10, -20, 30), place, c.a), with(three(1, -22, 30), place, c.b)
			want := api.Res{}
			if c.ok {
				want = with(three(9, 2, 0), place, c.want)
			}
			got, ok := Sub(a, b)
			tells(t, "Sub", []api.Res{a, b}, got, ok, want, c.ok)
		}
	}
}

// 14.1
func TestMax(t *testing.T) {
	for _, c := range []struct{ a, b, want api.Res }{
		{three(1, 5, 3), three(2, 4, 3), three(2, 5, 3)},
		{three(1, 2, 3), three(1, 2, 3), three(1, 2, 3)},
		{three(0, 0, 0), three(0, 0, 0), three(0, 0, 0)},
		{three(1, 2, 3), three(4, 5, 6), three(4, 5, 6)},
		{three(9, 2, 3), three(4, 5, 6), three(9, 5, 6)},
		{three(1, 9, 3), three(4, 5, 6), three(4, 9, 6)},
		{three(1, 2, 9), three(4, 5, 6), three(4, 5, 9)},
		{three(-1, -2, -3), three(-4, -5, 0), three(-1, -2, 0)},
		{three(-1, -2, -3), three(0, 0, 0), three(0, 0, 0)},
		{three(most, least, 0), three(least, most, least), three(most, most, 0)},
		{three(least, least, least), three(least, least+1, least), three(least, least+1, least)},
		{three(most, most-1, most), three(most, most, most), three(most, most, most)},
	} {
		tells(t, "Max", []api.Res{c.a, c.b}, Max(c.a, c.b), true, c.want, true)
		tells(t, "Max", []api.Res{c.b, c.a}, Max(c.b, c.a), true, c.want, true)
	}
}

// 14.1
func TestFits(t *testing.T) {
	for _, c := range []struct {
		a, b api.Res
		want bool
	}{
		{three(1, 2, 3), three(1, 2, 3), true},
		{three(0, 0, 0), three(0, 0, 0), true},
		{three(0, 1, 2), three(1, 2, 3), true},
		{three(0, 2, 3), three(1, 2, 3), true},
		{three(1, 1, 3), three(1, 2, 3), true},
		{three(1, 2, 2), three(1, 2, 3), true},
		{three(2, 3, 4), three(1, 2, 3), false},
		{three(2, 2, 3), three(1, 2, 3), false},
		{three(1, 3, 3), three(1, 2, 3), false},
		{three(1, 2, 4), three(1, 2, 3), false},
		{three(2, 0, 0), three(1, 2, 3), false},
		{three(0, 3, 0), three(1, 2, 3), false},
		{three(0, 0, 4), three(1, 2, 3), false},
		{three(0, 3, 4), three(1, 2, 3), false},
		{three(-1, -2, -3), three(-1, -2, -3), true},
		{three(-2, -3, -4), three(-1, -2, -3), true},
		{three(0, -2, -3), three(-1, -2, -3), false},
		{three(-1, -1, -3), three(-1, -2, -3), false},
		{three(-1, -2, -2), three(-1, -2, -3), false},
		{three(-1, -1, -1), three(0, 0, 0), true},
		{three(0, 0, 0), three(-1, 0, 0), false},
		{three(0, 0, 0), three(0, -1, 0), false},
		{three(0, 0, 0), three(0, 0, -1), false},
		{three(least, least, least), three(most, most, most), true},
		{three(most, most, most), three(most, most, most), true},
		{three(most, least, least), three(most-1, most, most), false},
		{three(least, most, least), three(most, least, most), false},
		{three(least, least, least+1), three(least, least, least), false},
	} {
		if got := Fits(c.a, c.b); got != c.want {
			t.Errorf("Fits(%v, %v) = %v", c.a, c.b, got)
		}
	}
}

// 14.1: what was handed in is not changed, and what lies behind its end is neither read nor written
func TestSumLeavesTheListAsItIs(t *testing.T) {
	spare := []api.Res{three(1, 2, 3), three(4, 5, 6), three(most, most, most), three(7, 7, 7)}
	was := slices.Clone(spare)
	got, ok := Sum(spare[:2]...)
	tells(t, "Sum", spare[:2], got, ok, three(5, 7, 9), true)
	got, ok = Sum(spare[:0]...)
	tells(t, "Sum", spare[:0], got, ok, api.Res{}, true)
	got, ok = Sum(spare...)
	tells(t, "Sum", spare, got, ok, api.Res{}, false)
	if !reflect.DeepEqual(spare, was) {
		t.Errorf("%v was handed in, and is %v now", was, spare)
	}
}
