package sel

import (
	"math/rand"
	"reflect"
	"slices"
	"strconv"
	"strings"
	"testing"
	"unsafe"

	"provost/api"
)

type labels = []api.Label

// lab makes labels of texts that are key and value by turns, with a value that is no label's behind their end.
func lab(texts ...string) labels {
	l := make(labels, 0, len(texts)/2+1)
	for i := 0; i < len(texts); i += 2 {
		l = append(l, api.Label{Key: texts[i], Val: texts[i+1]})
	}
	l[:cap(l)][len(l)] = behindTheEnd
	return l
}

// behindTheEnd stands in the spare room of the labels of these tests; what reads it takes it for a label.
var behindTheEnd = api.Label{Key: "a", Val: "behind"}

// whole is a copy of labels, with what lies in their spare room.
func whole(l labels) labels { return slices.Clone(l[:cap(l)]) }

// keep holds that labels are as whole told them, spare room too.
func keep(t *testing.T, what string, l, was labels) {
	t.Helper()
	if !slices.Equal(l[:cap(l)], was) {
		t.Fatalf("%s: %v was handed in, spare room and all, and is %v now", what, was, l[:cap(l)])
	}
}

// shortLists are all lists of at most most labels out of these.
func shortLists(most int, of ...api.Label) []labels {
	all, longest := []labels{lab()}, []labels{nil}
	for range most {
		var longer []labels
		for _, l := range longest {
			for _, label := range of {
				longer = append(longer, append(slices.Clone(l), label))
			}
		}
		longest = longer
		for _, l := range longer {
			all = append(all, lab(textsOf(l)...))
		}
	}
	return all
}

func textsOf(l labels) []string {
	var texts []string
	for _, label := range l {
		texts = append(texts, label.Key, label.Val)
	}
	return texts
}

// selectors are all selectors out of these keys, which rise, and values.
func selectors(keys, vals []string) []labels {
	all := []labels{nil}
	for _, key := range keys {
		var more []labels
		for _, l := range all {
			more = append(more, l)
			for _, val := range vals {
				more = append(more, append(slices.Clone(l), api.Label{Key: key, Val: val}))
			}
		}
		all = more
	}
	for i, l := range all {
		all[i] = lab(textsOf(l)...)
	}
	return all
}

// wantFits says what the words say: each label of a selector is counted among the labels.
func wantFits(sel, l labels) bool {
	among := map[api.Label]int{}
	for _, label := range l {
		among[label]++
	}
	for _, label := range sel {
		if among[label] == 0 {
			return false
		}
	}
	return true
}

// fits holds Fits and Covers against what they are to tell.
func fits(t *testing.T, sel, l labels, want bool) {
	t.Helper()
	selWas, was := whole(sel), whole(l)
	if Fits(sel, l) != want || Covers(sel, l) != want {
		t.Fatalf("Fits(%v, %v) = %v, Covers %v; want %v", sel, l, Fits(sel, l), Covers(sel, l), want)
	}
	keep(t, "Fits", sel, selWas)
	keep(t, "Fits", l, was)
}

// 11.1
func TestFitsAndCovers(t *testing.T) {
	four := lab("a", "1", "b", "2", "c", "3", "d", "4")
	for _, c := range []struct {
		sel, l labels
		want   bool
	}{
		// No labels fit none alone, and all fit none.
		{nil, nil, true}, {labels{}, nil, true}, {nil, labels{}, true}, {lab(), lab(), true},
		{nil, lab("a", "x"), true}, {lab(), four, true},
		{lab("a", "x"), nil, false}, {lab("a", ""), lab(), false}, {lab("", ""), nil, false}, {four, nil, false},
		// One.
		{lab("a", "x"), lab("a", "x"), true}, {lab("a", "x"), lab("a", "y"), false}, {lab("a", "x"), lab("b", "x"), false},
		{lab("a", "x"), lab("x", "a"), false}, {lab("a", "x"), lab("A", "x"), false}, {lab("a", "x"), lab("a", "X"), false},
		{lab("a", "x"), lab("a/a", "x"), false}, {lab("a", "x"), lab("a", "xx"), false}, {lab("aa", "x"), lab("a", "ax"), false},
		// A value that is empty is a value.
		{lab("a", ""), lab("a", ""), true}, {lab("a", ""), lab("a", "x"), false}, {lab("a", "x"), lab("a", ""), false},
		{lab("a", ""), lab("b", ""), false}, {lab("a", ""), lab("a", "x", "a", ""), true},
		// Many, and in any order.
		{lab("a", "1"), four, true}, {lab("d", "4"), four, true}, {lab("b", "2", "c", "3"), four, true}, {four, four, true},
		{four, lab("d", "4", "b", "2", "a", "1", "c", "3"), true}, {lab("d", "4", "a", "1"), four, true},
		{four, lab("a", "1", "b", "2", "c", "3"), false}, {four, lab("b", "2", "c", "3", "d", "4"), false},
		{four, lab("a", "1", "b", "2", "c", "3", "d", "5"), false}, {four, lab("a", "0", "b", "2", "c", "3", "d", "4"), false},
		{four, lab("a", "1", "b", "2", "x", "3", "d", "4"), false}, {lab("a", "1", "e", "5"), four, false}, {lab("a", "2", "b", "1"), four, false},
		// Those that stand several times count once, on both sides.
		{lab("a", "x", "a", "x"), lab("a", "x"), true}, {lab("a", "x"), lab("a", "x", "a", "x", "a", "x"), true},
		{lab("a", "x", "b", "y", "a", "x"), lab("b", "y", "a", "x"), true}, {lab("a", "x", "a", "x"), lab("a", "y", "a", "y"), false},
		{lab("a", "x", "b", "y"), lab("a", "x", "a", "x"), false}, {lab("a", "x", "a", "x"), lab("a", "x", "b", "y"), true},
		// One key with unlike values: both are among the labels.
		{lab("a", "x"), lab("a", "x", "a", "y"), true}, {lab("a", "y"), lab("a", "x", "a", "y"), true}, {lab("a", "z"), lab("a", "x", "a", "y"), false},
		{lab("a", "x", "a", "y"), lab("a", "x"), false}, {lab("a", "x", "a", "y"), lab("a", "y", "a", "x"), true},
		// Labels that may not be are labels, too.
		{lab("", "/"), lab("", "/"), true}, {lab("-", "\xff"), lab("-", "\xfe"), false}, {lab("a=", "x"), lab("a", "=x"), false},
		{lab("a", "b\x00"), lab("a", "b"), false},
	} {
		fits(t, c.sel, c.l, c.want)
	}
}

// 11.1: what lies behind the end is no label
func TestFitsReadsNoSpareRoom(t *testing.T) {
	fits(t, lab("a", "behind"), lab(), false)
	fits(t, lab("a", "behind"), lab("b", "x"), false)
	fits(t, lab(), lab("b", "x"), true)
	fits(t, lab("b", "x"), lab("b", "x"), true)
}

// 11.1: all lists of at most three labels, in any order, several times, with one key twice
func TestFitsOfAllShortLists(t *testing.T) {
	all := shortLists(3, lab("a", "", "a", "x", "b", "x", "b", "", "a/b", "x")...)
	for _, sel := range all {
		for _, l := range all {
			fits(t, sel, l, wantFits(sel, l))
		}
	}
}

// 11.1: what Covers tells is what holds of all labels
func TestWhatIsCoveredFits(t *testing.T) {
	all := selectors([]string{"a", "a/b", "b"}, []string{"", "x"})
	for _, a := range all {
		for _, b := range all {
			allFit := true
			for _, l := range all {
				if Fits(b, l) && !Fits(a, l) {
					allFit = false
				}
			}
			if Covers(a, b) != allFit {
				t.Errorf("Covers(%v, %v) = %v, but that all fit is %v", a, b, Covers(a, b), allFit)
			}
		}
	}
}

// 11.1: more labels than a pod may have
func TestFitsOfManyLabels(t *testing.T) {
	rng := rand.New(rand.NewSource(11))
	var many labels
	for i := range 300 {
		many = append(many, api.Label{Key: strconv.Itoa(i), Val: strconv.Itoa(i % 7)})
	}
	for range 50 {
		l := slices.Clone(many)
		rng.Shuffle(len(l), func(i, k int) { l[i], l[k] = l[k], l[i] })
		fits(t, many, l, true)
		fits(t, l[:150], many, true)
		fits(t, many, l[1:], false)
		l[0].Val += "x"
		fits(t, many, l, false)
	}
}

// pod is a pod of that UID with these labels, and with something in each of its parts.
func pod(uid int, l labels) api.Pod {
	container := func(name string, ports ...int) api.Container {
		most := api.Res{CPU: 1, Mem: 2, Pids: 3}
		return api.Container{Name: strings.Clone(name), Image: strings.Clone("lib/" + name + ":1"), Req: most, Lim: most, Ports: ports, Probe: api.Probe{Every: 5, Fails: 2}}
	}
	return api.Pod{
		UID: uid, Rev: uint64(uid) << 40, Phase: api.PRunning, Restarts: []int{uid, 0}, Mark: api.WKilled, Grace: 7,
		Spec: api.Spec{
			Name: strings.Clone("web"), Labels: l, Init: []api.Container{container("i")}, Main: []api.Container{container("m", 80, 443), container("n")},
			Restart: api.RFailure, Grace: 30, Prio: 4,
		},
	}
}

// somePods are pods of UIDs from 1 on with these labels, each with labels and other lists of its own.
func somePods(of ...labels) []api.Pod {
	var l []api.Pod
	for i, its := range of {
		l = append(l, pod(i+1, lab(textsOf(its)...)))
	}
	return l
}

// uids are the pods' UIDs, in order.
func uids(l []api.Pod) []int {
	out := []int{}
	for _, p := range l {
		out = append(out, p.UID)
	}
	return out
}

// 11.1
func TestFilter(t *testing.T) {
	of := []labels{lab("a", "x"), lab("a", "y", "b", "x"), nil, lab("a", "x", "b", "x"), lab("b", "x"), lab("b", "", "c", "z"), lab("a", "x", "b", "x", "c", "z")}
	for _, c := range []struct {
		sel  labels
		want []int
	}{
		{nil, []int{1, 2, 3, 4, 5, 6, 7}},
		{lab(), []int{1, 2, 3, 4, 5, 6, 7}},
		{lab("a", "x"), []int{1, 4, 7}},
		{lab("b", "x"), []int{2, 4, 5, 7}},
		{lab("b", ""), []int{6}},
		{lab("a", "x", "b", "x"), []int{4, 7}},
		{lab("a", "x", "b", "x", "c", "z"), []int{7}},
		{lab("c", "z"), []int{6, 7}},
		{lab("a", "z"), nil},
		{lab("c", ""), nil},
		{lab("a", "behind"), nil},
		{lab("a", "x", "d", "x"), nil},
		{lab("a", "x", "a", "y"), nil},
		{lab("b", "x", "a", "x", "b", "x"), []int{4, 7}},
	} {
		l, was, selWas := somePods(of...), somePods(of...), whole(c.sel)
		for range 2 {
			got := Filter(c.sel, l)
			if !slices.Equal(uids(got), c.want) {
				t.Errorf("Filter(%v) = %v, want %v", c.sel, uids(got), c.want)
			}
			for _, p := range got {
				if !reflect.DeepEqual(p, was[p.UID-1]) {
					t.Errorf("Filter(%v) tells %+v, want %+v", c.sel, p, was[p.UID-1])
				}
			}
		}
		if !reflect.DeepEqual(l, was) {
			t.Errorf("Filter(%v) changed the pods", c.sel)
		}
		keep(t, "Filter", c.sel, selWas)
	}
}

// 11.1: no pods, pods that all fit, and pods none of which fits
func TestFilterOfNoneOfAllAndOfOthers(t *testing.T) {
	for _, sel := range []labels{nil, lab("a", "x"), lab("a", "x", "b", "")} {
		if got := Filter(sel, nil); len(got) != 0 {
			t.Errorf("Filter(%v) of no pods = %v", sel, uids(got))
		}
		if got := Filter(sel, []api.Pod{}); len(got) != 0 {
			t.Errorf("Filter(%v) of no pods = %v", sel, uids(got))
		}
		// What lies behind the end of the pods is no pod.
		if got := Filter(sel, somePods(sel, sel)[:1]); !slices.Equal(uids(got), []int{1}) {
			t.Errorf("Filter(%v) of one pod = %v", sel, uids(got))
		}
		if got := Filter(sel, somePods(sel)[:0]); len(got) != 0 {
			t.Errorf("Filter(%v) of spare room = %v", sel, uids(got))
		}
		if got := Filter(sel, somePods(sel, sel, sel)); !slices.Equal(uids(got), []int{1, 2, 3}) {
			t.Errorf("Filter(%v) of pods that all fit = %v", sel, uids(got))
		}
	}
	if got := Filter(lab("a", "x"), somePods(nil, lab("a", ""), lab("b", "x"))); len(got) != 0 {
		t.Errorf("of pods that do not fit: %v", uids(got))
	}
}

// 11.1: pods are told in the order in which they stand, by which UIDs soever, and each as often as it stands
func TestFilterKeepsTheOrder(t *testing.T) {
	ax := lab("a", "x")
	l := []api.Pod{pod(9, ax), pod(3, nil), pod(7, ax), pod(9, ax), pod(0, ax), pod(-4, lab("a", "y")), pod(-5, ax), pod(1, ax)}
	if got := Filter(ax, l); !slices.Equal(uids(got), []int{9, 7, 9, 0, -5, 1}) {
		t.Errorf("Filter = %v", uids(got))
	}
	// A pod that may not be is one like others.
	if got := Filter(nil, []api.Pod{{}, {UID: 2, Restarts: []int{-1}}}); !reflect.DeepEqual(got, []api.Pod{{}, {UID: 2, Restarts: []int{-1}}}) {
		t.Errorf("Filter = %+v", got)
	}
}

// 11.1: as many pods as no store has
func TestFilterOfManyPods(t *testing.T) {
	var l []api.Pod
	var want []int
	for uid := range 2000 {
		its := lab("a", "x", "b", strings.Repeat("v", uid%5))
		if uid%5 == 3 {
			want = append(want, uid)
		}
		l = append(l, pod(uid, its))
	}
	if got := Filter(lab("b", "vvv", "a", "x"), l); !slices.Equal(uids(got), want) {
		t.Errorf("Filter = %v", uids(got))
	}
}

// span is memory, from its first byte on up to the one behind its last.
type span struct{ from, to uintptr }

// memory is what v, which was handed in or told, has of memory, spare room too.
func memory(v reflect.Value) []span {
	var out []span
	switch v.Kind() {
	case reflect.Slice:
		if v.Cap() > 0 {
			out = append(out, span{v.Pointer(), v.Pointer() + uintptr(v.Cap())*v.Type().Elem().Size()})
		}
		for i := range v.Len() {
			out = append(out, memory(v.Index(i))...)
		}
	case reflect.Struct:
		for i := range v.NumField() {
			out = append(out, memory(v.Field(i))...)
		}
	case reflect.String:
		if s := v.String(); s != "" {
			from := uintptr(unsafe.Pointer(unsafe.StringData(s)))
			out = append(out, span{from, from + uintptr(len(s))})
		}
	}
	return out
}

func overlap(a, b []span) bool {
	for _, x := range a {
		for _, y := range b {
			if x.from < y.to && y.from < x.to {
				return true
			}
		}
	}
	return false
}

// apart holds that things share no memory, one with another or each within itself.
func apart(t *testing.T, what string, things ...any) {
	t.Helper()
	var all []span
	for _, x := range things {
		all = append(all, memory(reflect.ValueOf(x))...)
	}
	for i := range all {
		if overlap(all[i:i+1], all[i+1:]) {
			t.Errorf("%s: memory is shared", what)
			return
		}
	}
}

// R4
func TestFilteredPodsAreNewMemory(t *testing.T) {
	of := []labels{lab("a", "x", "c", "z"), nil, lab("a", "x")}
	sel := lab("a", "x")
	l := somePods(of...)
	for i := range l {
		l[i].Restarts = append(l[i].Restarts, -1)[:2]
	}
	one, two := Filter(sel, l), Filter(sel, l)
	if len(one) != 2 || len(two) != 2 {
		t.Fatalf("Filter = %v, %v", uids(one), uids(two))
	}
	apart(t, "Filter", one, two)
	from := append(memory(reflect.ValueOf(l)), memory(reflect.ValueOf(sel))...)
	if overlap(memory(reflect.ValueOf(one)), from) {
		t.Error("Filter tells memory that was handed in")
	}
	// One pod that stands twice is told as two.
	apart(t, "Filter of one pod twice", Filter(nil, []api.Pod{l[0], l[0]}))

	for i := range one {
		one[i].Restarts[0] = 99
		one[i].Spec.Labels[0].Val = "changed"
		one[i].Spec.Init[0].Name = "changed"
		one[i].Spec.Main[0].Ports[0] = 99
		one[i].Spec.Main[1].Image = "changed"
		_ = append(one[i].Restarts, 99)
	}
	if !reflect.DeepEqual(l, somePods(of...)) || l[0].Restarts[:3][2] != -1 {
		t.Error("pods that were handed in are changed with those that were told")
	}
	if !reflect.DeepEqual(two, []api.Pod{somePods(of...)[0], somePods(of...)[2]}) {
		t.Error("pods of another answer are changed")
	}
}
