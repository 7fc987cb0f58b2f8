package evlog

import (
	"reflect"
	"slices"
	"strconv"
	"strings"
	"testing"
	"unsafe"

	"provost/api"
)

// span is memory, from its first byte on up to the one behind its last.
type span struct{ from, to uintptr }

// memory is what v, which was handed in or told, has of memory, spare room too.
func memory(v reflect.Value) []span {
	var out []span
	switch v.Kind() {
	case reflect.Slice:
		if v.Cap() > 0 {
			out = append(out, span{v.Pointer(), v.Pointer() + uintptr(v.Cap())*v.Type().Elem().Size()})
		}
		for i := range v.Len() {
			out = append(out, memory(v.Index(i))...)
		}
	case reflect.Struct:
		for i := range v.NumField() {
			out = append(out, memory(v.Field(i))...)
		}
	case reflect.String:
		if s := v.String(); s != "" {
			from := uintptr(unsafe.Pointer(unsafe.StringData(s)))
			out = append(out, span{from, from + uintptr(len(s))})
		}
	}
	return out
}

// apart holds that things share no memory, one with another or each within itself.
func apart(t *testing.T, what string, things ...any) {
	t.Helper()
	var all []span
	for _, x := range things {
		all = append(all, memory(reflect.ValueOf(x))...)
	}
	slices.SortFunc(all, func(a, b span) int { return int(a.from) - int(b.from) })
	for i := 1; i < len(all); i++ {
		if all[i].from < all[i-1].to {
			t.Errorf("%s: memory is shared", what)
			return
		}
	}
}

// part is a text or a number within something.
type part struct {
	path string
	at   reflect.Value
}

// partsOf are all texts and numbers in v, which can be changed.
func partsOf(path string, v reflect.Value) []part {
	var out []part
	switch v.Kind() {
	case reflect.Slice:
		for i := range v.Len() {
			out = append(out, partsOf(path+"["+strconv.Itoa(i)+"]", v.Index(i))...)
		}
	case reflect.Struct:
		for i := range v.NumField() {
			out = append(out, partsOf(path+"."+v.Type().Field(i).Name, v.Field(i))...)
		}
	default:
		out = append(out, part{path, v})
	}
	return out
}

func change(v reflect.Value) {
	switch v.Kind() {
	case reflect.String:
		v.SetString(v.String() + "x")
	case reflect.Uint64:
		v.SetUint(v.Uint() + 1)
	default:
		v.SetInt(v.Int() + 1)
	}
}

// ownTexts gives an event texts that no other one has, those of the program itself among them.
func ownTexts(e *api.Event) {
	for _, x := range partsOf("event", reflect.ValueOf(e).Elem()) {
		if x.at.Kind() == reflect.String {
			x.at.SetString(strings.Clone(x.at.String()))
		}
	}
}

// R4: no two answers, no two events of one, and nothing that was handed in share memory
func TestToldEventsAreNewMemory(t *testing.T) {
	l := New(2)
	var handed []api.Event
	for rev := range uint64(3) {
		e := event(rev + 1)
		ownTexts(&e)
		e.Pod.Restarts = append(e.Pod.Restarts, -1)[:2]
		handed = append(handed, e)
		if code := l.Add(e); code != api.OK {
			t.Fatalf("Add = %d", int(code))
		}
	}
	one, _ := l.After(1, 9)
	two, _ := l.After(1, 9)
	few, _ := l.After(1, 1)
	all, _ := l.Since(1)
	other, _ := l.Since(2)
	three, four, five := slices.Collect(all), slices.Collect(all), slices.Collect(other)
	if len(one) != 2 || len(few) != 1 || len(three) != 2 || len(four) != 2 || len(five) != 1 {
		t.Fatalf("%v, %v, %v, %v, %v", revsOf(one), revsOf(few), revsOf(three), revsOf(four), revsOf(five))
	}
	apart(t, "what was told, and what was handed in", handed, one, two, few, three, four, five)
}

// R4: one pod in several events is told apart
func TestOnePodInTwoEvents(t *testing.T) {
	l := New(3)
	e := event(1)
	ownTexts(&e)
	for rev := range uint64(3) {
		e.Rev = rev + 1
		l.Add(e)
	}
	got, _ := l.After(0, 9)
	apart(t, "events of one pod", got, e)
	got[0].Pod.Spec.Main[0].Ports[0] = 99
	got[0].Pod.Restarts[0] = 99
	for _, other := range got[1:] {
		if e.Rev = other.Rev; !reflect.DeepEqual(other, e) {
			t.Errorf("the event %d is changed with another one", other.Rev)
		}
	}
}

// R4: each part of an event, changed by whoever handed it in, or was told it, is as it was in the log and in all else that was told
func TestEachPartIsTheLogsOwn(t *testing.T) {
	whatIs := event(7)
	for i, x := range partsOf("event", reflect.ValueOf(&whatIs).Elem()) {
		l := New(4)
		e := event(7)
		at := func(e *api.Event) reflect.Value { return partsOf("event", reflect.ValueOf(e).Elem())[i].at }
		if code := l.Add(e); code != api.OK || !reflect.DeepEqual(e, event(7)) {
			t.Fatalf("Add = %d, or changed what it was handed", int(code))
		}
		before, _ := l.Since(0)
		change(at(&e))
		same := func(when string) {
			t.Helper()
			all, _ := l.Since(0)
			after, _ := l.After(0, 9)
			for _, got := range [][]api.Event{slices.Collect(before), slices.Collect(all), after} {
				if !alike(got, events(7)) || l.Last() != 7 {
					t.Fatalf("%s is changed: %s", x.path, when)
				}
			}
		}
		same("it was handed in")
		for told := range before {
			change(at(&told))
		}
		same("Since told it")
		told, _ := l.After(0, 9)
		change(at(&told[0]))
		same("After told it")
	}
}

// roomy is a list of these that has spare room, and spare in the first of it.
func roomy[T any](spare T, of ...T) []T {
	l := append(make([]T, 0, len(of)+3), of...)
	_ = append(l, spare)
	return l
}

// roomyEvent is event(7), with spare room in its lists.
func roomyEvent() api.Event {
	e := event(7)
	e.Pod.Restarts = roomy(-1, e.Pod.Restarts...)
	e.Pod.Spec.Labels = roomy(api.Label{Key: "spare"}, e.Pod.Spec.Labels...)
	e.Pod.Spec.Init = roomy(api.Container{Name: "spare"}, e.Pod.Spec.Init...)
	e.Pod.Spec.Main = roomy(api.Container{Name: "spare"}, e.Pod.Spec.Main...)
	e.Pod.Spec.Main[0].Ports = roomy(-1, e.Pod.Spec.Main[0].Ports...)
	return e
}

// spare is what stands in the first spare room of an event's lists, of those that have some.
func spare(e api.Event) (numbers []int, names []string) {
	for _, l := range [][]int{e.Pod.Restarts, e.Pod.Spec.Main[0].Ports} {
		if cap(l) > len(l) {
			numbers = append(numbers, l[:len(l)+1][len(l)])
		}
	}
	if l := e.Pod.Spec.Labels; cap(l) > len(l) {
		names = append(names, l[:len(l)+1][len(l)].Key)
	}
	for _, l := range [][]api.Container{e.Pod.Spec.Init, e.Pod.Spec.Main} {
		if cap(l) > len(l) {
			names = append(names, l[:len(l)+1][len(l)].Name)
		}
	}
	return numbers, names
}

// fillSpare writes into the first spare room of an event's lists.
func fillSpare(e api.Event) {
	_ = append(e.Pod.Restarts, 99)
	_ = append(e.Pod.Spec.Labels, api.Label{Key: "filled"})
	_ = append(e.Pod.Spec.Init, api.Container{Name: "filled"})
	_ = append(e.Pod.Spec.Main, api.Container{Name: "filled"})
	_ = append(e.Pod.Spec.Main[0].Ports, 99)
}

// R4: spare room that was handed in is neither read nor written, nor is the log's own told
func TestSpareRoom(t *testing.T) {
	l := New(4)
	e := roomyEvent()
	l.Add(e)
	one, _ := l.After(0, 9)
	all, _ := l.Since(0)
	two := slices.Collect(all)
	for _, got := range [][]api.Event{one, two} {
		if numbers, names := spare(got[0]); slices.Contains(numbers, -1) || slices.Contains(names, "spare") || !alike(got, events(7)) {
			t.Errorf("spare room is told: %v, %v", numbers, names)
		}
		fillSpare(got[0])
	}
	if numbers, names := spare(e); !slices.Equal(numbers, []int{-1, -1}) || !slices.Equal(names, []string{"spare", "spare", "spare"}) {
		t.Errorf("spare room that was handed in is changed: %v, %v", numbers, names)
	}
	fillSpare(e)
	again, _ := l.After(0, 9)
	if numbers, names := spare(again[0]); slices.Contains(numbers, 99) || slices.Contains(names, "filled") || !alike(again, events(7)) {
		t.Errorf("what was written into spare room is told: %v, %v", numbers, names)
	}
}

// R4: the order of what is in lists
func TestOrderOfLists(t *testing.T) {
	l := New(4)
	e := event(7)
	l.Add(e)
	got, _ := l.After(0, 9)
	for _, x := range []api.Event{e, got[0]} {
		slices.Reverse(x.Pod.Restarts)
		slices.Reverse(x.Pod.Spec.Labels)
		slices.Reverse(x.Pod.Spec.Main[0].Ports)
		slices.Reverse(x.Pod.Spec.Main)
		if again, _ := l.After(0, 9); !alike(again, events(7)) {
			t.Error("the order in the log is changed")
		}
	}
}

// R4: a list that was told is the asker's, whatever becomes of it
func TestListsOfEventsAreTheAskers(t *testing.T) {
	b := some(t)
	got, _ := b.l.After(3, 2)
	_ = append(got, event(99))
	got[0], got[1] = event(77), event(78)
	_ = append(got[:0], event(1), event(2), event(3))
	b.holds()
	// What is added later does not get into it.
	got, _ = b.l.After(3, 2)
	got = got[:cap(got)]
	were := slices.Clone(got)
	b.add(event(13))
	b.compact(12)
	b.add(event(14))
	if !alike(got, were) {
		t.Error("what was told is changed by the log")
	}
}

// R3: lists without a member
func TestEmptyLists(t *testing.T) {
	l := New(4)
	l.Add(api.Event{Rev: 1, Pod: api.Pod{Restarts: []int{}, Spec: api.Spec{Labels: []api.Label{}, Init: []api.Container{}, Main: []api.Container{{Ports: []int{}}}}}})
	l.Add(api.Event{Rev: 2, Pod: api.Pod{Restarts: make([]int, 0, 3), Spec: api.Spec{Main: []api.Container{{Ports: make([]int, 0, 3)}}}}})
	l.Add(api.Event{Rev: 3})
	got, code := l.After(0, 9)
	if code != api.OK || len(got) != 3 {
		t.Fatalf("After = %v, %d", revsOf(got), int(code))
	}
	for i, e := range got {
		p := e.Pod
		if len(p.Restarts)+len(p.Spec.Labels)+len(p.Spec.Init) != 0 || len(p.Spec.Main) != []int{1, 1, 0}[i] {
			t.Errorf("%d: %+v", i, p)
		}
		for _, c := range p.Spec.Main {
			if len(c.Ports) != 0 {
				t.Errorf("%d: %v", i, c.Ports)
			}
		}
	}
}
