package tell

import (
	"math"
	"reflect"
	"slices"
	"strconv"
	"strings"
	"testing"

	"provost/api"
)

// anyPods are pods that may be told, and some that may not.
func anyPods() []api.Pod {
	wrong := fullPod()
	wrong.UID, wrong.Phase, wrong.Mark, wrong.Grace = -1, math.MaxInt, math.MinInt, -7
	wrong.Restarts = []int{-1, 0, math.MaxInt}
	wrong.Spec.Name, wrong.Spec.Restart = "-", 99
	return []api.Pod{
		{}, smallPod(), fullPod(), greatestPod(), wrong,
		{Restarts: make([]int, 100)},
		{Spec: api.Spec{Main: make([]api.Container, 20), Labels: make([]api.Label, 20)}},
	}
}

// 9.1
func TestClone(t *testing.T) {
	for _, p := range anyPods() {
		for range 2 {
			if got := Clone(p); !alikePods(got, p) {
				t.Errorf("Clone = %+v, want %+v", got, p)
			}
		}
		if Pod(Clone(p)) != Pod(p) {
			t.Errorf("a clone of %+v may be told where it may not, or may not where it may", p)
		}
	}
}

// 9.1, R3: lists without members
func TestCloneOfEmptyLists(t *testing.T) {
	p := smallPod()
	p.Restarts, p.Spec.Labels, p.Spec.Init, p.Spec.Main[0].Ports = []int{}, []api.Label{}, []api.Container{}, make([]int, 0, 3)
	got := Clone(p)
	if !alikePods(got, p) || len(got.Restarts) != 0 {
		t.Errorf("Clone = %+v", got)
	}
	got.Spec.Main[0].Ports = append(got.Spec.Main[0].Ports, 7)
	if p.Spec.Main[0].Ports[:1][0] != 0 {
		t.Error("the ports' spare room is shared")
	}
	// Spare room of restarts is neither cloned nor shared.
	p.Restarts = append(make([]int, 0, 9), 5)
	p.Restarts[:2][1] = -1
	got = Clone(p)
	if spare := got.Restarts[1:cap(got.Restarts)]; slices.Contains(spare, -1) {
		t.Errorf("spare room is cloned: %v", spare)
	}
	_ = append(got.Restarts, 8)
	if p.Restarts[:2][1] != -1 {
		t.Error("spare room is shared")
	}
}

// part is a text or a number within something.
type part struct {
	path string
	at   reflect.Value
}

// partsOf are all texts and numbers in v, which can be changed.
func partsOf(path string, v reflect.Value) []part {
	var out []part
	switch v.Kind() {
	case reflect.Slice:
		for i := range v.Len() {
			out = append(out, partsOf(path+"["+strconv.Itoa(i)+"]", v.Index(i))...)
		}
	case reflect.Struct:
		for i := range v.NumField() {
			out = append(out, partsOf(path+"."+v.Type().Field(i).Name, v.Field(i))...)
		}
	default:
		out = append(out, part{path, v})
	}
	return out
}

func change(v reflect.Value) {
	switch v.Kind() {
	case reflect.String:
		v.SetString(v.String() + "x")
	case reflect.Uint64:
		v.SetUint(v.Uint() + 1)
	default:
		v.SetInt(v.Int() + 1)
	}
}

// 9.1: each part of a clone, changed, leaves what it was cloned of, and other clones, as they were; and the other way round
func TestClonesAreChangedAlone(t *testing.T) {
	for _, made := range []func() api.Pod{smallPod, fullPod, greatestPod} {
		p := made()
		for i, x := range partsOf("pod", reflect.ValueOf(&p).Elem()) {
			p := made()
			clone, other := Clone(p), Clone(p)
			change(partsOf("pod", reflect.ValueOf(&clone).Elem())[i].at)
			if !reflect.DeepEqual(p, made()) || !reflect.DeepEqual(other, made()) {
				t.Errorf("%s of a clone is changed in what it was cloned of, or in another clone", x.path)
			}
			if alikePods(clone, p) {
				t.Errorf("%s of the clone is not changed", x.path)
			}

			p = made()
			clone = Clone(p)
			change(partsOf("pod", reflect.ValueOf(&p).Elem())[i].at)
			if !reflect.DeepEqual(clone, made()) {
				t.Errorf("%s is changed in the clone", x.path)
			}
		}
	}
}

// 9.1, written out: each list
func TestListsOfClonesAreTheirOwn(t *testing.T) {
	p := fullPod()
	c := Clone(p)
	c.Restarts[0] = 99
	c.Spec.Labels[0].Val = "z"
	c.Spec.Init[0].Name = "z"
	c.Spec.Main[1].Image = "z:9"
	c.Spec.Main[0].Ports[2] = 99
	if !reflect.DeepEqual(p, fullPod()) {
		t.Errorf("what was cloned is changed: %+v", p)
	}
	c = Clone(p)
	p.Restarts[1] = 99
	p.Spec.Labels[1].Key = "z"
	p.Spec.Init[0].Image = "z:9"
	p.Spec.Main[0].Name = "z"
	p.Spec.Main[1].Ports[0] = 99
	if !reflect.DeepEqual(c, fullPod()) {
		t.Errorf("the clone is changed: %+v", c)
	}
}

// built is p with texts that are built, so that no two of them are one in the program.
func built(p api.Pod) api.Pod {
	p = Clone(p)
	for _, x := range partsOf("pod", reflect.ValueOf(&p).Elem()) {
		if x.at.Kind() == reflect.String {
			x.at.SetString(strings.Clone(x.at.String()))
		}
	}
	return p
}

// 9.1, R4
func TestClonesShareNoMemory(t *testing.T) {
	for _, p := range anyPods() {
		p = built(p)
		p.Restarts = append(p.Restarts, 1, 2, 3)[:len(p.Restarts)]
		one, two := Clone(p), Clone(p)
		a, b, c := memory(reflect.ValueOf(p)), memory(reflect.ValueOf(one)), memory(reflect.ValueOf(two))
		if overlap(a, b) || overlap(a, c) || overlap(b, c) {
			t.Errorf("a clone shares memory: %+v", p)
		}
		for i := range b {
			if overlap(b[i:i+1], b[i+1:]) {
				t.Errorf("two parts of a clone share memory: %+v", p)
			}
		}
	}
}

// spareMsg is fullReply, or an event with fullPod, with something wrong behind each list's length.
func spareMsg(kind int) api.Msg {
	spare := func(p api.Pod) api.Pod {
		p.Restarts = append(p.Restarts, -1)[:len(p.Restarts)]
		p.Spec.Labels = append(p.Spec.Labels, api.Label{Key: "-"})[:len(p.Spec.Labels)]
		p.Spec.Main = append(p.Spec.Main, api.Container{Image: "-"})[:len(p.Spec.Main)]
		return p
	}
	if kind == api.MEvent {
		return event(2, api.EMod, 300, spare(fullPod()))
	}
	m := fullReply()
	m.Reply.Pods = []api.Pod{smallPod(), spare(fullPod()), {UID: -1}}[:2]
	m.Reply.Use = append(m.Reply.Use, api.Res{CPU: -1})[:len(m.Reply.Use)]
	return m
}

// R4: what is handed in is not changed, and what lies behind its lists' lengths is neither read nor written
func TestWhatIsHandedInStays(t *testing.T) {
	for _, kind := range []int{api.MReply, api.MEvent} {
		for _, wrong := range []bool{false, true} {
			m, want := spareMsg(kind), spareMsg(kind)
			if wrong {
				m.Num, want.Num = 0, 0
				checkMayNotBe(t, "with spare room", m)
			} else {
				checkMayBe(t, "with spare room", m, wantBytes(m))
			}
			line := Line(m)
			pods := append(slices.Clone(m.Reply.Pods), m.Event.Pod)
			for _, p := range pods {
				Pod(p)
				Clone(p)
			}
			if line != Line(want) || !reflect.DeepEqual(m, want) {
				t.Errorf("the message is changed: %+v", m)
			}
			p := m.Event.Pod
			if kind == api.MReply {
				p = m.Reply.Pods[1]
				if m.Reply.Pods[:3][2].UID != -1 || m.Reply.Use[:3][2].CPU != -1 {
					t.Error("the reply's spare room is written")
				}
			}
			if p.Restarts[:3][2] != -1 || p.Spec.Labels[:3][2].Key != "-" || p.Spec.Main[:3][2].Image != "-" {
				t.Error("a pod's spare room is written")
			}
		}
	}
}
