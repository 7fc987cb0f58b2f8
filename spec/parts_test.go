package spec

import (
	"reflect"
	"slices"
	"strings"
	"testing"

	"provost/api"
)

// 6.3
func TestLabels(t *testing.T) {
	five := []api.Label{{Key: "a"}, {Key: "b"}, {Key: "c"}, {Key: "d"}, {Key: "e"}}
	for _, name := range []string{"labels", "sel", "", "x.y", "labels[0]", "\xff"} {
		for _, c := range []struct {
			l    []api.Label
			path string
			code api.Code
		}{
			{nil, "", api.OK},
			{[]api.Label{}, "", api.OK},
			{[]api.Label{{Key: "app", Val: "x"}}, "", api.OK},
			{full().Labels, "", api.OK},
			{five[:4], "", api.OK},
			{five, name, api.ErrLong},
			{make([]api.Label, 5), name, api.ErrLong},
			{make([]api.Label, 100000), name, api.ErrLong},
			{[]api.Label{{}}, name + "[0].key", api.ErrKey},
			{[]api.Label{{Key: "A", Val: "/"}}, name + "[0].key", api.ErrKey},
			{[]api.Label{{Key: "a", Val: "/"}}, name + "[0].val", api.ErrVal},
			{[]api.Label{{Key: "a", Val: "/"}, {}}, name + "[0].val", api.ErrVal},
			{[]api.Label{{Key: "a"}, {Key: "a"}}, name + "[1].key", api.ErrShape},
			{[]api.Label{{Key: "b"}, {Key: "a", Val: "/"}}, name + "[1].key", api.ErrShape},
			{[]api.Label{{Key: "b"}, {Key: "A"}}, name + "[1].key", api.ErrKey},
			{[]api.Label{{Key: "a"}, {Key: "b"}, {Key: "c"}, {Key: "d", Val: "a b"}}, name + "[3].val", api.ErrVal},
			{[]api.Label{{Key: "a"}, {Key: "b"}, {Key: "c"}, {Key: "b"}}, name + "[3].key", api.ErrShape},
		} {
			was := slices.Clone(c.l)
			for range 2 {
				checkError(t, "Labels", Labels(name, c.l), c.path, c.code)
			}
			if !slices.Equal(c.l, was) {
				t.Error("the labels are changed")
			}
		}
	}
}

// 6.3
func TestPorts(t *testing.T) {
	for _, c := range []struct {
		s    api.Spec
		want []int
	}{
		{api.Spec{}, nil},
		{small(), nil},
		{full(), []int{1000, 1001, 1002, 2000, 2001, 2002, 3000, 3001, 3002, 4000, 4001, 4002}},
		{api.Spec{Main: []api.Container{{}, {Ports: []int{9, 3}}, {Ports: []int{}}, {Ports: []int{5}}}}, []int{9, 3, 5}},
		{api.Spec{Init: []api.Container{{Ports: []int{1, 2}}}}, nil},
		{api.Spec{Init: []api.Container{{Ports: []int{1}}}, Main: []api.Container{{Ports: []int{2}}}}, []int{2}},
		{api.Spec{Main: []api.Container{{Ports: []int{7, 7, 0}}, {Ports: []int{-1, 7, 1 << 20}}}}, []int{7, 7, 0, -1, 7, 1 << 20}},
		{api.Spec{Main: make([]api.Container, 9)}, nil},
	} {
		if got := Ports(c.s); !slices.Equal(got, c.want) {
			t.Errorf("Ports = %v, want %v", got, c.want)
		}
	}
}

// 6.3, R4
func TestPortsAreNewMemory(t *testing.T) {
	s := roomy(full())
	got, again := Ports(s), Ports(s)
	before := snapshot(s)
	got = got[:cap(got)]
	for i := range got {
		got[i] = -1
	}
	if !reflect.DeepEqual(s, before) || again[0] != 1000 || Ports(s)[0] != 1000 {
		t.Error("the ports share memory")
	}
	one := api.Spec{Main: []api.Container{{Ports: []int{1, 2, 3}[:2]}}}
	_ = append(Ports(one), 9)
	if l := one.Main[0].Ports[:3]; l[2] != 3 {
		t.Error("the ports share their spare room")
	}
}

// roomy is s with spare room behind each of its lists, in which stands what is wrong everywhere.
func roomy(s api.Spec) api.Spec {
	wrong := api.Container{Name: s.Name, Image: "none", Ports: []int{-1}}
	s.Labels = append(s.Labels, api.Label{Key: "-", Val: "/"})[:len(s.Labels)]
	s.Init = append(s.Init, wrong)[:len(s.Init)]
	s.Main = append(s.Main, wrong)[:len(s.Main)]
	for _, l := range [][]api.Container{s.Init, s.Main} {
		for i, c := range l {
			l[i].Ports = append(c.Ports, -1)[:len(c.Ports)]
		}
	}
	return s
}

// R4: what lies behind a list's length is neither read nor written
func TestSpareRoom(t *testing.T) {
	for _, plain := range []func() api.Spec{full, small} {
		a, b := roomy(plain()), plain()
		checkError(t, "Check", Check(a), "", api.OK)
		checkError(t, "Labels", Labels("labels", a.Labels), "", api.OK)
		checkError(t, "Frozen", Frozen(a, b), "", api.OK)
		checkError(t, "Frozen", Frozen(b, a), "", api.OK)
		if !Same(a, b) || !Same(b, a) || !Same(Clone(a), b) || !slices.Equal(Ports(a), Ports(b)) {
			t.Error("spare room is read")
		}
		label, init, main := a.Labels[:len(a.Labels)+1], a.Init[:len(a.Init)+1], a.Main[:len(a.Main)+1]
		if label[len(a.Labels)].Key != "-" || init[len(a.Init)].Image != "none" || main[len(a.Main)].Image != "none" {
			t.Error("spare room is written")
		}
		for _, c := range append(slices.Clone(a.Init), a.Main...) {
			if l := c.Ports[:len(c.Ports)+1]; l[len(c.Ports)] != -1 {
				t.Error("spare room behind ports is written")
			}
		}
		c := Clone(a)
		for _, label := range c.Labels[len(c.Labels):cap(c.Labels)] {
			if label != (api.Label{}) {
				t.Error("spare room is cloned")
			}
		}
	}
}

// 6.3
func TestClone(t *testing.T) {
	for _, s := range []api.Spec{{}, small(), full(), roomy(full()), {
		Name: "-", Labels: make([]api.Label, 9), Init: make([]api.Container, 9), Main: []api.Container{{Ports: []int{0, -1, 1 << 40}}}, Restart: -1, Grace: -1, Prio: -1,
	}} {
		before := snapshot(s)
		c := Clone(s)
		if !wantSame(c, s) || !Same(c, s) {
			t.Errorf("Clone = %+v, want %+v", c, s)
		}
		if !reflect.DeepEqual(s, before) {
			t.Error("what is cloned is changed")
		}
		checkError(t, "Frozen of the clone", Frozen(s, c), "", api.OK)
	}
}

// 6.3: lists without a member
func TestCloneOfEmptyLists(t *testing.T) {
	s := small()
	s.Labels, s.Init, s.Main[0].Ports = []api.Label{}, []api.Container{}, []int{}
	c := Clone(s)
	if len(c.Labels) != 0 || len(c.Init) != 0 || len(c.Main) != 1 || len(c.Main[0].Ports) != 0 || !Same(c, s) || !Same(c, small()) {
		t.Errorf("Clone = %+v", c)
	}
}

// 6.3: each part of a clone, changed, leaves what it was cloned of, and other clones, as they were; and the other way round
func TestClonesAreChangedAlone(t *testing.T) {
	at, _ := leaves("spec", reflect.ValueOf(full()))
	if len(at) != 1+2*mostLabels+(mostInit+mostMain)*10+mostMain*mostPorts+3 {
		t.Fatalf("%d parts", len(at))
	}
	for i, where := range at {
		s := full()
		clone, other := Clone(s), Clone(s)
		_, parts := leaves("spec", reflect.ValueOf(&clone).Elem())
		change(parts[i])
		if !reflect.DeepEqual(s, full()) || !reflect.DeepEqual(other, full()) {
			t.Errorf("%s of a clone is changed in what it was cloned of, or in another clone", where)
		}
		if Same(s, clone) {
			t.Errorf("%s of the clone is not changed", where)
		}

		s = full()
		clone = Clone(s)
		_, parts = leaves("spec", reflect.ValueOf(&s).Elem())
		change(parts[i])
		if !reflect.DeepEqual(clone, full()) {
			t.Errorf("%s is changed in the clone", where)
		}
	}
}

// 6.3, R4
func TestClonesShareNoMemory(t *testing.T) {
	// Texts that are built, so that no two of them are one in the program.
	s := plain(reflect.ValueOf(roomy(full()))).Interface().(api.Spec)
	s = roomy(s)
	one, two := Clone(s), Clone(s)
	a, b, c := memory(reflect.ValueOf(s)), memory(reflect.ValueOf(one)), memory(reflect.ValueOf(two))
	if overlap(a, b) || overlap(a, c) || overlap(b, c) {
		t.Error("a clone shares memory")
	}
	for i := range b {
		if overlap(b[i:i+1], b[i+1:]) {
			t.Error("two parts of a clone share memory")
		}
	}
	// An append to a list of a clone goes to no other list.
	for i := range one.Main {
		_ = append(one.Main[i].Ports, -7)
	}
	_, _, _ = append(one.Labels, api.Label{}), append(one.Init, api.Container{}), append(one.Main, api.Container{})
	if !Same(one, two) || !Same(one, s) {
		t.Error("an append to a clone changes it")
	}
}

// 6.3
func TestSame(t *testing.T) {
	for _, s := range []func() api.Spec{full, small, func() api.Spec { return api.Spec{} }} {
		if !Same(s(), s()) {
			t.Error("two specs alike")
		}
	}
	if Same(full(), small()) || Same(small(), api.Spec{}) {
		t.Error("two specs unlike")
	}
	// each number and each text
	at, _ := leaves("spec", reflect.ValueOf(full()))
	for i, where := range at {
		a, b := full(), full()
		_, parts := leaves("spec", reflect.ValueOf(&b).Elem())
		change(parts[i])
		checkUnlike(t, where, a, b)
	}
	// each update, those that may be among them
	for _, u := range updates() {
		a, b := full(), full()
		u.does(&b)
		checkUnlike(t, u.part, a, b)
	}
}

func checkUnlike(t *testing.T, what string, a, b api.Spec) {
	t.Helper()
	if Same(a, b) || Same(b, a) || !Same(b, b) {
		t.Errorf("unlike in %s alone", what)
	}
}

// 6.3: lists of other lengths, and in another order
func TestSameOfLists(t *testing.T) {
	for _, c := range []struct {
		what string
		does func(s *api.Spec)
	}{
		{"one label less", func(s *api.Spec) { s.Labels = s.Labels[:3] }},
		{"no labels", func(s *api.Spec) { s.Labels = nil }},
		{"one label more", func(s *api.Spec) { s.Labels = append(s.Labels, api.Label{}) }},
		{"labels in another order", func(s *api.Spec) { slices.Reverse(s.Labels) }},
		{"one init container less", func(s *api.Spec) { s.Init = s.Init[:2] }},
		{"no init containers", func(s *api.Spec) { s.Init = nil }},
		{"one init container more", func(s *api.Spec) { s.Init = append(s.Init, api.Container{}) }},
		{"init containers in another order", func(s *api.Spec) { slices.Reverse(s.Init) }},
		{"one container less", func(s *api.Spec) { s.Main = s.Main[:3] }},
		{"no containers", func(s *api.Spec) { s.Main = nil }},
		{"one container more", func(s *api.Spec) { s.Main = append(s.Main, api.Container{}) }},
		{"containers in another order", func(s *api.Spec) { slices.Reverse(s.Main) }},
		{"init containers and others the other way round", func(s *api.Spec) { s.Init, s.Main = s.Main, s.Init }},
		{"one port less", func(s *api.Spec) { s.Main[3].Ports = s.Main[3].Ports[:2] }},
		{"no ports", func(s *api.Spec) { s.Main[0].Ports = nil }},
		{"one port more", func(s *api.Spec) { s.Main[0].Ports = append(s.Main[0].Ports, 0) }},
		{"ports in another order", func(s *api.Spec) { slices.Reverse(s.Main[0].Ports) }},
		{"a port of an init container", func(s *api.Spec) { s.Init[0].Ports = []int{0} }},
		{"key and value the other way round", func(s *api.Spec) { s.Labels[0].Key, s.Labels[0].Val = s.Labels[0].Val, s.Labels[0].Key }},
		{"another case", func(s *api.Spec) { s.Name = strings.ToUpper(s.Name) }},
	} {
		a, b := full(), full()
		c.does(&b)
		checkUnlike(t, c.what, a, b)
	}
}

// 6.3, R3
func TestSameOfListsWithoutMembers(t *testing.T) {
	for _, does := range []func(s *api.Spec){
		func(s *api.Spec) { s.Labels = []api.Label{} },
		func(s *api.Spec) { s.Init = []api.Container{} },
		func(s *api.Spec) { s.Main[0].Ports = []int{} },
		func(s *api.Spec) { s.Labels, s.Init, s.Main[0].Ports = s.Labels[:0], s.Init[:0], make([]int, 0, 9) },
	} {
		a, b := small(), small()
		does(&b)
		if !Same(a, b) || !Same(b, a) {
			t.Errorf("%+v and %+v", a, b)
		}
	}
	if !Same(api.Spec{}, api.Spec{Labels: []api.Label{}, Init: []api.Container{}, Main: []api.Container{}}) {
		t.Error("the zero spec")
	}
	if Same(api.Spec{}, api.Spec{Main: make([]api.Container, 1)}) || Same(api.Spec{}, api.Spec{Labels: make([]api.Label, 1)}) {
		t.Error("one zero member")
	}
}
