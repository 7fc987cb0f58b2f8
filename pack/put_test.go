package pack

import (
	"reflect"
	"slices"
	"strings"
	"testing"

	"provost/api"
	"provost/fail"
	"provost/spec"
	"provost/wire"
)

// 7.1, 7.2: a small spec, byte by byte
func TestASmallSpecByteByByte(t *testing.T) {
	want := string([]byte{
		1, 'a', // Name
		0,      // Labels
		0,      // Init
		1,      // Main
		1, 'b', // its Name
		3, 'c', ':', '1', // its Image
		0, 0, 0, // Req
		0, 0, 0, // Lim
		0,    // Ports
		0, 0, // Probe
		1, // Restart
		0, // Grace
		0, // Prio
	})
	checkPut(t, "small", small(), want, api.OK)
	checkIsRead(t, "small", want, small())
	if wantBytes(small()) != want {
		t.Error("these tests write other bytes")
	}
}

// 7.1, 7.2: bytes written out
func TestSpecsWrittenOut(t *testing.T) {
	for _, c := range []struct {
		name string
		s    api.Spec
		want string
	}{
		{"each part another number", api.Spec{
			Name: "p", Labels: []api.Label{{Key: "k", Val: "v"}, {Key: "l/m", Val: ""}},
			Init: []api.Container{{Name: "i", Image: "j:2", Req: api.Res{CPU: 1, Mem: 2, Pids: 3}, Lim: api.Res{CPU: 4, Mem: 5, Pids: 6}}},
			Main: []api.Container{
				{Name: "m", Image: "n:3", Req: api.Res{CPU: 7, Mem: 8, Pids: 9}, Lim: api.Res{CPU: 10, Mem: 11, Pids: 12}, Ports: []int{13, 14, 15}, Probe: api.Probe{Every: 16, Fails: 7}},
				{Name: "q", Image: "r:4", Ports: []int{17}},
			},
			Restart: api.RFailure, Grace: 18, Prio: 9,
		}, "\x01p" + "\x02\x01k\x01v\x03l/m\x00" +
			"\x01\x01i\x03j:2\x01\x02\x03\x04\x05\x06\x00\x00\x00" +
			"\x02\x01m\x03n:3\x07\x08\x09\x0a\x0b\x0c\x03\x0d\x0e\x0f\x10\x07" +
			"\x01q\x03r:4\x00\x00\x00\x00\x00\x00\x01\x11\x00\x00" +
			"\x02\x12\x09"},
		{"numbers of several bytes", api.Spec{
			Name:    "web-1",
			Main:    []api.Container{{Name: "a", Image: "lib/web:1.0", Req: api.Res{CPU: 300, Mem: 1 << 40, Pids: 128}, Lim: api.Res{CPU: 16384, Mem: 1 << 40}, Ports: []int{443, 65535}, Probe: api.Probe{Every: 1000, Fails: 10}}},
			Restart: api.RAlways, Grace: 1000, Prio: 10,
		}, "\x05web-1" + "\x00" + "\x00" +
			"\x01\x01a\x0blib/web:1.0\xac\x02\x80\x80\x80\x80\x80\x20\x80\x01\x80\x80\x01\x80\x80\x80\x80\x80\x20\x00\x02\xbb\x03\xff\xff\x03\xe8\x07\x0a" +
			"\x03\xe8\x07\x0a"},
	} {
		checkPut(t, c.name, c.s, c.want, api.OK)
		checkIsRead(t, c.name, c.want, c.s)
	}
	for _, s := range []api.Spec{small(), full(), greatest()} {
		checkPut(t, s.Name, s, wantBytes(s), api.OK)
	}
}

// fault makes full a spec that may not be.
type fault struct {
	path string
	code api.Code
	// wire tells that its bytes can not be read: it is beyond a greatest one.
	wire bool
	does func(s *api.Spec)
}

// faults are a spec's of each kind that chapter 6 tells, in their order.
func faults() []fault {
	out := []fault{
		{"name", api.ErrName, false, func(s *api.Spec) { s.Name = "-" }},
		{"name", api.ErrName, false, func(s *api.Spec) { s.Name = "" }},
		{"name", api.ErrName, true, func(s *api.Spec) { s.Name = "abcdefghijklmnopq" }},
		{"labels", api.ErrLong, true, func(s *api.Spec) { s.Labels = append(s.Labels, api.Label{Key: "z"}) }},
		{"labels[0].key", api.ErrKey, false, func(s *api.Spec) { s.Labels[0].Key = "A" }},
		{"labels[0].key", api.ErrKey, true, func(s *api.Spec) { s.Labels[0].Key = strings.Repeat("a", longestKey+1) }},
		{"labels[1].key", api.ErrShape, false, func(s *api.Spec) { s.Labels[1].Key = "app" }},
		{"labels[2].key", api.ErrShape, false, func(s *api.Spec) { s.Labels[2].Key = "a" }},
		{"labels[3].val", api.ErrVal, false, func(s *api.Spec) { s.Labels[3].Val = "/" }},
		{"labels[3].val", api.ErrVal, true, func(s *api.Spec) { s.Labels[3].Val = "abcdefghijklmnopq" }},
		{"init", api.ErrLong, true, func(s *api.Spec) { s.Init = append(s.Init, api.Container{Name: "more", Image: "a:1"}) }},
	}
	out = append(out, containerFaults("init[2]", func(s *api.Spec) *api.Container { return &s.Init[2] })...)
	out = append(out,
		fault{"init[0].ports", api.ErrLong, false, func(s *api.Spec) { s.Init[0].Ports = []int{7} }},
		fault{"init[0].ports", api.ErrLong, true, func(s *api.Spec) { s.Init[0].Ports = []int{7, 8, 9, 10} }},
		fault{"init[0].probe.every", api.ErrRange, false, func(s *api.Spec) { s.Init[0].Probe = api.Probe{Every: 1, Fails: 1} }},
		fault{"init[0].probe.fails", api.ErrRange, false, func(s *api.Spec) { s.Init[0].Probe = api.Probe{Fails: 1} }},
		fault{"main", api.ErrLong, false, func(s *api.Spec) { s.Main = nil }},
		fault{"main", api.ErrLong, false, func(s *api.Spec) { s.Main = []api.Container{} }},
		fault{"main", api.ErrLong, true, func(s *api.Spec) { s.Main = append(s.Main, api.Container{Name: "more", Image: "a:1"}) }})
	out = append(out, containerFaults("main[0]", func(s *api.Spec) *api.Container { return &s.Main[0] })...)
	out = append(out, containerFaults("main[3]", func(s *api.Spec) *api.Container { return &s.Main[3] })...)
	out = append(out, portFaults()...)
	return append(out, numberFaults()...)
}

func containerFaults(at string, of func(s *api.Spec) *api.Container) []fault {
	var out []fault
	add := func(part string, code api.Code, wire bool, does func(c *api.Container)) {
		out = append(out, fault{at + "." + part, code, wire, func(s *api.Spec) { does(of(s)) }})
	}
	add("name", api.ErrName, false, func(c *api.Container) { c.Name = "Web" })
	add("name", api.ErrName, true, func(c *api.Container) { c.Name = "abcdefghijklmnopq" })
	add("name", api.ErrThere, false, func(c *api.Container) { c.Name = "init-1" })
	add("image", api.ErrImage, false, func(c *api.Container) { c.Image = "lib/web" })
	add("image", api.ErrImage, true, func(c *api.Container) { c.Image = "a:" + strings.Repeat("1", longestImage-1) })
	res := func(r *api.Res) []*int { return []*int{&r.CPU, &r.Mem, &r.Pids} }
	for i, name := range []string{"cpu", "mem", "pids"} {
		add("req."+name, api.ErrRange, true, func(c *api.Container) { *res(&c.Req)[i] = -1 })
		add("req."+name, api.ErrRange, true, func(c *api.Container) { *res(&c.Req)[i] = mostRes + 1 })
	}
	for i, name := range []string{"cpu", "mem", "pids"} {
		add("lim."+name, api.ErrRange, false, func(c *api.Container) { *res(&c.Lim)[i] = *res(&c.Req)[i] - 1 })
		add("lim."+name, api.ErrRange, true, func(c *api.Container) { *res(&c.Lim)[i] = mostRes + 1 })
		add("lim."+name, api.ErrRange, true, func(c *api.Container) { *res(&c.Lim)[i] = -1 })
	}
	return out
}

func portFaults() []fault {
	return []fault{
		{"main[1].ports", api.ErrLong, true, func(s *api.Spec) { s.Main[1].Ports = append(s.Main[1].Ports, 7) }},
		{"main[1].ports[0]", api.ErrRange, false, func(s *api.Spec) { s.Main[1].Ports[0] = 0 }},
		{"main[1].ports[1]", api.ErrRange, true, func(s *api.Spec) { s.Main[1].Ports[1] = -1 }},
		{"main[1].ports[2]", api.ErrRange, true, func(s *api.Spec) { s.Main[1].Ports[2] = mostPort + 1 }},
		{"main[1].ports[2]", api.ErrPort, false, func(s *api.Spec) { s.Main[1].Ports[2] = s.Main[1].Ports[0] }},
		{"main[2].ports[0]", api.ErrPort, false, func(s *api.Spec) { s.Main[2].Ports[0] = s.Main[0].Ports[2] }},
		{"main[2].probe.every", api.ErrRange, true, func(s *api.Spec) { s.Main[2].Probe.Every = -1 }},
		{"main[2].probe.every", api.ErrRange, true, func(s *api.Spec) { s.Main[2].Probe.Every = mostEvery + 1 }},
		{"main[2].probe.fails", api.ErrRange, false, func(s *api.Spec) { s.Main[2].Probe.Fails = 0 }},
		{"main[2].probe.fails", api.ErrRange, false, func(s *api.Spec) { s.Main[2].Probe.Every = 0 }},
		{"main[2].probe.fails", api.ErrRange, true, func(s *api.Spec) { s.Main[2].Probe.Fails = -1 }},
		{"main[2].probe.fails", api.ErrRange, true, func(s *api.Spec) { s.Main[2].Probe.Fails = mostFails + 1 }},
	}
}

func numberFaults() []fault {
	return []fault{
		{"restart", api.ErrRange, false, func(s *api.Spec) { s.Restart = 0 }},
		{"restart", api.ErrRange, true, func(s *api.Spec) { s.Restart = restarts + 1 }},
		{"restart", api.ErrRange, true, func(s *api.Spec) { s.Restart = -1 }},
		{"grace", api.ErrRange, true, func(s *api.Spec) { s.Grace = -1 }},
		{"grace", api.ErrRange, true, func(s *api.Spec) { s.Grace = mostGrace + 1 }},
		{"prio", api.ErrRange, true, func(s *api.Spec) { s.Prio = -1 }},
		{"prio", api.ErrRange, true, func(s *api.Spec) { s.Prio = mostPrio + 1 }},
	}
}

// 7.1, and 7.2: what may not be is not written, and not told of what is read
func TestSpecsThatMayNotBe(t *testing.T) {
	for _, f := range faults() {
		s := full()
		f.does(&s)
		checkError(t, "Check", spec.Check(s), f.path, f.code)
		checkPut(t, f.path, s, "", f.code)
		if f.wire {
			checkNotRead(t, f.path, wantBytes(s), api.ErrLong)
		} else {
			checkReadButMayNotBe(t, f.path, wantBytes(s), s, f.path, f.code)
		}
	}
	checkPut(t, "the zero spec", api.Spec{}, "", api.ErrName)
	checkReadButMayNotBe(t, "the zero spec", "\x00\x00\x00\x00\x00\x00\x00", api.Spec{}, "name", api.ErrName)
}

// 7.1: the first of two faults is told, whatever a writer would say of the later one
func TestTheFirstFaultIsTold(t *testing.T) {
	all := faults()
	for _, first := range all {
		for _, second := range []fault{all[0], all[len(all)-1], {does: func(s *api.Spec) { s.Grace = -1 }}} {
			s := full()
			first.does(&s)
			second.does(&s)
			e := spec.Check(s)
			checkPut(t, first.path+" and "+second.path, s, "", fail.Code(e))
		}
	}
	s := full()
	s.Main[0].Ports, s.Prio = []int{5, 5}, -1
	checkPut(t, "a port twice, and a number below 0", s, "", api.ErrPort)
	s = full()
	s.Name, s.Main[0].Req.CPU = "-", -1
	checkPut(t, "no name, and a number below 0", s, "", api.ErrName)
}

// 7.1: behind what was written already, and ahead of more
func TestPutAmongOthers(t *testing.T) {
	for _, s := range []api.Spec{small(), full(), greatest()} {
		w := wire.Write()
		w.Text("ahead")
		Put(w, s)
		checkEnd(t, "behind a text", w, "\x05ahead"+wantBytes(s), api.OK)
		Put(w, small())
		w.Num(300)
		PutLabels(w, s.Labels)
		checkEnd(t, "one behind the other", w, "\x05ahead"+wantBytes(s)+wantBytes(small())+"\xac\x02"+wantLabels(s.Labels), api.OK)
	}
	for _, f := range faults() {
		s := full()
		f.does(&s)
		w := wire.Write()
		w.Text("ahead")
		Put(w, s)
		checkEnd(t, f.path+" behind a text", w, "", f.code)
		w.Text("behind")
		Put(w, small())
		PutLabels(w, nil)
		checkEnd(t, f.path+" ahead of more", w, "", f.code)
	}
	first, second := full(), full()
	first.Prio, second.Name = 11, "-"
	w := wire.Write()
	Put(w, first)
	Put(w, second)
	checkEnd(t, "two that may not be", w, "", api.ErrRange)
}

// 7.1: into a writer that has an error
func TestPutBehindAnError(t *testing.T) {
	wrong := full()
	wrong.Name = "-"
	for _, c := range someCodes() {
		for name, put := range map[string]func(w *wire.Writer){
			"a spec that may be":     func(w *wire.Writer) { Put(w, full()) },
			"a spec that may not be": func(w *wire.Writer) { Put(w, wrong) },
			"labels":                 func(w *wire.Writer) { PutLabels(w, full().Labels) },
			"no labels":              func(w *wire.Writer) { PutLabels(w, nil) },
		} {
			w := wire.Write()
			w.Fail(c)
			put(w)
			checkEnd(t, name, w, "", c)
			w = wire.Write()
			w.Text("ahead")
			w.Fail(c)
			put(w)
			checkEnd(t, name+" behind a text", w, "", c)
		}
	}
}

// someLabels are lists of all sorts, those that may not be among them.
func someLabels() [][]api.Label {
	return [][]api.Label{
		nil,
		{},
		{{Key: "app", Val: "x"}},
		full().Labels,
		greatest().Labels,
		{{}},
		{{}, {}, {}, {}},
		{{Key: "A", Val: "/"}},
		{{Key: "b"}, {Key: "a"}},
		{{Key: "a"}, {Key: "a"}},
		{{Key: "\x00\xff", Val: "\x80"}, {Key: "", Val: "a b"}},
		{{Key: strings.Repeat("/", longestKey), Val: strings.Repeat("/", longestName)}},
	}
}

// 7.1, written out
func TestLabelsWrittenOut(t *testing.T) {
	for _, c := range []struct {
		l    []api.Label
		want string
	}{
		{nil, "\x00"},
		{[]api.Label{}, "\x00"},
		{[]api.Label{{}}, "\x01\x00\x00"},
		{[]api.Label{{Key: "app", Val: "x"}}, "\x01\x03app\x01x"},
		{[]api.Label{{Key: "b", Val: "c"}, {Key: "a"}}, "\x02\x01b\x01c\x01a\x00"},
		{[]api.Label{{Key: "-", Val: "/"}, {Key: "-", Val: "/"}}, "\x02\x01-\x01/\x01-\x01/"},
	} {
		w := wire.Write()
		PutLabels(w, c.l)
		checkEnd(t, "PutLabels", w, c.want, api.OK)
		r := wire.Read(c.want)
		if got := TakeLabels(r); !slices.Equal(got, c.l) || r.End() != api.OK {
			t.Errorf("TakeLabels of %q = %q, %d", c.want, got, int(r.Code()))
		}
	}
}

// 7.1: labels that may be and that may not, beyond every greatest one, too
func TestPutLabels(t *testing.T) {
	lists := append(someLabels(),
		make([]api.Label, mostLabels+1),
		make([]api.Label, 127), make([]api.Label, 128), make([]api.Label, 1000),
		append(full().Labels, full().Labels...),
		[]api.Label{{Key: strings.Repeat("k", longestKey+1), Val: strings.Repeat("v", longestName+1)}},
		[]api.Label{{Key: strings.Repeat("k", 5000), Val: strings.Repeat("v", 300)}, {Key: "behind", Val: "it"}})
	for _, l := range lists {
		was := slices.Clone(l)
		w := wire.Write()
		PutLabels(w, l)
		checkEnd(t, "PutLabels", w, wantLabels(l), api.OK)
		w.Bool(true)
		PutLabels(w, l)
		checkEnd(t, "PutLabels twice", w, wantLabels(l)+"\x01"+wantLabels(l), api.OK)
		if !slices.Equal(l, was) {
			t.Error("the labels are changed")
		}
	}
}

// R4: what is put is not changed, and what becomes of it later is not written
func TestWhatIsPutIsNotKept(t *testing.T) {
	s := full()
	want := wantBytes(s)
	w := wire.Write()
	Put(w, s)
	PutLabels(w, s.Labels)
	if !reflect.DeepEqual(s, full()) {
		t.Error("the spec is changed")
	}
	labels := wantLabels(s.Labels)
	s.Labels[0].Key, s.Init[0].Name, s.Main[0].Ports[0] = "x", "y", 9
	checkEnd(t, "Put", w, want+labels, api.OK)
}

// R4: what lies behind a list's length is neither read nor written
func TestSpareRoom(t *testing.T) {
	for _, plain := range []func() api.Spec{full, small, greatest} {
		s := plain()
		wrong := api.Container{Name: s.Name, Image: "none", Ports: []int{-1}}
		s.Labels = append(s.Labels, api.Label{Key: "-"})[:len(s.Labels)]
		s.Init = append(s.Init, wrong)[:len(s.Init)]
		s.Main = append(s.Main, wrong)[:len(s.Main)]
		for _, l := range [][]api.Container{s.Init, s.Main} {
			for i, c := range l {
				l[i].Ports = append(c.Ports, -1)[:len(c.Ports)]
			}
		}
		checkPut(t, "with spare room", s, wantBytes(plain()), api.OK)
		w := wire.Write()
		PutLabels(w, s.Labels)
		checkEnd(t, "labels with spare room", w, wantLabels(plain().Labels), api.OK)
		label, main := s.Labels[:len(s.Labels)+1], s.Main[:len(s.Main)+1]
		if label[len(s.Labels)].Key != "-" || main[len(s.Main)].Image != "none" {
			t.Error("spare room is written")
		}
	}
}

// R3
func TestListsWithoutMembers(t *testing.T) {
	s := small()
	s.Labels, s.Init, s.Main[0].Ports = []api.Label{}, make([]api.Container, 0, 3), make([]int, 0, 5)
	checkPut(t, "empty lists", s, wantBytes(small()), api.OK)
	checkIsRead(t, "empty lists", wantBytes(s), small())
}
