package pack

import (
	"encoding/binary"
	"math"
	"reflect"
	"strconv"
	"strings"
	"testing"

	"provost/api"
	"provost/fail"
	"provost/spec"
	"provost/wire"
)

// The greatest ones as the document writes them, for the expectations of these tests.
const (
	longestName  = 16
	longestKey   = 33
	longestImage = 33
	mostLabels   = 4
	mostInit     = 3
	mostMain     = 4
	mostPorts    = 3
	mostRes      = 1 << 40
	mostPort     = 65535
	mostEvery    = 1000
	mostFails    = 10
	restarts     = 3
	mostGrace    = 1000
	mostPrio     = 10
)

func index(name string, i int) string { return name + "[" + strconv.Itoa(i) + "]" }

// small is a spec with as little as may be.
func small() api.Spec {
	return api.Spec{Name: "a", Main: []api.Container{{Name: "b", Image: "c:1"}}, Restart: api.RNever}
}

// full is a spec that may be, with as many members in each list as there may be, each part of it unlike all others.
func full() api.Spec {
	s := api.Spec{
		Name:    "web",
		Labels:  []api.Label{{Key: "app", Val: "x"}, {Key: "app/a", Val: "X.y_Z-1"}, {Key: "b", Val: ""}, {Key: "tier", Val: "y"}},
		Restart: api.RFailure, Grace: 300, Prio: 5,
	}
	for i := range mostInit {
		s.Init = append(s.Init, fullContainer("init", i))
	}
	for i := range mostMain {
		c := fullContainer("main", i)
		for k := range mostPorts {
			c.Ports = append(c.Ports, 100*(i+1)+k)
		}
		c.Probe = api.Probe{Every: 700 + i, Fails: 6 + i}
		s.Main = append(s.Main, c)
	}
	return s
}

func fullContainer(list string, i int) api.Container {
	n := strconv.Itoa(i)
	return api.Container{
		Name: list + "-" + n, Image: "lib/" + list + n + ":1.0",
		Req: api.Res{CPU: 10 + i, Mem: 20 + i, Pids: 30 + i}, Lim: api.Res{CPU: 1000 + i, Mem: 1<<30 + i, Pids: 60 + i},
	}
}

// greatest is a spec that may be, each part of it as great as it may be.
func greatest() api.Spec {
	long := strings.Repeat("z", longestName-1)
	container := func(last string) api.Container {
		most := api.Res{CPU: mostRes, Mem: mostRes, Pids: mostRes}
		return api.Container{Name: long + last, Image: long + "y/1234567:12345678", Req: most, Lim: most}
	}
	s := api.Spec{Name: long + "z", Restart: restarts, Grace: mostGrace, Prio: mostPrio}
	for i := range mostLabels {
		s.Labels = append(s.Labels, api.Label{Key: long + "a/" + long + strconv.Itoa(i), Val: long + "Z"})
	}
	for i := range mostInit {
		s.Init = append(s.Init, container(strconv.Itoa(i)))
	}
	for i := range mostMain {
		c := container(strconv.Itoa(mostInit + i))
		for k := range mostPorts {
			c.Ports = append(c.Ports, mostPort-i*mostPorts-k)
		}
		c.Probe = api.Probe{Every: mostEvery, Fails: mostFails}
		s.Main = append(s.Main, c)
	}
	return s
}

// piece is a number, or what stands behind a text's length.
type piece struct {
	bytes  string
	number bool
}

// layout are the pieces of a spec's bytes, written by the words of the chapter; a number below 0 becomes one that is too great.
type layout []piece

func (l *layout) number(n int) {
	*l = append(*l, piece{string(binary.AppendUvarint(nil, uint64(n))), true})
}

func (l *layout) text(s string) {
	l.number(len(s))
	*l = append(*l, piece{s, false})
}

func (l *layout) labels(labels []api.Label) {
	l.number(len(labels))
	for _, label := range labels {
		l.text(label.Key)
		l.text(label.Val)
	}
}

func (l *layout) containers(list []api.Container) {
	l.number(len(list))
	for _, c := range list {
		l.text(c.Name)
		l.text(c.Image)
		for _, n := range []int{c.Req.CPU, c.Req.Mem, c.Req.Pids, c.Lim.CPU, c.Lim.Mem, c.Lim.Pids} {
			l.number(n)
		}
		l.number(len(c.Ports))
		for _, port := range c.Ports {
			l.number(port)
		}
		l.number(c.Probe.Every)
		l.number(c.Probe.Fails)
	}
}

func (l layout) String() string {
	out := ""
	for _, p := range l {
		out += p.bytes
	}
	return out
}

func layoutOf(s api.Spec) layout {
	var l layout
	l.text(s.Name)
	l.labels(s.Labels)
	l.containers(s.Init)
	l.containers(s.Main)
	l.number(s.Restart)
	l.number(s.Grace)
	l.number(s.Prio)
	return l
}

// wantBytes are the bytes of s, whatever it is.
func wantBytes(s api.Spec) string { return layoutOf(s).String() }

func wantLabels(labels []api.Label) string {
	var l layout
	l.labels(labels)
	return l.String()
}

// scan reads by the words of the chapter, with the library's own form of numbers; it is at its end at the first code.
type scan struct {
	s    string
	at   int
	code api.Code
}

func (x *scan) number(most int) int {
	if x.code != api.OK {
		return 0
	}
	rest := x.s[x.at:]
	whole := strings.IndexFunc(asRunes(rest[:min(len(rest), 10)]), func(r rune) bool { return r < 128 }) >= 0
	n, size := binary.Uvarint([]byte(rest))
	switch {
	case !whole && len(rest) < 10:
		x.code = api.ErrShort
	case size <= 0 || size > 1 && rest[size-1] == 0:
		x.code = api.ErrForm
	case n > uint64(most):
		x.code = api.ErrLong
	default:
		x.at += size
		return int(n)
	}
	return 0
}

// asRunes makes a rune of each byte, so that no two of them are taken for one.
func asRunes(s string) string {
	var out []rune
	for i := range len(s) {
		out = append(out, rune(s[i]))
	}
	return string(out)
}

func (x *scan) text(most int) string {
	size := x.number(most)
	if size > len(x.s)-x.at {
		x.code = api.ErrShort
	}
	if x.code != api.OK {
		return ""
	}
	x.at += size
	return x.s[x.at-size : x.at]
}

func (x *scan) labels() []api.Label {
	labels := make([]api.Label, x.number(mostLabels))
	for i := range labels {
		labels[i].Key = x.text(longestKey)
		labels[i].Val = x.text(longestName)
	}
	return labels
}

func (x *scan) containers(most int) []api.Container {
	list := make([]api.Container, x.number(most))
	for i := range list {
		c := &list[i]
		c.Name = x.text(longestName)
		c.Image = x.text(longestImage)
		for _, n := range []*int{&c.Req.CPU, &c.Req.Mem, &c.Req.Pids, &c.Lim.CPU, &c.Lim.Mem, &c.Lim.Pids} {
			*n = x.number(mostRes)
		}
		c.Ports = make([]int, x.number(mostPorts))
		for k := range c.Ports {
			c.Ports[k] = x.number(mostPort)
		}
		c.Probe.Every = x.number(mostEvery)
		c.Probe.Fails = x.number(mostFails)
	}
	return list
}

// wantRaw says which spec b begins with, and how long its bytes are, or why there is none.
func wantRaw(b string) (s api.Spec, size int, code api.Code) {
	x := scan{s: b}
	s.Name = x.text(longestName)
	s.Labels = x.labels()
	s.Init = x.containers(mostInit)
	s.Main = x.containers(mostMain)
	s.Restart = x.number(restarts)
	s.Grace = x.number(mostGrace)
	s.Prio = x.number(mostPrio)
	return s, x.at, x.code
}

// checkEnd holds what a writer tells.
func checkEnd(t *testing.T, what string, w *wire.Writer, want string, code api.Code) {
	t.Helper()
	if s, c := w.End(); s != want || c != code {
		t.Errorf("%s: %.60q, %d; want %.60q, %d", what, s, int(c), want, int(code))
	}
}

// checkError holds an error's path and code; of OK it is to be none.
func checkError(t *testing.T, what string, e error, path string, code api.Code) {
	t.Helper()
	if fail.Text(e) != path || fail.Code(e) != code || (e == nil) != (code == api.OK) {
		t.Errorf("%s: %q, %d; want %q, %d", what, fail.Text(e), int(fail.Code(e)), path, int(code))
	}
}

func isZero(s api.Spec) bool { return reflect.DeepEqual(plain(s), api.Spec{}) }

// plain is a copy of s in which no list is empty (it is nil then).
func plain(s api.Spec) api.Spec {
	containers := func(l []api.Container) []api.Container {
		l = append([]api.Container(nil), l...)
		for i := range l {
			l[i].Ports = append([]int(nil), l[i].Ports...)
		}
		return l
	}
	s.Labels = append([]api.Label(nil), s.Labels...)
	s.Init, s.Main = containers(s.Init), containers(s.Main)
	return s
}

func alike(a, b api.Spec) bool { return reflect.DeepEqual(plain(a), plain(b)) }

// checkRaw holds what Raw reads of b, behind some bytes and none: s, of so many bytes; or a code.
func checkRaw(t *testing.T, what, b string, s api.Spec, size int, code api.Code) {
	t.Helper()
	for _, ahead := range []string{"", "\x02hi"} {
		r := wire.Read(ahead + b)
		if ahead != "" {
			r.Text(2)
		}
		got := Raw(r)
		if r.Code() != code {
			t.Errorf("%s: Raw: %d, want %d", what, int(r.Code()), int(code))
		} else if code == api.OK && (!alike(got, s) || r.Left() != len(b)-size) {
			t.Errorf("%s: Raw = %+v, %d left; want %+v, %d left", what, got, r.Left(), s, len(b)-size)
		}
	}
}

// checkTake holds what Take reads of b: s, of so many bytes; or a code, and nothing.
func checkTake(t *testing.T, what, b string, s api.Spec, size int, code api.Code) {
	t.Helper()
	for _, ahead := range []string{"", "\x02hi"} {
		r := wire.Read(ahead + b)
		if ahead != "" {
			r.Text(2)
		}
		got := Take(r)
		switch {
		case r.Code() != code:
			t.Errorf("%s: Take: %d, want %d", what, int(r.Code()), int(code))
		case code != api.OK && !isZero(got):
			t.Errorf("%s: Take = %+v beside %d", what, got, int(code))
		case code == api.OK && (!alike(got, s) || r.Left() != len(b)-size):
			t.Errorf("%s: Take = %+v, %d left; want %+v, %d left", what, got, r.Left(), s, len(b)-size)
		}
	}
}

// checkOf holds what Of tells of b: s; or a path and a code, and nothing.
func checkOf(t *testing.T, what, b string, s api.Spec, path string, code api.Code) {
	t.Helper()
	for range 2 {
		got, e := Of(b)
		checkError(t, what+": Of", e, path, code)
		if code != api.OK && !isZero(got) {
			t.Errorf("%s: Of = %+v beside %d", what, got, int(code))
		}
		if code == api.OK && !alike(got, s) {
			t.Errorf("%s: Of = %+v, want %+v", what, got, s)
		}
	}
}

// checkNotRead holds that b can not be read as a spec, by that code.
func checkNotRead(t *testing.T, what, b string, code api.Code) {
	t.Helper()
	checkRaw(t, what, b, api.Spec{}, 0, code)
	checkTake(t, what, b, api.Spec{}, 0, code)
	checkOf(t, what, b, api.Spec{}, "wire", code)
}

// checkReadButMayNotBe holds that b is just the bytes of s, which may not be, by that path and code.
func checkReadButMayNotBe(t *testing.T, what, b string, s api.Spec, path string, code api.Code) {
	t.Helper()
	checkRaw(t, what, b, s, len(b), api.OK)
	checkTake(t, what, b, api.Spec{}, 0, code)
	checkOf(t, what, b, api.Spec{}, path, code)
}

// checkIsRead holds that b is just the bytes of s, which may be.
func checkIsRead(t *testing.T, what, b string, s api.Spec) {
	t.Helper()
	checkRaw(t, what, b, s, len(b), api.OK)
	checkTake(t, what, b, s, len(b), api.OK)
	checkOf(t, what, b, s, "", api.OK)
}

// checkReads holds all that is read of any b against the words.
func checkReads(t *testing.T, b string) {
	t.Helper()
	s, size, code := wantRaw(b)
	if code != api.OK {
		checkNotRead(t, "what can not be read", b, code)
		return
	}
	if wantBytes(s) != b[:size] {
		t.Errorf("%.60q is not canonical", b[:size])
	}
	e := spec.Check(s)
	checkRaw(t, "any bytes", b, s, size, api.OK)
	checkTake(t, "any bytes", b, s, size, fail.Code(e))
	if size < len(b) {
		checkOf(t, "any bytes and more", b, api.Spec{}, "wire", api.ErrForm)
		return
	}
	checkOf(t, "any bytes", b, s, fail.Text(e), fail.Code(e))
	if got, e := Of(b); e == nil {
		checkPut(t, "what was read", got, b, api.OK)
	}
}

// checkPut holds what Put and Bytes write of s: its bytes, or that code alone.
func checkPut(t *testing.T, what string, s api.Spec, want string, code api.Code) {
	t.Helper()
	for range 2 {
		if b, c := Bytes(s); b != want || c != code {
			t.Errorf("%s: Bytes = %.60q, %d; want %.60q, %d", what, b, int(c), want, int(code))
		}
		w := wire.Write()
		Put(w, s)
		checkEnd(t, what+": Put", w, want, code)
	}
}

// someCodes are errors of all sorts.
func someCodes() []api.Code {
	return []api.Code{api.ErrRange, api.ErrLong, api.ErrForm, api.ErrShape, api.ErrName, api.ErrShort, api.ErrLine, 9, -1, math.MaxInt}
}

// the chapter's example
func TestExamples(t *testing.T) {
	s, e := Of("")
	checkError(t, "Of", e, "wire", api.ErrShort)
	if !isZero(s) {
		t.Errorf("Of = %+v", s)
	}
}
