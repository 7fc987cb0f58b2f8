package pack

import (
	"math"
	"reflect"
	"slices"
	"strings"
	"testing"
	"unsafe"

	"provost/api"
	"provost/fail"
	"provost/spec"
	"provost/wire"
)

// textAt and numberAt are a part of full, and its greatest one.
type textAt struct {
	path string
	most int
	of   func(s *api.Spec) *string
}

type numberAt struct {
	path string
	most int
	of   func(s *api.Spec) *int
}

// containersOf are the places of the containers of full.
func containersOf() map[string]func(s *api.Spec) *api.Container {
	out := map[string]func(s *api.Spec) *api.Container{}
	for i := range mostInit {
		out[index("init", i)] = func(s *api.Spec) *api.Container { return &s.Init[i] }
	}
	for i := range mostMain {
		out[index("main", i)] = func(s *api.Spec) *api.Container { return &s.Main[i] }
	}
	return out
}

func texts() []textAt {
	out := []textAt{{"name", longestName, func(s *api.Spec) *string { return &s.Name }}}
	for i := range mostLabels {
		out = append(out,
			textAt{index("labels", i) + ".key", longestKey, func(s *api.Spec) *string { return &s.Labels[i].Key }},
			textAt{index("labels", i) + ".val", longestName, func(s *api.Spec) *string { return &s.Labels[i].Val }})
	}
	for at, of := range containersOf() {
		out = append(out,
			textAt{at + ".name", longestName, func(s *api.Spec) *string { return &of(s).Name }},
			textAt{at + ".image", longestImage, func(s *api.Spec) *string { return &of(s).Image }})
	}
	return out
}

func numbers() []numberAt {
	out := []numberAt{
		{"restart", restarts, func(s *api.Spec) *int { return &s.Restart }},
		{"grace", mostGrace, func(s *api.Spec) *int { return &s.Grace }},
		{"prio", mostPrio, func(s *api.Spec) *int { return &s.Prio }},
	}
	for at, of := range containersOf() {
		out = append(out,
			numberAt{at + ".req.cpu", mostRes, func(s *api.Spec) *int { return &of(s).Req.CPU }},
			numberAt{at + ".req.mem", mostRes, func(s *api.Spec) *int { return &of(s).Req.Mem }},
			numberAt{at + ".req.pids", mostRes, func(s *api.Spec) *int { return &of(s).Req.Pids }},
			numberAt{at + ".lim.cpu", mostRes, func(s *api.Spec) *int { return &of(s).Lim.CPU }},
			numberAt{at + ".lim.mem", mostRes, func(s *api.Spec) *int { return &of(s).Lim.Mem }},
			numberAt{at + ".lim.pids", mostRes, func(s *api.Spec) *int { return &of(s).Lim.Pids }},
			numberAt{at + ".every", mostEvery, func(s *api.Spec) *int { return &of(s).Probe.Every }},
			numberAt{at + ".fails", mostFails, func(s *api.Spec) *int { return &of(s).Probe.Fails }})
		for k := range mostPorts {
			out = append(out, numberAt{at + "." + index("ports", k), mostPort, func(s *api.Spec) *int {
				c := of(s)
				for len(c.Ports) <= k {
					c.Ports = append(c.Ports, 1)
				}
				return &c.Ports[k]
			}})
		}
	}
	return out
}

// checkReadAsItIs holds that the bytes of s are read as s, and what is told of it is what Check tells.
func checkReadAsItIs(t *testing.T, what string, s api.Spec) {
	t.Helper()
	if e := spec.Check(s); e != nil {
		checkReadButMayNotBe(t, what, wantBytes(s), s, fail.Text(e), fail.Code(e))
		return
	}
	checkIsRead(t, what, wantBytes(s), s)
}

// 7.1, 7.2: texts of each length up to the greatest, and beyond
func TestTheGreatestTexts(t *testing.T) {
	for _, x := range texts() {
		for _, size := range []int{0, 1, x.most - 1, x.most, x.most + 1, x.most + 2, 127, 128, 300} {
			for _, letter := range []string{"a", "/", "\xff"} {
				s := full()
				*x.of(&s) = strings.Repeat(letter, size)
				if size <= x.most {
					checkReadAsItIs(t, x.path, s)
				} else {
					checkNotRead(t, x.path, wantBytes(s), api.ErrLong)
				}
			}
		}
	}
}

// 7.1, 7.2: numbers up to the greatest, and beyond
func TestTheGreatestNumbers(t *testing.T) {
	for _, x := range numbers() {
		for _, n := range []int{0, 1, 2, 3, 127, 128, x.most - 1, x.most, x.most + 1, x.most + 2, 2 * x.most, math.MaxInt, math.MinInt, -1} {
			s := full()
			*x.of(&s) = n
			if n >= 0 && n <= x.most {
				checkReadAsItIs(t, x.path, s)
			} else {
				checkNotRead(t, x.path, wantBytes(s), api.ErrLong)
			}
		}
	}
}

// 7.1, 7.2: lists up to the greatest, and beyond
func TestTheGreatestLists(t *testing.T) {
	container := api.Container{Name: "a", Image: "a:1"}
	type list struct {
		path string
		most int
		set  func(s *api.Spec, size int)
	}
	lists := []list{
		{"labels", mostLabels, func(s *api.Spec, size int) { s.Labels = make([]api.Label, size) }},
		{"init", mostInit, func(s *api.Spec, size int) { s.Init = slices.Repeat([]api.Container{container}, size) }},
		{"main", mostMain, func(s *api.Spec, size int) { s.Main = slices.Repeat([]api.Container{container}, size) }},
	}
	for at, of := range containersOf() {
		lists = append(lists, list{at + ".ports", mostPorts, func(s *api.Spec, size int) { of(s).Ports = make([]int, size) }})
	}
	for _, x := range lists {
		for _, size := range []int{0, 1, x.most - 1, x.most, x.most + 1, x.most + 2, 127, 128, 1000} {
			s := full()
			x.set(&s, size)
			if size <= x.most {
				checkReadAsItIs(t, x.path, s)
			} else {
				checkNotRead(t, x.path, wantBytes(s), api.ErrLong)
			}
		}
	}
}

// 7.3: the greatest spec of all
func TestTheGreatestSpec(t *testing.T) {
	checkError(t, "Check", spec.Check(greatest()), "", api.OK)
	checkIsRead(t, "the greatest", wantBytes(greatest()), greatest())
}

// 7.1, 7.2: a number that is too great is told ahead of the bytes that lack behind it
func TestTooGreatAndCut(t *testing.T) {
	for _, s := range []api.Spec{small(), full()} {
		ahead := ""
		for i, p := range layoutOf(s) {
			if p.number {
				checkNotRead(t, "the greatest number of 64 bits", ahead+strings.Repeat("\xff", 9)+"\x01", api.ErrLong)
				checkNotRead(t, "beyond all greatest ones", ahead+"\x81\x80\x80\x80\x80\x20", api.ErrLong)
			}
			ahead += layoutOf(s)[i].bytes
		}
	}
	for _, c := range []string{"\x11", "\x01a\x05", "\x01a\x01\x22", "\x01a\x01\x01k\x11", "\x01a\x00\x04", "\x01a\x00\x01\x11", "\x01a\x00\x01\x01i\x22", "\x01a\x00\x00\x05"} {
		checkNotRead(t, c, c, api.ErrLong)
	}
}

// 7.2: bytes that are cut, at each place
func TestBytesThatAreCut(t *testing.T) {
	for _, s := range []api.Spec{small(), full(), greatest()} {
		b := wantBytes(s)
		for cut := range len(b) {
			checkNotRead(t, "cut", b[:cut], api.ErrShort)
		}
	}
}

// 7.2: bytes with some more behind
func TestBytesWithMoreBehind(t *testing.T) {
	for _, s := range []api.Spec{small(), full(), greatest()} {
		b := wantBytes(s)
		for _, more := range []string{"\x00", "\x01", "x", "\x80", "\xff\xff", "more", b, strings.Repeat("\xff", 20)} {
			checkRaw(t, "more behind", b+more, s, len(b), api.OK)
			checkTake(t, "more behind", b+more, s, len(b), api.OK)
			checkOf(t, "more behind", b+more, api.Spec{}, "wire", api.ErrForm)
		}
	}
	// What can not be read comes ahead of what may not be.
	for _, f := range faults() {
		s := full()
		f.does(&s)
		b := wantBytes(s) + "x"
		if f.wire {
			checkOf(t, f.path+" with more behind", b, api.Spec{}, "wire", api.ErrLong)
			continue
		}
		checkRaw(t, f.path+" with more behind", b, s, len(b)-1, api.OK)
		checkTake(t, f.path+" with more behind", b, api.Spec{}, 0, f.code)
		checkOf(t, f.path+" with more behind", b, api.Spec{}, "wire", api.ErrForm)
	}
	// And so it is with what is cut behind what may not be.
	s := full()
	s.Name = "-"
	b := wantBytes(s)
	for cut := range len(b) {
		checkNotRead(t, "no name, and cut", b[:cut], api.ErrShort)
	}
}

// longer are the bytes of the same number with one more behind, which adds nothing.
func longer(number string) string {
	last := len(number) - 1
	return number[:last] + string([]byte{number[last] | 128}) + "\x00"
}

// 7.2, 7.3: numbers that are not canonical, at each place
func TestNumbersThatAreNotCanonical(t *testing.T) {
	for _, s := range []api.Spec{small(), full(), greatest()} {
		pieces := layoutOf(s)
		for i, p := range pieces {
			if !p.number {
				continue
			}
			for _, wrong := range []string{longer(p.bytes), strings.Repeat("\xff", 10), strings.Repeat("\x80", 10), strings.Repeat("\x80", 9) + "\x02"} {
				changed := slices.Clone(pieces)
				changed[i].bytes = wrong
				checkNotRead(t, "not canonical", changed.String(), api.ErrForm)
			}
		}
	}
}

// 7.2: several specs, one behind the other, and what is left of the reader
func TestSpecsSideBySide(t *testing.T) {
	specs := []api.Spec{small(), full(), greatest(), small()}
	b := ""
	for _, s := range specs {
		b += wantBytes(s)
	}
	for name, take := range map[string]func(r *wire.Reader) api.Spec{"Take": Take, "Raw": Raw} {
		r := wire.Read(b + "\x07")
		left := len(b) + 1
		for _, s := range specs {
			left -= len(wantBytes(s))
			if got := take(r); !alike(got, s) || r.Left() != left || r.Code() != api.OK {
				t.Errorf("%s = %+v, %d left, %d; want %+v, %d left", name, got, r.Left(), int(r.Code()), s, left)
			}
		}
		if n := r.Num(7); n != 7 || r.End() != api.OK {
			t.Errorf("behind them: %d, %d", n, int(r.Code()))
		}
	}
	// One that may not be stops what stands behind it.
	wrong := small()
	wrong.Restart = 0
	r := wire.Read(wantBytes(wrong) + wantBytes(small()))
	if got := Take(r); !isZero(got) || r.Code() != api.ErrRange {
		t.Errorf("Take = %+v, %d", got, int(r.Code()))
	}
	if got := Take(r); !isZero(got) || r.Code() != api.ErrRange || r.End() != api.ErrRange {
		t.Errorf("Take behind it = %+v, %d", got, int(r.Code()))
	}
}

// 7.1, 7.2: a reader that has an error already
func TestReadBehindAnError(t *testing.T) {
	wrong := full()
	wrong.Prio, wrong.Name = 0, "-"
	for _, c := range someCodes() {
		for _, b := range []string{"", wantBytes(small()), wantBytes(full()), wantBytes(wrong), "\x11", "\xff", wantLabels(full().Labels), strings.Repeat("\x00", 9)} {
			r := wire.Read(b)
			r.Fail(c)
			if got := Take(r); !isZero(got) || r.Code() != c {
				t.Errorf("Take behind %d = %+v, %d", int(c), got, int(r.Code()))
			}
			if got := TakeLabels(r); len(got) != 0 || r.Code() != c {
				t.Errorf("TakeLabels behind %d = %q, %d", int(c), got, int(r.Code()))
			}
			if Raw(r); r.Code() != c {
				t.Errorf("Raw behind %d: %d", int(c), int(r.Code()))
			}
		}
	}
	r := wire.Read("\x05" + wantBytes(full()))
	r.Num(4)
	if got := Take(r); !isZero(got) || r.Code() != api.ErrLong {
		t.Errorf("Take behind a number that is too great = %+v, %d", got, int(r.Code()))
	}
}

// 7.1
func TestTakeLabels(t *testing.T) {
	for _, l := range someLabels() {
		for _, more := range []string{"", "\x00", "\xff", "more"} {
			r := wire.Read("\x01" + wantLabels(l) + more)
			r.Bool()
			if got := TakeLabels(r); !slices.Equal(got, l) || r.Code() != api.OK || r.Left() != len(more) {
				t.Errorf("TakeLabels = %q, %d, %d left; want %q", got, int(r.Code()), r.Left(), l)
			}
		}
	}
}

func checkNoLabels(t *testing.T, b string, code api.Code) {
	t.Helper()
	for range 2 {
		r := wire.Read(b)
		if got := TakeLabels(r); len(got) != 0 || r.Code() != code {
			t.Errorf("TakeLabels of %.60q = %q, %d; want %d", b, got, int(r.Code()), int(code))
		}
	}
}

// 7.1: labels beyond the greatest ones, cut, and not canonical
func TestLabelsThatCanNotBeRead(t *testing.T) {
	label := func(key, val int) api.Label {
		return api.Label{Key: strings.Repeat("k", key), Val: strings.Repeat("v", val)}
	}
	for _, l := range [][]api.Label{
		make([]api.Label, mostLabels+1),
		make([]api.Label, 128),
		append(full().Labels, api.Label{Key: "z"}),
		{label(longestKey+1, 0)},
		{label(0, longestName+1)},
		{label(longestKey, longestName), label(longestKey, longestName), label(longestKey, longestName), label(longestKey, longestName+1)},
		{label(1, 1), label(1, 1), label(1, 1), label(longestKey+1, 1)},
		{label(300, 300)},
	} {
		checkNoLabels(t, wantLabels(l), api.ErrLong)
	}
	for _, l := range someLabels() {
		b := wantLabels(l)
		for cut := range len(b) {
			checkNoLabels(t, b[:cut], api.ErrShort)
		}
		var pieces layout
		pieces.labels(l)
		for i, p := range pieces {
			if p.number {
				changed := slices.Clone(pieces)
				changed[i].bytes = longer(p.bytes)
				checkNoLabels(t, changed.String(), api.ErrForm)
			}
		}
	}
	checkNoLabels(t, strings.Repeat("\xff", 9)+"\x01", api.ErrLong)
	checkNoLabels(t, strings.Repeat("\xff", 10), api.ErrForm)
	checkNoLabels(t, "\x05", api.ErrLong)
	checkNoLabels(t, "\x01\x22", api.ErrLong)
	checkNoLabels(t, "\x01\x01k\x11", api.ErrLong)
}

// span is where some memory begins and ends.
type span struct{ from, to uintptr }

// memory is all of what v keeps by pointers: its lists with their spare room, and its texts.
func memory(v reflect.Value) []span {
	var out []span
	switch v.Kind() {
	case reflect.Slice:
		if v.Cap() > 0 {
			out = append(out, span{v.Pointer(), v.Pointer() + uintptr(v.Cap())*v.Type().Elem().Size()})
		}
		for i := range v.Len() {
			out = append(out, memory(v.Index(i))...)
		}
	case reflect.Struct:
		for i := range v.NumField() {
			out = append(out, memory(v.Field(i))...)
		}
	case reflect.String:
		if s := v.String(); s != "" {
			from := uintptr(unsafe.Pointer(unsafe.StringData(s)))
			out = append(out, span{from, from + uintptr(len(s))})
		}
	}
	return out
}

func overlap(a, b []span) bool {
	for _, x := range a {
		for _, y := range b {
			if x.from < y.to && y.from < x.to {
				return true
			}
		}
	}
	return false
}

// R4: what is read shares no memory with the bytes, with what is read again, or within itself
func TestWhatIsReadIsNewMemory(t *testing.T) {
	b := wantBytes(greatest())
	for name, read := range map[string]func() any{
		"Of":         func() any { s, _ := Of(b); return s },
		"Take":       func() any { return Take(wire.Read(b)) },
		"Raw":        func() any { return Raw(wire.Read(b)) },
		"TakeLabels": func() any { return TakeLabels(wire.Read(b[1+longestName:])) },
	} {
		one, two := memory(reflect.ValueOf(read())), memory(reflect.ValueOf(read()))
		if len(one) < 2*mostLabels+1 || len(one) != len(two) {
			t.Errorf("%s: %d parts", name, len(one))
		}
		if overlap(one, memory(reflect.ValueOf(b))) || overlap(one, two) {
			t.Errorf("%s shares memory", name)
		}
		for i := range one {
			if overlap(one[i:i+1], one[i+1:]) {
				t.Errorf("two parts of what %s tells share memory", name)
			}
		}
	}
}
