package ask

import (
	"math"
	"reflect"
	"slices"
	"strconv"
	"strings"
	"testing"

	"provost/api"
	"provost/fail"
	"provost/spec"
)

// 8.1: a kind that is none, whatever else there is
func TestKindsThatAreNone(t *testing.T) {
	for _, kind := range []int{0, -1, -12, lastKind + 1, lastKind + 2, 100, 128, 1 << 32, 1<<32 + 1, math.MinInt, math.MaxInt} {
		checkMayNotBe(t, "a kind alone", api.Call{Kind: kind}, "kind", api.ErrKind)
		for of := 1; of <= lastKind; of++ {
			c := plain(of)
			c.Kind = kind
			checkMayNotBe(t, "a kind with fields", c, "kind", api.ErrKind)
			for _, name := range fieldsOf(of) {
				spoil(&c, name)
			}
			checkMayNotBe(t, "a kind with fields that may not be", c, "kind", api.ErrKind)
		}
	}
}

// 8.1, 8.3: numbers at their edges, and beyond
func TestNumbersAtTheirEdges(t *testing.T) {
	for _, f := range numberFields() {
		for _, kind := range kindsWith(f.name) {
			what := Name(kind) + "'s " + f.path
			for _, n := range []int{f.least, f.least + 1, (f.least + f.most) / 2, f.most - 1, f.most} {
				c := plain(kind)
				*f.of(&c) = n
				checkMayBe(t, what, c, wantBytes(c))
			}
			for _, n := range []int{f.least - 1, f.least - 2, -1, -f.most, math.MinInt, f.most + 1, f.most + 2, 2 * f.most, math.MaxInt, 1<<32 + f.least} {
				c := plain(kind)
				*f.of(&c) = n
				checkMayNotBe(t, what, c, f.path, api.ErrRange)
				if n >= 0 && n < f.least {
					checkNotRead(t, what, wantBytes(c), f.path, api.ErrRange)
				} else {
					checkNotRead(t, what, wantBytes(c), "wire", api.ErrLong)
				}
			}
		}
	}
}

// 8.1, written out, so that the edges are seen
func TestEdgesWrittenOut(t *testing.T) {
	for _, c := range []struct {
		call api.Call
		path string
		code api.Code
	}{
		{api.Call{Kind: api.QGet, UID: 1}, "", api.OK},
		{api.Call{Kind: api.QGet, UID: 1073741824}, "", api.OK},
		{api.Call{Kind: api.QGet}, "uid", api.ErrRange},
		{api.Call{Kind: api.QGet, UID: 1073741825}, "uid", api.ErrRange},
		{api.Call{Kind: api.QStats, UID: -1}, "uid", api.ErrRange},
		{api.Call{Kind: api.QKill, UID: 1}, "", api.OK},
		{api.Call{Kind: api.QKill, UID: 1, Grace: 1000}, "", api.OK},
		{api.Call{Kind: api.QKill, UID: 1, Grace: -1}, "grace", api.ErrRange},
		{api.Call{Kind: api.QKill, UID: 1, Grace: 1001}, "grace", api.ErrRange},
		{api.Call{Kind: api.QOpen, UID: 1}, "", api.OK},
		{api.Call{Kind: api.QOpen, UID: 1, Ctr: 3}, "", api.OK},
		{api.Call{Kind: api.QOpen, UID: 1, Ctr: 4}, "ctr", api.ErrRange},
		{api.Call{Kind: api.QOpen, UID: 1, Ctr: -1}, "ctr", api.ErrRange},
		{api.Call{Kind: api.QClose, Id: 1}, "", api.OK},
		{api.Call{Kind: api.QCancel, Id: 1073741824}, "", api.OK},
		{api.Call{Kind: api.QClose}, "id", api.ErrRange},
		{api.Call{Kind: api.QCancel, Id: 1073741825}, "id", api.ErrRange},
		{api.Call{Kind: api.QWrite, Id: 1}, "", api.OK},
		{api.Call{Kind: api.QWrite, Id: 1, Data: "abcdefghijklmnopqrstuvwxyz012345"}, "", api.OK},
		{api.Call{Kind: api.QWrite, Id: 1, Data: "abcdefghijklmnopqrstuvwxyz0123456"}, "data", api.ErrLong},
		{api.Call{Kind: api.QRead, Id: 1, Most: 1}, "", api.OK},
		{api.Call{Kind: api.QRead, Id: 1, Most: 32}, "", api.OK},
		{api.Call{Kind: api.QRead, Id: 1}, "most", api.ErrRange},
		{api.Call{Kind: api.QRead, Id: 1, Most: 33}, "most", api.ErrRange},
		{api.Call{Kind: api.QList}, "", api.OK},
		{api.Call{Kind: api.QWatch}, "", api.OK},
		{api.Call{Kind: api.QUpdate, UID: 1, Spec: small()}, "", api.OK},
		{api.Call{Kind: api.QRun}, "spec.name", api.ErrName},
		{api.Call{}, "kind", api.ErrKind},
		{api.Call{Kind: 13, Id: 1}, "kind", api.ErrKind},
	} {
		if c.code == api.OK {
			checkMayBe(t, Name(c.call.Kind), c.call, wantBytes(c.call))
		} else {
			checkMayNotBe(t, Name(c.call.Kind), c.call, c.path, c.code)
		}
	}
}

// 8.1, 8.3, 8.4: data of each length, and of any bytes
func TestData(t *testing.T) {
	for size := range mostData + 1 {
		for _, letter := range []string{"a", "\x00", "\xff", "\x80"} {
			c := api.Call{Kind: api.QWrite, Id: 1, Data: strings.Repeat(letter, size)}
			checkMayBe(t, "data", c, "\x05\x01"+string(rune(size))+c.Data)
		}
	}
	for _, size := range []int{mostData + 1, mostData + 2, 64, 127, 128, 1000, 1 << 20} {
		c := api.Call{Kind: api.QWrite, Id: 1, Data: strings.Repeat("d", size)}
		checkMayNotBe(t, "data", c, "data", api.ErrLong)
		checkNotRead(t, "data", wantBytes(c), "wire", api.ErrLong)
	}
	// Bytes count, not letters.
	checkMayBe(t, "32 bytes", api.Call{Kind: api.QWrite, Id: 1, Data: strings.Repeat("\u00e9", 16)}, "\x05\x01\x20"+strings.Repeat("\xc3\xa9", 16))
	checkMayNotBe(t, "34 bytes", api.Call{Kind: api.QWrite, Id: 1, Data: strings.Repeat("\u00e9", 17)}, "data", api.ErrLong)
}

// 8.1, 8.3, 8.4: any revision
func TestAnyRev(t *testing.T) {
	for _, kind := range []int{api.QUpdate, api.QWatch} {
		for shift := range 64 {
			power := uint64(1) << shift
			for _, rev := range []uint64{0, power - 1, power, power + 1, math.MaxUint64 - power, math.MaxUint64} {
				c := plain(kind)
				c.Rev = rev
				checkMayBe(t, Name(kind)+"'s rev", c, wantBytes(c))
			}
		}
	}
	checkMayBe(t, "the greatest rev", api.Call{Kind: api.QWatch, Rev: math.MaxUint64}, "\x0b\xff\xff\xff\xff\xff\xff\xff\xff\xff\x01\x00")
}

// 8.1: specs that may not be, of each sort that chapter 6 tells
func TestSpecsThatMayNotBe(t *testing.T) {
	for _, x := range []struct {
		path string
		code api.Code
		does func(s *api.Spec)
	}{
		{"spec.name", api.ErrName, func(s *api.Spec) { *s = api.Spec{} }},
		{"spec.name", api.ErrName, func(s *api.Spec) { s.Name = "Web" }},
		{"spec.name", api.ErrName, func(s *api.Spec) { s.Name = "abcdefghijklmnopq" }},
		{"spec.labels", api.ErrLong, func(s *api.Spec) { s.Labels = make([]api.Label, 5) }},
		{"spec.labels[1].key", api.ErrKey, func(s *api.Spec) { s.Labels[1].Key = "A" }},
		{"spec.labels[1].key", api.ErrShape, func(s *api.Spec) { s.Labels[1].Key = "k" }},
		{"spec.labels[0].val", api.ErrVal, func(s *api.Spec) { s.Labels[0].Val = "/" }},
		{"spec.init", api.ErrLong, func(s *api.Spec) { s.Init = make([]api.Container, 4) }},
		{"spec.init[0].image", api.ErrImage, func(s *api.Spec) { s.Init[0].Image = "web" }},
		{"spec.init[0].ports", api.ErrLong, func(s *api.Spec) { s.Init[0].Ports = []int{1} }},
		{"spec.init[0].probe.every", api.ErrRange, func(s *api.Spec) { s.Init[0].Probe.Every = 1 }},
		{"spec.main", api.ErrLong, func(s *api.Spec) { s.Main = nil }},
		{"spec.main", api.ErrLong, func(s *api.Spec) { s.Main = make([]api.Container, 5) }},
		{"spec.main[1].name", api.ErrName, func(s *api.Spec) { s.Main[1].Name = "A" }},
		{"spec.main[1].name", api.ErrThere, func(s *api.Spec) { s.Main[1].Name = "i" }},
		{"spec.main[0].req.cpu", api.ErrRange, func(s *api.Spec) { s.Main[0].Req.CPU = -1 }},
		{"spec.main[0].lim.mem", api.ErrRange, func(s *api.Spec) { s.Main[0].Lim.Mem = 7 }},
		{"spec.main[0].lim.pids", api.ErrRange, func(s *api.Spec) { s.Main[0].Lim.Pids = 1<<40 + 1 }},
		{"spec.main[1].ports", api.ErrLong, func(s *api.Spec) { s.Main[1].Ports = []int{1, 2, 3, 4} }},
		{"spec.main[0].ports[2]", api.ErrRange, func(s *api.Spec) { s.Main[0].Ports[2] = 0 }},
		{"spec.main[1].ports[0]", api.ErrPort, func(s *api.Spec) { s.Main[1].Ports[0] = 14 }},
		{"spec.main[0].probe.fails", api.ErrRange, func(s *api.Spec) { s.Main[0].Probe.Fails = 0 }},
		{"spec.restart", api.ErrRange, func(s *api.Spec) { s.Restart = 0 }},
		{"spec.grace", api.ErrRange, func(s *api.Spec) { s.Grace = 1001 }},
		{"spec.prio", api.ErrRange, func(s *api.Spec) { s.Prio = 11 }},
	} {
		for _, kind := range []int{api.QRun, api.QUpdate} {
			c := plain(kind)
			x.does(&c.Spec)
			checkMayNotBe(t, Name(kind), c, x.path, x.code)
			checkReads(t, wantBytes(c))
			want := append([]string{"spec"}, fail.Path(spec.Check(c.Spec))...)
			if got := fail.Path(Check(c)); !slices.Equal(got, want) {
				t.Errorf("%s: the path %q, want %q", Name(kind), got, want)
			}
		}
	}
}

// 8.1: labels that may not be, of each sort that chapter 6 tells
func TestLabelsThatMayNotBe(t *testing.T) {
	for _, x := range []struct {
		path string
		code api.Code
		l    []api.Label
	}{
		{"sel", api.ErrLong, append(labels(), api.Label{Key: "z"})},
		{"sel", api.ErrLong, make([]api.Label, 5)},
		{"sel[0].key", api.ErrKey, []api.Label{{}}},
		{"sel[0].key", api.ErrKey, []api.Label{{Key: "A", Val: "/"}}},
		{"sel[1].key", api.ErrKey, []api.Label{{Key: "a"}, {Key: "b/"}}},
		{"sel[0].key", api.ErrKey, []api.Label{{Key: strings.Repeat("k", 34)}}},
		{"sel[1].key", api.ErrShape, []api.Label{{Key: "a"}, {Key: "a"}}},
		{"sel[2].key", api.ErrShape, []api.Label{{Key: "b"}, {Key: "c"}, {Key: "a", Val: "/"}}},
		{"sel[0].val", api.ErrVal, []api.Label{{Key: "b", Val: "a b"}, {Key: "a"}}},
		{"sel[3].val", api.ErrVal, []api.Label{{Key: "a"}, {Key: "b"}, {Key: "c"}, {Key: "d", Val: "abcdefghijklmnopq"}}},
	} {
		for _, kind := range []int{api.QList, api.QWatch} {
			c := plain(kind)
			c.Sel = x.l
			checkMayNotBe(t, Name(kind), c, x.path, x.code)
			checkReads(t, wantBytes(c))
			if got, want := fail.Path(Check(c)), fail.Path(spec.Labels("sel", x.l)); !slices.Equal(got, want) {
				t.Errorf("%s: the path %q, want %q", Name(kind), got, want)
			}
		}
	}
}

// alien sets one field of a call to something that is not zero.
type alien struct {
	name string
	does func(c *api.Call)
}

// aliens are a field of each sort, small and great and below 0; of a spec each of its parts.
func aliens() []alien {
	out := []alien{
		{"Rev", func(c *api.Call) { c.Rev = 1 }},
		{"Rev", func(c *api.Call) { c.Rev = math.MaxUint64 }},
		{"Rev", func(c *api.Call) { c.Rev = 1 << 32 }},
		{"Data", func(c *api.Call) { c.Data = "\x00" }},
		{"Data", func(c *api.Call) { c.Data = "hi" }},
		{"Data", func(c *api.Call) { c.Data = strings.Repeat("d", mostData+1) }},
		{"Sel", func(c *api.Call) { c.Sel = labels() }},
		{"Sel", func(c *api.Call) { c.Sel = make([]api.Label, 1) }},
		{"Sel", func(c *api.Call) { c.Sel = make([]api.Label, 5) }},
		{"Spec", func(c *api.Call) { c.Spec = small() }},
		{"Spec", func(c *api.Call) { c.Spec = full() }},
		{"Spec", func(c *api.Call) { c.Spec.Name = "a" }},
		{"Spec", func(c *api.Call) { c.Spec.Name = "-" }},
		{"Spec", func(c *api.Call) { c.Spec.Labels = make([]api.Label, 1) }},
		{"Spec", func(c *api.Call) { c.Spec.Init = make([]api.Container, 1) }},
		{"Spec", func(c *api.Call) { c.Spec.Main = make([]api.Container, 1) }},
	}
	for _, n := range []int{1, -1, 2, math.MaxInt, math.MinInt, 1 << 32} {
		for _, f := range numberFields() {
			out = append(out, alien{f.name, func(c *api.Call) { *f.of(c) = n }})
		}
		out = append(out,
			alien{"Spec", func(c *api.Call) { c.Spec.Restart = n }},
			alien{"Spec", func(c *api.Call) { c.Spec.Grace = n }},
			alien{"Spec", func(c *api.Call) { c.Spec.Prio = n }})
	}
	return out
}

// 8.1: a field that is not of the kind, and not zero
func TestFieldsOfOtherKinds(t *testing.T) {
	tried := map[string]bool{}
	for kind := 1; kind <= lastKind; kind++ {
		for _, x := range aliens() {
			if slices.Contains(fieldsOf(kind), x.name) {
				continue
			}
			c := plain(kind)
			x.does(&c)
			checkMayNotBe(t, Name(kind)+" with "+x.name, c, "call", api.ErrShape)
			tried[strconv.Itoa(kind)+x.name] = true
			// With another one beside it, too.
			for _, y := range allFields() {
				if !slices.Contains(fieldsOf(kind), y) {
					two := c
					fill(&two, y)
					checkMayNotBe(t, Name(kind)+" with "+x.name+" and "+y, two, "call", api.ErrShape)
				}
			}
		}
	}
	// 12 kinds with 9 fields, less those that are a kind's own.
	if want := 12*9 - 19; len(tried) != want {
		t.Errorf("%d were tried, not %d", len(tried), want)
	}
}

// 8.1, R3: lists without members are zero, nil or not
func TestListsWithoutMembers(t *testing.T) {
	for kind := 1; kind <= lastKind; kind++ {
		c := plain(kind)
		if !slices.Contains(fieldsOf(kind), "Sel") {
			c.Sel = make([]api.Label, 0, 3)
		}
		if !slices.Contains(fieldsOf(kind), "Spec") {
			c.Spec = api.Spec{Labels: []api.Label{}, Init: make([]api.Container, 0, 2), Main: []api.Container{}}
		}
		checkMayBe(t, Name(kind), c, wantBytes(plain(kind)))
	}
	for _, sel := range [][]api.Label{nil, {}, make([]api.Label, 0, 9)} {
		checkMayBe(t, "list", api.Call{Kind: api.QList, Sel: sel}, "\x09\x00")
		checkMayBe(t, "watch", api.Call{Kind: api.QWatch, Rev: 1, Sel: sel}, "\x0b\x01\x00")
	}
	s := small()
	s.Labels, s.Init, s.Main[0].Ports = []api.Label{}, []api.Container{}, []int{}
	checkMayBe(t, "run", api.Call{Kind: api.QRun, Spec: s}, "\x01"+smallBytes)
	s.Main = []api.Container{}
	checkMayNotBe(t, "run", api.Call{Kind: api.QRun, Spec: s}, "spec.main", api.ErrLong)
}

// 8.1: of two or more things that are wrong the first is told
func TestTheFirstWrongThingIsTold(t *testing.T) {
	for kind := 1; kind <= lastKind; kind++ {
		own := fieldsOf(kind)
		// Each choice of fields that may not be, with and without what is of other kinds.
		for choice := 1; choice < 1<<len(own); choice++ {
			c, path, code := plain(kind), "call", api.ErrShape
			for i := len(own) - 1; i >= 0; i-- {
				if choice>>i&1 == 0 {
					continue
				}
				if p, e, is := spoil(&c, own[i]); is {
					path, code = p, e
				}
			}
			if path != "call" {
				checkMayNotBe(t, Name(kind), c, path, code)
			}
			for _, x := range aliens() {
				if !slices.Contains(own, x.name) {
					two := c
					x.does(&two)
					checkMayNotBe(t, Name(kind)+" with "+x.name, two, path, code)
				}
			}
		}
	}
}

// 8.1, written out, so that the order is seen
func TestOrderWrittenOut(t *testing.T) {
	wrong := small()
	wrong.Prio, wrong.Name = 11, "-"
	long := strings.Repeat("d", mostData+1)
	for _, c := range []struct {
		call api.Call
		path string
		code api.Code
	}{
		{api.Call{Kind: api.QUpdate, Spec: wrong}, "uid", api.ErrRange},
		{api.Call{Kind: api.QUpdate, UID: 1, Spec: wrong, Grace: 1}, "spec.name", api.ErrName},
		{api.Call{Kind: api.QRun, UID: -1, Spec: wrong}, "spec.name", api.ErrName},
		{api.Call{Kind: api.QKill, Grace: 1001}, "uid", api.ErrRange},
		{api.Call{Kind: api.QKill, UID: 1, Grace: 1001, Rev: 1}, "grace", api.ErrRange},
		{api.Call{Kind: api.QOpen, Ctr: 4}, "uid", api.ErrRange},
		{api.Call{Kind: api.QOpen, UID: 2, Ctr: 4, Id: 1}, "ctr", api.ErrRange},
		{api.Call{Kind: api.QWrite, Data: long}, "id", api.ErrRange},
		{api.Call{Kind: api.QWrite, Id: 1, UID: 1, Data: long}, "data", api.ErrLong},
		{api.Call{Kind: api.QRead, Most: 33}, "id", api.ErrRange},
		{api.Call{Kind: api.QRead, UID: 1, Id: 1}, "most", api.ErrRange},
		{api.Call{Kind: api.QClose, UID: 1}, "id", api.ErrRange},
		{api.Call{Kind: api.QStats, Id: 1}, "uid", api.ErrRange},
		{api.Call{Kind: api.QList, Rev: 1, Sel: []api.Label{{}}}, "sel[0].key", api.ErrKey},
		{api.Call{Kind: api.QWatch, Rev: math.MaxUint64, UID: 1, Sel: make([]api.Label, 5)}, "sel", api.ErrLong},
		{api.Call{Kind: api.QCancel, Id: 1, UID: 1}, "call", api.ErrShape},
		{api.Call{Kind: api.QWatch, Id: 1}, "call", api.ErrShape},
		{api.Call{UID: -1, Id: -1, Most: -1, Spec: wrong, Data: long}, "kind", api.ErrKind},
	} {
		checkMayNotBe(t, Name(c.call.Kind), c.call, c.path, c.code)
	}
}

// R4: what is handed in is not changed, and what lies behind its lists' lengths is neither read nor written
func TestWhatIsHandedInStays(t *testing.T) {
	for kind := 1; kind <= lastKind; kind++ {
		for _, wrong := range []bool{false, true} {
			made := func() api.Call {
				c := plain(kind)
				if wrong {
					spoil(&c, fieldsOf(kind)[len(fieldsOf(kind))-1])
				}
				return c
			}
			c, want := made(), made()
			c.Sel = append(c.Sel, api.Label{Key: "-"})[:len(c.Sel)]
			c.Spec.Labels = append(c.Spec.Labels, api.Label{Key: "-"})[:len(c.Spec.Labels)]
			c.Spec.Init = append(c.Spec.Init, api.Container{Image: "-"})[:len(c.Spec.Init)]
			c.Spec.Main = append(c.Spec.Main, api.Container{Image: "-"})[:len(c.Spec.Main)]
			path, code := wantCheck(want)
			if wrong {
				checkMayNotBe(t, Name(kind), c, path, code)
			} else {
				checkMayBe(t, Name(kind), c, wantBytes(want))
			}
			if c.Sel[:len(c.Sel)+1][len(c.Sel)].Key != "-" || c.Spec.Labels[:len(c.Spec.Labels)+1][len(c.Spec.Labels)].Key != "-" ||
				c.Spec.Init[:len(c.Spec.Init)+1][len(c.Spec.Init)].Image != "-" || c.Spec.Main[:len(c.Spec.Main)+1][len(c.Spec.Main)].Image != "-" {
				t.Errorf("%s: spare room is written", Name(kind))
			}
			if !alike(c, want) || !reflect.DeepEqual(made(), want) {
				t.Errorf("%s: the call is changed", Name(kind))
			}
		}
	}
}
