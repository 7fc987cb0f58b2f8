package ask

import (
	"encoding/binary"
	"math"
	"reflect"
	"slices"
	"strings"
	"testing"

	"provost/api"
	"provost/fail"
	"provost/pack"
	"provost/spec"
	"provost/wire"
)

// The kinds and the greatest ones as the document writes them, for the expectations of these tests.
const (
	lastKind  = 12
	mostUID   = 1 << 30
	mostGrace = 1000
	lastCtr   = 3
	mostData  = 32
)

// fieldsOf are a call's fields by its kind, in order, by the words of the chapter.
func fieldsOf(kind int) []string {
	words := []string{"", "Spec", "UID Rev Spec", "UID Grace", "UID Ctr", "Id Data", "Id Most", "Id", "UID", "Sel", "UID", "Rev Sel", "Id"}
	if kind < 1 || kind > lastKind {
		return nil
	}
	return strings.Fields(words[kind])
}

// allFields are the names of all fields that a call may have beside its kind.
func allFields() []string {
	return []string{"UID", "Rev", "Spec", "Grace", "Ctr", "Id", "Most", "Data", "Sel"}
}

// kindsWith are the kinds whose calls have that field.
func kindsWith(name string) []int {
	var out []int
	for kind := 1; kind <= lastKind; kind++ {
		if slices.Contains(fieldsOf(kind), name) {
			out = append(out, kind)
		}
	}
	return out
}

// numbered is a field that is a number, from least to most.
type numbered struct {
	name, path  string
	least, most int
	of          func(c *api.Call) *int
}

func numberFields() []numbered {
	return []numbered{
		{"UID", "uid", 1, mostUID, func(c *api.Call) *int { return &c.UID }},
		{"Grace", "grace", 0, mostGrace, func(c *api.Call) *int { return &c.Grace }},
		{"Ctr", "ctr", 0, lastCtr, func(c *api.Call) *int { return &c.Ctr }},
		{"Id", "id", 1, mostUID, func(c *api.Call) *int { return &c.Id }},
		{"Most", "most", 1, mostData, func(c *api.Call) *int { return &c.Most }},
	}
}

func numberField(name string) numbered {
	for _, f := range numberFields() {
		if f.name == name {
			return f
		}
	}
	return numbered{}
}

// small is a spec with as little as may be, and smallBytes are its bytes.
func small() api.Spec {
	return api.Spec{Name: "a", Main: []api.Container{{Name: "b", Image: "c:1"}}, Restart: api.RNever}
}

const smallBytes = "\x01a" + "\x00" + "\x00" + "\x01\x01b\x03c:1\x00\x00\x00\x00\x00\x00\x00\x00\x00" + "\x01\x00\x00"

// full is a spec with something in each of its parts, and fullBytes are its bytes.
func full() api.Spec {
	return api.Spec{
		Name: "p", Labels: []api.Label{{Key: "k", Val: "v"}, {Key: "l/m", Val: ""}},
		Init: []api.Container{{Name: "i", Image: "j:2", Req: api.Res{CPU: 1, Mem: 2, Pids: 3}, Lim: api.Res{CPU: 4, Mem: 5, Pids: 6}}},
		Main: []api.Container{
			{Name: "m", Image: "n:3", Req: api.Res{CPU: 7, Mem: 8, Pids: 9}, Lim: api.Res{CPU: 10, Mem: 11, Pids: 12}, Ports: []int{13, 14, 15}, Probe: api.Probe{Every: 16, Fails: 7}},
			{Name: "q", Image: "r:4", Ports: []int{443}},
		},
		Restart: api.RFailure, Grace: 1000, Prio: 9,
	}
}

const fullBytes = "\x01p" + "\x02\x01k\x01v\x03l/m\x00" +
	"\x01\x01i\x03j:2\x01\x02\x03\x04\x05\x06\x00\x00\x00" +
	"\x02\x01m\x03n:3\x07\x08\x09\x0a\x0b\x0c\x03\x0d\x0e\x0f\x10\x07" +
	"\x01q\x03r:4\x00\x00\x00\x00\x00\x00\x01\xbb\x03\x00\x00" +
	"\x02\xe8\x07\x09"

func labels() []api.Label {
	return []api.Label{{Key: "app", Val: "x"}, {Key: "app/a", Val: "X.y_Z-1"}, {Key: "b", Val: ""}, {Key: "tier", Val: "y"}}
}

const labelsBytes = "\x04\x03app\x01x\x05app/a\x07X.y_Z-1\x01b\x00\x04tier\x01y"

// plain is a call of that kind that may be, with something in each of its fields.
func plain(kind int) api.Call {
	c := api.Call{Kind: kind}
	for _, name := range fieldsOf(kind) {
		fill(&c, name)
	}
	return c
}

// fill sets a field of c to something that is not zero, and that may be.
func fill(c *api.Call, name string) {
	switch name {
	case "UID":
		c.UID = 3
	case "Rev":
		c.Rev = 300
	case "Spec":
		c.Spec = full()
	case "Grace":
		c.Grace = 200
	case "Ctr":
		c.Ctr = 2
	case "Id":
		c.Id = 128
	case "Most":
		c.Most = 31
	case "Data":
		c.Data = "hi"
	case "Sel":
		c.Sel = labels()
	}
}

// spoil sets a field of c to something that may not be, and tells its path and code; false if there is no such thing.
func spoil(c *api.Call, name string) (string, api.Code, bool) {
	switch name {
	case "Rev":
		return "", api.OK, false
	case "Spec":
		c.Spec.Name = "-"
		return "spec.name", api.ErrName, true
	case "Data":
		c.Data = strings.Repeat("d", mostData+1)
		return "data", api.ErrLong, true
	case "Sel":
		c.Sel = []api.Label{{Key: "a", Val: "/"}}
		return "sel[0].val", api.ErrVal, true
	}
	f := numberField(name)
	*f.of(c) = f.most + 1
	return f.path, api.ErrRange, true
}

// piece is a number, or what stands behind a text's length.
type piece struct {
	bytes  string
	number bool
}

// layout are the pieces of a call's bytes, written by the words of the chapters; a number below 0 becomes one that is too great.
type layout []piece

func (l *layout) big(n uint64) {
	*l = append(*l, piece{string(binary.AppendUvarint(nil, n)), true})
}

func (l *layout) number(n int) { l.big(uint64(n)) }

func (l *layout) text(s string) {
	l.number(len(s))
	*l = append(*l, piece{s, false})
}

func (l *layout) labels(labels []api.Label) {
	l.number(len(labels))
	for _, label := range labels {
		l.text(label.Key)
		l.text(label.Val)
	}
}

func (l *layout) containers(list []api.Container) {
	l.number(len(list))
	for _, c := range list {
		l.text(c.Name)
		l.text(c.Image)
		for _, n := range []int{c.Req.CPU, c.Req.Mem, c.Req.Pids, c.Lim.CPU, c.Lim.Mem, c.Lim.Pids} {
			l.number(n)
		}
		l.number(len(c.Ports))
		for _, port := range c.Ports {
			l.number(port)
		}
		l.number(c.Probe.Every)
		l.number(c.Probe.Fails)
	}
}

func (l *layout) spec(s api.Spec) {
	l.text(s.Name)
	l.labels(s.Labels)
	l.containers(s.Init)
	l.containers(s.Main)
	l.number(s.Restart)
	l.number(s.Grace)
	l.number(s.Prio)
}

func (l layout) String() string {
	out := ""
	for _, p := range l {
		out += p.bytes
	}
	return out
}

func layoutOf(c api.Call) layout {
	var l layout
	l.number(c.Kind)
	for _, name := range fieldsOf(c.Kind) {
		switch name {
		case "Rev":
			l.big(c.Rev)
		case "Spec":
			l.spec(c.Spec)
		case "Data":
			l.text(c.Data)
		case "Sel":
			l.labels(c.Sel)
		default:
			l.number(*numberField(name).of(&c))
		}
	}
	return l
}

// wantBytes are the bytes of c, whether it may be or not.
func wantBytes(c api.Call) string { return layoutOf(c).String() }

// wantCheck says why c may not be, by the words of the chapter.
func wantCheck(c api.Call) (string, api.Code) {
	if c.Kind < 1 || c.Kind > lastKind {
		return "kind", api.ErrKind
	}
	for _, name := range fieldsOf(c.Kind) {
		if path, code := wantField(c, name); code != api.OK {
			return path, code
		}
	}
	for _, name := range allFields() {
		if !slices.Contains(fieldsOf(c.Kind), name) && !isEmpty(reflect.ValueOf(c).FieldByName(name)) {
			return "call", api.ErrShape
		}
	}
	return "", api.OK
}

func wantField(c api.Call, name string) (string, api.Code) {
	switch name {
	case "Rev":
		return "", api.OK
	case "Spec":
		e := spec.Check(c.Spec)
		return strings.TrimSuffix("spec."+fail.Text(e), "."), fail.Code(e)
	case "Sel":
		e := spec.Labels("sel", c.Sel)
		return fail.Text(e), fail.Code(e)
	case "Data":
		if len(c.Data) > mostData {
			return "data", api.ErrLong
		}
		return "", api.OK
	}
	if f := numberField(name); *f.of(&c) < f.least || *f.of(&c) > f.most {
		return f.path, api.ErrRange
	}
	return "", api.OK
}

// isEmpty tells whether v is zero, lists being without members.
func isEmpty(v reflect.Value) bool {
	switch v.Kind() {
	case reflect.Slice:
		return v.Len() == 0
	case reflect.Struct:
		for i := range v.NumField() {
			if !isEmpty(v.Field(i)) {
				return false
			}
		}
		return true
	}
	return v.IsZero()
}

// alike tells whether all parts of both are the same, lists without members being one.
func alike(a, b api.Call) bool {
	if !spec.Same(a.Spec, b.Spec) || !slices.Equal(a.Sel, b.Sel) {
		return false
	}
	a.Spec, b.Spec, a.Sel, b.Sel = api.Spec{}, api.Spec{}, nil, nil
	return reflect.DeepEqual(a, b)
}

// wantRead says which call b is, or by which path and code it is none, by the words of the chapters.
func wantRead(b string) (api.Call, string, api.Code) {
	r := wire.Read(b)
	c := api.Call{Kind: r.Num(lastKind)}
	if r.Code() == api.OK && c.Kind == 0 {
		return api.Call{}, "kind", api.ErrKind
	}
	for _, name := range fieldsOf(c.Kind) {
		switch name {
		case "Rev":
			c.Rev = r.Big()
		case "Spec":
			c.Spec = pack.Raw(r)
		case "Data":
			c.Data = r.Text(mostData)
		case "Sel":
			c.Sel = pack.TakeLabels(r)
		default:
			f := numberField(name)
			*f.of(&c) = r.Num(f.most)
		}
	}
	if code := r.End(); code != api.OK {
		return api.Call{}, "wire", code
	}
	if path, code := wantCheck(c); code != api.OK {
		return api.Call{}, path, code
	}
	return c, "", api.OK
}

// checkError holds that e has that path and code, and that it is nil beside OK.
func checkError(t *testing.T, what string, e error, path string, code api.Code) {
	t.Helper()
	if fail.Text(e) != path || fail.Code(e) != code || (e == nil) != (code == api.OK) {
		t.Errorf("%s: %d at %q, want %d at %q", what, int(fail.Code(e)), fail.Text(e), int(code), path)
	}
}

// checkMayBe holds that c may be, that b are its bytes, and that they are read as c.
func checkMayBe(t *testing.T, what string, c api.Call, b string) {
	t.Helper()
	for range 2 {
		checkError(t, what+": Check", Check(c), "", api.OK)
		if got, code := Bytes(c); got != b || code != api.OK {
			t.Errorf("%s: Bytes = %.60q, %d; want %.60q", what, got, int(code), b)
		}
		got, e := Of(b)
		checkError(t, what+": Of", e, "", api.OK)
		if !alike(got, c) {
			t.Errorf("%s: Of = %+v, want %+v", what, got, c)
		}
	}
}

// checkMayNotBe holds that c may not be, by that path and code, and that it has no bytes.
func checkMayNotBe(t *testing.T, what string, c api.Call, path string, code api.Code) {
	t.Helper()
	for range 2 {
		checkError(t, what+": Check", Check(c), path, code)
		if got, e := Bytes(c); got != "" || e != code {
			t.Errorf("%s: Bytes = %.60q, %d; want %d", what, got, int(e), int(code))
		}
	}
}

// checkNotRead holds that b is no call's, by that path and code.
func checkNotRead(t *testing.T, what, b, path string, code api.Code) {
	t.Helper()
	for range 2 {
		got, e := Of(b)
		checkError(t, what+": Of", e, path, code)
		if !reflect.DeepEqual(got, api.Call{}) {
			t.Errorf("%s: Of = %+v beside %d", what, got, int(code))
		}
	}
}

// checkCall holds all that is told of any c, and of its bytes, against the words.
func checkCall(t *testing.T, what string, c api.Call) {
	t.Helper()
	if path, code := wantCheck(c); code != api.OK {
		checkMayNotBe(t, what, c, path, code)
	} else {
		checkMayBe(t, what, c, wantBytes(c))
	}
	checkReads(t, wantBytes(c))
}

// checkReads holds what is read of any b against the words.
func checkReads(t *testing.T, b string) {
	t.Helper()
	c, path, code := wantRead(b)
	if code != api.OK {
		checkNotRead(t, "any bytes", b, path, code)
		return
	}
	checkMayBe(t, "any bytes", c, b)
}

// 8.2
func TestNames(t *testing.T) {
	all := []string{"", "run", "update", "kill", "open", "write", "read", "close", "stats", "list", "get", "watch", "cancel"}
	for kind := -300; kind <= 300; kind++ {
		want := ""
		if kind > 0 && kind < len(all) {
			want = all[kind]
		}
		if got := Name(kind); got != want {
			t.Errorf("Name(%d) = %q, want %q", kind, got, want)
		}
	}
	for _, kind := range []int{math.MinInt, math.MinInt + 1, math.MaxInt, math.MaxInt - 1, 1 << 32, 1<<32 + 1, -1 << 32, 1<<63 - 12} {
		if got := Name(kind); got != "" {
			t.Errorf("Name(%d) = %q", kind, got)
		}
	}
	for want, name := range all {
		if got := Kind(name); got != want {
			t.Errorf("Kind(%q) = %d, want %d", name, got, want)
		}
	}
	if Name(api.QRun) != "run" || Name(api.QStats) != "stats" || Name(api.QCancel) != "cancel" || Kind("watch") != api.QWatch || Kind("kill") != api.QKill {
		t.Error("the kinds' names")
	}
}

// 8.2: texts that are no name
func TestKindOfOthers(t *testing.T) {
	others := []string{"x", "0", "1", "12", " ", "\x00", "\x01", "\xff", "Run", "RUN", "runs", "ru", "r", "run ", " run", "run\x00", "run.update", "runupdate", "QRun", "stat", "cancell", "cance", "updat", "watches", "exec", strings.Repeat("run", 1000)}
	for kind := 1; kind <= lastKind; kind++ {
		name := Name(kind)
		for i := range name {
			others = append(others, name[:i]+name[i+1:], name[:i]+"x"+name[i:], name[:i]+strings.ToUpper(name[i:i+1])+name[i+1:])
		}
		others = append(others, name+name, name+"s")
	}
	for _, name := range others {
		if got := Kind(name); got != 0 {
			t.Errorf("Kind(%.40q) = %d", name, got)
		}
	}
}

// 8.2
func TestWrites(t *testing.T) {
	for kind := -300; kind <= 300; kind++ {
		if got, want := Writes(kind), kind == 1 || kind == 2 || kind == 3; got != want {
			t.Errorf("Writes(%d) = %v", kind, got)
		}
	}
	for _, kind := range []int{math.MinInt, math.MinInt + 1, math.MaxInt, 1<<32 + 1, 1<<32 + 2, -1<<32 + 3} {
		if Writes(kind) {
			t.Errorf("Writes(%d)", kind)
		}
	}
	if !Writes(api.QRun) || !Writes(api.QUpdate) || !Writes(api.QKill) || Writes(api.QOpen) || Writes(api.QWrite) {
		t.Error("what writes")
	}
}

// the chapter's example
func TestExamples(t *testing.T) {
	checkMayBe(t, "a cancel of 5", api.Call{Kind: api.QCancel, Id: 5}, "\x0c\x05")
}
