package spec

import (
	"math"
	"math/rand"
	"reflect"
	"strconv"
	"strings"
	"testing"
	"unsafe"

	"provost/api"
	"provost/fail"
	"provost/text"
)

// The limits as the document writes them, for the expectations of these tests.
const (
	mostLabels = 4
	mostInit   = 3
	mostMain   = 4
	mostPorts  = 3
	mostRes    = 1 << 40
	mostPort   = 65535
	mostGrace  = 1000
	mostPrio   = 10
	mostEvery  = 1000
	mostFails  = 10
)

func index(name string, i int) string { return name + "[" + strconv.Itoa(i) + "]" }

// small is a spec with as little as may be.
func small() api.Spec {
	return api.Spec{Name: "a", Main: []api.Container{{Name: "a", Image: "a:1"}}, Restart: api.RNever}
}

// full is a spec that may be, with as many members in each list as there may be, each anew.
func full() api.Spec {
	s := api.Spec{
		Name:    "web",
		Labels:  []api.Label{{Key: "app", Val: "x"}, {Key: "app/a", Val: "X.y_Z-1"}, {Key: "b", Val: ""}, {Key: "tier", Val: "x"}},
		Restart: api.RFailure, Grace: 30, Prio: 5,
	}
	for i := range mostInit {
		s.Init = append(s.Init, fullContainer("init", i))
	}
	for i := range mostMain {
		c := fullContainer("main", i)
		for k := range mostPorts {
			c.Ports = append(c.Ports, 1000*(i+1)+k)
		}
		c.Probe = api.Probe{Every: 5, Fails: 3}
		s.Main = append(s.Main, c)
	}
	return s
}

func fullContainer(list string, i int) api.Container {
	n := strconv.Itoa(i)
	return api.Container{
		Name: list + "-" + n, Image: "lib/" + list + n + ":1.0",
		Req: api.Res{CPU: 10, Mem: 20, Pids: 30}, Lim: api.Res{CPU: 40, Mem: 50, Pids: 60},
	}
}

// containers are the places of the containers of full, the init ones ahead.
func containers() []place {
	var out []place
	for i := range mostInit {
		out = append(out, place{"init", i})
	}
	for i := range mostMain {
		out = append(out, place{"main", i})
	}
	return out
}

// place is where a container stands in a spec.
type place struct {
	list string
	i    int
}

func (p place) String() string { return index(p.list, p.i) }

func (p place) of(s *api.Spec) *api.Container {
	if p.list == "init" {
		return &s.Init[p.i]
	}
	return &s.Main[p.i]
}

// resources are the three numbers, each as it is called in a path.
func resources(r *api.Res) []struct {
	name string
	n    *int
} {
	return []struct {
		name string
		n    *int
	}{{"cpu", &r.CPU}, {"mem", &r.Mem}, {"pids", &r.Pids}}
}

// checkError holds an error's path and code; of OK it is to be none.
func checkError(t *testing.T, what string, e error, path string, code api.Code) {
	t.Helper()
	if fail.Text(e) != path || fail.Code(e) != code || (e == nil) != (code == api.OK) {
		t.Errorf("%s: %q, %d; want %q, %d", what, fail.Text(e), int(fail.Code(e)), path, int(code))
	}
}

// rule is one thing of the words: whether it holds, and what is told where it does not.
type rule struct {
	holds bool
	path  string
	code  api.Code
}

// broken tells what is told of the first rule that does not hold.
func broken(rules []rule) (string, api.Code) {
	for _, r := range rules {
		if !r.holds {
			return r.path, r.code
		}
	}
	return "", api.OK
}

// rulesOf are the words of the chapter on s, in their order.
func rulesOf(s api.Spec) []rule {
	out := []rule{{text.Name(s.Name) == api.OK, "name", api.ErrName}}
	out = append(out, rulesOfLabels("labels", s.Labels)...)
	out = append(out, rule{len(s.Init) <= mostInit, "init", api.ErrLong})
	for i := range s.Init {
		out = append(out, rulesOfContainer(index("init", i), true, s.Init[i], s.Init[:i])...)
	}
	out = append(out, rule{len(s.Main) >= 1 && len(s.Main) <= mostMain, "main", api.ErrLong})
	for i := range s.Main {
		ahead := append(append([]api.Container{}, s.Init...), s.Main[:i]...)
		out = append(out, rulesOfContainer(index("main", i), false, s.Main[i], ahead)...)
	}
	return append(out,
		rule{s.Restart == api.RNever || s.Restart == api.RFailure || s.Restart == api.RAlways, "restart", api.ErrRange},
		rule{s.Grace >= 0 && s.Grace <= mostGrace, "grace", api.ErrRange},
		rule{s.Prio >= 0 && s.Prio <= mostPrio, "prio", api.ErrRange})
}

func rulesOfLabels(name string, l []api.Label) []rule {
	out := []rule{{len(l) <= mostLabels, name, api.ErrLong}}
	for i, label := range l {
		out = append(out,
			rule{text.Key(label.Key) == api.OK, index(name, i) + ".key", api.ErrKey},
			rule{i == 0 || strings.Compare(label.Key, l[max(i-1, 0)].Key) > 0, index(name, i) + ".key", api.ErrShape},
			rule{text.Val(label.Val) == api.OK, index(name, i) + ".val", api.ErrVal})
	}
	return out
}

func rulesOfContainer(at string, init bool, c api.Container, ahead []api.Container) []rule {
	names, ports := map[string]int{}, map[int]int{}
	for _, other := range ahead {
		names[other.Name]++
		for _, port := range other.Ports {
			ports[port]++
		}
	}
	out := []rule{
		{text.Name(c.Name) == api.OK, at + ".name", api.ErrName},
		{names[c.Name] == 0, at + ".name", api.ErrThere},
		{text.Image(c.Image) == api.OK, at + ".image", api.ErrImage},
	}
	for _, r := range resources(&c.Req) {
		out = append(out, rule{*r.n >= 0 && *r.n <= mostRes, at + ".req." + r.name, api.ErrRange})
	}
	for i, r := range resources(&c.Lim) {
		ok := *r.n == 0 || *r.n >= *resources(&c.Req)[i].n && *r.n <= mostRes
		out = append(out, rule{ok, at + ".lim." + r.name, api.ErrRange})
	}
	most, every := mostPorts, mostEvery
	if init {
		most, every = 0, 0
	}
	out = append(out, rule{len(c.Ports) <= most, at + ".ports", api.ErrLong})
	for k, port := range c.Ports {
		out = append(out,
			rule{port >= 1 && port <= mostPort, at + "." + index("ports", k), api.ErrRange},
			rule{ports[port] == 0, at + "." + index("ports", k), api.ErrPort})
		ports[port]++
	}
	fails := c.Probe.Fails >= 1 && c.Probe.Fails <= mostFails
	if c.Probe.Every == 0 {
		fails = c.Probe.Fails == 0
	}
	return append(out,
		rule{c.Probe.Every >= 0 && c.Probe.Every <= every, at + ".probe.every", api.ErrRange},
		rule{fails, at + ".probe.fails", api.ErrRange})
}

// wantFrozen says what an update may not change, as the chapter's promise has it.
func wantFrozen(was, now api.Spec) (string, api.Code) {
	rules := []rule{
		{was.Name == now.Name, "name", api.ErrShape},
		{sameList(was.Init, now.Init), "init", api.ErrShape},
		{len(was.Main) == len(now.Main), "main", api.ErrShape},
	}
	for i := range min(len(was.Main), len(now.Main)) {
		a, b := was.Main[i], now.Main[i]
		image := a.Image == b.Image || text.Same(a.Image, b.Image)
		a.Image, b.Image = "", ""
		rules = append(rules,
			rule{sameList([]api.Container{a}, []api.Container{b}), index("main", i), api.ErrShape},
			rule{image, index("main", i) + ".image", api.ErrImage})
	}
	return broken(rules)
}

// sameList tells whether two lists hold the same, an empty list within being the same as none.
func sameList[T any](a, b []T) bool {
	return len(a) == 0 && len(b) == 0 || reflect.DeepEqual(plain(reflect.ValueOf(a)).Interface(), plain(reflect.ValueOf(b)).Interface())
}

func wantSame(a, b api.Spec) bool {
	return sameList([]api.Spec{a}, []api.Spec{b})
}

// plain is a copy of v that shares nothing with it, without spare room, in which no list is empty (it is nil then).
func plain(v reflect.Value) reflect.Value {
	out := reflect.New(v.Type()).Elem()
	switch v.Kind() {
	case reflect.Slice:
		for i := range v.Len() {
			out = reflect.Append(out, plain(v.Index(i)))
		}
	case reflect.Struct:
		for i := range v.NumField() {
			out.Field(i).Set(plain(v.Field(i)))
		}
	case reflect.String:
		out.SetString(strings.Clone(v.String()))
	default:
		out.Set(v)
	}
	return out
}

// snapshot is a copy of s that Clone had no hand in; lists that are empty stay so.
func snapshot(s api.Spec) api.Spec {
	list := func(l []api.Container) []api.Container {
		if l == nil {
			return nil
		}
		out := make([]api.Container, len(l))
		for i, c := range l {
			if c.Ports != nil {
				c.Ports = append([]int{}, c.Ports...)
			}
			out[i] = c
		}
		return out
	}
	if s.Labels != nil {
		s.Labels = append([]api.Label{}, s.Labels...)
	}
	s.Init, s.Main = list(s.Init), list(s.Main)
	return s
}

// leaves are the numbers and the texts of a value, each with where it stands.
func leaves(at string, v reflect.Value) (places []string, parts []reflect.Value) {
	add := func(at string, v reflect.Value) {
		p, l := leaves(at, v)
		places, parts = append(places, p...), append(parts, l...)
	}
	switch v.Kind() {
	case reflect.Slice:
		for i := range v.Len() {
			add(index(at, i), v.Index(i))
		}
	case reflect.Struct:
		for i := range v.NumField() {
			add(at+"."+v.Type().Field(i).Name, v.Field(i))
		}
	default:
		return []string{at}, []reflect.Value{v}
	}
	return places, parts
}

func change(v reflect.Value) {
	if v.Kind() == reflect.String {
		v.SetString(v.String() + "!")
		return
	}
	v.SetInt(v.Int() + 1)
}

// span is where some memory begins and ends.
type span struct{ from, to uintptr }

// memory is all of what v keeps by pointers: its lists with their spare room, and its texts.
func memory(v reflect.Value) []span {
	var out []span
	switch v.Kind() {
	case reflect.Slice:
		if v.Cap() > 0 {
			out = append(out, span{v.Pointer(), v.Pointer() + uintptr(v.Cap())*v.Type().Elem().Size()})
		}
		for i := range v.Len() {
			out = append(out, memory(v.Index(i))...)
		}
	case reflect.Struct:
		for i := range v.NumField() {
			out = append(out, memory(v.Field(i))...)
		}
	case reflect.String:
		if s := v.String(); s != "" {
			from := uintptr(unsafe.Pointer(unsafe.StringData(s)))
			out = append(out, span{from, from + uintptr(len(s))})
		}
	}
	return out
}

func overlap(a, b []span) bool {
	for _, x := range a {
		for _, y := range b {
			if x.from < y.to && y.from < x.to {
				return true
			}
		}
	}
	return false
}

// pick chooses a number below n.
type pick func(n int) int

func of[T any](p pick, l ...T) T { return l[p(len(l))] }

func someName(p pick) string {
	return of(p, "a", "b", "web", "web-1", "init-0", "main-1", "abcdefghijklmnop", "abcdefghijklmnopq", "", "-a", "A", "a.b")
}

func someKey(p pick) string {
	return of(p, "a", "a/b", "app", "app/a", "b", "tier", "z", "", "A", "a//b", "~", "abcdefghijklmnop/abcdefghijklmnop")
}

func someVal(p pick) string {
	return of(p, "", "x", "X.y_Z-1", "abcdefghijklmnop", "abcdefghijklmnopq", "/", "a b")
}

func someImage(p pick) string {
	return of(p, "a:1", "a:2", "lib/a:1", "lib/main0:1.0", "lib/main0:2.0", "lib/init0:2", "a", "", "a:A", "lib/web")
}

func someRes(p pick) int {
	return of(p, 0, 1, 9, 10, 11, 20, 30, 40, 60, mostRes-1, mostRes, mostRes+1, -1, math.MinInt, math.MaxInt)
}

func somePort(p pick) int {
	return of(p, 1, 2, 80, 443, 1000, 1001, 2000, 4002, mostPort, mostPort+1, 0, -1, math.MaxInt)
}

func someNumber(p pick) int {
	return of(p, 0, 1, 2, 3, 4, 9, 10, 11, 999, 1000, 1001, -1, math.MinInt, math.MaxInt)
}

func someContainer(p pick) api.Container {
	c := api.Container{Name: someName(p), Image: someImage(p)}
	for range p(5) {
		c.Ports = append(c.Ports, somePort(p))
	}
	for _, r := range append(resources(&c.Req), resources(&c.Lim)...) {
		*r.n = someRes(p)
	}
	c.Probe = api.Probe{Every: someNumber(p), Fails: someNumber(p)}
	return c
}

// spoil changes one part of s, to something that may be or not.
func spoil(s *api.Spec, p pick) {
	switch p(9) {
	case 0:
		s.Name = someName(p)
	case 1:
		s.Labels = append(s.Labels[:p(len(s.Labels)+1)], api.Label{Key: someKey(p), Val: someVal(p)})
	case 2:
		if len(s.Labels) > 0 {
			l := &s.Labels[p(len(s.Labels))]
			l.Key, l.Val = of(p, someKey(p), l.Key), of(p, someVal(p), l.Val)
		}
	case 3:
		*of(p, &s.Restart, &s.Grace, &s.Prio) = someNumber(p)
	case 4:
		list := of(p, &s.Init, &s.Main)
		*list = append((*list)[:p(len(*list)+1)], someContainer(p))
	case 5:
		list := of(p, &s.Init, &s.Main)
		*list = (*list)[:p(len(*list)+1)]
	default:
		if list := of(p, s.Init, s.Main); len(list) > 0 {
			spoilContainer(&list[p(len(list))], p)
		}
	}
}

func spoilContainer(c *api.Container, p pick) {
	switch p(7) {
	case 0:
		c.Name = someName(p)
	case 1:
		c.Image = someImage(p)
	case 2:
		*resources(of(p, &c.Req, &c.Lim))[p(3)].n = someRes(p)
	case 3:
		c.Ports = append(c.Ports[:p(len(c.Ports)+1)], somePort(p))
	case 4:
		if len(c.Ports) > 0 {
			c.Ports[p(len(c.Ports))] = somePort(p)
		}
	case 5:
		c.Probe = api.Probe{Every: someNumber(p), Fails: someNumber(p)}
	case 6:
		*of(p, &c.Probe.Every, &c.Probe.Fails) = someNumber(p)
	}
}

// someSpec is a spec like full or small, or unlike it in some parts.
func someSpec(p pick) api.Spec {
	s := of(p, full, full, small)()
	for range p(5) {
		spoil(&s, p)
	}
	return s
}

// checkAgainstWords holds all that is told of two specs against the words, and that neither is changed.
func checkAgainstWords(t *testing.T, a, b api.Spec) {
	t.Helper()
	wasA, wasB := snapshot(a), snapshot(b)
	path, code := broken(rulesOf(a))
	checkError(t, "Check", Check(a), path, code)
	path, code = broken(rulesOfLabels("sel", a.Labels))
	checkError(t, "Labels", Labels("sel", a.Labels), path, code)
	path, code = wantFrozen(a, b)
	checkError(t, "Frozen", Frozen(a, b), path, code)
	if got, want := Same(a, b), wantSame(a, b); got != want || Same(b, a) != want {
		t.Errorf("Same = %v, want %v", got, want)
	}
	if !Same(a, a) || !Same(a, wasA) || !Same(Clone(a), a) || !wantSame(Clone(a), a) {
		t.Error("a spec is unlike itself, or its clone")
	}
	var ports []int
	for _, c := range a.Main {
		ports = append(ports, c.Ports...)
	}
	if got := Ports(a); !sameList(got, ports) {
		t.Errorf("Ports = %v, want %v", got, ports)
	}
	if !reflect.DeepEqual(a, wasA) || !reflect.DeepEqual(b, wasB) {
		t.Error("a spec that was handed in is changed")
	}
	if t.Failed() {
		t.Fatalf("of %+v and %+v", a, b)
	}
}

// 6.1 to 6.3, held against the words
func TestSpecsAtRandom(t *testing.T) {
	p := pick(rand.New(rand.NewSource(6)).Intn)
	right, kept := 0, 0
	for range 20000 {
		a := someSpec(p)
		b := snapshot(a)
		for range p(3) {
			spoil(&b, p)
		}
		checkAgainstWords(t, a, b)
		if Check(a) == nil {
			right++
			if Frozen(a, b) == nil && !Same(a, b) {
				kept++
			}
		}
	}
	// Without enough of both sorts the test would say little.
	if right < 2000 || kept < 200 {
		t.Errorf("only %d specs that may be, %d updates that may be", right, kept)
	}
}

// 6.1 to 6.3, held against the words
func FuzzSpecs(f *testing.F) {
	for _, s := range []string{"", "a", "\x00\x01\x02\x03", "\x02\x04\x07\x01\x05", strings.Repeat("\x04\x06\x02", 20), strings.Repeat("\x01\x03\xff", 20)} {
		f.Add(s)
	}
	f.Fuzz(func(t *testing.T, choices string) {
		p := pick(func(n int) int {
			if choices == "" {
				return 0
			}
			c := choices[0]
			choices = choices[1:]
			return int(c) % n
		})
		a := someSpec(p)
		b := snapshot(a)
		for range p(4) {
			spoil(&b, p)
		}
		checkAgainstWords(t, a, b)
	})
}

// the chapter's example
func TestExamples(t *testing.T) {
	s := small()
	s.Main = append(s.Main, api.Container{Name: "A", Image: "a:1"})
	checkError(t, "Check", Check(s), "main[1].name", api.ErrName)
}
