package store

import (
	"reflect"
	"slices"
	"strconv"
	"strings"
	"testing"
	"unsafe"

	"provost/api"
)

// span is memory, from its first byte on up to the one behind its last.
type span struct{ from, to uintptr }

// memory is what v, which was handed in or told, has of memory, spare room too.
func memory(v reflect.Value) []span {
	var out []span
	switch v.Kind() {
	case reflect.Interface:
		out = memory(v.Elem())
	case reflect.Slice:
		if v.Cap() > 0 {
			out = append(out, span{v.Pointer(), v.Pointer() + uintptr(v.Cap())*v.Type().Elem().Size()})
		}
		for i := range v.Len() {
			out = append(out, memory(v.Index(i))...)
		}
	case reflect.Struct:
		for i := range v.NumField() {
			out = append(out, memory(v.Field(i))...)
		}
	case reflect.String:
		if s := v.String(); s != "" {
			from := uintptr(unsafe.Pointer(unsafe.StringData(s)))
			out = append(out, span{from, from + uintptr(len(s))})
		}
	}
	return out
}

// apart holds that things share no memory, one with another or each within itself.
func apart(t *testing.T, what string, things ...any) {
	t.Helper()
	all := memory(reflect.ValueOf(things))[1:]
	slices.SortFunc(all, func(a, b span) int { return int(a.from) - int(b.from) })
	for i := 1; i < len(all); i++ {
		if all[i].from < all[i-1].to {
			t.Errorf("%s: memory is shared", what)
			return
		}
	}
}

// part is a text or a number within something.
type part struct {
	path string
	at   reflect.Value
}

// partsOf are all texts and numbers in v, which can be changed.
func partsOf(path string, v reflect.Value) []part {
	var out []part
	switch v.Kind() {
	case reflect.Slice:
		for i := range v.Len() {
			out = append(out, partsOf(path+"["+strconv.Itoa(i)+"]", v.Index(i))...)
		}
	case reflect.Struct:
		for i := range v.NumField() {
			out = append(out, partsOf(path+"."+v.Type().Field(i).Name, v.Field(i))...)
		}
	default:
		out = append(out, part{path, v})
	}
	return out
}

// spoil changes each text and number that x points to, and what stands in the spare room of its lists.
func spoil(x any) {
	for _, p := range partsOf("", reflect.ValueOf(x).Elem()) {
		switch p.at.Kind() {
		case reflect.String:
			p.at.SetString("spoilt")
		case reflect.Uint64:
			p.at.SetUint(77)
		default:
			p.at.SetInt(77)
		}
	}
	fill(reflect.ValueOf(x).Elem())
}

// fill writes a value that is not zero into the spare room of lists of numbers, and an empty one into that of others.
func fill(v reflect.Value) {
	switch v.Kind() {
	case reflect.Slice:
		for i := range v.Len() {
			fill(v.Index(i))
		}
		room := v.Slice(0, v.Cap())
		for i := v.Len(); i < v.Cap(); i++ {
			if room.Index(i).Kind() == reflect.Int {
				room.Index(i).SetInt(78)
			} else {
				room.Index(i).SetZero()
			}
		}
	case reflect.Struct:
		for i := range v.NumField() {
			fill(v.Field(i))
		}
	}
}

// own is a spec like x, with texts that no other one has, those of the program itself among them.
func own(x api.Spec) api.Spec {
	for _, p := range partsOf("spec", reflect.ValueOf(&x).Elem()) {
		if p.at.Kind() == reflect.String {
			p.at.SetString(strings.Clone(p.at.String()))
		}
	}
	return x
}

// roomy is a list of these that has spare room, and spare in the first of it.
func roomy[T any](spare T, of ...T) []T {
	l := append(make([]T, 0, len(of)+3), of...)
	_ = append(l, spare)
	return l
}

// R4: nothing that was handed in, and nothing that was told, shares memory with anything else of these
func TestToldPodsAreNewMemory(t *testing.T) {
	s := New(20, 20)
	x, y, restarts := own(rich("web")), own(tagged("web", "2")), roomy(-1, 3, 1)
	z, sel := own(small("db")), []api.Label{{Key: strings.Clone("app"), Val: strings.Clone("web")}}
	added, _ := s.Create(x)
	updated, _ := s.Update(1, 1, y)
	changed, _ := s.Status(1, api.PRunning, restarts)
	same, _ := s.Status(1, api.PRunning, restarts)
	other, _ := s.Create(z)
	marked, _ := s.Mark(1, api.WKilled, 3)
	got, _ := s.Get(1)
	gotAgain, _ := s.Get(1)
	all, allAgain, fitting := s.List(nil), s.List(nil), s.List(sel)
	events, _ := s.After(0, 9)
	eventsAgain, _ := s.After(0, 9)
	s.Drop(1)
	dropped, _ := s.After(5, 9)
	if len(all) != 2 || len(fitting) != 1 || len(events) != 5 || len(dropped) != 1 || !alike(same, changed) {
		t.Fatalf("%v, %v, %v, %v", uidsOf(all), uidsOf(fitting), revsOf(events), revsOf(dropped))
	}
	apart(t, "what was told, and what was handed in",
		x, y, z, restarts, sel, added, updated, changed, same, other, marked, got, gotAgain, all, allAgain, fitting, events, eventsAgain, dropped)
}

// R4: what was handed in, and what was told, is spoilt: all is as it was in the store, in its log, and in what else was told
func TestEachPartIsTheStoresOwn(t *testing.T) {
	begun := func() *Store {
		s := New(20, 20)
		s.Create(small("db"))
		return s
	}
	// Each of these is one call, and what of it is spoilt then.
	calls := []func(s *Store, spoil func(any)){
		func(s *Store, spoil func(any)) { x := rich("web"); s.Create(x); spoil(&x) },
		func(s *Store, spoil func(any)) { p, _ := s.Create(rich("job")); spoil(&p) },
		func(s *Store, spoil func(any)) { x := tagged("web", "2"); s.Update(2, 2, x); spoil(&x) },
		func(s *Store, spoil func(any)) { p, _ := s.Update(3, 3, tagged("job", "2")); spoil(&p) },
		func(s *Store, spoil func(any)) { l := []int{4, 5}; s.Status(2, 2, l); spoil(&l) },
		func(s *Store, spoil func(any)) { l := roomy(9, 4, 6); s.Status(2, 2, l); spoil(&l) },
		func(s *Store, spoil func(any)) { p, _ := s.Status(3, 2, []int{4, 5}); spoil(&p) },
		func(s *Store, spoil func(any)) { p, _ := s.Status(3, 2, []int{4, 5}); spoil(&p) },
		func(s *Store, spoil func(any)) { l := []int{4, 6}; s.Status(2, 2, l); spoil(&l) },
		func(s *Store, spoil func(any)) { p, _ := s.Mark(2, 1, 7); spoil(&p) },
		func(s *Store, spoil func(any)) { p, _ := s.Get(2); spoil(&p) },
		func(s *Store, spoil func(any)) { l := s.List(nil); spoil(&l) },
		func(s *Store, spoil func(any)) { l := []api.Label{{Key: "app", Val: "web"}}; s.List(l); spoil(&l) },
		func(s *Store, spoil func(any)) { l, _ := s.After(0, 99); spoil(&l) },
		func(s *Store, spoil func(any)) { s.Drop(2) },
		func(s *Store, spoil func(any)) { l, _ := s.After(0, 99); spoil(&l) },
		func(s *Store, spoil func(any)) { x := rich("web"); s.Create(x); spoil(&x) },
	}
	s, unspoilt := begun(), begun()
	for i, call := range calls {
		call(s, spoil)
		call(unspoilt, func(any) {})
		if now, want := picture(s), picture(unspoilt); now != want {
			t.Fatalf("behind call %d the store tells\n%s\nwant\n%s", i, now, want)
		}
	}
	if s.Rev() != 11 || s.Len() != 3 {
		t.Errorf("Rev %d, Len %d", s.Rev(), s.Len())
	}
}

// R4: what was told stays as it was told, whatever becomes of the store
func TestWhatWasToldStays(t *testing.T) {
	s := made(t, 20, rich("web"), small("db"))
	p, _ := s.Get(1)
	l := s.List(nil)
	events, _ := s.After(0, 9)
	first := events[0].Pod
	s.Update(1, 1, tagged("web", "2"))
	s.Status(1, api.PFailed, []int{3, 3})
	s.Mark(1, api.WKilled, 5)
	s.Drop(1)
	s.Compact(99)
	s.Create(tagged("web", "3"))
	want := api.Pod{UID: 1, Rev: 1, Spec: rich("web"), Phase: 1, Restarts: []int{0, 0}}
	for _, got := range []api.Pod{p, l[0], first} {
		if !alike(got, want) {
			t.Errorf("it is %+v now", got)
		}
	}
}

// R4: what is handed in is not changed, spare room too, by calls that do something and by calls that are refused
func TestWhatIsHandedInIsNotChanged(t *testing.T) {
	roomySpec := func(name, tag string) api.Spec {
		x := tagged(name, tag)
		x.Labels = roomy(api.Label{Key: "spare"}, x.Labels...)
		x.Init = roomy(api.Container{Name: "spare"}, x.Init...)
		x.Main = roomy(api.Container{Name: "spare"}, x.Main...)
		x.Main[0].Ports = roomy(-1, x.Main[0].Ports...)
		return x
	}
	s := New(20, 20)
	x, y, sel, restarts := roomySpec("web", "1"), roomySpec("web", "2"), roomy(api.Label{Key: "spare"}, api.Label{Key: "app", Val: "web"}), roomy(-1, 2, 3)
	is := func(when string) {
		t.Helper()
		if !reflect.DeepEqual(x, roomySpec("web", "1")) || !reflect.DeepEqual(y, roomySpec("web", "2")) || sel[0].Val != "web" || !slices.Equal(restarts, []int{2, 3}) {
			t.Fatalf("%s: what was handed in is changed", when)
		}
		for _, z := range []api.Spec{x, y} {
			if z.Labels[:4][3].Key != "spare" || z.Init[:2][1].Name != "spare" || z.Main[:3][2].Name != "spare" || z.Main[0].Ports[:3][2] != -1 {
				t.Fatalf("%s: the spare room of what was handed in is changed", when)
			}
		}
		if sel[:2][1].Key != "spare" || restarts[:3][2] != -1 {
			t.Fatalf("%s: the spare room of what was handed in is changed", when)
		}
	}
	for range 2 {
		// The second time all but List and Status are refused.
		s.Create(x)
		is("Create")
		s.Update(1, 1, y)
		is("Update")
		s.Status(1, api.PRunning, restarts)
		is("Status")
		if l := s.List(sel); len(l) != 1 || len(l[0].Spec.Labels) != 3 || len(l[0].Spec.Main) != 2 || len(l[0].Restarts) != 2 {
			t.Fatalf("List = %+v", l)
		}
		is("List")
	}
	// What lies in spare room is not read: a third restart would be one too many, a third container as well.
	if p, code := s.Status(1, api.PDone, restarts[:2]); code != api.OK || s.Rev() != 4 {
		t.Errorf("Status = %+v, %d", p, int(code))
	}
}

// R3: lists without a member may be nil or empty
func TestEmptyLists(t *testing.T) {
	s := New(20, 20)
	x := small("web")
	x.Labels, x.Init, x.Main[0].Ports = []api.Label{}, []api.Container{}, []int{}
	if p, code := s.Create(x); code != api.OK || len(p.Spec.Labels)+len(p.Spec.Init)+len(p.Spec.Main[0].Ports) != 0 {
		t.Fatalf("Create = %+v, %d", p, int(code))
	}
	// The same with lists that are nil is an update that may be, and the other way round.
	for i, y := range []api.Spec{small("web"), x, small("web")} {
		if p, code := s.Update(1, uint64(i+1), y); code != api.OK || len(p.Restarts) != 1 {
			t.Errorf("%d: Update = %+v, %d", i, p, int(code))
		}
	}
}

// R7: two stores know nothing of one another
func TestTwoStores(t *testing.T) {
	one, two := made(t, 5, rich("web")), made(t, 5, small("db"))
	was := picture(two)
	one.Create(small("job"))
	one.Mark(1, api.WKilled, 0)
	one.Drop(1)
	one.Compact(2)
	if now := picture(two); now != was {
		t.Errorf("the other one told\n%s\nand tells\n%s", was, now)
	}
	if p, code := two.Create(small("web")); code != api.OK || p.UID != 2 || p.Rev != 2 {
		t.Errorf("Create = %+v, %d", p, int(code))
	}
}
