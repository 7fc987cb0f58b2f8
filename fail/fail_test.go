package fail

import (
	"errors"
	"fmt"
	"slices"
	"strings"
	"testing"

	"provost/api"
)

// allCodes are the codes of api but OK, and numbers that no code has a name for.
func allCodes() []api.Code {
	return []api.Code{
		api.ErrRange, api.ErrLong, api.ErrForm, api.ErrShape, api.ErrState, api.ErrNone, api.ErrThere, api.ErrFull,
		api.ErrName, api.ErrKey, api.ErrVal, api.ErrImage, api.ErrShort, api.ErrKind, api.ErrSpent, api.ErrOld,
		api.ErrStale, api.ErrPort, api.ErrRoom, api.ErrFail, api.ErrBusy, api.ErrUID, api.ErrClosed, api.ErrLine,
		-1, 9, 1 << 40,
	}
}

// somePaths are paths of no step, of one and of several, with texts that could be mistaken for others.
func somePaths() [][]string {
	return [][]string{
		nil,
		{},
		{"name"},
		{""},
		{"", ""},
		{"spec", "main"},
		{"spec", "main[1]", "lim.cpu"},
		{"a", "a", "a", "a"},
		{".", "", "x.", ": ", "\xff\x00"},
		strings.Split(strings.Repeat("deep ", 500), " "),
	}
}

// check holds all that can be told of an error against its code and its path.
func check(t *testing.T, e error, code api.Code, path []string) {
	t.Helper()
	if got := Code(e); got != code {
		t.Errorf("Code = %d, want %d", got, code)
	}
	if got := Path(e); !slices.Equal(got, path) {
		t.Errorf("Path = %q, want %q", got, path)
	}
	if got, want := Text(e), strings.Join(path, "."); got != want {
		t.Errorf("Text = %q, want %q", got, want)
	}
}

// checkHas holds Has against one code that there is; api.OK as the code stands for an error without one.
func checkHas(t *testing.T, e error, code api.Code) {
	t.Helper()
	for _, c := range allCodes() {
		if got := Has(e, c); got != (c == code) {
			t.Errorf("Has(%d) = %v, the code is %d", c, got, code)
		}
		if got := errors.Is(e, c); got != (c == code) {
			t.Errorf("errors.Is(%d) = %v, the code is %d", c, got, code)
		}
	}
	if Has(e, api.OK) {
		t.Errorf("Has(OK) of an error of the code %d", code)
	}
}

// 2.1, 2.2
func TestNewHasItsCodeAndItsPath(t *testing.T) {
	for _, c := range allCodes() {
		for _, path := range somePaths() {
			e := New(c, path...)
			if e == nil {
				t.Fatalf("New(%d, %q) is nil", c, path)
			}
			check(t, e, c, path)
			checkHas(t, e, c)
		}
	}
}

// 2.1: the steps stand in each other in the path's order, and errors.Unwrap goes from one to the next, to the code
func TestUnwrapGoesStepByStep(t *testing.T) {
	for _, path := range somePaths() {
		e := New(api.ErrName, path...)
		for i := range path {
			check(t, e, api.ErrName, path[i:])
			e = errors.Unwrap(e)
		}
		if e != error(api.ErrName) {
			t.Errorf("innermost of %q stands %v", path, e)
		}
		if errors.Unwrap(e) != nil {
			t.Error("a code has something within it")
		}
	}
	inner := New(api.ErrKey, "key")
	if errors.Unwrap(In(inner, "labels")) != inner {
		t.Error("what is wrapped is not what was handed in")
	}
}

// 2.1
func TestNewOfOKIsNil(t *testing.T) {
	for _, path := range somePaths() {
		if e := New(api.OK, path...); e != nil {
			t.Errorf("New(OK, %q) = %v", path, e)
		}
	}
}

// 2.1, 2.2
func TestNil(t *testing.T) {
	if e := In(nil, "x"); e != nil {
		t.Errorf("In(nil) = %v", e)
	}
	if e := In(In(New(api.OK, "a"), "b"), ""); e != nil {
		t.Errorf("In of New(OK) = %v", e)
	}
	check(t, nil, api.OK, nil)
	if !Has(nil, api.OK) {
		t.Error("nil has not OK")
	}
	for _, c := range allCodes() {
		if Has(nil, c) {
			t.Errorf("nil has %d", c)
		}
	}
}

// 2.1
func TestFirst(t *testing.T) {
	a, b := New(api.ErrName, "a"), New(api.ErrKey, "b")
	other := errors.New("other")
	for _, c := range []struct {
		why  string
		l    []error
		want error
	}{
		{"nil", nil, nil},
		{"empty", []error{}, nil},
		{"one nil", []error{nil}, nil},
		{"only nil", []error{nil, nil, In(nil, "x"), New(api.OK, "y")}, nil},
		{"one", []error{a}, a},
		{"at the front", []error{a, b}, a},
		{"the other one at the front", []error{b, a}, b},
		{"nil ahead", []error{nil, nil, b, a}, b},
		{"nil between", []error{a, nil, b}, a},
		{"at the end", []error{nil, nil, nil, b}, b},
		{"without a code", []error{nil, other, a}, other},
		{"a plain code", []error{nil, api.ErrFull, a}, api.ErrFull},
	} {
		got := First(c.l...)
		if (got == nil) != (c.want == nil) || got != nil && got != c.want {
			t.Errorf("%s: First = %v, want %v", c.why, got, c.want)
		}
	}
	if First() != nil {
		t.Error("First of nothing")
	}
	// What lies behind the list's length is not looked at.
	full := []error{nil, nil, a}
	if e := First(full[:2]...); e != nil {
		t.Errorf("First = %v", e)
	}
}

// 2.2
func TestErrorsWithoutACode(t *testing.T) {
	other := errors.New("other")
	for _, e := range []error{other, fmt.Errorf("around: %w", other), errors.Join(other, other), list{1}} {
		check(t, e, api.ErrState, nil)
		checkHas(t, e, api.OK)
		in := In(In(e, "b"), "a")
		check(t, in, api.ErrState, []string{"a", "b"})
		checkHas(t, in, api.OK)
		if !errors.Is(in, other) && errors.Is(e, other) {
			t.Error("to wrap hides what is within")
		}
	}
}

// 2.2: ErrState is told of an error that has no code, but such an error has not got it
func TestErrStateItself(t *testing.T) {
	e := New(api.ErrState, "box")
	check(t, e, api.ErrState, []string{"box"})
	if !Has(e, api.ErrState) {
		t.Error("ErrState is not had")
	}
	if Has(In(errors.New("other"), "box"), api.ErrState) {
		t.Error("an error without a code has ErrState")
	}
}

// 2.2: what was wrapped by others, too
func TestErrorsWrappedByOthers(t *testing.T) {
	e := fmt.Errorf("one: %w", New(api.ErrPort, "ports[0]"))
	check(t, e, api.ErrPort, []string{"ports[0]"})
	checkHas(t, e, api.ErrPort)
	e = fmt.Errorf("three: %w", fmt.Errorf("two: %w", In(e, "main[0]")))
	e = In(e, "spec")
	check(t, e, api.ErrPort, []string{"spec", "main[0]", "ports[0]"})
	checkHas(t, e, api.ErrPort)
	joined := errors.Join(errors.New("other"), New(api.ErrName, "a"))
	if Code(joined) != api.ErrName || !Has(joined, api.ErrName) || Has(joined, api.ErrKey) {
		t.Error("a code among several errors is not found")
	}
}

// 2.2: a code by itself is an error, and OK, as an error that is there, has the code OK, as errors.Is tells
func TestPlainCodes(t *testing.T) {
	for _, c := range allCodes() {
		check(t, c, c, nil)
		checkHas(t, c, c)
		check(t, In(c, "x"), c, []string{"x"})
	}
	for _, e := range []error{api.OK, In(api.OK, "x")} {
		if e == nil || Code(e) != api.OK || !Has(e, api.OK) || Has(e, api.ErrState) {
			t.Errorf("OK as an error: %v", e)
		}
	}
}

// 2.3
func TestToWrapChangesNoCodeAndSetsATextAhead(t *testing.T) {
	for _, c := range allCodes() {
		for _, path := range somePaths() {
			e := New(c, path...)
			want := slices.Clone(path)
			for _, at := range []string{"main[1]", "", "spec", "spec", "a.b"} {
				before, text := Path(e), Text(e)
				e = In(e, at)
				want = slices.Insert(want, 0, at)
				check(t, e, c, want)
				checkHas(t, e, c)
				if joined := at + "." + text; len(before) > 0 && Text(e) != joined {
					t.Errorf("Text = %q, want %q", Text(e), joined)
				}
			}
			check(t, New(c, want...), c, want)
		}
	}
}

// 2.3: one error may be wrapped more than once, and is not changed by that
func TestToWrapLeavesWhatIsWithin(t *testing.T) {
	e := New(api.ErrName, "name")
	a, b := In(e, "main[0]"), In(e, "main[1]")
	check(t, a, api.ErrName, []string{"main[0]", "name"})
	check(t, b, api.ErrName, []string{"main[1]", "name"})
	check(t, e, api.ErrName, []string{"name"})
}

// the chapter's example
func TestExample(t *testing.T) {
	e := New(api.ErrName, "spec", "main")
	if got := Text(e); got != "spec.main" {
		t.Errorf("Text = %q", got)
	}
	if got := Text(In(e, "run")); got != "run.spec.main" {
		t.Errorf("Text = %q", got)
	}
}

// An error's own text says where, and what is within.
func TestErrorText(t *testing.T) {
	if got := New(api.ErrName, "spec", "main").Error(); got != "spec: main: provost: refused" {
		t.Errorf("Error = %q", got)
	}
	if got := In(errors.New("other"), "x").Error(); got != "x: other" {
		t.Errorf("Error = %q", got)
	}
}

// R4
func TestNothingIsShared(t *testing.T) {
	room := []string{"spec", "main", "behind"}
	e := New(api.ErrName, room[:2]...)
	if !slices.Equal(room, []string{"spec", "main", "behind"}) {
		t.Errorf("New changed what it was given: %q", room)
	}
	room[0], room[1] = "x", "y"
	check(t, e, api.ErrName, []string{"spec", "main"})

	one, two := Path(e), Path(e)
	for i := range one[:cap(one)] {
		one[:cap(one)][i] = "z"
	}
	if !slices.Equal(two, []string{"spec", "main"}) {
		t.Errorf("two answers share memory: %q", two)
	}
	check(t, e, api.ErrName, []string{"spec", "main"})

	l := []error{nil, e, nil}
	First(l...)
	if l[0] != nil || l[1] != e || l[2] != nil {
		t.Error("First changed its list")
	}
}

// list is an error that can't be compared with another one.
type list []int

func (l list) Error() string { return "list" }

// broken is an error that panics whatever it is asked.
type broken struct{ within error }

func (b *broken) Error() string      { return b.within.Error() }
func (b *broken) Unwrap() error      { return b.within }
func (b *broken) Is(e error) bool    { return b.within == e }
func (b *broken) As(target any) bool { return b.within.(list)[9] == 0 }

// brokenWithin panics only when it is asked for what is within it.
type brokenWithin struct{ within []error }

func (b brokenWithin) Error() string { return "broken" }
func (b brokenWithin) Unwrap() error { return b.within[0] }

// P1
func TestErrorsThatPanicAreCaught(t *testing.T) {
	var none *broken
	for _, e := range []error{none, &broken{}, &broken{list{}}, brokenWithin{}} {
		check(t, e, api.ErrState, nil)
		check(t, In(In(e, "b"), "a"), api.ErrState, []string{"a", "b"})
		for _, c := range append(allCodes(), api.OK) {
			if Has(e, c) || Has(In(e, "a"), c) {
				t.Errorf("an error that panics has %d", c)
			}
		}
		if First(nil, e) == nil {
			t.Error("First passes over an error that is not nil")
		}
	}
}

// P1: many steps, which a function that calls itself for each would feel
func TestManySteps(t *testing.T) {
	const many = 200000
	e := New(api.ErrLine, make([]string, many)...)
	e = In(e, "x")
	if Code(e) != api.ErrLine || !Has(e, api.ErrLine) || len(Path(e)) != many+1 || Text(e) != "x"+strings.Repeat(".", many) {
		t.Error("many steps")
	}
}
