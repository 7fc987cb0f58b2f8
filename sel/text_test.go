package sel

import (
	"math/rand"
	"regexp"
	"slices"
	"strings"
	"testing"

	"provost/api"
)

// The codes by their numbers, for the expectations of these tests.
const (
	allRight = api.Code(0)
	isLong   = api.Code(2)
	noForm   = api.Code(3)
	noShape  = api.Code(4)
	noKey    = api.Code(31)
	noVal    = api.Code(32)
)

// own is l with texts that are no others' memory.
func own(l labels) labels {
	l = slices.Clone(l)
	for i, label := range l {
		l[i] = api.Label{Key: strings.Clone(label.Key), Val: strings.Clone(label.Val)}
	}
	return l
}

// aName, aKey and aVal are chapter 3's words.
const aName = `[a-z0-9]([a-z0-9-]{0,14}[a-z0-9])?`

var (
	aKey = regexp.MustCompile(`\A` + aName + `(/` + aName + `)?\z`)
	aVal = regexp.MustCompile(`\A[a-zA-Z0-9_.-]{0,16}\z`)
)

// wantCode says what the words say of labels.
func wantCode(l labels) api.Code {
	if len(l) > 4 {
		return isLong
	}
	for i, label := range l {
		switch {
		case !aKey.MatchString(label.Key):
			return noKey
		case i > 0 && label.Key <= l[i-1].Key:
			return noShape
		case !aVal.MatchString(label.Val):
			return noVal
		}
	}
	return allRight
}

// wantParse says what the words say of a text.
func wantParse(s string) (labels, api.Code) {
	if s == "" {
		return nil, allRight
	}
	var l labels
	for _, part := range strings.Split(s, ",") {
		at := strings.IndexByte(part, '=')
		if at < 0 {
			return nil, noForm
		}
		l = append(l, api.Label{Key: part[:at], Val: part[at+1:]})
	}
	if code := wantCode(l); code != allRight {
		return nil, code
	}
	return l, allRight
}

// parses holds Parse against what it is to tell, and a selector that it tells against its text.
func parses(t *testing.T, s string, want labels, wantCode api.Code) {
	t.Helper()
	for range 2 {
		got, code := Parse(s)
		if !slices.Equal(got, want) || code != wantCode {
			t.Fatalf("Parse(%q) = %v, %d; want %v, %d", s, got, int(code), want, int(wantCode))
		}
		if code == allRight && Text(got) != s {
			t.Fatalf("Parse(%q) = %v, whose text is %q", s, got, Text(got))
		}
	}
}

// 11.3
func TestText(t *testing.T) {
	for _, c := range []struct {
		l    labels
		want string
	}{
		{nil, ""}, {labels{}, ""}, {lab(), ""},
		{lab("a", "x"), "a=x"}, {lab("a", ""), "a="}, {lab("app/tier", "X.y_Z-1"), "app/tier=X.y_Z-1"},
		{lab("a", "x", "b", ""), "a=x,b="}, {lab("a", "", "b", "x"), "a=,b=x"},
		{lab("a", "1", "b", "2", "c", "3", "d", "4"), "a=1,b=2,c=3,d=4"},
		// Of labels that are no selector: as they stand.
		{lab("", ""), "="}, {lab("", "", "", ""), "=,="}, {lab("", "x"), "=x"},
		{lab("b", "1", "a", "2"), "b=1,a=2"}, {lab("a", "x", "a", "x"), "a=x,a=x"}, {lab("a", "x", "a", "y"), "a=x,a=y"},
		{lab("A", "/", "-", " "), "A=/,-= "}, {lab("a=b", "c,d", ",", "="), "a=b=c,d,,=="}, {lab("\xff", "\x00"), "\xff=\x00"},
		{lab("a", "1", "b", "2", "c", "3", "d", "4", "e", "5"), "a=1,b=2,c=3,d=4,e=5"},
		{slices.Repeat(lab("k", "v"), 1000), strings.Repeat("k=v,", 999) + "k=v"},
	} {
		was := whole(c.l)
		for range 2 {
			if got := Text(c.l); got != c.want {
				t.Errorf("Text(%v) = %q, want %q", c.l, got, c.want)
			}
		}
		keep(t, "Text", c.l, was)
	}
}

// longKey is a key as long as may be, and longVal is a value that is.
const (
	longName = "abcdefghijklmno9"
	longKey  = longName + "/" + longName
	longVal  = "aZ09-_.aZ09-_.aZ"
)

// 11.3
func TestParseOfSelectors(t *testing.T) {
	for _, c := range []struct {
		s    string
		want labels
	}{
		{"", nil},
		{"a=", lab("a", "")}, {"a=x", lab("a", "x")}, {"a=x,b=", lab("a", "x", "b", "")}, {"a=,b=", lab("a", "", "b", "")},
		{"0=0", lab("0", "0")}, {"a/b=x", lab("a/b", "x")}, {"a-b=-", lab("a-b", "-")}, {"a=.", lab("a", ".")}, {"a=_X", lab("a", "_X")},
		{"a=1,b=2,c=3,d=4", lab("a", "1", "b", "2", "c", "3", "d", "4")},
		{"a=x,a-b=x,a/b=x,ab=x", lab("a", "x", "a-b", "x", "a/b", "x", "ab", "x")},
		{"9=x,a=x", lab("9", "x", "a", "x")},
		{longKey + "=" + longVal, lab(longKey, longVal)},
	} {
		parses(t, c.s, c.want, allRight)
	}
}

// 11.3: what may not be, by the code that comes first
func TestParseOfOthers(t *testing.T) {
	long := strings.Repeat("k", 17)
	for _, c := range []struct {
		s    string
		code api.Code
	}{
		// Parts without =, wherever they stand, and whatever else is wrong.
		{"a", noForm}, {"x", noForm}, {" ", noForm}, {"\x00", noForm}, {"a:x", noForm}, {"a\u2260x", noForm},
		{",", noForm}, {",,", noForm}, {",,,,,,,", noForm}, {"a=x,", noForm}, {",a=x", noForm}, {"a=x,,b=x", noForm}, {"a=x,b=x,", noForm}, {",a=x,b=x", noForm},
		{"a,b", noForm}, {"a=x,b", noForm}, {"a,b=x", noForm}, {"a=x,b,c=x", noForm},
		{"b=x,a=x,c", noForm}, {"=x,a", noForm}, {"a==,b", noForm}, {"A=x,a", noForm},
		{"a=,b=,c=,d=,e", noForm}, {"a=,b=,c=,d=,e=,f", noForm}, {"a=,b=,c=,d=,", noForm}, {"a=,b=,c=,d=,e=,", noForm}, {",a=,b=,c=,d=,e=", noForm}, {"a=,b=,c=,d=,e=,,f=", noForm},
		// More labels than may be, whatever they are.
		{"a=,b=,c=,d=,e=", isLong}, {"=,=,=,=,=", isLong}, {"a=,a=,a=,a=,a=", isLong}, {"=/,A==,-=,a= ,b=x", isLong}, {"a=,b=,c=,d=,e=,f=", isLong},
		// Keys that may not be.
		{"=", noKey}, {"=x", noKey}, {"==", noKey}, {"=a=x", noKey}, {"-=x", noKey}, {"A=x", noKey}, {"a.b=x", noKey}, {"_=x", noKey}, {" a=x", noKey}, {"a =x", noKey},
		{"a-=x", noKey}, {"-a=x", noKey}, {"/=x", noKey}, {"a/=x", noKey}, {"/a=x", noKey}, {"a/b/c=x", noKey}, {"a//b=x", noKey}, {"\xff=x", noKey},
		{long + "=x", noKey}, {"a/" + long + "=x", noKey}, {long + "/a=x", noKey}, {"=/", noKey}, {"A=/", noKey},
		{"a=x,=x", noKey}, {"b=x,A=x", noKey}, {"a=,b=,c=,D=", noKey}, {"a=x, b=x", noKey}, {"b=,=", noKey},
		// Keys that do not rise, and those that stand twice.
		{"a=x,a=x", noShape}, {"a=x,a=y", noShape}, {"a=,a=", noShape}, {"b=x,a=x", noShape}, {"a=,b=,c=,b=", noShape}, {"a=,b=,c=,c=", noShape}, {"a=,c=,b=,d=", noShape},
		{"ab=,a/b=", noShape}, {"a/b=,a-b=", noShape}, {"a/b=,a=", noShape}, {"a=,9=", noShape}, {"a=,a==", noShape}, {"b=,a=/", noShape}, {"10=,9=,1=", noShape}, {"10=,1=", noShape},
		// Values that may not be.
		{"a==", noVal}, {"a===", noVal}, {"a=x=", noVal}, {"a==x", noVal}, {"a=b=c", noVal}, {"a=/", noVal}, {"a= ", noVal}, {"a=x ", noVal}, {"a=x y", noVal}, {"a=\xff", noVal}, {"a=\u00e9", noVal},
		{"a=" + long, noVal}, {"a=" + longVal + "a", noVal}, {"a=x,b=/", noVal}, {"a=/,b=x", noVal}, {"a=/,a=x", noVal}, {"a=/,A=x", noVal}, {"a=,b=,c=,d=:", noVal}, {"a=x\n", noVal}, {"a=x;b=y", noVal},
	} {
		parses(t, c.s, nil, c.code)
		if want, code := wantParse(c.s); want != nil || code != c.code {
			t.Errorf("the words say of %q: %v, %d; the table %d", c.s, want, int(code), int(c.code))
		}
	}
}

// 11.3: keys and values at their greatest lengths, and one byte longer
func TestParseAtTheGreatestLengths(t *testing.T) {
	for n := range 20 {
		name, val := strings.Repeat("k", n), strings.Repeat("V", n)
		want := func(may bool, code api.Code) api.Code {
			if may {
				return allRight
			}
			return code
		}
		may := n >= 1 && n <= 16
		for _, key := range []string{name, "a/" + name, name + "/a"} {
			code := want(may, noKey)
			l := labels{{Key: key, Val: "x"}}
			if code != allRight {
				l = nil
			}
			parses(t, key+"=x", l, code)
		}
		code := want(n <= 16, noVal)
		l := labels{{Key: "a", Val: val}}
		if code != allRight {
			l = nil
		}
		parses(t, "a="+val, l, code)
	}
}

// 11.3: all texts of at most seven bytes out of those that a selector's text is made of, and some that it is not
func TestParseOfAllShortTexts(t *testing.T) {
	const bytes = "ab=,A/"
	shorter := []string{""}
	parses(t, "", nil, allRight)
	for range 7 {
		longer := make([]string, 0, len(shorter)*len(bytes))
		for _, s := range shorter {
			for i := range len(bytes) {
				longer = append(longer, s+bytes[i:i+1])
			}
		}
		for _, s := range longer {
			want, code := wantParse(s)
			parses(t, s, want, code)
		}
		shorter = longer
	}
}

// 11.3: each byte that there is as a key, in a value, and between two labels
func TestParseOfEachByte(t *testing.T) {
	for b := range 256 {
		one := string([]byte{byte(b)})
		for _, s := range []string{one, one + "=x", "a=" + one, "a=x" + one + "b=y", "a" + one + "x", one + "a=x", "a=x" + one} {
			want, code := wantParse(s)
			parses(t, s, want, code)
		}
	}
}

// 11.4: texts are read as they were written, and other labels are not read as they are
func TestTextsAreReadAsTheyWereWritten(t *testing.T) {
	all := selectors([]string{"0", "a", "a-b", "a/b", "ab", longKey}, []string{"", "x"})
	all = append(all, selectors([]string{"a", longName, "b/c"}, []string{"", "X", "-._", longVal})...)
	for _, l := range all {
		if len(l) <= 4 {
			parses(t, Text(l), l, allRight)
		} else {
			parses(t, Text(l), nil, isLong)
		}
	}
	for _, l := range shortLists(3, lab("a", "", "a", "x", "b", "x", "", "x", "A", "x", "c", "=")...) {
		want, code := wantParse(Text(l))
		parses(t, Text(l), want, code)
		if code == allRight && !slices.Equal(want, l) {
			t.Errorf("%v has the text of %v", l, want)
		}
		if len(l) > 0 && code != wantCode(l) {
			t.Errorf("the text of %v is %d, but they are %d", l, int(code), int(wantCode(l)))
		}
	}
}

// 11.3, 11.4: texts of selectors at random, with a byte or a part changed, taken away, or set in
func TestParseAtRandom(t *testing.T) {
	rng := rand.New(rand.NewSource(113))
	parts := []string{"a=", "a=x", "b=x", "b/c=Y", "d=1.0", "a", "", "=", "=x", "a==", "A=x", "z=/", longKey + "=" + longVal}
	const bytes = "ab=,/-A.x\x00\xff "
	for range 30000 {
		var chosen []string
		for range rng.Intn(6) {
			chosen = append(chosen, parts[rng.Intn(len(parts))])
		}
		if rng.Intn(2) == 0 {
			slices.Sort(chosen)
		}
		s := []byte(strings.Join(chosen, ","))
		for range rng.Intn(3) {
			at := rng.Intn(len(s) + 1)
			switch b := bytes[rng.Intn(len(bytes))]; {
			case rng.Intn(3) == 0:
				s = slices.Insert(s, at, b)
			case at < len(s) && rng.Intn(2) == 0:
				s = slices.Delete(s, at, at+1)
			case at < len(s):
				s[at] = b
			}
		}
		want, code := wantParse(string(s))
		parses(t, string(s), want, code)
	}
}

// 11.3, P1: long texts end, too
func TestParseOfLongTexts(t *testing.T) {
	for _, c := range []struct {
		s    string
		code api.Code
	}{
		{strings.Repeat("=,", 1<<20) + "=", isLong},
		{strings.Repeat("=,", 1<<20), noForm},
		{strings.Repeat("a=x,", 1<<20) + "b", noForm},
		{strings.Repeat(",", 1<<20), noForm},
		{strings.Repeat("=", 1<<20), noKey},
		{"a" + strings.Repeat("=", 1<<20), noVal},
		{strings.Repeat("a", 1<<20), noForm},
		{strings.Repeat("a", 1<<20) + "=", noKey},
		{"a=" + strings.Repeat("a", 1<<20), noVal},
	} {
		if got, code := Parse(c.s); len(got) != 0 || code != c.code {
			t.Errorf("Parse of %q and so on = %v, %d; want %d", c.s[:5], got, int(code), int(c.code))
		}
	}
}

// R4
func TestTextsAndParsedSelectorsAreNewMemory(t *testing.T) {
	l := own(lab("aa", "xx", "bb", "yy"))
	s, again := Text(l), Text(l)
	one, _ := Parse(s)
	two, _ := Parse(s)
	single := own(lab("aa", ""))
	alone := Text(single)
	key := own(lab("", "xx"))
	apart(t, "Text and Parse", l, s, again, one, two, single, alone, Text(single), key, Text(key))
	_ = append(one, api.Label{Key: "cc"})
	one[0] = api.Label{}
	if !slices.Equal(two, l) {
		t.Errorf("another answer is changed: %v", two)
	}
}

// 11.3, 11.4
func FuzzParse(f *testing.F) {
	for _, s := range []string{"", "a=", "a=x,b=", "a=x,", ",", "=", "a==", "b=x,a=x", "a=,a=", "a=,b=,c=,d=,e=", "a=,b=,c=,d=,e", "A=", longKey + "=" + longVal} {
		f.Add(s)
	}
	f.Fuzz(func(t *testing.T, s string) {
		want, code := wantParse(s)
		parses(t, s, want, code)
	})
}
