package text

import (
	"regexp"
	"strings"
	"testing"
	"unsafe"

	"provost/api"
)

const (
	smallAndDigits = "abcdefghijklmnopqrstuvwxyz0123456789"
	capitalLetters = "ABCDEFGHIJKLMNOPQRSTUVWXYZ"
	nameBytes      = smallAndDigits + "-"
	tagBytes       = smallAndDigits + ".-"
	valBytes       = smallAndDigits + capitalLetters + "-_."

	namePattern = `[a-z0-9](?:[a-z0-9-]{0,14}[a-z0-9])?`
)

var (
	namePatternAlone = regexp.MustCompile(`\A` + namePattern + `\z`)
	keyPattern       = regexp.MustCompile(`\A` + namePattern + `(?:/` + namePattern + `)?\z`)
	valPattern       = regexp.MustCompile(`\A[a-zA-Z0-9_.-]{0,16}\z`)
	imagePattern     = regexp.MustCompile(`\A(` + namePattern + `(?:/` + namePattern + `)*):([a-z0-9.-]{1,8})\z`)
)

// wantSplit says by a pattern what the words say of an image.
func wantSplit(s string) (repo, tag string, ok bool) {
	m := imagePattern.FindStringSubmatch(s)
	if m == nil || len(m[1]) > 24 {
		return "", "", false
	}
	return m[1], m[2], true
}

func wantCode(ok bool, code api.Code) api.Code {
	if ok {
		return api.OK
	}
	return code
}

// check holds all that is told of one text against the patterns.
func check(t *testing.T, s string) {
	t.Helper()
	repo, tag, isImage := wantSplit(s)
	for _, c := range []struct {
		call      string
		got, want api.Code
	}{
		{"Name", Name(s), wantCode(namePatternAlone.MatchString(s), api.ErrName)},
		{"Key", Key(s), wantCode(keyPattern.MatchString(s), api.ErrKey)},
		{"Val", Val(s), wantCode(valPattern.MatchString(s), api.ErrVal)},
		{"Image", Image(s), wantCode(isImage, api.ErrImage)},
	} {
		if c.got != c.want {
			t.Errorf("%s(%q) = %d, want %d", c.call, s, int(c.got), int(c.want))
		}
	}
	if r, g := Split(s); r != repo || g != tag {
		t.Errorf("Split(%q) = %q, %q; want %q, %q", s, r, g, repo, tag)
	}
	if got := Same(s, s); got != isImage {
		t.Errorf("Same(%q, itself) = %v", s, got)
	}
}

// checkAll holds what a call tells of some texts that are right and of some that are not.
func checkAll(t *testing.T, name string, call func(string) api.Code, wrong api.Code, are, areNot []string) {
	t.Helper()
	for _, s := range are {
		if got := call(s); got != api.OK {
			t.Errorf("%s(%q) = %d, want OK", name, s, int(got))
		}
	}
	for _, s := range areNot {
		if got := call(s); got != wrong {
			t.Errorf("%s(%q) = %d, want %d", name, s, int(got), int(wrong))
		}
	}
}

// neverAre are texts that are a name, a key, a value or an image nowhere.
func neverAre() []string {
	return []string{
		" ", "a ", " a", "a b", "a\n", "\na", "a\x00", "\x00", "\t",
		"\xff", "a\xff", "\xc3", "\u00e4", "\u0430", "\uff41", "\u0661", "\u212a", "\u2010", "\ufffd",
		"a+b", "a@b", "a,b", "a*", "a~", "(a)", `a\b`,
		"//", "/:", "::", "a//b", "a::b", "/", ":", "a/b/", "/a/b",
		strings.Repeat("a", 1000), strings.Repeat("-", 1000), strings.Repeat("/", 1000), strings.Repeat(":", 1000),
		strings.Repeat("a/", 1000) + "a", strings.Repeat("a/", 1000) + "a:1", "a:" + strings.Repeat("1", 1000),
	}
}

// 3.1
func TestName(t *testing.T) {
	are := []string{
		"a", "z", "0", "9", "web", "web-1", "1", "1-web", "a-b", "a--b", "a-b-c", "0-0",
		"abcdefghijklmnop", "a--------------b", "0123456789012345",
	}
	areNot := append(neverAre(),
		"", "-", "--", "-a", "a-", "-a-", "-web", "web-", "-1",
		"abcdefghijklmnopq", "01234567890123456", "a---------------b", "-bcdefghijklmnop", "abcdefghijklmno-",
		"A", "Web", "weB", "wEb", "a_b", "a.b", "_", ".", "a/b", "a:1",
	)
	checkAll(t, "Name", Name, api.ErrName, are, areNot)
}

// 3.1
func TestKey(t *testing.T) {
	long, tooLong := "abcdefghijklmnop", "abcdefghijklmnopq"
	are := []string{
		"a", "app", "web-1", long,
		"a/b", "a/a", "app/web", "0/9", "a-b/c-d", long + "/" + long, long + "/a", "a/" + long,
	}
	areNot := append(neverAre(),
		"", "-", "-a", "a-", tooLong, "A", "a_b", "a.b", "a:1",
		"a/", "/a", "a/b/c", "a//b", "a/b/", "/a/b",
		"-a/b", "a-/b", "a/-b", "a/b-", "-/b", "a/-", "A/b", "a/B", "a/b.c", "a_b/c", "a/b:1",
		tooLong+"/a", "a/"+tooLong, tooLong+"/"+tooLong, long+"/"+long+"/a", long+"/", "/"+long,
	)
	checkAll(t, "Key", Key, api.ErrKey, are, areNot)
}

// 3.1
func TestVal(t *testing.T) {
	are := []string{
		"", "a", "A", "z", "Z", "0", "9", "-", "_", ".", "...", "---", "___", "-a", "a-", ".a", "a.", "_a", "a_",
		"web-1", "Web_1.0", "a_b.c-D", "abcdefghijklmnop", "ABCDEFGHIJKLMNOP", "----------------", "________________", "................",
	}
	areNot := append(neverAre(),
		"a/b", "a:1", "a/", "abcdefghijklmnopq", "ABCDEFGHIJKLMNOPQ", "-----------------", ".................",
	)
	checkAll(t, "Val", Val, api.ErrVal, are, areNot)
}

// 3.1, and the edges of a repository and of a tag
func TestImage(t *testing.T) {
	are := []string{
		"a:1", "web:1", "lib/web:1.0", "a/b/c:1.0-x", "0:0", "a-b:c-d", "a--b/c:x",
		"a:12345678", "a:-", "a:.", "a:--------", "a:........", "a:-1", "a:1-", "a:.1", "a:1.", "a:latest",
		"abcdefghijklmnop:1",
		"abcdefghijklmnop/bcdefgh:12345678",
		"abcdefgh/abcdefghijklmno:1",
		"abcdefghijkl/abcdefghijk:1",
		"a/b/c/d/e/f/g/h/i/j/k/ll:1",
	}
	areNot := append(neverAre(),
		"", "a", "lib/web", "a:", ":1", ":", "a:1:2", "a:1:", ":a:1", "a::1", "a:b/c", "a:/", "a:/1", "a:1/",
		"/a:1", "a/:1", "a//b:1", "/:1", "//:1", "/a/b:1", "a/b/:1",
		"-a:1", "a-:1", "a/-b:1", "a-/b:1", "a/b-:1", "-:1", "a/-/b:1", "A:1", "a/B:1", "a.b:1", "a_b:1", "a/b_c:1",
		"a:123456789", "a:A", "a:1A", "a:_", "a:1_0", "a: ", "a:\u00e4", "a:1\n", "a:1\x00",
		"abcdefghijklmnopq:1",
		"abcdefghijklmnopq/a:1",
		"a/abcdefghijklmnopq:1",
		"abcdefghijklmnop/bcdefghi:1",
		"abcdefghijkl/abcdefghijkl:1",
		"a/b/c/d/e/f/g/h/i/j/k/lll:1",
		"a/b/c/d/e/f/g/h/i/j/k/l/m:1",
	)
	checkAll(t, "Image", Image, api.ErrImage, are, areNot)
}

// 3.1: each of the 256 bytes, in each place where it may or may not stand
func TestEveryByte(t *testing.T) {
	for n := range 256 {
		b := string([]byte{byte(n)})
		atEnd := strings.Contains(smallAndDigits, b)
		within := strings.Contains(nameBytes, b)
		inVal, inTag := strings.Contains(valBytes, b), strings.Contains(tagBytes, b)
		checkByte(t, "Name", Name, api.ErrName, atEnd, b, "a"+b, b+"a", "a-"+b, b+"-a")
		checkByte(t, "Name", Name, api.ErrName, within, "a"+b+"a", "a"+b+"-a", "a-"+b+"a", "abcdefghijklmn"+b+"p")
		checkByte(t, "Key", Key, api.ErrKey, atEnd, b, b+"/a", "a/"+b, "aa"+b+"/a"+b)
		checkByte(t, "Key", Key, api.ErrKey, within || b == "/", "a"+b+"a")
		checkByte(t, "Key", Key, api.ErrKey, within, "a"+b+"a/a", "a/a"+b+"a")
		checkByte(t, "Val", Val, api.ErrVal, inVal, b, "a"+b, b+"a", "A"+b+"_", "abcdefghijklmno"+b)
		checkByte(t, "Image", Image, api.ErrImage, atEnd, b+":1", "a/"+b+":1", b+"/a:1")
		checkByte(t, "Image", Image, api.ErrImage, within || b == "/", "a"+b+"a:1")
		checkByte(t, "Image", Image, api.ErrImage, inTag, "a:"+b, "a:1"+b, "a:"+b+"1", "a:1234567"+b)
		checkByte(t, "Image", Image, api.ErrImage, b == ":", "a"+b+"1")
	}
}

func checkByte(t *testing.T, name string, call func(string) api.Code, wrong api.Code, ok bool, texts ...string) {
	t.Helper()
	for _, s := range texts {
		if got := call(s); ok != (got == api.OK) || !ok && got != wrong {
			t.Errorf("%s(%q) = %d, want it to be one: %v", name, s, int(got), ok)
		}
	}
}

// 3.1, 3.2: all texts of at most six bytes, of bytes of each kind
func TestAllShortTexts(t *testing.T) {
	short := []string{""}
	for len(short[0]) < 6 {
		var longer []string
		for _, s := range short {
			check(t, s)
			for _, b := range "a0-/:.A" {
				longer = append(longer, s+string(b))
			}
		}
		short = longer
	}
	for _, s := range short {
		check(t, s)
	}
}

// 3.1, 3.2: texts of one part and of two, of all lengths around the greatest
func TestLengths(t *testing.T) {
	for first := range 30 {
		a := strings.Repeat("a", first)
		check(t, a)
		for second := range 30 {
			b := strings.Repeat("b", second)
			check(t, a+"/"+b)
			check(t, a+":"+b)
			for third := range 10 {
				check(t, a+"/"+b+":"+strings.Repeat("1", third))
			}
		}
	}
}

// 3.2
func TestSplit(t *testing.T) {
	for _, c := range []struct{ image, repo, tag string }{
		{"web:1", "web", "1"},
		{"lib/web:2", "lib/web", "2"},
		{"lib/web:1.0", "lib/web", "1.0"},
		{"a/b/c:1.0-x", "a/b/c", "1.0-x"},
		{"a:-", "a", "-"},
		{"abcdefghijklmnop/bcdefgh:12345678", "abcdefghijklmnop/bcdefgh", "12345678"},
		{"", "", ""},
		{"web", "", ""},
		{"lib/web", "", ""},
		{"web:", "", ""},
		{":1", "", ""},
		{":", "", ""},
		{"web:1:2", "", ""},
		{"Web:1", "", ""},
		{"web:A", "", ""},
		{"web/:1", "", ""},
		{"a//b:1", "", ""},
		{"web:123456789", "", ""},
		{"abcdefghijklmnop/bcdefghi:1", "", ""},
	} {
		if repo, tag := Split(c.image); repo != c.repo || tag != c.tag {
			t.Errorf("Split(%q) = %q, %q; want %q, %q", c.image, repo, tag, c.repo, c.tag)
		}
	}
}

// 3.2
func TestSame(t *testing.T) {
	for _, c := range []struct {
		a, b string
		want bool
	}{
		{"web:1", "web:1", true},
		{"web:1", "web:2", true},
		{"web:1", "web:1.0-x", true},
		{"lib/web:1", "lib/web:2", true},
		{"a:1", "b:1", false},
		{"web:1", "lib/web:1", false},
		{"lib/web:1", "web/lib:1", false},
		{"web:1", "web1:1", false},
		{"a/b:1", "a/b/c:1", false},
		{"web:1", "weB:1", false},
		{"web:1", "web", false},
		{"web:1", "web:", false},
		{"web:1", "web:1:2", false},
		{"web:1", "web:A", false},
		{"web:1", "", false},
		{"", "", false},
		{"web", "web", false},
		{"web:", "web:", false},
		{":1", ":1", false},
		{":1", ":2", false},
		{"Web:1", "Web:1", false},
		{"a//b:1", "a//b:1", false},
	} {
		if got := Same(c.a, c.b); got != c.want {
			t.Errorf("Same(%q, %q) = %v", c.a, c.b, got)
		}
		if got := Same(c.b, c.a); got != c.want {
			t.Errorf("Same(%q, %q) = %v", c.b, c.a, got)
		}
	}
}

// 3.3
func TestANameIsAKeyAValueAndARepository(t *testing.T) {
	for _, name := range []string{"a", "0", "web-1", "a--b", "abcdefghijklmnop", "0--------------0"} {
		if Name(name) != api.OK || Key(name) != api.OK || Val(name) != api.OK {
			t.Errorf("%q is not a name, a key and a value", name)
		}
		for _, tag := range []string{"1", "1.0", "-", ".", "latest", "12345678"} {
			image := name + ":" + tag
			if Image(image) != api.OK {
				t.Errorf("%q is no image", image)
			}
			if r, g := Split(image); r != name || g != tag {
				t.Errorf("Split(%q) = %q, %q", image, r, g)
			}
			if !Same(image, name+":x") {
				t.Errorf("%q is not of the repository %q", image, name)
			}
		}
	}
}

// 3.1 to 3.3
func FuzzTexts(f *testing.F) {
	for _, s := range append(neverAre(), "", "a", "web-1", "-web", "a/b", "Web_1.0", "lib/web:1.0", "a:1:2", "abcdefghijklmnop/bcdefgh:12345678") {
		f.Add(s, "web:1")
		f.Add(s, s)
	}
	f.Fuzz(func(t *testing.T, a, b string) {
		check(t, a)
		if Name(a) == api.OK && (Key(a) != api.OK || Val(a) != api.OK || Image(a+":1") != api.OK) {
			t.Errorf("the name %q is not a key, a value and a repository", a)
		}
		repo, tag := Split(a)
		if Image(a) == api.OK && repo+":"+tag != a {
			t.Errorf("Split(%q) = %q, %q", a, repo, tag)
		}
		other, _ := Split(b)
		if want := repo != "" && repo == other; Same(a, b) != want || Same(b, a) != want {
			t.Errorf("Same(%q, %q), want %v", a, b, want)
		}
	})
}

// R4
func TestSplitSharesNoMemory(t *testing.T) {
	image := strings.Clone("lib/web:1.0")
	repo, tag := Split(image)
	from := uintptr(unsafe.Pointer(unsafe.StringData(image)))
	for _, part := range []string{repo, tag} {
		at := uintptr(unsafe.Pointer(unsafe.StringData(part)))
		if at >= from && at < from+uintptr(len(image)) {
			t.Errorf("%q lies within what was handed in", part)
		}
	}
}

// the chapter's examples
func TestExamples(t *testing.T) {
	if Name("web-1") != api.OK || Name("-web") != api.ErrName || Image("lib/web:1.0") != api.OK {
		t.Error("examples")
	}
}
