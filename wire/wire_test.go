package wire

import (
	"bytes"
	"encoding/binary"
	"math"
	"math/rand"
	"reflect"
	"strings"
	"testing"
	"unsafe"

	"provost/api"
)

// someCodes are errors of all sorts, those that no chapter names too.
func someCodes() []api.Code {
	return []api.Code{api.ErrRange, api.ErrLong, api.ErrForm, api.ErrShape, api.ErrName, api.ErrShort, api.ErrLine, 9, 999, -1, math.MaxInt, math.MinInt}
}

// edgeNumbers are numbers around each place where a bit, or a byte, more is needed.
func edgeNumbers() []uint64 {
	out := []uint64{0, 9, 10, 255, 300, math.MaxUint64, math.MaxUint64 - 1}
	for shift := range 64 {
		power := uint64(1) << shift
		out = append(out, power-1, power, power+1)
	}
	return out
}

// someTexts are texts around the places where their length needs a byte more, and of bytes of all sorts.
func someTexts() []string {
	out := []string{"", "a", "hi", "abc", "\x00", "\x80", "\xff\xff", "a\x00b", "\u00e4\u20ac", "\xc3", "\n"}
	for _, size := range []int{126, 127, 128, 129, 300, 16383, 16384, 16385, 70000} {
		out = append(out, strings.Repeat("x", size), strings.Repeat("\x80", size))
	}
	return out
}

// numberBytes are the bytes of n as the library of the language has them, which are those of chapter 1.
func numberBytes(n uint64) string { return string(binary.AppendUvarint(nil, n)) }

func textBytes(s string) string { return numberBytes(uint64(len(s))) + s }

// wantNumber says after the words of the chapter which number s begins with, and how long it is, or why there is none.
func wantNumber(s string, most uint64) (n uint64, size int, code api.Code) {
	end := -1
	for i := 0; i < len(s) && i < 10 && end < 0; i++ {
		if s[i] < 128 {
			end = i
		}
	}
	if end < 0 && len(s) < 10 {
		return 0, 0, api.ErrShort
	}
	n, size = binary.Uvarint([]byte(s))
	if size <= 0 || size > 1 && s[size-1] == 0 {
		return 0, 0, api.ErrForm
	}
	if n > most {
		return 0, 0, api.ErrLong
	}
	return n, size, api.OK
}

func mostOf(most int) uint64 {
	if most < 0 {
		return 0
	}
	return uint64(most)
}

// wantText says which text s begins with, and how long it is with its length ahead, or why there is none.
func wantText(s string, most int) (text string, size int, code api.Code) {
	length, ahead, code := wantNumber(s, mostOf(most))
	if code != api.OK {
		return "", 0, code
	}
	if length > uint64(len(s)-ahead) {
		return "", 0, api.ErrShort
	}
	size = ahead + int(length)
	return s[ahead:size], size, api.OK
}

// wantBool says which truth s begins with, or why there is none.
func wantBool(s string) (is bool, size int, code api.Code) {
	switch {
	case s == "":
		return false, 0, api.ErrShort
	case s[0] > 1:
		return false, 0, api.ErrForm
	}
	return s[0] == 1, 1, api.OK
}

// checkWritten holds what was written, twice, as End changes nothing.
func checkWritten(t *testing.T, w *Writer, want string, code api.Code) {
	t.Helper()
	for range 2 {
		if s, c := w.End(); s != want || c != code {
			t.Errorf("End() = %.40q, %d; want %.40q, %d", s, int(c), want, int(code))
		}
	}
}

// checkReader holds a reader's error and, as long as there is none, what is left.
func checkReader(t *testing.T, r *Reader, code api.Code, left int) {
	t.Helper()
	if got := r.Code(); got != code {
		t.Errorf("Code() = %d, want %d", int(got), int(code))
	}
	if got := r.Left(); code == api.OK && got != left {
		t.Errorf("Left() = %d, want %d", got, left)
	}
}

// checkReads holds the first of each kind that is read of s.
func checkReads(t *testing.T, s string, most int) {
	t.Helper()
	r := Read(s)
	n, size, code := wantNumber(s, mostOf(most))
	if got := r.Num(most); uint64(got) != n {
		t.Errorf("Num(%d) of %.40q = %d, want %d", most, s, got, n)
	}
	checkReader(t, r, code, len(s)-size)

	r = Read(s)
	n, size, code = wantNumber(s, math.MaxUint64)
	if got := r.Big(); got != n {
		t.Errorf("Big() of %.40q = %d, want %d", s, got, n)
	}
	checkReader(t, r, code, len(s)-size)

	r = Read(s)
	text, size, code := wantText(s, most)
	if got := r.Text(most); got != text {
		t.Errorf("Text(%d) of %.40q = %.40q, want %.40q", most, s, got, text)
	}
	checkReader(t, r, code, len(s)-size)

	r = Read(s)
	is, size, code := wantBool(s)
	if got := r.Bool(); got != is {
		t.Errorf("Bool() of %.40q = %v, want %v", s, got, is)
	}
	checkReader(t, r, code, len(s)-size)
}

// 4.1
func TestAWriterOfNothing(t *testing.T) {
	checkWritten(t, Write(), "", api.OK)
}

// 4.1
func TestNumbersAreWrittenAsTheirBytes(t *testing.T) {
	for _, n := range edgeNumbers() {
		w := Write()
		w.Big(n)
		checkWritten(t, w, numberBytes(n), api.OK)
		if n > math.MaxInt {
			continue
		}
		w = Write()
		w.Num(int(n))
		checkWritten(t, w, numberBytes(n), api.OK)
	}
}

// 4.1, written out
func TestSomeNumbersAsBytes(t *testing.T) {
	for _, c := range []struct {
		n    int
		want string
	}{
		{0, "\x00"}, {1, "\x01"}, {127, "\x7f"}, {128, "\x80\x01"}, {300, "\xac\x02"},
		{math.MaxInt, "\xff\xff\xff\xff\xff\xff\xff\xff\x7f"},
	} {
		w := Write()
		w.Num(c.n)
		checkWritten(t, w, c.want, api.OK)
	}
	w := Write()
	w.Big(math.MaxUint64)
	checkWritten(t, w, "\xff\xff\xff\xff\xff\xff\xff\xff\xff\x01", api.OK)
}

// 4.1
func TestANumberBelowNoughtIsNotWritten(t *testing.T) {
	for _, n := range []int{-1, -2, -128, -300, math.MinInt + 1, math.MinInt} {
		w := Write()
		w.Num(n)
		checkWritten(t, w, "", api.ErrRange)

		w = Write()
		w.Text("ahead")
		w.Num(n)
		w.Text("behind")
		checkWritten(t, w, "", api.ErrRange)
	}
}

// 4.1
func TestTextsAreWrittenBehindTheirLengths(t *testing.T) {
	for _, s := range someTexts() {
		w := Write()
		w.Text(s)
		checkWritten(t, w, textBytes(s), api.OK)
	}
	w := Write()
	w.Text("")
	checkWritten(t, w, "\x00", api.OK)
	w.Text("abc")
	checkWritten(t, w, "\x00\x03abc", api.OK)
}

// 4.1
func TestTruthsAreOneByte(t *testing.T) {
	w := Write()
	w.Bool(true)
	checkWritten(t, w, "\x01", api.OK)
	w.Bool(false)
	checkWritten(t, w, "\x01\x00", api.OK)
	w.Bool(true)
	checkWritten(t, w, "\x01\x00\x01", api.OK)
}

// writes are all calls of a writer that write.
func writes() map[string]func(w *Writer) {
	return map[string]func(w *Writer){
		"Num":         func(w *Writer) { w.Num(7) },
		"Num below 0": func(w *Writer) { w.Num(-7) },
		"Big":         func(w *Writer) { w.Big(math.MaxUint64) },
		"Text":        func(w *Writer) { w.Text("text") },
		"empty Text":  func(w *Writer) { w.Text("") },
		"true":        func(w *Writer) { w.Bool(true) },
		"false":       func(w *Writer) { w.Bool(false) },
		"Fail":        func(w *Writer) { w.Fail(api.ErrKind) },
		"Fail of OK":  func(w *Writer) { w.Fail(api.OK) },
	}
}

// 4.1
func TestNothingIsWrittenBehindAnError(t *testing.T) {
	for _, c := range someCodes() {
		for name, write := range writes() {
			w := Write()
			w.Fail(c)
			write(w)
			if s, code := w.End(); s != "" || code != c || len(w.written) > 0 {
				t.Errorf("%s behind %d: %q, %d, and %q is kept", name, int(c), s, int(code), w.written)
			}
			w.Text("more")
			checkWritten(t, w, "", c)
		}
	}
	for name, write := range writes() {
		w := Write()
		w.Text("ahead")
		w.Num(-1)
		write(w)
		if s, code := w.End(); s != "" || code != api.ErrRange {
			t.Errorf("%s behind a number below 0: %q, %d", name, s, int(code))
		}
	}
}

// 4.1
func TestAWritersFirstErrorStays(t *testing.T) {
	for _, first := range someCodes() {
		for _, second := range append(someCodes(), api.OK) {
			w := Write()
			w.Fail(api.OK)
			w.Text("hi")
			w.Fail(api.OK)
			checkWritten(t, w, "\x02hi", api.OK)
			w.Fail(first)
			checkWritten(t, w, "", first)
			w.Fail(second)
			checkWritten(t, w, "", first)
		}
	}
}

// 4.1: End tells what was written so far, and may be asked again
func TestAWriterGoesOnBehindEnd(t *testing.T) {
	w := Write()
	want, told := "", []string{}
	for _, n := range edgeNumbers() {
		w.Big(n)
		want += numberBytes(n)
		s, code := w.End()
		if s != want || code != api.OK {
			t.Fatalf("End() = %q, %d; want %q", s, int(code), want)
		}
		told = append(told, s)
	}
	for i, s := range told {
		if !strings.HasPrefix(want, s) {
			t.Errorf("what was told at %d is another one now: %q", i, s)
		}
	}
}

// 4.2, written out
func TestReadAtTheEdges(t *testing.T) {
	nine, ten := strings.Repeat("\xff", 9), strings.Repeat("\xff", 10)
	num := func(r *Reader, most int) bool { return r.Num(most) == 0 }
	big := func(r *Reader, most int) bool { return r.Big() == 0 }
	text := func(r *Reader, most int) bool { return r.Text(most) == "" }
	truth := func(r *Reader, most int) bool { return !r.Bool() }
	for i, c := range []struct {
		s    string
		read func(r *Reader, most int) bool
		most int
		want api.Code
	}{
		{"", num, 9, api.ErrShort},
		{"\x80", num, 9, api.ErrShort},
		{"\xff\xff\xff", num, 9, api.ErrShort},
		{nine, num, 9, api.ErrShort},
		{nine, num, math.MaxInt, api.ErrShort},
		{ten, num, 9, api.ErrForm},
		{ten + "\x01", num, 9, api.ErrForm},
		{ten + ten + ten, num, 9, api.ErrForm},
		{nine + "\x00", num, math.MaxInt, api.ErrForm},
		{nine + "\x02", num, math.MaxInt, api.ErrForm},
		{nine + "\x7f", num, math.MaxInt, api.ErrForm},
		{nine + "\x01", num, math.MaxInt, api.ErrLong},
		{"\x80\x80\x80\x80\x80\x80\x80\x80\x80\x01", num, math.MaxInt, api.ErrLong},
		{"\x80\x00", num, 9, api.ErrForm},
		{"\xff\x00", num, 9, api.ErrForm},
		{"\x80\x80\x00\x80", num, 9, api.ErrForm},
		{"\x0a", num, 9, api.ErrLong},
		{"\xac\x02", num, 299, api.ErrLong},
		{"\x00", num, -5, api.OK},
		{"\x00", num, math.MinInt, api.OK},
		{"\x01", num, -5, api.ErrLong},
		{"\x01", num, 0, api.ErrLong},
		{"\x01", num, math.MinInt, api.ErrLong},
		{"", big, 0, api.ErrShort},
		{nine, big, 0, api.ErrShort},
		{ten, big, 0, api.ErrForm},
		{nine + "\x00", big, 0, api.ErrForm},
		{nine + "\x02", big, 0, api.ErrForm},
		{"\x81\x00", big, 0, api.ErrForm},
		{"", text, 9, api.ErrShort},
		{"\x80", text, 9, api.ErrShort},
		{nine, text, 9, api.ErrShort},
		{ten, text, 9, api.ErrForm},
		{"\x82\x00ab", text, 9, api.ErrForm},
		{"\x03ab", text, 9, api.ErrShort},
		{"\x01", text, 9, api.ErrShort},
		{"\x03ab", text, 3, api.ErrShort},
		{"\x03ab", text, 2, api.ErrLong},
		{"\x03abc", text, 2, api.ErrLong},
		{"\x01a", text, 0, api.ErrLong},
		{"\x01a", text, -1, api.ErrLong},
		{"\x00a", text, -1, api.OK},
		{"\xff\xff\xff\xff\xff\xff\xff\xff\x7fabc", text, math.MaxInt, api.ErrShort},
		{nine + "\x01abc", text, math.MaxInt, api.ErrLong},
		{"", truth, 0, api.ErrShort},
		{"\x02", truth, 0, api.ErrForm},
		{"\xff\x01", truth, 0, api.ErrForm},
		{"\x80", truth, 0, api.ErrForm},
		{"\x81\x00", truth, 0, api.ErrForm},
		{"\x00", truth, 0, api.OK},
	} {
		r := Read(c.s)
		if !c.read(r, c.most) || r.Code() != c.want {
			t.Errorf("%d: of %q: %d, want %d", i, c.s, int(r.Code()), int(c.want))
		}
	}
}

// 4.2
func TestAllShortTextsAreRead(t *testing.T) {
	mosts := []int{math.MinInt, -1, 0, 1, 2, 127, 128, 300, math.MaxInt}
	for _, most := range mosts {
		checkReads(t, "", most)
		for first := range 256 {
			checkReads(t, string([]byte{byte(first)}), most)
			for second := range 256 {
				checkReads(t, string([]byte{byte(first), byte(second)}), most)
				checkReads(t, string([]byte{byte(first), byte(second), 1}), most)
			}
		}
	}
}

// 4.2: bytes that lack, at each length around the ten that a number has at most, with an end at each place
func TestNumbersOfManyBytes(t *testing.T) {
	for size := range 14 {
		for _, b := range []byte{0x80, 0x81, 0xff} {
			checkReads(t, string(bytes.Repeat([]byte{b}, size)), math.MaxInt)
			for at := range size {
				for _, end := range []byte{0, 1, 2, 0x7f} {
					s := bytes.Repeat([]byte{b}, size)
					s[at] = end
					checkReads(t, string(s), math.MaxInt)
					checkReads(t, string(s), 9)
				}
			}
		}
	}
}

// 4.2: a number of just the most, of one more and of one less
func TestTheMostOfANumber(t *testing.T) {
	for _, n := range edgeNumbers() {
		s := numberBytes(n)
		checkReads(t, s, math.MaxInt)
		if n > math.MaxInt {
			continue
		}
		for _, most := range []int{int(n), max(int(n), 1) - 1, min(int(n), math.MaxInt-1) + 1, -int(n)} {
			checkReads(t, s, most)
			checkReads(t, s+"\x80", most)
		}
		if r := Read(s); r.Num(int(n)) != int(n) || r.End() != api.OK {
			t.Errorf("Num(%d) of just that: %d", n, int(r.Code()))
		}
		if r := Read(s); n > 0 && (r.Num(int(n)-1) != 0 || r.Code() != api.ErrLong) {
			t.Errorf("Num(%d) of one more: %d", n-1, int(r.Code()))
		}
	}
}

// 4.2: a text of just the most, of one more, and with bytes that lack
func TestTheMostOfAText(t *testing.T) {
	for _, s := range someTexts() {
		for _, most := range []int{len(s), len(s) - 1, len(s) + 1, math.MaxInt, 0, -1} {
			checkReads(t, textBytes(s), most)
			checkReads(t, textBytes(s)+"behind", most)
		}
		for cut := range min(len(s), 5) {
			whole := textBytes(s)
			checkReads(t, whole[:len(whole)-cut-1], math.MaxInt)
			checkReads(t, whole[:len(whole)-cut-1], len(s)-1)
		}
		if r := Read(textBytes(s)); r.Text(len(s)) != s || r.End() != api.OK {
			t.Errorf("Text(%d) of just that: %d", len(s), int(r.Code()))
		}
		if r := Read(textBytes(s)); s != "" && (r.Text(len(s)-1) != "" || r.Code() != api.ErrLong) {
			t.Errorf("Text(%d) of one more: %d", len(s)-1, int(r.Code()))
		}
	}
}

// 4.2
func TestEveryByteAsATruth(t *testing.T) {
	for b := range 256 {
		for _, behind := range []string{"", "\x00", "\x01"} {
			r := Read(string([]byte{byte(b)}) + behind)
			is := r.Bool()
			switch {
			case b > 1 && (is || r.Code() != api.ErrForm):
				t.Errorf("Bool() of %d: %v, %d", b, is, int(r.Code()))
			case b <= 1 && (is != (b == 1) || r.Code() != api.OK || r.Left() != len(behind)):
				t.Errorf("Bool() of %d: %v, %d", b, is, int(r.Code()))
			}
		}
	}
}

// checkNothingIsRead holds that behind the error c each call reads nothing, and that c stays.
func checkNothingIsRead(t *testing.T, r *Reader, c api.Code) {
	t.Helper()
	for range 2 {
		if n := r.Num(math.MaxInt); n != 0 || r.Code() != c {
			t.Errorf("Num behind %d: %d, %d", int(c), n, int(r.Code()))
		}
		if n := r.Num(0); n != 0 || r.Code() != c {
			t.Errorf("Num of 0 behind %d: %d, %d", int(c), n, int(r.Code()))
		}
		if n := r.Big(); n != 0 || r.Code() != c {
			t.Errorf("Big behind %d: %d, %d", int(c), n, int(r.Code()))
		}
		if s := r.Text(math.MaxInt); s != "" || r.Code() != c {
			t.Errorf("Text behind %d: %q, %d", int(c), s, int(r.Code()))
		}
		if is := r.Bool(); is || r.Code() != c {
			t.Errorf("Bool behind %d: %v, %d", int(c), is, int(r.Code()))
		}
		r.Fail(api.OK)
		r.Fail(api.ErrKind)
		if r.Code() != c || r.End() != c || r.Code() != c {
			t.Errorf("End behind %d: %d", int(c), int(r.End()))
		}
	}
}

// 4.2 and 4.3: whatever stands there, and whichever error it was
func TestNothingIsReadBehindAnError(t *testing.T) {
	for _, s := range []string{"", "\x00", "\x01", "\x01\x01\x01", "\x02hi", "\x01a\x01a\x01a", "\x80", "\xff\xff", "\x07", strings.Repeat("\x01", 50), strings.Repeat("\xff", 50)} {
		for _, c := range someCodes() {
			r := Read(s)
			r.Fail(c)
			checkNothingIsRead(t, r, c)
		}
		for _, wrong := range []struct {
			ahead string
			read  func(r *Reader)
			want  api.Code
		}{
			{"\x80\x00", func(r *Reader) { r.Num(9) }, api.ErrForm},
			{"\x0a", func(r *Reader) { r.Num(9) }, api.ErrLong},
			{"\x80\x00", func(r *Reader) { r.Big() }, api.ErrForm},
			{"\x7f", func(r *Reader) { r.Text(127) }, api.ErrShort},
			{"\x0a", func(r *Reader) { r.Text(9) }, api.ErrLong},
			{"\x02", func(r *Reader) { r.Bool() }, api.ErrForm},
		} {
			r := Read(wrong.ahead + s)
			wrong.read(r)
			checkNothingIsRead(t, r, wrong.want)
		}
	}
	r := Read("\x01a")
	r.Text(1)
	r.Bool()
	checkNothingIsRead(t, r, api.ErrShort)
}

// 4.2
func TestAReadersFirstErrorStays(t *testing.T) {
	for _, first := range someCodes() {
		for _, second := range append(someCodes(), api.OK) {
			r := Read("\x02hi\x01")
			r.Fail(api.OK)
			if s := r.Text(2); s != "hi" || r.Code() != api.OK {
				t.Errorf("Fail of OK: %q, %d", s, int(r.Code()))
			}
			r.Fail(first)
			r.Fail(second)
			if r.Code() != first || r.End() != first || r.Bool() {
				t.Errorf("%d behind %d: %d", int(second), int(first), int(r.Code()))
			}
		}
	}
}

// 4.3
func TestLeftAndEnd(t *testing.T) {
	r := Read("\xac\x02\x02hi\x01\x05")
	left := []int{7, 5, 2, 1, 0}
	for i, read := range []func(){
		func() {}, func() { r.Num(300) }, func() { r.Text(2) }, func() { r.Bool() }, func() { r.Big() },
	} {
		read()
		checkReader(t, r, api.OK, left[i])
	}
	for range 2 {
		if c := r.End(); c != api.OK || r.Code() != api.OK || r.Left() != 0 {
			t.Errorf("End() at the end = %d", int(c))
		}
	}
	if r.Bool() || r.Code() != api.ErrShort || r.End() != api.ErrShort {
		t.Errorf("Bool() behind the end: %d", int(r.Code()))
	}
}

// 4.3
func TestEndWhereBytesAreLeft(t *testing.T) {
	for _, s := range []string{"a", "ab", "\x00", "\x01\x01", "\x80", strings.Repeat("\xff", 20)} {
		r := Read(s)
		checkReader(t, r, api.OK, len(s))
		if c := r.End(); c != api.ErrForm {
			t.Errorf("End() of %q = %d", s, int(c))
		}
		checkNothingIsRead(t, r, api.ErrForm)

		r = Read("\x01" + s)
		r.Bool()
		if c := r.End(); c != api.ErrForm || r.Code() != api.ErrForm {
			t.Errorf("End() ahead of %q = %d", s, int(c))
		}
	}
	if r := Read(""); r.End() != api.OK || r.Code() != api.OK || r.Left() != 0 {
		t.Errorf("End() of nothing = %d", int(r.Code()))
	}
}

// 4.3
func TestEndBehindAnError(t *testing.T) {
	for _, c := range someCodes() {
		for _, s := range []string{"", "a", "\x02hi"} {
			r := Read(s)
			r.Fail(c)
			if got := r.End(); got != c || r.Code() != c {
				t.Errorf("End() of %q behind %d = %d", s, int(c), int(got))
			}
		}
	}
	r := Read("\x05\x01")
	r.Num(4)
	if c := r.End(); c != api.ErrLong {
		t.Errorf("End() behind ErrLong = %d", int(c))
	}
}

// The kinds of values that the tests below go through.
const (
	aNum = iota
	aBig
	aText
	aBool
	kinds
)

// value is one of what is written.
type value struct {
	kind int
	n    uint64
	text string
	is   bool
}

func (v value) write(w *Writer) {
	switch v.kind {
	case aNum:
		w.Num(int(v.n))
	case aBig:
		w.Big(v.n)
	case aText:
		w.Text(v.text)
	default:
		w.Bool(v.is)
	}
}

func (v value) bytes() string {
	switch {
	case v.kind == aNum || v.kind == aBig:
		return numberBytes(v.n)
	case v.kind == aText:
		return textBytes(v.text)
	case v.is:
		return "\x01"
	}
	return "\x00"
}

// readValue reads one of that kind, with that most.
func readValue(r *Reader, kind, most int) value {
	v := value{kind: kind}
	switch kind {
	case aNum:
		v.n = uint64(r.Num(most))
	case aBig:
		v.n = r.Big()
	case aText:
		v.text = r.Text(most)
	default:
		v.is = r.Bool()
	}
	return v
}

func randomValue(random *rand.Rand) value {
	v := value{kind: random.Intn(kinds)}
	switch v.kind {
	case aNum:
		v.n = random.Uint64() >> (1 + random.Intn(63))
	case aBig:
		v.n = random.Uint64() >> random.Intn(64)
	case aText:
		text := make([]byte, random.Intn(200))
		random.Read(text)
		v.text = string(text)
	default:
		v.is = random.Intn(2) == 1
	}
	return v
}

// 4.4
func TestWhatIsWrittenIsReadAgain(t *testing.T) {
	random := rand.New(rand.NewSource(4))
	for range 2000 {
		values := make([]value, random.Intn(20))
		w, want := Write(), ""
		for i := range values {
			values[i] = randomValue(random)
			values[i].write(w)
			want += values[i].bytes()
		}
		checkWritten(t, w, want, api.OK)
		s, _ := w.End()
		r := Read(s)
		for _, v := range values {
			// The least most that lets it be, so that a lesser one would be seen.
			if got := readValue(r, v.kind, int(v.n)+len(v.text)); got != v {
				t.Fatalf("%#v was written, %#v was read", v, got)
			}
		}
		if c := r.End(); c != api.OK {
			t.Fatalf("End() = %d", int(c))
		}
	}
}

// checkReadIsWritten reads s by a plan, a byte a call, and holds that what was read has just the bytes that were read.
func checkReadIsWritten(t *testing.T, s, plan string) {
	t.Helper()
	r, w := Read(s), Write()
	for i := range len(plan) {
		left := r.Left()
		v := readValue(r, int(plan[i])%kinds, int(plan[i])/kinds*100-100)
		if r.Code() != api.OK {
			if v != (value{kind: v.kind}) {
				t.Fatalf("read %#v of %q beside the error %d", v, s, int(r.Code()))
			}
			break
		}
		if r.Left() >= left {
			t.Fatalf("%d bytes are left of %d behind %#v", r.Left(), left, v)
		}
		v.write(w)
		if written, c := w.End(); c != api.OK || written != s[:len(s)-r.Left()] {
			t.Fatalf("of %q, %d left, was written %q, %d", s, r.Left(), written, int(c))
		}
	}
	first := r.Code()
	left := r.Left()
	got := r.End()
	if first != api.OK && got != first || first == api.OK && (got == api.OK) != (left == 0) {
		t.Fatalf("End() = %d behind %d with %d left", int(got), int(first), left)
	}
}

// 4.4
func TestWhatIsReadHasJustTheseBytes(t *testing.T) {
	random := rand.New(rand.NewSource(44))
	for range 100000 {
		s, plan := make([]byte, random.Intn(40)), make([]byte, random.Intn(20))
		random.Read(s)
		random.Read(plan)
		// Small bytes make whole numbers, texts and truths likely.
		for i := range s {
			if random.Intn(3) > 0 {
				s[i] %= 4
			}
		}
		checkReadIsWritten(t, string(s), string(plan))
	}
}

// 4.2 and 4.4
func FuzzReader(f *testing.F) {
	for _, s := range []string{"", "\xac\x02\x02hi\x01", "\x80\x00", "\x03ab", strings.Repeat("\xff", 10), strings.Repeat("\xff", 9), "\x00\x01\x02"} {
		f.Add(s, "\x10\x0a\x07\x04", 9)
		f.Add(s, "\x05\x05\x05", -1)
	}
	f.Fuzz(func(t *testing.T, s, plan string, most int) {
		checkReads(t, s, most)
		checkReadIsWritten(t, s, plan)
	})
}

// R4
func TestNoMemoryIsShared(t *testing.T) {
	s := textBytes("hello") + textBytes("world")
	r := Read(s)
	for range 2 {
		text := r.Text(9)
		at, from := uintptr(unsafe.Pointer(unsafe.StringData(text))), uintptr(unsafe.Pointer(unsafe.StringData(s)))
		if at >= from && at < from+uintptr(len(s)) {
			t.Errorf("%q lies within what was handed in", text)
		}
	}
	w := Write()
	w.Text("hello")
	first, _ := w.End()
	second, _ := w.End()
	if unsafe.StringData(first) == unsafe.StringData(second) {
		t.Error("two answers of End are one memory")
	}
}

// Writers and readers are each for themselves.
func TestSeveralWritersAndReaders(t *testing.T) {
	a, b := Write(), Write()
	a.Text("a")
	b.Fail(api.ErrName)
	checkWritten(t, a, "\x01a", api.OK)
	checkWritten(t, b, "", api.ErrName)
	checkWritten(t, Write(), "", api.OK)

	s := "\x01\x01"
	c, d := Read(s), Read(s)
	c.Bool()
	d.Fail(api.ErrName)
	checkReader(t, c, api.OK, 1)
	checkReader(t, d, api.ErrName, 0)
	checkReader(t, Read(s), api.OK, 2)
}

// The chapter's calls are all that writers and readers have, and Fail comes with the error that is embedded in both.
func TestCallsAndEmbedding(t *testing.T) {
	for _, c := range []struct {
		of    any
		calls string
	}{
		{Write(), "Big Bool End Fail Num Text"},
		{Read(""), "Big Bool Code End Fail Left Num Text"},
	} {
		kind := reflect.TypeOf(c.of)
		var calls []string
		for i := range kind.NumMethod() {
			calls = append(calls, kind.Method(i).Name)
		}
		if got := strings.Join(calls, " "); got != c.calls {
			t.Errorf("%v has %s, want %s", kind, got, c.calls)
		}
		field, ok := kind.Elem().FieldByName("firstError")
		if !ok || !field.Anonymous {
			t.Errorf("%v has no error embedded", kind)
		}
	}
}

// A list is the number of its members, and these.
func TestAList(t *testing.T) {
	members := []string{"a", "", "bc"}
	w := Write()
	w.Num(len(members))
	for _, m := range members {
		w.Text(m)
	}
	checkWritten(t, w, "\x03\x01a\x00\x02bc", api.OK)
	s, _ := w.End()
	r := Read(s)
	for i := range r.Num(3) {
		if got := r.Text(2); got != members[i] {
			t.Errorf("member %d: %q", i, got)
		}
	}
	if c := r.End(); c != api.OK {
		t.Errorf("End() = %d", int(c))
	}
	if r := Read(s); r.Num(2) != 0 || r.Code() != api.ErrLong {
		t.Errorf("a list of one more: %d", int(r.Code()))
	}
}

// The chapter's example, and the first one of the whole.
func TestExamples(t *testing.T) {
	w := Write()
	w.Num(300)
	w.Text("hi")
	w.Bool(true)
	checkWritten(t, w, "\xac\x02\x02\x68\x69\x01", api.OK)
	r := Read("\xac\x02\x02\x68\x69\x01")
	if n, s, is := r.Num(300), r.Text(2), r.Bool(); n != 300 || s != "hi" || !is || r.End() != api.OK {
		t.Errorf("%d, %q, %v, %d", n, s, is, int(r.Code()))
	}
	w = Write()
	w.Num(api.QCancel)
	w.Num(5)
	checkWritten(t, w, "\x0c\x05", api.OK)
}
