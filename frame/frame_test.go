package frame

import (
	"encoding/binary"
	"math/rand"
	"reflect"
	"slices"
	"strings"
	"testing"
	"unsafe"

	"provost/api"
)

// The limits as the chapter writes them, for the expectations below.
const (
	mostText   = 2048
	mostStream = 8192
)

// filled is a text of that size, no two pieces of which beside each other are the same.
func filled(size int) string {
	out := make([]byte, size)
	for i := range out {
		out[i] = byte(i*7 + i/256)
	}
	return string(out)
}

// wantFrame is the frame of s, as the library of the language has its length.
func wantFrame(s string) string {
	return string(binary.LittleEndian.AppendUint16(nil, uint16(len(s)))) + s
}

func wantFrames(texts ...string) string {
	out := ""
	for _, s := range texts {
		out += wantFrame(s)
	}
	return out
}

// someTexts are texts around the places where their length needs its second byte, and around the greatest, and such as look like frames.
func someTexts() []string {
	out := []string{"", "a", "hi", "abc", "\x00", "\x00\x00", "\x01\x00a", "\xff\xff", "\x01\x08", "\n", "\u00e4\u20ac", "\xc3"}
	for _, size := range []int{127, 128, 254, 255, 256, 257, 258, 300, 511, 512, 513, 1000, 2046, 2047, mostText} {
		out = append(out, filled(size), strings.Repeat("\xff", size), strings.Repeat("\x00", size))
	}
	return out
}

// model is a splitter after the words of the chapter: what came of which no frame was taken yet, as one text.
type model struct {
	came   string
	closed bool
}

func (m *model) close() { *m = model{closed: true} }

func (m *model) feed(s string) api.Code {
	switch {
	case m.closed:
		return api.ErrClosed
	case len(m.came)+len(s) > mostStream:
		m.close()
		return api.ErrLong
	}
	m.came += s
	return api.OK
}

func (m *model) next() (string, api.Code) {
	if m.closed {
		return "", api.ErrClosed
	}
	if len(m.came) < 2 {
		return "", api.ErrNone
	}
	size := int(binary.LittleEndian.Uint16([]byte(m.came[:2])))
	if size > mostText {
		m.close()
		return "", api.ErrLong
	}
	if len(m.came)-2 < size {
		return "", api.ErrNone
	}
	text := m.came[2 : 2+size]
	m.came = m.came[2+size:]
	return text, api.OK
}

// fed is a splitter to which s came, behind no other.
func fed(t *testing.T, s string) *Split {
	t.Helper()
	x := New()
	checkFeed(t, x, s, api.OK)
	return x
}

func checkState(t *testing.T, x *Split, left int, closed bool) {
	t.Helper()
	for range 2 {
		if x.Left() != left || x.Closed() != closed {
			t.Fatalf("Left() = %d, Closed() = %v; want %d, %v", x.Left(), x.Closed(), left, closed)
		}
	}
}

func checkFeed(t *testing.T, x *Split, s string, want api.Code) {
	t.Helper()
	if c := x.Feed(s); c != want {
		t.Fatalf("Feed(%.20q) of %d bytes = %d, want %d", s, len(s), int(c), int(want))
	}
}

func checkNext(t *testing.T, x *Split, text string, want api.Code) {
	t.Helper()
	if s, c := x.Next(); s != text || c != want {
		t.Fatalf("Next() = %.20q of %d bytes, %d; want %.20q of %d, %d", s, len(s), int(c), text, len(text), int(want))
	}
}

func checkAll(t *testing.T, x *Split, want ...string) {
	t.Helper()
	if got := slices.Collect(x.All()); !slices.Equal(got, want) {
		t.Fatalf("All() = %.60q, want %.60q", got, want)
	}
}

// checkClosed holds every call of a closed splitter, twice, as none of them opens it again.
func checkClosed(t *testing.T, x *Split) {
	t.Helper()
	for range 2 {
		checkState(t, x, 0, true)
		for _, s := range []string{"", "a", "\x00\x00", "\x01\x00a", "\x01\x08", filled(mostStream), filled(mostStream + 1)} {
			checkFeed(t, x, s, api.ErrClosed)
			checkState(t, x, 0, true)
			checkNext(t, x, "", api.ErrClosed)
		}
		checkAll(t, x)
		checkState(t, x, 0, true)
		x.Close()
	}
}

// checkSame holds what is left in x, and all that it tells, against the words.
func checkSame(t *testing.T, x *Split, m *model) {
	t.Helper()
	checkState(t, x, len(m.came), m.closed)
	for {
		text, code := m.next()
		checkNext(t, x, text, code)
		checkState(t, x, len(m.came), m.closed)
		if code != api.OK {
			return
		}
	}
}

// 5.1
func TestFramesOfTexts(t *testing.T) {
	for _, s := range someTexts() {
		if got, c := Put(s); got != wantFrame(s) || c != api.OK {
			t.Errorf("Put(%.20q) of %d bytes = %.20q, %d", s, len(s), got, int(c))
		}
	}
	for size := range mostText + 1 {
		s := filled(size)
		if got, c := Put(s); got != wantFrame(s) || c != api.OK {
			t.Errorf("Put of %d bytes = %.20q, %d", size, got, int(c))
		}
	}
}

// 5.1, written out
func TestSomeFrames(t *testing.T) {
	for _, c := range []struct {
		size int
		head string
	}{
		{0, "\x00\x00"}, {1, "\x01\x00"}, {2, "\x02\x00"}, {255, "\xff\x00"}, {256, "\x00\x01"}, {257, "\x01\x01"},
		{300, "\x2c\x01"}, {2047, "\xff\x07"}, {2048, "\x00\x08"},
	} {
		s := filled(c.size)
		if got, code := Put(s); got != c.head+s || code != api.OK {
			t.Errorf("Put of %d bytes = %.20q, %d", c.size, got, int(code))
		}
	}
}

// 5.1
func TestATextThatIsTooLongHasNoFrame(t *testing.T) {
	for _, size := range []int{mostText + 1, mostText + 2, 2303, 2304, 4096, mostStream, 65535, 65536, 65537, 65538, 65536 + mostText, 1 << 17, 1 << 20} {
		if s, c := Put(filled(size)); s != "" || c != api.ErrLong {
			t.Errorf("Put of %d bytes = %.20q, %d", size, s, int(c))
		}
	}
}

// 5.1 and 5.3
func TestANewSplitter(t *testing.T) {
	x := New()
	checkState(t, x, 0, false)
	for range 2 {
		checkNext(t, x, "", api.ErrNone)
		checkAll(t, x)
		checkState(t, x, 0, false)
	}
	checkFeed(t, x, "\x01\x00a", api.OK)
	checkNext(t, x, "a", api.OK)
}

// 5.2
func TestNext(t *testing.T) {
	long := filled(mostText)
	for _, c := range []struct {
		came, text string
		code       api.Code
		left       int
	}{
		{"", "", api.ErrNone, 0},
		{"\x00", "", api.ErrNone, 1},
		{"\x01", "", api.ErrNone, 1},
		{"\xff", "", api.ErrNone, 1},
		{"\x00\x00", "", api.OK, 0},
		{"\x00\x00\x00", "", api.OK, 1},
		{"\x01\x00", "", api.ErrNone, 2},
		{"\x00\x01", "", api.ErrNone, 2},
		{"\x02\x00a", "", api.ErrNone, 3},
		{"\x02\x00ab", "ab", api.OK, 0},
		{"\x02\x00abc", "ab", api.OK, 1},
		{"\x02\x00ab\x01", "ab", api.OK, 1},
		{"\x02\x00ab\xff\xff", "ab", api.OK, 2},
		{"\x01\x00a\x01\x00b", "a", api.OK, 3},
		{"\x00\x00\x01\x00b", "", api.OK, 3},
		{"\xff\x07" + long, long[:2047], api.OK, 1},
		{"\x00\x08", "", api.ErrNone, 2},
		{"\x00\x08" + long[1:], "", api.ErrNone, 2049},
		{"\x00\x08" + long, long, api.OK, 0},
		{"\x00\x08" + long + "a", long, api.OK, 1},
		{"\x01\x08", "", api.ErrLong, 0},
		{"\x01\x08a", "", api.ErrLong, 0},
		{"\x01\x08a" + long, "", api.ErrLong, 0},
		{"\x01\x08a" + long + "\x00\x00", "", api.ErrLong, 0},
		{"\x00\x09", "", api.ErrLong, 0},
		{"\x00\x80", "", api.ErrLong, 0},
		{"\xff\xff", "", api.ErrLong, 0},
		{"\xff\xff" + filled(mostStream-2), "", api.ErrLong, 0},
	} {
		x := fed(t, c.came)
		checkState(t, x, len(c.came), false)
		checkNext(t, x, c.text, c.code)
		checkState(t, x, c.left, c.code == api.ErrLong)
		switch c.code {
		case api.ErrLong:
			checkClosed(t, x)
		case api.ErrNone:
			checkNext(t, x, "", api.ErrNone)
			checkState(t, x, c.left, false)
		}
	}
}

// 5.2: whichever two bytes stand ahead
func TestAllLengths(t *testing.T) {
	body := filled(mostStream - 2)
	for size := range 1 << 16 {
		head := string([]byte{byte(size), byte(size >> 8)})
		x := fed(t, head)
		switch {
		case size > mostText:
			checkNext(t, x, "", api.ErrLong)
			checkState(t, x, 0, true)
			continue
		case size == 0:
			checkNext(t, x, "", api.OK)
			continue
		}
		checkNext(t, x, "", api.ErrNone)
		checkFeed(t, x, body[:size-1], api.OK)
		checkNext(t, x, "", api.ErrNone)
		checkState(t, x, 2+size-1, false)
		checkFeed(t, x, body[size-1:size], api.OK)
		checkNext(t, x, body[:size], api.OK)
		checkState(t, x, 0, false)
	}
}

// 5.2
func TestFramesSideBySide(t *testing.T) {
	x := fed(t, wantFrames("a", "", "bcd", "", ""))
	for _, c := range []struct {
		text string
		left int
	}{{"a", 11}, {"", 9}, {"bcd", 4}, {"", 2}, {"", 0}} {
		checkNext(t, x, c.text, api.OK)
		checkState(t, x, c.left, false)
	}
	checkNext(t, x, "", api.ErrNone)
	checkState(t, x, 0, false)

	texts := make([]string, mostStream/2)
	checkAll(t, fed(t, strings.Repeat("\x00\x00", mostStream/2)), texts...)

	for _, s := range someTexts() {
		x := fed(t, wantFrames("ahead", s, s, "behind"))
		for _, text := range []string{"ahead", s, s, "behind"} {
			checkNext(t, x, text, api.OK)
		}
		checkNext(t, x, "", api.ErrNone)
	}
}

// 5.2
func TestFeedUpToTheMostBytes(t *testing.T) {
	for _, there := range []int{0, 1, 2, 3, 2050, 5000, 8190, 8191, 8192} {
		for _, came := range []int{mostStream - there, mostStream - there - 1, 0, 1} {
			if came < 0 || there+came > mostStream {
				continue
			}
			x := fed(t, strings.Repeat("\x00", there))
			checkFeed(t, x, strings.Repeat("\x00", came), api.OK)
			checkState(t, x, there+came, false)
		}
		for _, more := range []int{1, 2, 100, mostStream, 1 << 16, 1 << 20} {
			x := fed(t, strings.Repeat("\x00", there))
			checkFeed(t, x, strings.Repeat("\x00", mostStream-there+more), api.ErrLong)
			checkClosed(t, x)
		}
	}
	x := New()
	for range mostStream {
		checkFeed(t, x, "\x00", api.OK)
	}
	checkState(t, x, mostStream, false)
	checkFeed(t, x, "\x00", api.ErrLong)
	checkClosed(t, x)
}

// 5.2: only what was not taken counts
func TestTakenFramesLeaveRoom(t *testing.T) {
	long := wantFrame(filled(mostText - 2))
	x := fed(t, strings.Repeat(long, 4))
	checkState(t, x, mostStream, false)
	for range 100 {
		checkNext(t, x, long[2:], api.OK)
		checkState(t, x, mostStream-len(long), false)
		checkFeed(t, x, long, api.OK)
		checkState(t, x, mostStream, false)
	}
	checkFeed(t, x, "", api.OK)
	checkNext(t, x, long[2:], api.OK)
	checkFeed(t, x, long+"a", api.ErrLong)
	checkClosed(t, x)
}

// 5.2: whole frames that were not taken are gone as well
func TestTooMuchClosesWhateverCame(t *testing.T) {
	x := fed(t, wantFrames("a", "b", "c"))
	checkNext(t, x, "a", api.OK)
	checkFeed(t, x, filled(mostStream), api.ErrLong)
	checkClosed(t, x)

	x = New()
	checkFeed(t, x, wantFrame("a")+filled(mostStream-2), api.ErrLong)
	checkClosed(t, x)
}

// 5.2
func TestTheEmptyTextFed(t *testing.T) {
	for _, came := range []string{"", "\x01", "\x01\x00", "\x02\x00a", strings.Repeat("\x00", mostStream), "\x01\x08"} {
		x := fed(t, came)
		for range 3 {
			checkFeed(t, x, "", api.OK)
			checkState(t, x, len(came), false)
		}
		if came == "" {
			checkNext(t, x, "", api.ErrNone)
		}
	}
	x := fed(t, "\x02\x00a")
	checkFeed(t, x, "", api.OK)
	checkNext(t, x, "", api.ErrNone)
	checkFeed(t, x, "b", api.OK)
	checkFeed(t, x, "", api.OK)
	checkNext(t, x, "ab", api.OK)
}

// closings are all ways in which a splitter is closed.
func closings(t *testing.T) map[string]func(x *Split) {
	return map[string]func(x *Split){
		"Close": func(x *Split) { x.Close() },
		"Feed of too much": func(x *Split) {
			checkFeed(t, x, filled(mostStream+1-x.Left()), api.ErrLong)
		},
		"Next of a frame that is too long": func(x *Split) {
			checkFeed(t, x, "\x01\x08", api.OK)
			for c := api.OK; c == api.OK; _, c = x.Next() {
			}
		},
		"All up to a frame that is too long": func(x *Split) {
			checkFeed(t, x, "\x01\x08", api.OK)
			for range x.All() {
			}
		},
	}
}

// 5.2 and 5.3
func TestEveryCallOfAClosedSplitter(t *testing.T) {
	for name, closing := range closings(t) {
		for _, came := range []string{"", wantFrame("a"), wantFrames("", "a", filled(mostText))} {
			x := fed(t, came)
			all := x.All()
			closing(x)
			if !x.Closed() {
				t.Errorf("%s does not close", name)
			}
			checkClosed(t, x)
			for s := range all {
				t.Errorf("behind %s: %q", name, s)
			}
			checkClosed(t, x)
		}
	}
}

// 5.3
func TestClose(t *testing.T) {
	for _, came := range []string{"", "\x01", "\x01\x00", "\x02\x00a", "\x01\x00a", "\x01\x08", strings.Repeat("\x00", mostStream)} {
		x := fed(t, came)
		checkState(t, x, len(came), false)
		x.Close()
		checkClosed(t, x)
	}
}

// tails are what may stand behind the last whole frame: nothing, parts of a frame, and lengths that are too great.
func tails() []string {
	return []string{"", "\x04", "\x00", "\x04\x00", "\x04\x00abc", "\x00\x08", "\x01\x08", "\x01\x08abc", "\xff\xff"}
}

func isTooLong(tail string) bool {
	return len(tail) >= 2 && binary.LittleEndian.Uint16([]byte(tail)) > mostText
}

// checkBehindTheLast holds a splitter of which All was gone on with to its end, where tail stood behind the last frame.
func checkBehindTheLast(t *testing.T, x *Split, tail string) {
	t.Helper()
	if isTooLong(tail) {
		checkClosed(t, x)
		return
	}
	checkState(t, x, len(tail), false)
	checkAll(t, x)
	checkNext(t, x, "", api.ErrNone)
	checkState(t, x, len(tail), false)
}

// 5.2
func TestAllToItsEnd(t *testing.T) {
	for _, texts := range [][]string{nil, {""}, {"a"}, {"a", "", "bc"}, {filled(mostText), "", filled(mostText)}} {
		for _, tail := range tails() {
			x := fed(t, wantFrames(texts...)+tail)
			checkAll(t, x, texts...)
			checkBehindTheLast(t, x, tail)
		}
	}
}

// checkSomeOf goes on with all for so many texts, and leaves it then; texts are those that are left.
func checkSomeOf(t *testing.T, all func(func(string) bool), many int, texts []string) {
	t.Helper()
	got := 0
	for s := range all {
		if got >= len(texts) || s != texts[got] {
			t.Fatalf("text %d: %q", got, s)
		}
		got++
		if got == many {
			break
		}
	}
	if got != many {
		t.Fatalf("%d texts, want %d", got, many)
	}
}

// 5.2: what was told is taken, and nothing besides; whether the same sequence is gone on with, or a new one
func TestAllLeftEarlyAndGoneOnWith(t *testing.T) {
	texts := []string{"a", "", "bcd", "\x01\x08", "e"}
	for _, tail := range tails() {
		for many := 1; many <= len(texts); many++ {
			for _, anew := range []bool{false, true} {
				x := fed(t, wantFrames(texts...)+tail)
				all := x.All()
				checkSomeOf(t, all, many, texts)
				rest := texts[many:]
				checkState(t, x, len(wantFrames(rest...)+tail), false)
				if anew {
					all = x.All()
				}
				if got := slices.Collect(all); !slices.Equal(got, rest) {
					t.Fatalf("of %q behind %d: %q", tail, many, got)
				}
				checkBehindTheLast(t, x, tail)
				for s := range all {
					t.Fatalf("of %q behind the end: %q", tail, s)
				}
				checkBehindTheLast(t, x, tail)
			}
		}
	}
}

// 5.2: behind the end of All what comes is found, by it and by a new one
func TestAllBehindItsEnd(t *testing.T) {
	for _, c := range []struct{ tail, more string }{
		{"", wantFrame("abcd")}, {"\x04", "\x00abcd"}, {"\x04\x00", "abcd"}, {"\x04\x00abc", "d"}, {"\x04\x00", "abcd\x01"},
	} {
		for _, anew := range []bool{false, true} {
			x := fed(t, wantFrame("a")+c.tail)
			all := x.All()
			for range all {
			}
			checkFeed(t, x, c.more, api.OK)
			if anew {
				all = x.All()
			}
			if got := slices.Collect(all); !slices.Equal(got, []string{"abcd"}) {
				t.Errorf("behind %q: %q", c.tail, got)
			}
		}
	}
	x := fed(t, wantFrame("a")+"\x01")
	all := x.All()
	checkSomeOf(t, all, 1, []string{"a"})
	checkFeed(t, x, "\x08", api.OK)
	for s := range all {
		t.Errorf("of what is too long: %q", s)
	}
	checkClosed(t, x)
}

// 5.2: the sequence alone takes nothing, and asks Next for each text only when it is wanted
func TestAllTakesOneByOne(t *testing.T) {
	x := fed(t, wantFrames("a", "b", "c")+"\x01\x08")
	all, other := x.All(), x.All()
	checkState(t, x, 11, false)
	told := 0
	all(func(s string) bool {
		told++
		checkState(t, x, 8, false)
		return false
	})
	if told != 1 {
		t.Errorf("told %d texts, want 1", told)
	}
	checkSomeOf(t, other, 1, []string{"b"})
	checkState(t, x, 5, false)
	checkNext(t, x, "c", api.OK)
	checkState(t, x, 2, false)
	for s := range other {
		t.Errorf("behind the last: %q", s)
	}
	checkClosed(t, x)
}

// 5.2: what the other calls do meanwhile is seen
func TestCallsWithinAll(t *testing.T) {
	x, want := fed(t, wantFrames("a", "b", "c")), []string{"a", "c", "d"}
	for s := range x.All() {
		if len(want) == 0 || s != want[0] {
			t.Fatalf("told %q, want %q", s, want)
		}
		want = want[1:]
		switch s {
		case "a":
			checkNext(t, x, "b", api.OK)
		case "c":
			checkState(t, x, 0, false)
			checkFeed(t, x, wantFrame("d"), api.OK)
		}
	}
	if len(want) != 0 {
		t.Errorf("%q were not told", want)
	}

	x = fed(t, wantFrames("a", "b", "c"))
	for s := range x.All() {
		if s != "a" {
			t.Errorf("told %q", s)
		}
		checkAll(t, x, "b", "c")
	}
	checkState(t, x, 0, false)

	for name, closing := range closings(t) {
		x = fed(t, wantFrames("a", "b", "c"))
		for s := range x.All() {
			if s != "a" {
				t.Errorf("behind %s: %q", name, s)
			}
			closing(x)
		}
		checkClosed(t, x)
	}
}

// checkCut feeds x the pieces, takes what is whole behind each, and holds that these are the texts, in order; a stream that is no stream of frames ends in one error.
func checkCut(t *testing.T, pieces, texts []string, wrong bool) {
	t.Helper()
	x, found, errs := New(), []string(nil), 0
	for _, piece := range pieces {
		switch c := x.Feed(piece); {
		case c == api.ErrClosed && errs == 1:
		case c != api.OK:
			errs++
		}
		for {
			text, c := x.Next()
			if c == api.ErrLong {
				errs++
			}
			if c != api.OK {
				break
			}
			if errs > 0 {
				t.Fatalf("%q behind an error", text)
			}
			found = append(found, text)
		}
	}
	if !slices.Equal(found, texts) {
		t.Fatalf("found %.60q, want %.60q", found, texts)
	}
	if wrong && errs != 1 || !wrong && errs != 0 || x.Closed() != wrong || x.Left() != 0 {
		t.Fatalf("%d errors, closed %v, %d left", errs, x.Closed(), x.Left())
	}
}

// cutBy cuts s into pieces of that size.
func cutBy(s string, size int) []string {
	var pieces []string
	for len(s) > size {
		pieces, s = append(pieces, s[:size]), s[size:]
	}
	return append(pieces, s)
}

// 5.4: one cut, and two, at every place
func TestStreamsCutAtEveryPlace(t *testing.T) {
	texts := []string{"a", "", "\x01\x08", "bcd", "", "\x05\x00e", filled(9)}
	for _, end := range []string{"", "\x01\x08", "\xff\xff", "\x01\x08" + wantFrame("behind")} {
		s := wantFrames(texts...) + end
		for first := range len(s) + 1 {
			for second := first; second <= len(s); second++ {
				checkCut(t, []string{s[:first], s[first:second], s[second:]}, texts, end != "")
			}
		}
	}
	texts = []string{filled(255), filled(256), "", filled(mostText), filled(mostText)[1:]}
	s := wantFrames(texts...)
	for first := range len(s) + 1 {
		checkCut(t, []string{s[:first], s[first:]}, texts, false)
	}
}

// 5.4: pieces of each size, so long streams that they go on beyond the most bytes
func TestStreamsInPiecesOfOneSize(t *testing.T) {
	var texts []string
	for i := range 20 {
		texts = append(texts, filled(i*i*5), "", filled(mostText-i))
	}
	s := wantFrames(texts...)
	for size := 1; size <= mostStream-mostText-2; size += 1 + size/7 {
		checkCut(t, cutBy(s, size), texts, false)
		checkCut(t, cutBy(s+"\x01\x08", size), texts, true)
	}
}

// 5.4: All of two pieces, cut at every place
func TestAllOfTwoPieces(t *testing.T) {
	texts := []string{"a", "", "\x01\x08", filled(300)}
	s := wantFrames(texts...)
	for cut := range len(s) + 1 {
		x := fed(t, s[:cut])
		found := slices.Collect(x.All())
		checkFeed(t, x, s[cut:], api.OK)
		for text := range x.All() {
			found = append(found, text)
		}
		if !slices.Equal(found, texts) {
			t.Errorf("cut at %d: %.60q", cut, found)
		}
		checkState(t, x, 0, false)
	}
}

// randomPiece is a piece of a stream, which has frames, lengths that are too great, and anything.
func randomPiece(random *rand.Rand) string {
	switch random.Intn(13) {
	case 0, 1, 2, 3:
		return wantFrame(filled(random.Intn(5)))
	case 4, 5:
		return wantFrame(filled(random.Intn(mostText + 1)))
	case 6:
		s := wantFrame(filled(random.Intn(mostText + 1)))
		return s[:random.Intn(len(s))]
	case 7:
		return ""
	case 8:
		return string([]byte{byte(random.Intn(4)), 0})
	case 9:
		return strings.Repeat("\x00", random.Intn(3000))
	case 10:
		return filled(random.Intn(12))
	case 11:
		return strings.Repeat(wantFrame(filled(1000)), random.Intn(9))
	}
	return string([]byte{byte(random.Intn(256)), byte(random.Intn(12))})
}

// checkCalls does calls by a plan, a byte a call, each with the next piece, and holds them against the words.
func checkCalls(t *testing.T, plan string, piece func() string) {
	t.Helper()
	x, m := New(), &model{}
	for i := range len(plan) {
		switch call := plan[i] % 32; {
		case call < 16:
			s := piece()
			checkFeed(t, x, s, m.feed(s))
		case call < 26:
			text, code := m.next()
			checkNext(t, x, text, code)
		case call < 30:
			most := int(plan[i]) / 32
			for s := range x.All() {
				if text, code := m.next(); s != text || code != api.OK {
					t.Fatalf("All told %.20q, want %.20q, %d", s, text, int(code))
				}
				if most--; most < 0 {
					break
				}
			}
			if most >= 0 {
				if text, code := m.next(); code == api.OK {
					t.Fatalf("All did not tell %.20q", text)
				}
			}
		case call == 30 && plan[i]/32 == 0:
			x.Close()
			m.close()
		}
		checkState(t, x, len(m.came), m.closed)
	}
	checkSame(t, x, m)
}

// 5.1 to 5.4
func TestCallsAtRandom(t *testing.T) {
	random := rand.New(rand.NewSource(5))
	for range 8000 {
		plan := make([]byte, random.Intn(60))
		random.Read(plan)
		checkCalls(t, string(plan), func() string { return randomPiece(random) })
	}
}

// 5.4: what was put is found, however it is cut
func TestWhatIsPutIsFound(t *testing.T) {
	random := rand.New(rand.NewSource(54))
	for range 500 {
		texts, s := make([]string, 1+random.Intn(20)), ""
		for i := range texts {
			text := make([]byte, random.Intn(mostText+1)>>random.Intn(12))
			random.Read(text)
			texts[i] = string(text)
			framed, _ := Put(texts[i])
			s += framed
		}
		var pieces []string
		for len(s) > 0 {
			size := min(len(s), 1+random.Intn(mostStream-mostText-2)>>random.Intn(12))
			pieces, s = append(pieces, s[:size]), s[size:]
		}
		checkCut(t, pieces, texts, false)
	}
}

// 5.1 to 5.4
func FuzzSplit(f *testing.F) {
	for _, s := range []string{"", "\x02\x00hi", "\x01\x00a\x01\x00b", "\x01\x08", "\x00\x08abc", strings.Repeat("\x00", mostStream), strings.Repeat("\xff\x07", 5000)} {
		f.Add(s, "\x00\x10\x00\x1a\x3a\x10\x00\x1e\x10", 1)
		f.Add(s, "\x00\x00\x00\x10\x3a\x10", 3000)
	}
	f.Fuzz(func(t *testing.T, s, plan string, size int) {
		framed, code := Put(s)
		if len(s) > mostText && (framed != "" || code != api.ErrLong) || len(s) <= mostText && (framed != wantFrame(s) || code != api.OK) {
			t.Fatalf("Put(%.20q) = %.20q, %d", s, framed, int(code))
		}
		checkCalls(t, plan, func() string {
			piece := s[:min(len(s), max(size, 0))]
			s = s[len(piece):]
			return piece
		})
	})
}

// isWithin tells whether the bytes of part are bytes of whole's memory.
func isWithin(part, whole string) bool {
	at, from := uintptr(unsafe.Pointer(unsafe.StringData(part))), uintptr(unsafe.Pointer(unsafe.StringData(whole)))
	return at >= from && at < from+uintptr(len(whole))
}

// R4
func TestNoMemoryIsShared(t *testing.T) {
	s := wantFrames("hello", "world")
	if framed, _ := Put(s); isWithin(framed, s) || isWithin(s, framed) {
		t.Error("Put tells memory that was handed in")
	}
	x := fed(t, s)
	first, _ := x.Next()
	for second := range x.All() {
		if isWithin(first, s) || isWithin(second, s) || isWithin(first, second) {
			t.Errorf("%q and %q lie within what was handed in, or within each other", first, second)
		}
	}
}

// R4: neither a caller's memory that changes behind Feed nor what comes later is seen
func TestWhatIsToldStays(t *testing.T) {
	piece := []byte(wantFrames("hello", "world"))
	x := New()
	checkFeed(t, x, unsafe.String(&piece[0], len(piece)), api.OK)
	clear(piece)
	first, _ := x.Next()
	checkFeed(t, x, wantFrames("HELLO", "WORLD"), api.OK)
	rest := slices.Collect(x.All())
	checkFeed(t, x, filled(100), api.OK)
	if first != "hello" || !slices.Equal(rest, []string{"world", "HELLO", "WORLD"}) {
		t.Errorf("%q, %q", first, rest)
	}
}

// Splitters are each for themselves.
func TestSeveralSplitters(t *testing.T) {
	a, b, c := New(), New(), New()
	checkFeed(t, a, "\x01\x00", api.OK)
	checkFeed(t, b, "\x01\x00b", api.OK)
	c.Close()
	checkFeed(t, a, "a", api.OK)
	checkNext(t, b, "b", api.OK)
	checkNext(t, a, "a", api.OK)
	checkClosed(t, c)
	checkState(t, a, 0, false)
	checkState(t, New(), 0, false)
}

// The chapter's calls are all that a splitter has.
func TestCalls(t *testing.T) {
	kind := reflect.TypeOf(New())
	var calls []string
	for i := range kind.NumMethod() {
		calls = append(calls, kind.Method(i).Name)
	}
	if got := strings.Join(calls, " "); got != "All Close Closed Feed Left Next" {
		t.Errorf("a splitter has %s", got)
	}
	if s := kind.Elem(); slices.ContainsFunc(reflect.VisibleFields(s), reflect.StructField.IsExported) {
		t.Error("a splitter has a field that is exported")
	}
}

// The chapter's example, and the first one of the whole.
func TestExamples(t *testing.T) {
	for _, c := range []struct{ s, want string }{{"hi", "\x02\x00\x68\x69"}, {"\x0c\x05", "\x02\x00\x0c\x05"}} {
		if s, code := Put(c.s); s != c.want || code != api.OK {
			t.Errorf("Put(%q) = %q, %d", c.s, s, int(code))
		}
		x := fed(t, c.want)
		checkNext(t, x, c.s, api.OK)
		checkState(t, x, 0, false)
	}
}
