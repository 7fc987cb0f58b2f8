package tell

import (
	"math"
	"reflect"
	"slices"
	"strings"
	"testing"
	"unsafe"

	"provost/api"
)

// 9.2, 9.4: each kind, byte by byte
func TestMessagesByteByByte(t *testing.T) {
	for _, c := range []struct {
		m    api.Msg
		want string
	}{
		{reply(1, api.Reply{}), "\x01\x01\x00\x00\x00\x00\x00\x00\x00"},
		{reply(300, api.Reply{Code: api.ErrUID}), "\x01\xac\x02\x86\x03\x00\x00\x00\x00\x00\x00"},
		{reply(1<<30, api.Reply{Code: 999}), "\x01\x80\x80\x80\x80\x04\xe7\x07\x00\x00\x00\x00\x00\x00"},
		{reply(2, api.Reply{UID: 7, Rev: 300}), "\x01\x02\x00\x07\x00\xac\x02\x00\x00\x00"},
		{reply(2, api.Reply{UID: 1 << 30, Rev: math.MaxUint64}), "\x01\x02\x00\x80\x80\x80\x80\x04\x00\xff\xff\xff\xff\xff\xff\xff\xff\xff\x01\x00\x00\x00"},
		{reply(2, api.Reply{Id: 128}), "\x01\x02\x00\x00\x80\x01\x00\x00\x00\x00"},
		{reply(2, api.Reply{Data: "HI"}), "\x01\x02\x00\x00\x00\x00\x02HI\x00\x00"},
		{reply(2, api.Reply{Pods: []api.Pod{smallPod()}}), "\x01\x02\x00\x00\x00\x00\x00\x01" + smallPodBytes + "\x00"},
		{reply(2, api.Reply{Pods: []api.Pod{fullPod(), smallPod()}}), "\x01\x02\x00\x00\x00\x00\x00\x02" + fullPodBytes + smallPodBytes + "\x00"},
		{reply(2, api.Reply{Use: []api.Res{{}, {CPU: 1, Mem: 300, Pids: 127}}}), "\x01\x02\x00\x00\x00\x00\x00\x00\x02\x00\x00\x00\x01\xac\x02\x7f"},
		{fullReply(), fullReplyBytes},
		{event(1, api.EAdd, 1, smallPod()), "\x02\x01\x01\x01" + smallPodBytes},
		{event(300, api.EAdd, 300, fullPod()), "\x02\xac\x02\x01\xac\x02" + fullPodBytes},
		{event(1, api.EMod, 0, smallPod()), "\x02\x01\x02\x00" + smallPodBytes},
		{event(1<<30, api.EMod, 127, fullPod()), "\x02\x80\x80\x80\x80\x04\x02\x7f" + fullPodBytes},
		{event(1, api.EDel, 1<<63, smallPod()), "\x02\x01\x03\x80\x80\x80\x80\x80\x80\x80\x80\x80\x01" + smallPodBytes},
		{event(127, api.EDel, math.MaxUint64, fullPod()), "\x02\x7f\x03\xff\xff\xff\xff\xff\xff\xff\xff\xff\x01" + fullPodBytes},
		{event(1, api.EMark, 0, api.Pod{}), "\x02\x01\x04\x00"},
		{event(128, api.EMark, 300, api.Pod{}), "\x02\x80\x01\x04\xac\x02"},
		{event(1, api.EOver, 0, api.Pod{}), "\x02\x01\x05\x00"},
		{event(9, api.EOver, 128, api.Pod{}), "\x02\x09\x05\x80\x01"},
	} {
		checkMayBe(t, Line(c.m), c.m, c.want)
		if got := wantBytes(c.m); got != c.want {
			t.Errorf("these tests write %q, not %q", got, c.want)
		}
	}
	if got := wantBytes(reply(1, api.Reply{Pods: []api.Pod{smallPod()}})); len(smallPodBytes) != 29 || len(got) != 9+29 {
		t.Errorf("%d bytes, of which a pod's are %d", len(got), len(smallPodBytes))
	}
}

// cuts are the places at which b is cut: each, or of many bytes those at both ends, and some between.
func cuts(b string) []int {
	var out []int
	for cut := range len(b) {
		if cut < 400 || cut > len(b)-400 || cut%7 == 0 {
			out = append(out, cut)
		}
	}
	return out
}

// 9.2: bytes that are cut at each place
func TestBytesThatAreCut(t *testing.T) {
	for _, m := range someMsgs() {
		b := wantBytes(m)
		checkMayBe(t, Line(m), m, b)
		for _, cut := range cuts(b) {
			checkNotRead(t, "cut", b[:cut], api.ErrShort)
		}
	}
	// What may not be and is cut is told as cut.
	for _, m := range []api.Msg{reply(0, fullReply().Reply), event(0, api.EAdd, 1, api.Pod{Spec: api.Spec{Main: make([]api.Container, 1)}, Restarts: []int{0}})} {
		b := wantBytes(m)
		checkNotRead(t, "as it is", b, api.ErrShape)
		for cut := range len(b) {
			checkNotRead(t, "may not be, and cut", b[:cut], api.ErrShort)
		}
	}
}

// 9.2: bytes with more behind
func TestBytesWithMoreBehind(t *testing.T) {
	for _, m := range someMsgs() {
		b := wantBytes(m)
		for _, more := range []string{"\x00", "\x01", "x", "\x80", "\xff", "\x00\x00\x00", smallPodBytes, b, strings.Repeat("\xff", 20)} {
			checkNotRead(t, "more behind", b+more, api.ErrForm)
		}
	}
}

// longer are more bytes that would say the same number.
func longer(number string) string {
	last := len(number) - 1
	return number[:last] + string([]byte{number[last] + 128, 0})
}

// changed are the bytes of pieces with others at one place.
func changed(pieces layout, at int, bytes string) string {
	other := slices.Clone(pieces)
	other[at].bytes = bytes
	return other.String()
}

// 9.2, 9.4: numbers that are not canonical, and no numbers
func TestNumbersThatAreNotCanonical(t *testing.T) {
	for _, m := range someMsgs() {
		pieces := layoutOf(m)
		for i, p := range pieces {
			// Of the greatest reply's many pods some are enough.
			if !p.number || i > 400 && i%11 != 0 {
				continue
			}
			for _, other := range []string{longer(p.bytes), strings.Repeat("\xff", 10), strings.Repeat("\x80", 10) + "\x01", strings.Repeat("\x80", 9) + "\x00", strings.Repeat("\xff", 9) + "\x02"} {
				checkNotRead(t, "not canonical", changed(pieces, i, other), api.ErrForm)
			}
		}
	}
}

// 9.2: each number, each length of a text, and of a list, above what it is read up to; and just up to it
func TestNumbersThatAreTooGreat(t *testing.T) {
	tried := 0
	for _, m := range someMsgs() {
		pieces := layoutOf(m)
		for i, p := range pieces {
			if !p.number || p.most == anyRev || i > 400 && i%11 != 0 {
				continue
			}
			tried++
			for _, n := range []uint64{p.most + 1, p.most + 2, 2*p.most + 2, 1<<48 + 1, 1 << 63, math.MaxUint64} {
				var l layout
				l.big(n, 0)
				b := changed(pieces, i, l[0].bytes)
				checkNotRead(t, "too great", b, api.ErrLong)
				checkNotRead(t, "too great, and more", b+"\x00", api.ErrLong)
				checkNotRead(t, "too great, and nothing behind", pieces[:i].String()+l[0].bytes, api.ErrLong)
			}
			for _, n := range []uint64{p.most, p.most - 1, 0} {
				var l layout
				l.big(n, 0)
				b := changed(pieces, i, l[0].bytes)
				checkReads(t, "not too great", b)
				if _, code := Of(pieces[:i].String() + l[0].bytes); code == api.ErrLong {
					t.Errorf("%d is too great at %d of %s", n, i, Line(m))
				}
			}
		}
	}
	if tried < 1000 {
		t.Errorf("only %d numbers", tried)
	}
}

// 9.2, written out, so that the greatest ones are seen
func TestTooGreatWrittenOut(t *testing.T) {
	for _, c := range []struct{ what, ahead, right, wrong string }{
		{"a kind", "", "\x02", "\x03"},
		{"a number", "\x01", "\x80\x80\x80\x80\x04", "\x81\x80\x80\x80\x04"},
		{"an event's number", "\x02", "\x80\x80\x80\x80\x04", "\x81\x80\x80\x80\x04"},
		{"a number of no kind", "\x00", "\x80\x80\x80\x80\x04", "\x81\x80\x80\x80\x04"},
		{"a code", "\x01\x01", "\xe7\x07", "\xe8\x07"},
		{"a reply's uid", "\x01\x01\x00", "\x80\x80\x80\x80\x04", "\x81\x80\x80\x80\x04"},
		{"a reply's id", "\x01\x01\x00\x00", "\x80\x80\x80\x80\x04", "\x81\x80\x80\x80\x04"},
		{"data", "\x01\x01\x00\x00\x00\x00", "\x20", "\x21"},
		{"pods", "\x01\x01\x00\x00\x00\x00\x00", "\x10", "\x11"},
		{"a pod's uid", "\x01\x01\x00\x00\x00\x00\x00\x01", "\x80\x80\x80\x80\x04", "\x81\x80\x80\x80\x04"},
		{"a pod's name", "\x01\x01\x00\x00\x00\x00\x00\x01\x01\x00", "\x10", "\x11"},
		{"use", "\x01\x01\x00\x00\x00\x00\x00\x00", "\x04", "\x05"},
		{"use's cpu", "\x01\x01\x00\x00\x00\x00\x00\x00\x01", "\x80\x80\x80\x80\x80\x20", "\x81\x80\x80\x80\x80\x20"},
		{"use's mem", "\x01\x01\x00\x00\x00\x00\x00\x00\x01\x00", "\x80\x80\x80\x80\x80\x20", "\x81\x80\x80\x80\x80\x20"},
		{"use's pids", "\x01\x01\x00\x00\x00\x00\x00\x00\x01\x00\x00", "\x80\x80\x80\x80\x80\x20", "\x81\x80\x80\x80\x80\x20"},
		{"an event's kind", "\x02\x01", "\x05", "\x06"},
		{"an event's pod's uid", "\x02\x01\x01\x00", "\x80\x80\x80\x80\x04", "\x81\x80\x80\x80\x04"},
		{"a phase", "\x02\x01\x01\x00\x01\x00" + smallSpecBytes, "\x04", "\x05"},
		{"restarts", "\x02\x01\x01\x00\x01\x00" + smallSpecBytes + "\x01", "\x80\x80\x80\x80\x04", "\x81\x80\x80\x80\x04"},
		{"a mark", "\x02\x01\x01\x00\x01\x00" + smallSpecBytes + "\x01\x00", "\x02", "\x03"},
		{"grace", "\x02\x01\x01\x00\x01\x00" + smallSpecBytes + "\x01\x00\x00", "\xe8\x07", "\xe9\x07"},
	} {
		for _, behind := range []string{"", "\x00", "\xff", smallPodBytes, strings.Repeat("\x00", 40)} {
			checkNotRead(t, c.what, c.ahead+c.wrong+behind, api.ErrLong)
			checkReads(t, c.what, c.ahead+c.right+behind)
		}
		if _, code := Of(c.ahead + c.right); code == api.ErrLong {
			t.Errorf("%s: %q is too great", c.what, c.right)
		}
	}
}

// 9.2: bytes that are read whole, of a message that may not be; and which error is first where there are two
func TestBytesOfMessagesThatMayNotBe(t *testing.T) {
	wrongSpec := strings.Replace(smallSpecBytes, "\x01a", "\x01A", 1)
	for _, b := range []string{
		"\x00\x00",
		"\x00\x01",
		"\x00\x80\x80\x80\x80\x04",
		"\x01\x00\x00\x00\x00\x00\x00\x00\x00",
		"\x02\x00\x04\x01",
		"\x02\x00\x05\x01",
		"\x02\x01\x00\x00",
		"\x02\x01\x00\x01",
		"\x02\x00\x00\x01",
		"\x02\x00\x01\x01" + smallPodBytes,
		"\x02\x01\x01\x01\x00" + smallPodBytes[1:],
		"\x02\x01\x02\x01\x01\x00" + wrongSpec + "\x01\x00\x00\x00",
		"\x02\x01\x03\x01\x01\x00" + smallSpecBytes + "\x00\x00\x00\x00",
		"\x01\x01\x00\x00\x00\x00\x00\x01\x00" + smallPodBytes[1:] + "\x00",
		"\x01\x01\x00\x00\x00\x00\x00\x01\x01\x00" + wrongSpec + "\x01\x00\x00\x00\x00",
		"\x01\x01\x00\x00\x00\x00\x00\x01\x01\x00" + smallSpecBytes + "\x00\x00\x00\x00\x00",
		"\x01\x01\x00\x00\x00\x00\x00\x02" + smallPodBytes + "\x01\x00" + smallSpecBytes + "\x00\x00\x00\x00\x00",
		// A pod of no main container has no restarts.
		"\x02\x01\x01\x01\x01\x00\x01a\x00\x00\x00\x01\x00\x00\x01\x00\x00",
		"\x02\x01\x01\x01\x00\x00\x00\x00\x00\x00\x00\x00\x00\x00\x00\x00",
		// Two things that may not be.
		"\x02\x00\x01\x01\x00\x00" + wrongSpec + "\x00\x00\x00\x00",
	} {
		checkNotRead(t, "may not be", b, api.ErrShape)
		// With bytes that are left, or that lack, it is no message's at all.
		checkNotRead(t, "may not be, and more", b+"\x00", api.ErrForm)
		checkNotRead(t, "may not be, and cut", b[:len(b)-1], api.ErrShort)
	}
	for _, c := range []struct {
		what, b string
		want    api.Code
	}{
		{"uid 0, then a phase that is too great", "\x02\x01\x01\x01\x00\x00" + smallSpecBytes + "\x05\x00\x00\x00", api.ErrLong},
		{"a wrong spec, then a mark that is too great", "\x02\x01\x01\x01\x01\x00" + wrongSpec + "\x01\x00\x03\x00", api.ErrLong},
		{"a wrong spec, then a number that is none", "\x02\x01\x01\x01\x01\x00" + wrongSpec + "\x01\x00\x80\x00", api.ErrForm},
		{"a wrong spec, and cut", "\x02\x01\x01\x01\x01\x00" + wrongSpec, api.ErrShort},
		{"a wrong spec, and more", "\x02\x01\x01\x01\x01\x00" + wrongSpec + "\x01\x00\x00\x00x", api.ErrForm},
		{"a wrong spec, then a wrong pod", "\x01\x01\x00\x00\x00\x00\x00\x02\x01\x00" + wrongSpec + "\x01\x00\x00\x00\x00" + smallPodBytes[1:] + "\x00", api.ErrShape},
		{"a mark that is too great, then a number that is none", "\x02\x01\x01\x01\x01\x00" + smallSpecBytes + "\x01\x00\x03\x80\x00", api.ErrLong},
		{"a number that is none, then a mark that is too great", "\x02\x01\x01\x01\x01\x00" + smallSpecBytes + "\x01\x80\x00\x03\x00", api.ErrForm},
		{"too many pods, and cut", "\x01\x01\x00\x00\x00\x00\x00\x11", api.ErrLong},
		{"too long data, and cut", "\x01\x01\x00\x00\x00\x00\x21d", api.ErrLong},
		{"data that is cut", "\x01\x01\x00\x00\x00\x00\x20d", api.ErrShort},
		{"a kind that is too great, and a number that is none", "\x03\x80\x00", api.ErrLong},
		{"a kind of 0, and a number that is too great", "\x00\x81\x80\x80\x80\x04", api.ErrLong},
		{"a kind of 0 alone", "\x00", api.ErrShort},
		{"a kind of 0, and half a number", "\x00\x80", api.ErrShort},
		{"a kind of 0, and more", "\x00\x01\x00", api.ErrForm},
		{"no event's kind, and no revision", "\x02\x01\x00", api.ErrShort},
		{"no event's kind, and a pod", "\x02\x01\x00\x00" + smallPodBytes, api.ErrForm},
		{"a mark with a pod", "\x02\x01\x04\x00" + smallPodBytes, api.ErrForm},
		{"an end with a pod", "\x02\x01\x05\x00" + smallPodBytes, api.ErrForm},
		{"an addition without a pod", "\x02\x01\x01\x00", api.ErrShort},
		{"a restart too few", "\x02\x01\x01\x01\x01\x00" + smallSpecBytes + "\x01\x00\x00", api.ErrShort},
		{"a restart too many", "\x02\x01\x01\x01\x01\x00" + smallSpecBytes + "\x01\x00\x00\x00\x00", api.ErrForm},
		{"a 0 that is not canonical", "\x80\x00\x01", api.ErrForm},
		{"nothing", "", api.ErrShort},
		{"half a kind", "\x80", api.ErrShort},
	} {
		checkNotRead(t, c.what, c.b, c.want)
	}
}

// 9.2, 9.4: all bytes up to some length
func TestAllShortBytes(t *testing.T) {
	for a := range 256 {
		checkReads(t, "short", string([]byte{byte(a)}))
		for b := range 256 {
			checkReads(t, "short", string([]byte{byte(a), byte(b)}))
		}
	}
	read := 0
	few := []byte{0, 1, 2, 3, 4, 5, 6, 32, 127, 128, 129, 255}
	for size, all := 0, []string{""}; size <= 5; size++ {
		var next []string
		for _, b := range all {
			checkReads(t, "short", b)
			if _, code := Of(b); code == api.OK {
				read++
			}
			for _, more := range few {
				next = append(next, b+string([]byte{more}))
			}
		}
		all = next
	}
	if read < 200 {
		t.Errorf("only %d were read", read)
	}
}

// checkUnlike holds that of messages that may be those have the same bytes that are alike, and no others.
func checkUnlike(t *testing.T, msgs []api.Msg) {
	t.Helper()
	var told []string
	for _, m := range msgs {
		b, code := Bytes(m)
		if code != api.OK {
			t.Fatalf("%+v may not be: %d", m, int(code))
		}
		told = append(told, b)
	}
	for i := range msgs {
		for k := range i {
			if (told[i] == told[k]) != alike(msgs[i], msgs[k]) {
				t.Errorf("%s and %s: %.60q and %.60q", Line(msgs[i]), Line(msgs[k]), told[i], told[k])
			}
		}
	}
}

// 9.4: two messages that are not alike have bytes that are not
func TestUnlikeMessagesHaveUnlikeBytes(t *testing.T) {
	msgs := someMsgs()
	for _, f := range replyNumbers() {
		for _, n := range []int{f.least, f.least + 1, 2, f.most - 1, f.most} {
			m := fullReply()
			*f.of(&m) = n
			msgs = append(msgs, m)
		}
	}
	for _, f := range eventNumbers() {
		for _, n := range []int{f.least, f.least + 1, 2, f.most} {
			m := event(2, api.EMod, 300, fullPod())
			*f.of(&m) = n
			msgs = append(msgs, m)
		}
	}
	for _, rev := range []uint64{0, 1, 127, 128, 299, 1 << 32, 1 << 63} {
		msgs = append(msgs, reply(1, api.Reply{Rev: rev}), event(1, api.EMark, rev, api.Pod{}), event(1, api.EOver, rev, api.Pod{}))
	}
	for _, data := range []string{"\x00", "\x00\x00", "\x00\x00\x00", "h", "ih", "hi", "hi\x00"} {
		msgs = append(msgs, reply(1, api.Reply{Data: data}))
	}
	for many := range mostPods + 1 {
		msgs = append(msgs, reply(1, api.Reply{Pods: slices.Repeat([]api.Pod{smallPod()}, many)}))
	}
	for many := range mostUse + 1 {
		msgs = append(msgs, reply(1, api.Reply{Use: make([]api.Res, many)}))
	}
	checkUnlike(t, msgs)
}

// span is where some memory begins and ends.
type span struct{ from, to uintptr }

// memory is all of what v keeps by pointers: its lists with their spare room, and its texts.
func memory(v reflect.Value) []span {
	var out []span
	switch v.Kind() {
	case reflect.Slice:
		if v.Cap() > 0 {
			out = append(out, span{v.Pointer(), v.Pointer() + uintptr(v.Cap())*v.Type().Elem().Size()})
		}
		for i := range v.Len() {
			out = append(out, memory(v.Index(i))...)
		}
	case reflect.Struct:
		for i := range v.NumField() {
			out = append(out, memory(v.Field(i))...)
		}
	case reflect.String:
		if s := v.String(); s != "" {
			from := uintptr(unsafe.Pointer(unsafe.StringData(s)))
			out = append(out, span{from, from + uintptr(len(s))})
		}
	}
	return out
}

func overlap(a, b []span) bool {
	for _, x := range a {
		for _, y := range b {
			if x.from < y.to && y.from < x.to {
				return true
			}
		}
	}
	return false
}

// R4: what is read shares no memory with the bytes, with what is read again, or within itself; nor do bytes, or a line, with a message
func TestAnswersAreNewMemory(t *testing.T) {
	for _, m := range someMsgs() {
		b, _ := Bytes(m)
		one, _ := Of(b)
		two, _ := Of(b)
		x, y, line := memory(reflect.ValueOf(one)), memory(reflect.ValueOf(two)), memory(reflect.ValueOf(Line(m)))
		from := memory(reflect.ValueOf(m))
		if overlap(x, memory(reflect.ValueOf(b))) || overlap(x, y) || overlap(from, memory(reflect.ValueOf(b))) || overlap(from, line) {
			t.Errorf("%s shares memory", Line(m))
		}
		for i := range x {
			if overlap(x[i:i+1], x[i+1:]) {
				t.Errorf("two parts of %s share memory", Line(m))
			}
		}
	}
}
