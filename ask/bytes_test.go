package ask

import (
	"math"
	"reflect"
	"slices"
	"strings"
	"testing"
	"unsafe"

	"provost/api"
)

// 8.3, 8.4: each kind, byte by byte
func TestCallsByteByByte(t *testing.T) {
	for _, c := range []struct {
		call api.Call
		want string
	}{
		{api.Call{Kind: api.QRun, Spec: small()}, "\x01" + smallBytes},
		{api.Call{Kind: api.QRun, Spec: full()}, "\x01" + fullBytes},
		{api.Call{Kind: api.QUpdate, UID: 1, Spec: small()}, "\x02\x01\x00" + smallBytes},
		{api.Call{Kind: api.QUpdate, UID: 300, Rev: 1 << 63, Spec: full()}, "\x02\xac\x02\x80\x80\x80\x80\x80\x80\x80\x80\x80\x01" + fullBytes},
		{api.Call{Kind: api.QKill, UID: 7}, "\x03\x07\x00"},
		{api.Call{Kind: api.QKill, UID: 1 << 30, Grace: 1000}, "\x03\x80\x80\x80\x80\x04\xe8\x07"},
		{api.Call{Kind: api.QOpen, UID: 7}, "\x04\x07\x00"},
		{api.Call{Kind: api.QOpen, UID: 128, Ctr: 3}, "\x04\x80\x01\x03"},
		{api.Call{Kind: api.QWrite, Id: 7}, "\x05\x07\x00"},
		{api.Call{Kind: api.QWrite, Id: 127, Data: "hi\x00\xff"}, "\x05\x7f\x04hi\x00\xff"},
		{api.Call{Kind: api.QRead, Id: 7, Most: 1}, "\x06\x07\x01"},
		{api.Call{Kind: api.QRead, Id: 300, Most: 32}, "\x06\xac\x02\x20"},
		{api.Call{Kind: api.QClose, Id: 7}, "\x07\x07"},
		{api.Call{Kind: api.QClose, Id: 1 << 30}, "\x07\x80\x80\x80\x80\x04"},
		{api.Call{Kind: api.QStats, UID: 7}, "\x08\x07"},
		{api.Call{Kind: api.QStats, UID: 1 << 30}, "\x08\x80\x80\x80\x80\x04"},
		{api.Call{Kind: api.QList}, "\x09\x00"},
		{api.Call{Kind: api.QList, Sel: labels()}, "\x09" + labelsBytes},
		{api.Call{Kind: api.QGet, UID: 7}, "\x0a\x07"},
		{api.Call{Kind: api.QGet, UID: 16384}, "\x0a\x80\x80\x01"},
		{api.Call{Kind: api.QWatch}, "\x0b\x00\x00"},
		{api.Call{Kind: api.QWatch, Rev: math.MaxUint64, Sel: labels()}, "\x0b\xff\xff\xff\xff\xff\xff\xff\xff\xff\x01" + labelsBytes},
		{api.Call{Kind: api.QCancel, Id: 5}, "\x0c\x05"},
		{api.Call{Kind: api.QCancel, Id: 1 << 30}, "\x0c\x80\x80\x80\x80\x04"},
	} {
		checkMayBe(t, Name(c.call.Kind), c.call, c.want)
		if got := wantBytes(c.call); got != c.want {
			t.Errorf("these tests write %q, not %q", got, c.want)
		}
	}
}

// someCalls are calls that may be, no two of them alike: each kind with little, with more, and with the greatest there is.
func someCalls() []api.Call {
	var out []api.Call
	for kind := 1; kind <= lastKind; kind++ {
		least, most := plain(kind), plain(kind)
		for _, name := range fieldsOf(kind) {
			switch name {
			case "Rev":
				least.Rev, most.Rev = 0, math.MaxUint64
			case "Spec":
				least.Spec = small()
				most.Spec.Main[0].Req.Mem, most.Spec.Main[0].Lim.Mem, most.Spec.Main[1].Ports[0] = 1<<40, 1<<40, 65535
			case "Data":
				least.Data, most.Data = "", strings.Repeat("\xff", mostData)
			case "Sel":
				long := strings.Repeat("z", 16)
				least.Sel, most.Sel = nil, []api.Label{{Key: long + "/" + long, Val: long}}
			default:
				f := numberField(name)
				*f.of(&least), *f.of(&most) = f.least, f.most
			}
		}
		out = append(out, least, plain(kind), most)
	}
	return out
}

// 8.3: bytes that are cut at each place
func TestBytesThatAreCut(t *testing.T) {
	for _, c := range someCalls() {
		b := wantBytes(c)
		checkMayBe(t, Name(c.Kind), c, b)
		for cut := range len(b) {
			checkNotRead(t, Name(c.Kind)+" cut", b[:cut], "wire", api.ErrShort)
		}
	}
}

// 8.3: bytes with more behind
func TestBytesWithMoreBehind(t *testing.T) {
	for _, c := range someCalls() {
		b := wantBytes(c)
		for _, more := range []string{"\x00", "\x01", "x", "\x80", "\xff", "\x00\x00\x00", b, strings.Repeat("\xff", 20)} {
			checkNotRead(t, Name(c.Kind)+" and more", b+more, "wire", api.ErrForm)
		}
	}
}

// longer are more bytes that would say the same number.
func longer(number string) string {
	last := len(number) - 1
	return number[:last] + string([]byte{number[last] + 128, 0})
}

// 8.3, 8.4: numbers that are not canonical, and no numbers
func TestNumbersThatAreNotCanonical(t *testing.T) {
	for _, c := range someCalls() {
		pieces := layoutOf(c)
		for i, p := range pieces {
			if !p.number {
				continue
			}
			for _, other := range []string{longer(p.bytes), strings.Repeat("\xff", 10), strings.Repeat("\x80", 10) + "\x01", strings.Repeat("\x80", 9) + "\x00", strings.Repeat("\xff", 9) + "\x02"} {
				changed := slices.Clone(pieces)
				changed[i].bytes = other
				checkNotRead(t, Name(c.Kind)+" not canonical", changed.String(), "wire", api.ErrForm)
			}
		}
	}
}

// 8.3: each number above what it is read up to
func TestNumbersThatAreTooGreat(t *testing.T) {
	checkTooGreat := func(what, ahead string, most int, behind string) {
		for _, n := range []uint64{uint64(most) + 1, uint64(most) + 2, 2*uint64(most) + 2, 1<<32 + 1, 1 << 63, math.MaxUint64} {
			var l layout
			l.big(n)
			for _, rest := range []string{"", behind, behind + "\x00", "\xff"} {
				checkNotRead(t, what, ahead+l.String()+rest, "wire", api.ErrLong)
			}
		}
	}
	checkTooGreat("a kind", "", 12, "\x05")
	checkTooGreat("update's uid", "\x02", 1<<30, "\x00"+smallBytes)
	checkTooGreat("kill's uid", "\x03", 1<<30, "\x00")
	checkTooGreat("kill's grace", "\x03\x01", 1000, "")
	checkTooGreat("open's uid", "\x04", 1<<30, "\x00")
	checkTooGreat("open's ctr", "\x04\x01", 3, "")
	checkTooGreat("write's id", "\x05", 1<<30, "\x00")
	checkTooGreat("write's length", "\x05\x01", 32, strings.Repeat("d", 40))
	checkTooGreat("read's id", "\x06", 1<<30, "\x01")
	checkTooGreat("read's most", "\x06\x01", 32, "")
	checkTooGreat("close's id", "\x07", 1<<30, "")
	checkTooGreat("stats' uid", "\x08", 1<<30, "")
	checkTooGreat("list's labels", "\x09", 4, strings.Repeat("\x00", 20))
	checkTooGreat("list's key", "\x09\x01", 33, strings.Repeat("k", 40)+"\x00")
	checkTooGreat("list's value", "\x09\x01\x01k", 16, strings.Repeat("v", 20))
	checkTooGreat("get's uid", "\x0a", 1<<30, "")
	checkTooGreat("watch's labels", "\x0b\x00", 4, strings.Repeat("\x00", 20))
	checkTooGreat("watch's key", "\x0b\xac\x02\x01", 33, strings.Repeat("k", 40)+"\x00")
	checkTooGreat("watch's value", "\x0b\x01\x02\x01k\x00\x01l", 16, strings.Repeat("v", 20))
	checkTooGreat("cancel's id", "\x0c", 1<<30, "")
	for what, ahead := range map[string]string{"run": "\x01", "update": "\x02\x01\xac\x02"} {
		checkTooGreat(what+"'s spec's name", ahead, 16, strings.Repeat("a", 20))
		checkTooGreat(what+"'s spec's labels", ahead+"\x01a", 4, "")
		checkTooGreat(what+"'s spec's init", ahead+"\x01a\x00", 3, "")
		checkTooGreat(what+"'s spec's main", ahead+"\x01a\x00\x00", 4, "")
		checkTooGreat(what+"'s spec's prio", ahead+smallBytes[:len(smallBytes)-1], 10, "")
	}
}

// 8.3: a kind of 0, whatever stands behind it
func TestAKindOfNought(t *testing.T) {
	for _, behind := range []string{"", "\x00", "\x01", "\x05", "\xff", "\x80\x00", "run", smallBytes, labelsBytes, strings.Repeat("\xff", 30)} {
		checkNotRead(t, "a kind of 0", "\x00"+behind, "kind", api.ErrKind)
	}
	checkNotRead(t, "a 0 that is not canonical", "\x80\x00", "wire", api.ErrForm)
	checkNotRead(t, "no kind", "", "wire", api.ErrShort)
	checkNotRead(t, "half a kind", "\x80", "wire", api.ErrShort)
}

// 8.3: bytes that are read whole, of a call that may not be
func TestBytesOfCallsThatMayNotBe(t *testing.T) {
	for _, c := range []struct {
		b, path string
		code    api.Code
	}{
		{"\x02\x00\x00" + smallBytes, "uid", api.ErrRange},
		{"\x03\x00\x00", "uid", api.ErrRange},
		{"\x04\x00\x03", "uid", api.ErrRange},
		{"\x05\x00\x02hi", "id", api.ErrRange},
		{"\x06\x00\x01", "id", api.ErrRange},
		{"\x06\x00\x00", "id", api.ErrRange},
		{"\x06\x01\x00", "most", api.ErrRange},
		{"\x07\x00", "id", api.ErrRange},
		{"\x08\x00", "uid", api.ErrRange},
		{"\x0a\x00", "uid", api.ErrRange},
		{"\x0c\x00", "id", api.ErrRange},
		{"\x09\x01\x00\x00", "sel[0].key", api.ErrKey},
		{"\x09\x01\x01a\x01/", "sel[0].val", api.ErrVal},
		{"\x09\x02\x01a\x00\x01a\x00", "sel[1].key", api.ErrShape},
		{"\x0b\x05\x02\x01b\x00\x01a\x01/", "sel[1].key", api.ErrShape},
		{"\x0b\x00\x01\x02a/\x00", "sel[0].key", api.ErrKey},
		{"\x01\x00\x00\x00\x00\x00\x00\x00", "spec.name", api.ErrName},
		{"\x01\x01a\x00\x00\x00\x00\x00\x00", "spec.main", api.ErrLong},
		{"\x01" + smallBytes[:len(smallBytes)-3] + "\x00\x00\x00", "spec.restart", api.ErrRange},
		{"\x01\x01A" + smallBytes[2:], "spec.name", api.ErrName},
		{"\x02\x01\x00\x01A" + smallBytes[2:], "spec.name", api.ErrName},
		{"\x02\x00\x00\x01A" + smallBytes[2:], "uid", api.ErrRange},
		{"\x01" + strings.Replace(fullBytes, "\x01q", "\x01Q", 1), "spec.main[1].name", api.ErrName},
		{"\x01" + strings.Replace(fullBytes, "\x01q", "\x01m", 1), "spec.main[1].name", api.ErrThere},
		{"\x02\x01\x01" + strings.Replace(fullBytes, "\x01\xbb\x03", "\x01\x0d", 1), "spec.main[1].ports[0]", api.ErrPort},
		{"\x02\x01\x01" + strings.Replace(fullBytes, "\x03n:3", "\x03n::", 1), "spec.main[0].image", api.ErrImage},
	} {
		checkNotRead(t, "what may not be", c.b, c.path, c.code)
		// With bytes that are left, or that lack, it is no call's at all.
		checkNotRead(t, "what may not be, and more", c.b+"\x00", "wire", api.ErrForm)
		checkNotRead(t, "what may not be, cut", c.b[:len(c.b)-1], "wire", api.ErrShort)
	}
}

// 8.3, 8.4: all bytes up to some length
func TestAllShortBytes(t *testing.T) {
	read := 0
	for a := range 256 {
		checkReads(t, string([]byte{byte(a)}))
		for b := range 256 {
			checkReads(t, string([]byte{byte(a), byte(b)}))
		}
	}
	few := []byte{0, 1, 2, 3, 4, 5, 6, 7, 8, 9, 10, 11, 12, 13, 32, 33, 127, 128, 255}
	for size, all := 0, []string{""}; size <= 4; size++ {
		var next []string
		for _, b := range all {
			checkReads(t, b)
			if _, e := Of(b); e == nil {
				read++
			}
			for _, more := range few {
				next = append(next, b+string([]byte{more}))
			}
		}
		all = next
	}
	if read < 500 {
		t.Errorf("only %d were read", read)
	}
}

// 8.4: two calls that are not alike have bytes that are not
func TestUnlikeCallsHaveUnlikeBytes(t *testing.T) {
	calls := someCalls()
	for kind := 1; kind <= lastKind; kind++ {
		for _, f := range numberFields() {
			for _, n := range []int{f.least, f.least + 1, 2, 127, 128, f.most - 1, f.most} {
				c := plain(kind)
				if *f.of(&c) = n; slices.Contains(fieldsOf(kind), f.name) && n <= f.most {
					calls = append(calls, c)
				}
			}
		}
		for _, rev := range []uint64{0, 1, 127, 128, 299, 1 << 32, 1 << 63} {
			if c := plain(kind); slices.Contains(fieldsOf(kind), "Rev") {
				c.Rev = rev
				calls = append(calls, c)
			}
		}
	}
	for _, data := range []string{"\x00", "\x00\x00", "\x00\x00\x00", "h", "ih", "hi\x00"} {
		calls = append(calls, api.Call{Kind: api.QWrite, Id: 128, Data: data})
	}
	for _, sel := range [][]api.Label{{{Key: "a"}}, {{Key: "a", Val: "b"}}, {{Key: "ab"}}, {{Key: "a"}, {Key: "b"}}, {{Key: "a", Val: "a"}, {Key: "b"}}} {
		calls = append(calls, api.Call{Kind: api.QList, Sel: sel}, api.Call{Kind: api.QWatch, Rev: 300, Sel: sel})
	}
	checkUnlike(t, calls)
}

// checkUnlike holds that of calls that may be those have the same bytes that are alike, and no others.
func checkUnlike(t *testing.T, calls []api.Call) {
	t.Helper()
	var told []string
	for _, c := range calls {
		b, code := Bytes(c)
		if code != api.OK {
			t.Fatalf("%+v may not be: %d", c, int(code))
		}
		told = append(told, b)
	}
	for i := range calls {
		for k := range i {
			if (told[i] == told[k]) != alike(calls[i], calls[k]) {
				t.Errorf("%+v and %+v: %q and %q", calls[i], calls[k], told[i], told[k])
			}
		}
	}
}

// span is where some memory begins and ends.
type span struct{ from, to uintptr }

// memory is all of what v keeps by pointers: its lists with their spare room, and its texts.
func memory(v reflect.Value) []span {
	var out []span
	switch v.Kind() {
	case reflect.Slice:
		if v.Cap() > 0 {
			out = append(out, span{v.Pointer(), v.Pointer() + uintptr(v.Cap())*v.Type().Elem().Size()})
		}
		for i := range v.Len() {
			out = append(out, memory(v.Index(i))...)
		}
	case reflect.Struct:
		for i := range v.NumField() {
			out = append(out, memory(v.Field(i))...)
		}
	case reflect.String:
		if s := v.String(); s != "" {
			from := uintptr(unsafe.Pointer(unsafe.StringData(s)))
			out = append(out, span{from, from + uintptr(len(s))})
		}
	}
	return out
}

func overlap(a, b []span) bool {
	for _, x := range a {
		for _, y := range b {
			if x.from < y.to && y.from < x.to {
				return true
			}
		}
	}
	return false
}

// R4: what is read shares no memory with the bytes, with what is read again, or within itself; nor do bytes with a call
func TestAnswersAreNewMemory(t *testing.T) {
	for _, c := range someCalls() {
		b, _ := Bytes(c)
		one, _ := Of(b)
		two, _ := Of(b)
		x, y := memory(reflect.ValueOf(one)), memory(reflect.ValueOf(two))
		if overlap(x, memory(reflect.ValueOf(b))) || overlap(x, y) || overlap(memory(reflect.ValueOf(c)), memory(reflect.ValueOf(b))) {
			t.Errorf("%s shares memory", Name(c.Kind))
		}
		for i := range x {
			if overlap(x[i:i+1], x[i+1:]) {
				t.Errorf("two parts of %s share memory", Name(c.Kind))
			}
		}
	}
}
