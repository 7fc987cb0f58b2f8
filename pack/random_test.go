package pack

import (
	"math"
	"math/rand"
	"strings"
	"testing"

	"provost/api"
	"provost/fail"
	"provost/spec"
	"provost/wire"
)

// pick chooses a number below n.
type pick func(n int) int

func of[T any](p pick, l ...T) T { return l[p(len(l))] }

func someName(p pick) string {
	return of(p, "a", "b", "web", "web-1", "init-0", "main-1", "abcdefghijklmnop", "abcdefghijklmnopq", "", "-a", "A", "a.b", "\x80")
}

func someLabel(p pick) api.Label {
	return api.Label{
		Key: of(p, "a", "a/b", "app", "app/a", "b", "tier", "z", "", "A", "a//b", "~", strings.Repeat("k", longestKey), strings.Repeat("k", longestKey+1)),
		Val: of(p, "", "x", "X.y_Z-1", "abcdefghijklmnop", "abcdefghijklmnopq", "/", "a b"),
	}
}

func someRes(p pick) int {
	return of(p, 0, 0, 1, 9, 10, 11, 127, 128, 300, mostRes-1, mostRes, mostRes+1, -1, math.MaxInt)
}

func someNumber(p pick) int {
	return of(p, 0, 1, 2, 3, 4, 9, 10, 11, 127, 128, 999, 1000, 1001, mostPort, mostPort+1, -1, math.MinInt, math.MaxInt)
}

func someContainer(p pick) api.Container {
	c := api.Container{Name: someName(p), Image: of(p, "a:1", "lib/a:1", "a", "", "a:A", "lib/web", strings.Repeat("i", longestImage), strings.Repeat("i", longestImage+1))}
	for range p(5) {
		c.Ports = append(c.Ports, of(p, 1, 2, 80, 443, someNumber(p)))
	}
	c.Req = api.Res{CPU: someRes(p), Mem: someRes(p), Pids: someRes(p)}
	c.Lim = api.Res{CPU: someRes(p), Mem: someRes(p), Pids: someRes(p)}
	c.Probe = api.Probe{Every: someNumber(p), Fails: someNumber(p)}
	return c
}

// likely is a spec that may be, at random.
func likely(p pick) api.Spec {
	text := func(most int, letters string) string {
		out := make([]byte, 1+p(most))
		for i := range out {
			out[i] = letters[p(len(letters))]
		}
		return string(out)
	}
	const plain = "abcxyz0189"
	s := api.Spec{Name: text(longestName, plain), Restart: 1 + p(restarts), Grace: p(mostGrace + 1), Prio: p(mostPrio + 1)}
	for i := range p(mostLabels + 1) {
		// Keys grow by their first letters.
		first := string(rune('a' + i))
		s.Labels = append(s.Labels, api.Label{Key: first + text(longestName-1, plain) + of(p, "", "/"+text(longestName, plain)), Val: of(p, "", text(longestName, plain+"-_.XYZ"))})
	}
	container := func(name string) api.Container {
		c := api.Container{Name: name + text(longestName-2, plain), Image: text(16, plain) + of(p, "", "/"+text(7, plain)) + ":" + text(8, plain+".-")}
		c.Req = api.Res{CPU: p(400), Mem: p(mostRes + 1), Pids: p(9)}
		c.Lim = api.Res{CPU: of(p, 0, c.Req.CPU, mostRes), Mem: of(p, 0, c.Req.Mem, mostRes), Pids: of(p, 0, c.Req.Pids+p(300))}
		return c
	}
	for i := range p(mostInit + 1) {
		s.Init = append(s.Init, container("i"+string(rune('a'+i))))
	}
	for i := range 1 + p(mostMain) {
		c := container("m" + string(rune('a'+i)))
		for k := range p(mostPorts + 1) {
			c.Ports = append(c.Ports, mostPort-(i*mostPorts+k)*5000-p(5000))
		}
		if p(2) == 0 {
			c.Probe = api.Probe{Every: 1 + p(mostEvery), Fails: 1 + p(mostFails)}
		}
		s.Main = append(s.Main, c)
	}
	return s
}

// spoil changes one part of s, to something that may be or not.
func spoil(s *api.Spec, p pick) {
	switch p(6) {
	case 0:
		s.Name = someName(p)
	case 1:
		s.Labels = append(s.Labels[:p(len(s.Labels)+1)], someLabel(p))
	case 2:
		*of(p, &s.Restart, &s.Grace, &s.Prio) = someNumber(p)
	case 3:
		list := of(p, &s.Init, &s.Main)
		*list = append((*list)[:p(len(*list)+1)], someContainer(p))
	case 4:
		list := of(p, &s.Init, &s.Main)
		*list = (*list)[:p(len(*list)+1)]
	case 5:
		if list := of(p, s.Init, s.Main); len(list) > 0 {
			c := &list[p(len(list))]
			*of(p, &c.Req.CPU, &c.Req.Mem, &c.Req.Pids, &c.Lim.CPU, &c.Lim.Mem, &c.Lim.Pids) = someRes(p)
			*of(p, &c.Probe.Every, &c.Probe.Fails) = someNumber(p)
		}
	}
}

// checkSpec holds what is written of s, and what is read of its bytes then.
func checkSpec(t *testing.T, s api.Spec) {
	t.Helper()
	b, c := wantBytes(s), fail.Code(spec.Check(s))
	if c == api.OK {
		checkPut(t, "at random", s, b, api.OK)
		checkIsRead(t, "at random", b, s)
	} else {
		checkPut(t, "at random", s, "", c)
		checkReads(t, b)
	}
	w := wire.Write()
	PutLabels(w, s.Labels)
	checkEnd(t, "labels at random", w, wantLabels(s.Labels), api.OK)
	if t.Failed() {
		t.Fatalf("of %+v", s)
	}
}

// 7.1 to 7.3: specs that may be, at random, are read as they were
func TestSpecsAtRandomThatMayBe(t *testing.T) {
	p := pick(rand.New(rand.NewSource(7)).Intn)
	for range 3000 {
		s := likely(p)
		checkError(t, "Check", spec.Check(s), "", api.OK)
		checkSpec(t, s)
		more := of(p, "", "\x00", "more", wantBytes(small()))
		checkReads(t, wantBytes(s)+more)
	}
}

// 7.1 to 7.3: specs at random, held against the words
func TestSpecsAtRandom(t *testing.T) {
	p := pick(rand.New(rand.NewSource(77)).Intn)
	right, wrong, unread := 0, 0, 0
	for range 5000 {
		s := of(p, likely(p), full(), small())
		for range p(4) {
			spoil(&s, p)
		}
		checkSpec(t, s)
		switch _, _, code := wantRaw(wantBytes(s)); {
		case spec.Check(s) == nil:
			right++
		case code == api.OK:
			wrong++
		default:
			unread++
		}
	}
	// Without enough of each sort the test would say little.
	if min(right, wrong, unread) < 500 {
		t.Errorf("only %d that may be, %d that may not, %d that can not be read", right, wrong, unread)
	}
}

// harm changes some of the bytes.
func harm(b string, p pick) string {
	out := []byte(b)
	for range p(4) {
		at := p(len(out) + 1)
		switch few := of(p, 0, 1, 2, 3, 4, 10, 17, 34, 127, 128, 255, p(256)); {
		case p(3) == 0:
			out = append(out[:at:at], append([]byte{byte(few)}, out[at:]...)...)
		case at < len(out) && p(3) == 0:
			out = append(out[:at:at], out[at+1:]...)
		case at < len(out):
			out[at] = byte(few)
		}
	}
	return string(out)
}

// 7.2, 7.3: any bytes: those of specs, harmed, and bytes at random
func TestBytesAtRandom(t *testing.T) {
	p := pick(rand.New(rand.NewSource(777)).Intn)
	told := map[api.Code]int{}
	for range 30000 {
		b := harm(wantBytes(of(p, likely(p), full(), small())), p)
		checkReads(t, b)
		_, e := Of(b)
		told[fail.Code(e)]++
	}
	for _, c := range []api.Code{api.OK, api.ErrShort, api.ErrLong, api.ErrForm, api.ErrName, api.ErrRange} {
		if told[c] < 100 {
			t.Errorf("%d was told only %d times", int(c), told[c])
		}
	}
	for range 30000 {
		b := make([]byte, p(60))
		for i := range b {
			b[i] = byte(of(p, 0, 0, 0, 1, 1, 2, 3, 'a', p(256)))
		}
		checkReads(t, string(b))
		if t.Failed() {
			t.Fatalf("of %q", b)
		}
	}
}

// 7.1, 7.3: what is read of any bytes as labels has just those bytes
func TestLabelBytesAtRandom(t *testing.T) {
	p := pick(rand.New(rand.NewSource(7777)).Intn)
	read := 0
	for range 20000 {
		b := harm(wantLabels(of(p, likely(p), full()).Labels)+of(p, "", "more"), p)
		x := scan{s: b}
		want := x.labels()
		r := wire.Read(b)
		got := TakeLabels(r)
		if r.Code() != x.code || x.code != api.OK && len(got) != 0 {
			t.Fatalf("TakeLabels of %q = %q, %d; want %d", b, got, int(r.Code()), int(x.code))
		}
		if x.code != api.OK {
			continue
		}
		read++
		if !alike(api.Spec{Labels: got}, api.Spec{Labels: want}) || r.Left() != len(b)-x.at {
			t.Fatalf("TakeLabels of %q = %q, want %q", b, got, want)
		}
		w := wire.Write()
		PutLabels(w, got)
		checkEnd(t, "what was read", w, b[:x.at], api.OK)
	}
	if read < 5000 {
		t.Errorf("only %d were read", read)
	}
}

// 7.1 to 7.3, held against the words
func FuzzPack(f *testing.F) {
	for _, s := range []api.Spec{{}, small(), full(), greatest()} {
		f.Add(wantBytes(s), "")
		f.Add(wantBytes(s)+"x", "\x00\x01\x02\x03")
	}
	f.Add("\x80\x00", strings.Repeat("\x04\x06\x02", 20))
	f.Fuzz(func(t *testing.T, b, choices string) {
		checkReads(t, b)
		p := pick(func(n int) int {
			if choices == "" {
				return 0
			}
			c := choices[0]
			choices = choices[1:]
			return int(c) % n
		})
		s := of(p, likely(p), full(), small())
		for range p(5) {
			spoil(&s, p)
		}
		checkSpec(t, s)
	})
}
