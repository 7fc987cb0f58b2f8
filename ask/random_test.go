package ask

import (
	"math"
	"math/rand"
	"slices"
	"strings"
	"testing"

	"provost/api"
	"provost/fail"
)

// pick chooses a number below n.
type pick func(n int) int

func of[T any](p pick, l ...T) T { return l[p(len(l))] }

func someText(p pick) string {
	return of(p, "", "a", "b", "web", "web-1", "a/b", "app", "tier", "X.y_Z-1", "A", "/", "-", "abcdefghijklmnop", "abcdefghijklmnopq", "a:1", "lib/a:1", strings.Repeat("k", 33), strings.Repeat("k", 34), "\x80")
}

func someNumber(p pick) int {
	return of(p, 0, 0, 1, 1, 2, 3, 4, 31, 32, 33, 127, 128, 999, 1000, 1001, mostUID-1, mostUID, mostUID+1, -1, math.MinInt, math.MaxInt, p(mostUID))
}

func someRev(p pick) uint64 {
	return of(p, 0, 1, 127, 128, 300, 1<<32, 1<<63, math.MaxUint64, uint64(p(math.MaxInt)))
}

func someData(p pick) string {
	out := make([]byte, p(mostData+1))
	for i := range out {
		out[i] = byte(p(256))
	}
	return string(out)
}

// someLabels are labels that may be: their keys grow by their first letters.
func someLabels(p pick) []api.Label {
	var out []api.Label
	for i := range p(5) {
		out = append(out, api.Label{Key: string(rune('a'+i)) + of(p, "", "b", "-c", "/d", "0123456789abcd"), Val: of(p, "", "x", "X.y_Z-1", "abcdefghijklmnop")})
	}
	return out
}

// likely is a call that may be, at random.
func likely(p pick) api.Call {
	c := api.Call{Kind: 1 + p(lastKind)}
	for _, name := range fieldsOf(c.Kind) {
		switch name {
		case "Rev":
			c.Rev = someRev(p)
		case "Spec":
			c.Spec = of(p, small(), full())
			c.Spec.Labels = someLabels(p)
			c.Spec.Restart, c.Spec.Grace, c.Spec.Prio = 1+p(3), p(1001), p(11)
			c.Spec.Main[0].Lim = api.Res{CPU: 1<<40 - p(9), Mem: of(p, 0, 1<<40)}
		case "Data":
			c.Data = someData(p)
		case "Sel":
			c.Sel = someLabels(p)
		default:
			f := numberField(name)
			*f.of(&c) = of(p, f.least, f.most, f.least+p(f.most-f.least+1))
		}
	}
	return c
}

// change sets one part of c to something that may be or not.
func change(c *api.Call, p pick) {
	switch p(9) {
	case 0:
		c.Kind = of(p, c.Kind, p(lastKind+2), someNumber(p))
	case 1:
		c.Rev = someRev(p)
	case 2:
		c.Data = of(p, "", someData(p), strings.Repeat("d", mostData+1), someText(p))
	case 3:
		c.Sel = append(c.Sel[:p(len(c.Sel)+1)], api.Label{Key: someText(p), Val: someText(p)})
	case 4:
		c.Sel = c.Sel[:p(len(c.Sel)+1)]
	case 5:
		c.Spec.Name = someText(p)
	case 6:
		if len(c.Spec.Main) > 0 {
			m := &c.Spec.Main[p(len(c.Spec.Main))]
			*of(p, &m.Name, &m.Image) = someText(p)
			*of(p, &m.Req.CPU, &m.Lim.Pids, &m.Probe.Every, &m.Probe.Fails) = someNumber(p)
		}
	case 7:
		*of(p, &c.Spec.Restart, &c.Spec.Grace, &c.Spec.Prio) = someNumber(p)
	case 8:
		*of(p, &c.UID, &c.Grace, &c.Ctr, &c.Id, &c.Most) = someNumber(p)
	}
}

// 8.1, 8.3, 8.4: calls that may be, at random, are read as they were, and unlike ones have unlike bytes
func TestCallsAtRandomThatMayBe(t *testing.T) {
	p := pick(rand.New(rand.NewSource(8)).Intn)
	var some []api.Call
	for i := range 6000 {
		c := likely(p)
		checkMayBe(t, "at random", c, wantBytes(c))
		if more := of(p, "\x00", "more", wantBytes(c)); i%3 == 0 {
			checkNotRead(t, "at random, and more", wantBytes(c)+more, "wire", api.ErrForm)
		}
		if i < 600 {
			some = append(some, c)
		}
		if t.Failed() {
			t.Fatalf("of %+v", c)
		}
	}
	checkUnlike(t, some)
}

// 8.1, 8.3, 8.4: calls at random, held against the words
func TestCallsAtRandom(t *testing.T) {
	p := pick(rand.New(rand.NewSource(88)).Intn)
	told := map[string]int{}
	for range 50000 {
		c := likely(p)
		for range p(4) {
			change(&c, p)
		}
		checkCall(t, "at random", c)
		path, _ := wantCheck(c)
		told[path]++
		if t.Failed() {
			t.Fatalf("of %+v", c)
		}
	}
	// Without enough of each sort the test would say little.
	for _, path := range []string{"", "kind", "uid", "spec.name", "spec.main[0].image", "spec.restart", "grace", "ctr", "id", "data", "most", "sel[0].key", "sel[0].val", "call"} {
		if told[path] < 30 {
			t.Errorf("%q was told only %d times", path, told[path])
		}
	}
}

// harm changes some of the bytes.
func harm(b string, p pick) string {
	out := []byte(b)
	for range p(4) {
		at := p(len(out) + 1)
		switch few := of(p, 0, 1, 2, 3, 4, 5, 12, 13, 32, 33, 127, 128, 255, p(256)); {
		case p(3) == 0:
			out = slices.Insert(out, at, byte(few))
		case at < len(out) && p(3) == 0:
			out = slices.Delete(out, at, at+1)
		case at < len(out):
			out[at] = byte(few)
		}
	}
	return string(out)
}

// 8.3, 8.4: any bytes: those of calls, harmed, and bytes at random
func TestBytesAtRandom(t *testing.T) {
	p := pick(rand.New(rand.NewSource(888)).Intn)
	told := map[api.Code]int{}
	for range 40000 {
		b := harm(wantBytes(likely(p)), p)
		checkReads(t, b)
		_, e := Of(b)
		told[fail.Code(e)]++
	}
	for _, c := range []api.Code{api.OK, api.ErrShort, api.ErrLong, api.ErrForm, api.ErrKind, api.ErrRange, api.ErrKey, api.ErrName} {
		if told[c] < 30 {
			t.Errorf("%d was told only %d times", int(c), told[c])
		}
	}
	for range 60000 {
		b := make([]byte, p(40))
		for i := range b {
			b[i] = byte(of(p, 0, 0, 1, 1, 2, p(14), 'a', p(256)))
		}
		checkReads(t, string(b))
		if t.Failed() {
			t.Fatalf("of %q", b)
		}
	}
}

// 8.1 to 8.4, held against the words
func FuzzAsk(f *testing.F) {
	for _, c := range someCalls() {
		f.Add(wantBytes(c), "")
		f.Add(wantBytes(c)+"x", "\x00\x01\x02\x03")
	}
	f.Add("\x00\x01", strings.Repeat("\x04\x06\x02", 20))
	f.Fuzz(func(t *testing.T, b, choices string) {
		checkReads(t, b)
		if got := Kind(b); got != 0 && Name(got) != b {
			t.Errorf("Kind(%q) = %d", b, got)
		}
		p := pick(func(n int) int {
			if choices == "" {
				return 0
			}
			c := choices[0]
			choices = choices[1:]
			return int(c) % n
		})
		c := likely(p)
		for range p(5) {
			change(&c, p)
		}
		checkCall(t, "at random", c)
	})
}
