package tell

import (
	"math"
	"math/rand"
	"slices"
	"strings"
	"testing"

	"provost/api"
)

// pick chooses a number below n.
type pick func(n int) int

func of[T any](p pick, l ...T) T { return l[p(len(l))] }

func someText(p pick) string {
	return of(p, "", "a", "b", "web", "web-1", "a/b", "app", "X.y_Z-1", "A", "/", "-", "abcdefghijklmnop", "abcdefghijklmnopq", "a:1", "lib/a:1", strings.Repeat("k", 33), strings.Repeat("k", 34), "\x80")
}

func someNumber(p pick) int {
	return of(p, 0, 0, 1, 1, 2, 3, 4, 5, 31, 32, 33, 127, 128, 999, 1000, 1001, mostUID-1, mostUID, mostUID+1, mostRes, mostRes+1, -1, math.MinInt, math.MaxInt, p(mostUID))
}

func someRev(p pick) uint64 {
	return of(p, 0, 1, 127, 128, 300, 1<<32, 1<<63, math.MaxUint64, uint64(p(math.MaxInt)))
}

func someData(p pick) string {
	out := make([]byte, p(mostData+1))
	for i := range out {
		out[i] = byte(p(256))
	}
	return string(out)
}

// likelyPod is a pod that may be told, at random.
func likelyPod(p pick) api.Pod {
	pod := podOf(of(p, 0, 0, 0, 1, 1, 2))
	pod.UID, pod.Rev, pod.Phase = of(p, 1, mostUID, 1+p(mostUID)), someRev(p), 1+p(lastPhase)
	for i := range pod.Restarts {
		pod.Restarts[i] = of(p, 0, mostUID, p(mostUID))
	}
	pod.Mark, pod.Grace = p(lastMark+1), of(p, 0, mostGrace, p(mostGrace))
	pod.Spec.Name = of(p, "a", "web", "web-1", "abcdefghijklmnop")
	pod.Spec.Restart, pod.Spec.Grace, pod.Spec.Prio = 1+p(3), p(1001), p(11)
	return pod
}

// likely is a message that may be, at random.
func likely(p pick) api.Msg {
	n := of(p, 1, mostUID, 1+p(mostUID))
	if p(2) == 0 {
		kind, pod := 1+p(lastEvent), likelyPod(p)
		if kind > 3 {
			pod = api.Pod{}
		}
		return event(n, kind, someRev(p), pod)
	}
	y := api.Reply{Code: api.Code(of(p, 0, 6, mostCodes, p(mostCodes))), UID: of(p, 0, mostUID, p(mostUID)), Id: of(p, 0, mostUID, p(mostUID)), Rev: someRev(p), Data: someData(p)}
	for range of(p, 0, 0, 1, 2, p(mostPods+1)) {
		y.Pods = append(y.Pods, likelyPod(p))
	}
	for range p(mostUse + 1) {
		y.Use = append(y.Use, api.Res{CPU: p(mostRes + 1), Mem: of(p, 0, mostRes), Pids: p(100)})
	}
	return reply(n, y)
}

// spoilPod sets one part of a pod to something that may be or not.
func spoilPod(pod *api.Pod, p pick) {
	switch p(8) {
	case 0:
		*of(p, &pod.UID, &pod.Phase, &pod.Mark, &pod.Grace) = someNumber(p)
	case 1:
		pod.Rev = someRev(p)
	case 2:
		pod.Restarts = append(pod.Restarts, someNumber(p))
	case 3:
		pod.Restarts = pod.Restarts[:p(len(pod.Restarts)+1)]
	case 4:
		if len(pod.Restarts) > 0 {
			pod.Restarts[p(len(pod.Restarts))] = someNumber(p)
		}
	case 5:
		pod.Spec.Name = someText(p)
	case 6:
		*of(p, &pod.Spec.Restart, &pod.Spec.Grace, &pod.Spec.Prio) = someNumber(p)
	case 7:
		if len(pod.Spec.Main) > 0 {
			c := &pod.Spec.Main[p(len(pod.Spec.Main))]
			*of(p, &c.Name, &c.Image) = someText(p)
		}
	}
}

// spoil sets one part of m to something that may be or not.
func spoil(m *api.Msg, p pick) {
	switch p(9) {
	case 0:
		m.Kind = of(p, m.Kind, p(lastKind+2), someNumber(p))
	case 1:
		m.Num = someNumber(p)
	case 2:
		m.Event.Kind = of(p, p(lastEvent+2), someNumber(p))
	case 3:
		*of(p, &m.Event.Rev, &m.Reply.Rev) = someRev(p)
	case 4:
		*of(p, (*int)(&m.Reply.Code), &m.Reply.UID, &m.Reply.Id) = someNumber(p)
	case 5:
		m.Reply.Data = of(p, "", someData(p), strings.Repeat("d", mostData+1))
	case 6:
		m.Reply.Use = append(m.Reply.Use, api.Res{CPU: someNumber(p), Mem: someNumber(p), Pids: someNumber(p)})
	case 7:
		spoilPod(&m.Event.Pod, p)
	case 8:
		if len(m.Reply.Pods) > 0 {
			spoilPod(&m.Reply.Pods[p(len(m.Reply.Pods))], p)
		}
	}
}

// 9.1: pods at random
func TestPodsAtRandom(t *testing.T) {
	p := pick(rand.New(rand.NewSource(9)).Intn)
	right := 0
	for range 6000 {
		pod := likelyPod(p)
		checkPod(t, "at random", pod, true)
		for range p(3) {
			spoilPod(&pod, p)
		}
		if got, may := Pod(pod), wantPod(pod); (got == api.OK) != may || !may && got != api.ErrShape {
			t.Fatalf("Pod(%+v) = %d", pod, int(got))
		} else if may {
			right++
		}
		if clone := Clone(pod); !alikePods(clone, pod) {
			t.Fatalf("Clone = %+v, want %+v", clone, pod)
		}
	}
	if right < 1000 || right > 5000 {
		t.Errorf("%d of 6000 may be told", right)
	}
}

// 9.1 to 9.4: messages that may be, at random, are read as they were, and unlike ones have unlike bytes
func TestMessagesAtRandomThatMayBe(t *testing.T) {
	p := pick(rand.New(rand.NewSource(99)).Intn)
	var some []api.Msg
	for i := range 4000 {
		m := likely(p)
		checkMayBe(t, "at random", m, wantBytes(m))
		checkLine(t, m, wantLine(m))
		if more := of(p, "\x00", "more", wantBytes(m)); i%3 == 0 {
			checkNotRead(t, "at random, and more", wantBytes(m)+more, api.ErrForm)
		}
		if i < 500 {
			some = append(some, m)
		}
		if t.Failed() {
			t.Fatalf("of %+v", m)
		}
	}
	checkUnlike(t, some)
}

// 9.1 to 9.4: messages at random, held against the words
func TestMessagesAtRandom(t *testing.T) {
	p := pick(rand.New(rand.NewSource(999)).Intn)
	right := 0
	for range 20000 {
		m := likely(p)
		for range p(4) {
			spoil(&m, p)
		}
		checkMsg(t, "at random", m)
		checkLine(t, m, wantLine(m))
		if wantMsg(m) {
			right++
		}
		if t.Failed() {
			t.Fatalf("of %+v", m)
		}
	}
	// Without enough of each sort the test would say little.
	if right < 4000 || right > 16000 {
		t.Errorf("%d of 20000 may be", right)
	}
}

// harm changes some of the bytes.
func harm(b string, p pick) string {
	out := []byte(b)
	for range p(4) {
		at := p(len(out) + 1)
		switch few := of(p, 0, 1, 2, 3, 4, 5, 6, 16, 17, 32, 33, 127, 128, 255, p(256)); {
		case p(3) == 0:
			out = slices.Insert(out, at, byte(few))
		case at < len(out) && p(3) == 0:
			out = slices.Delete(out, at, at+1)
		case at < len(out):
			out[at] = byte(few)
		}
	}
	return string(out)
}

// 9.2, 9.4: any bytes: those of messages, harmed, and bytes at random
func TestBytesAtRandom(t *testing.T) {
	p := pick(rand.New(rand.NewSource(9999)).Intn)
	told := map[api.Code]int{}
	for range 30000 {
		b := harm(wantBytes(likely(p)), p)
		checkReads(t, "harmed", b)
		_, code := Of(b)
		told[code]++
		if t.Failed() {
			t.Fatalf("of %q", b)
		}
	}
	for _, c := range []api.Code{api.OK, api.ErrShort, api.ErrLong, api.ErrForm, api.ErrShape} {
		if told[c] < 300 {
			t.Errorf("%d was told only %d times", int(c), told[c])
		}
	}
	for c := range told {
		if !slices.Contains([]api.Code{api.OK, api.ErrShort, api.ErrLong, api.ErrForm, api.ErrShape}, c) {
			t.Errorf("%d was told", int(c))
		}
	}
	for range 60000 {
		b := make([]byte, p(40))
		for i := range b {
			b[i] = byte(of(p, 0, 0, 0, 1, 1, 2, p(7), 'a', p(256)))
		}
		checkReads(t, "at random", string(b))
		if t.Failed() {
			t.Fatalf("of %q", b)
		}
	}
}

// 9.1 to 9.4, held against the words
func FuzzTell(f *testing.F) {
	for _, m := range someMsgs() {
		f.Add(wantBytes(m), "")
		f.Add(wantBytes(m)+"x", "\x00\x01\x02\x03")
	}
	f.Add("\x00\x01", strings.Repeat("\x04\x06\x02", 20))
	f.Fuzz(func(t *testing.T, b, choices string) {
		checkReads(t, "any bytes", b)
		p := pick(func(n int) int {
			if choices == "" {
				return 0
			}
			c := choices[0]
			choices = choices[1:]
			return int(c) % n
		})
		m := likely(p)
		for range p(5) {
			spoil(&m, p)
		}
		checkMsg(t, "at random", m)
		checkLine(t, m, wantLine(m))
	})
}
