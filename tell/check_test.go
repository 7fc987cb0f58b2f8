package tell

import (
	"math"
	"slices"
	"strconv"
	"strings"
	"testing"

	"provost/api"
	"provost/fail"
	"provost/spec"
)

// numbered is a number of a message, from least to most.
type numbered struct {
	path        string
	least, most int
	of          func(m *api.Msg) *int
}

// podNumbers are the numbers of a pod that has so many main containers, beside those of its spec.
func podNumbers(path string, mains int, pod func(m *api.Msg) *api.Pod) []numbered {
	out := []numbered{
		{path + ".uid", 1, mostUID, func(m *api.Msg) *int { return &pod(m).UID }},
		{path + ".phase", 1, lastPhase, func(m *api.Msg) *int { return &pod(m).Phase }},
		{path + ".mark", 0, lastMark, func(m *api.Msg) *int { return &pod(m).Mark }},
		{path + ".grace", 0, mostGrace, func(m *api.Msg) *int { return &pod(m).Grace }},
	}
	for i := range mains {
		out = append(out, numbered{path + ".restarts", 0, mostUID, func(m *api.Msg) *int { return &pod(m).Restarts[i] }})
	}
	return out
}

// replyNumbers are the numbers of fullReply.
func replyNumbers() []numbered {
	out := []numbered{
		{"num", 1, mostUID, func(m *api.Msg) *int { return &m.Num }},
		{"code", 0, mostCodes, func(m *api.Msg) *int { return (*int)(&m.Reply.Code) }},
		{"uid", 0, mostUID, func(m *api.Msg) *int { return &m.Reply.UID }},
		{"id", 0, mostUID, func(m *api.Msg) *int { return &m.Reply.Id }},
	}
	for i := range fullReply().Reply.Use {
		out = append(out,
			numbered{"use.cpu", 0, mostRes, func(m *api.Msg) *int { return &m.Reply.Use[i].CPU }},
			numbered{"use.mem", 0, mostRes, func(m *api.Msg) *int { return &m.Reply.Use[i].Mem }},
			numbered{"use.pids", 0, mostRes, func(m *api.Msg) *int { return &m.Reply.Use[i].Pids }})
	}
	for i, p := range fullReply().Reply.Pods {
		out = append(out, podNumbers("pods["+strconv.Itoa(i)+"]", len(p.Restarts), func(m *api.Msg) *api.Pod { return &m.Reply.Pods[i] })...)
	}
	return out
}

// eventNumbers are the numbers of an event with fullPod.
func eventNumbers() []numbered {
	return append(podNumbers("pod", len(fullPod().Restarts), func(m *api.Msg) *api.Pod { return &m.Event.Pod }),
		numbered{"num", 1, mostUID, func(m *api.Msg) *int { return &m.Num }})
}

// checkEdges holds a number of what made makes at its edges, and beyond.
func checkEdges(t *testing.T, what string, f numbered, made func() api.Msg) {
	t.Helper()
	for _, n := range []int{f.least, f.least + 1, (f.least + f.most) / 2, f.most - 1, f.most} {
		m := made()
		*f.of(&m) = n
		checkMayBe(t, what+f.path, m, wantBytes(m))
	}
	for _, n := range []int{f.least - 1, f.least - 2, -1, -f.most, math.MinInt, f.most + 1, f.most + 2, 2*f.most + 1, math.MaxInt, 1<<48 + f.least} {
		m := made()
		*f.of(&m) = n
		checkMayNotBe(t, what+f.path, m)
		if n >= 0 && n < f.least {
			checkNotRead(t, what+f.path, wantBytes(m), api.ErrShape)
		} else {
			checkNotRead(t, what+f.path, wantBytes(m), api.ErrLong)
		}
	}
}

// 9.1, 9.2: numbers at their edges, and beyond
func TestNumbersAtTheirEdges(t *testing.T) {
	for _, f := range replyNumbers() {
		checkEdges(t, "reply ", f, fullReply)
	}
	for kind := api.EAdd; kind <= api.EDel; kind++ {
		for _, f := range eventNumbers() {
			checkEdges(t, "event ", f, func() api.Msg { return event(2, kind, 300, fullPod()) })
		}
	}
	for _, kind := range []int{api.EMark, api.EOver} {
		f := numbered{"num", 1, mostUID, func(m *api.Msg) *int { return &m.Num }}
		checkEdges(t, "event ", f, func() api.Msg { return event(2, kind, 300, api.Pod{}) })
	}
}

// 9.1, written out, so that the edges are seen
func TestPodsWrittenOut(t *testing.T) {
	for _, x := range []struct {
		what string
		does func(p *api.Pod)
		may  bool
	}{
		{"as it is", func(p *api.Pod) {}, true},
		{"zero", func(p *api.Pod) { *p = api.Pod{} }, false},
		{"uid 1", func(p *api.Pod) { p.UID = 1 }, true},
		{"uid 2^30", func(p *api.Pod) { p.UID = 1073741824 }, true},
		{"uid 0", func(p *api.Pod) { p.UID = 0 }, false},
		{"uid -1", func(p *api.Pod) { p.UID = -1 }, false},
		{"uid 2^30 + 1", func(p *api.Pod) { p.UID = 1073741825 }, false},
		{"rev 0", func(p *api.Pod) { p.Rev = 0 }, true},
		{"the greatest rev", func(p *api.Pod) { p.Rev = math.MaxUint64 }, true},
		{"pending", func(p *api.Pod) { p.Phase = 1 }, true},
		{"failed", func(p *api.Pod) { p.Phase = 4 }, true},
		{"phase 0", func(p *api.Pod) { p.Phase = 0 }, false},
		{"phase 5", func(p *api.Pod) { p.Phase = 5 }, false},
		{"restarts 0", func(p *api.Pod) { p.Restarts = []int{0, 0} }, true},
		{"restarts 2^30", func(p *api.Pod) { p.Restarts = []int{1073741824, 1073741824} }, true},
		{"restarts -1", func(p *api.Pod) { p.Restarts = []int{0, -1} }, false},
		{"restarts 2^30 + 1", func(p *api.Pod) { p.Restarts = []int{1073741825, 0} }, false},
		{"not marked", func(p *api.Pod) { p.Mark = 0 }, true},
		{"evicted", func(p *api.Pod) { p.Mark = 2 }, true},
		{"mark -1", func(p *api.Pod) { p.Mark = -1 }, false},
		{"mark 3", func(p *api.Pod) { p.Mark = 3 }, false},
		{"grace 0", func(p *api.Pod) { p.Grace = 0 }, true},
		{"grace 1000", func(p *api.Pod) { p.Grace = 1000 }, true},
		{"grace -1", func(p *api.Pod) { p.Grace = -1 }, false},
		{"grace 1001", func(p *api.Pod) { p.Grace = 1001 }, false},
		{"grace without a mark", func(p *api.Pod) { p.Mark, p.Grace = 0, 7 }, true},
	} {
		p := fullPod()
		x.does(&p)
		if wantPod(p) != x.may {
			t.Errorf("%s: these tests say %v", x.what, !x.may)
		}
		checkPod(t, x.what, p, x.may)
	}
}

// 9.1: as many restarts as main containers
func TestRestarts(t *testing.T) {
	for mains := 1; mains <= 4; mains++ {
		p := smallPod()
		for i := 1; i < mains; i++ {
			p.Spec.Main = append(p.Spec.Main, api.Container{Name: "x" + strconv.Itoa(i), Image: "c:1"})
		}
		p.Spec.Init = []api.Container{{Name: "i", Image: "c:1"}, {Name: "j", Image: "c:1"}}
		for many := range 9 {
			p.Restarts = make([]int, many)
			checkPod(t, strconv.Itoa(many)+" of "+strconv.Itoa(mains), p, many == mains)
		}
	}
	for _, size := range []int{0, 1, 2} {
		p := podOf(size)
		p.Restarts = p.Restarts[1:]
		checkPod(t, "one too few", p, false)
		p = podOf(size)
		p.Restarts = append(p.Restarts, 0)
		checkPod(t, "one too many", p, false)
		p.Restarts = nil
		checkPod(t, "none", p, false)
		p.Restarts = []int{}
		checkPod(t, "none", p, false)
	}
	// Without a main container there may be no pod, though there are as many restarts.
	p := smallPod()
	p.Spec.Main, p.Restarts = nil, nil
	checkPod(t, "no main container", p, false)
}

// 9.1, 9.2: pods whose specs may not be, of each sort that chapter 6 tells
func TestSpecsThatMayNotBe(t *testing.T) {
	for _, x := range []struct {
		code api.Code
		does func(s *api.Spec)
	}{
		{api.ErrName, func(s *api.Spec) { s.Name = "Web" }},
		{api.ErrName, func(s *api.Spec) { s.Name = "" }},
		{api.ErrName, func(s *api.Spec) { s.Name = "abcdefghijklmnopq" }},
		{api.ErrLong, func(s *api.Spec) { s.Labels = make([]api.Label, 5) }},
		{api.ErrKey, func(s *api.Spec) { s.Labels[1].Key = "A" }},
		{api.ErrShape, func(s *api.Spec) { s.Labels[1].Key = "k" }},
		{api.ErrVal, func(s *api.Spec) { s.Labels[0].Val = "/" }},
		{api.ErrLong, func(s *api.Spec) { s.Init = make([]api.Container, 4) }},
		{api.ErrImage, func(s *api.Spec) { s.Init[0].Image = "web" }},
		{api.ErrLong, func(s *api.Spec) { s.Init[0].Ports = []int{1} }},
		{api.ErrRange, func(s *api.Spec) { s.Init[0].Probe.Every = 1 }},
		{api.ErrName, func(s *api.Spec) { s.Main[1].Name = "A" }},
		{api.ErrThere, func(s *api.Spec) { s.Main[1].Name = "i" }},
		{api.ErrImage, func(s *api.Spec) { s.Main[0].Image = "n::" }},
		{api.ErrRange, func(s *api.Spec) { s.Main[0].Req.CPU = -1 }},
		{api.ErrRange, func(s *api.Spec) { s.Main[0].Lim.Mem = 7 }},
		{api.ErrRange, func(s *api.Spec) { s.Main[0].Lim.Pids = 1<<40 + 1 }},
		{api.ErrLong, func(s *api.Spec) { s.Main[1].Ports = []int{1, 2, 3, 4} }},
		{api.ErrRange, func(s *api.Spec) { s.Main[0].Ports[2] = 0 }},
		{api.ErrPort, func(s *api.Spec) { s.Main[1].Ports[0] = 14 }},
		{api.ErrRange, func(s *api.Spec) { s.Main[0].Probe.Fails = 0 }},
		{api.ErrRange, func(s *api.Spec) { s.Restart = 0 }},
		{api.ErrRange, func(s *api.Spec) { s.Restart = 4 }},
		{api.ErrRange, func(s *api.Spec) { s.Grace = 1001 }},
		{api.ErrRange, func(s *api.Spec) { s.Prio = 11 }},
	} {
		p := fullPod()
		x.does(&p.Spec)
		if got := fail.Code(spec.Check(p.Spec)); got != x.code {
			t.Errorf("the spec's code is %d, not %d", int(got), int(x.code))
		}
		checkPod(t, "a spec that may not be", p, false)
		for _, m := range []api.Msg{reply(1, api.Reply{Pods: []api.Pod{p}}), event(1, api.EAdd, 1, p)} {
			checkReads(t, "a spec that may not be", wantBytes(m))
		}
	}
}

// alien sets one part of a message to something that is not zero.
type alien struct {
	what string
	does func(m *api.Msg)
}

// podAliens are one for each part of a pod, small and great and below 0.
func podAliens(path string, pod func(m *api.Msg) *api.Pod) []alien {
	out := []alien{
		{path + ".rev", func(m *api.Msg) { pod(m).Rev = 1 }},
		{path + ".rev", func(m *api.Msg) { pod(m).Rev = 1 << 63 }},
		{path + ".spec.name", func(m *api.Msg) { pod(m).Spec.Name = "a" }},
		{path + ".spec.name", func(m *api.Msg) { pod(m).Spec.Name = "-" }},
		{path + ".spec.labels", func(m *api.Msg) { pod(m).Spec.Labels = make([]api.Label, 1) }},
		{path + ".spec.init", func(m *api.Msg) { pod(m).Spec.Init = make([]api.Container, 1) }},
		{path + ".spec.main", func(m *api.Msg) { pod(m).Spec.Main = make([]api.Container, 1) }},
		{path + ".restarts", func(m *api.Msg) { pod(m).Restarts = []int{0} }},
		{path + ".restarts", func(m *api.Msg) { pod(m).Restarts = make([]int, 9) }},
		{path, func(m *api.Msg) { *pod(m) = smallPod() }},
		{path, func(m *api.Msg) { *pod(m) = fullPod() }},
	}
	for _, n := range []int{1, -1, 2, math.MaxInt, math.MinInt, 1 << 32} {
		out = append(out,
			alien{path + ".uid", func(m *api.Msg) { pod(m).UID = n }},
			alien{path + ".spec.restart", func(m *api.Msg) { pod(m).Spec.Restart = n }},
			alien{path + ".spec.grace", func(m *api.Msg) { pod(m).Spec.Grace = n }},
			alien{path + ".spec.prio", func(m *api.Msg) { pod(m).Spec.Prio = n }},
			alien{path + ".phase", func(m *api.Msg) { pod(m).Phase = n }},
			alien{path + ".mark", func(m *api.Msg) { pod(m).Mark = n }},
			alien{path + ".grace", func(m *api.Msg) { pod(m).Grace = n }})
	}
	return out
}

func eventAliens() []alien {
	out := podAliens("event.pod", func(m *api.Msg) *api.Pod { return &m.Event.Pod })
	out = append(out,
		alien{"event.rev", func(m *api.Msg) { m.Event.Rev = 1 }},
		alien{"event.rev", func(m *api.Msg) { m.Event.Rev = math.MaxUint64 }},
		alien{"event", func(m *api.Msg) { m.Event = event(1, api.EAdd, 1, smallPod()).Event }})
	for _, n := range []int{1, 2, 3, 4, 5, 6, -1, math.MaxInt, math.MinInt} {
		out = append(out, alien{"event.kind", func(m *api.Msg) { m.Event.Kind = n }})
	}
	return out
}

func replyAliens() []alien {
	out := []alien{
		{"reply.rev", func(m *api.Msg) { m.Reply.Rev = 1 }},
		{"reply.rev", func(m *api.Msg) { m.Reply.Rev = math.MaxUint64 }},
		{"reply.data", func(m *api.Msg) { m.Reply.Data = "\x00" }},
		{"reply.data", func(m *api.Msg) { m.Reply.Data = strings.Repeat("d", mostData+1) }},
		{"reply.pods", func(m *api.Msg) { m.Reply.Pods = []api.Pod{smallPod()} }},
		{"reply.pods", func(m *api.Msg) { m.Reply.Pods = make([]api.Pod, 1) }},
		{"reply.use", func(m *api.Msg) { m.Reply.Use = make([]api.Res, 1) }},
		{"reply", func(m *api.Msg) { m.Reply = fullReply().Reply }},
	}
	for _, n := range []int{1, -1, 2, math.MaxInt, math.MinInt, 1 << 32} {
		out = append(out,
			alien{"reply.code", func(m *api.Msg) { m.Reply.Code = api.Code(n) }},
			alien{"reply.uid", func(m *api.Msg) { m.Reply.UID = n }},
			alien{"reply.id", func(m *api.Msg) { m.Reply.Id = n }})
	}
	return out
}

// 9.1: a reply with something in its event, and an event with something in its reply, for each part
func TestPartsOfTheOtherKind(t *testing.T) {
	for _, m := range someMsgs()[:2] {
		for _, x := range eventAliens() {
			wrong := m
			x.does(&wrong)
			checkMayNotBe(t, "a reply with "+x.what, wrong)
		}
	}
	for kind := api.EAdd; kind <= api.EOver; kind++ {
		for _, x := range replyAliens() {
			m := event(2, kind, 300, api.Pod{})
			if kind <= api.EDel {
				m.Event.Pod = fullPod()
			}
			x.does(&m)
			checkMayNotBe(t, "an event with "+x.what, m)
		}
	}
}

// 9.1: marks and ends beside a pod that is not zero, what happened to a pod beside one that is
func TestEventsAndTheirPods(t *testing.T) {
	for _, kind := range []int{api.EMark, api.EOver} {
		for _, x := range podAliens("pod", func(m *api.Msg) *api.Pod { return &m.Event.Pod }) {
			m := event(2, kind, 300, api.Pod{})
			checkMayBe(t, "a zero pod", m, wantBytes(m))
			x.does(&m)
			checkMayNotBe(t, "a "+x.what+" that is not zero", m)
		}
	}
	for kind := api.EAdd; kind <= api.EDel; kind++ {
		checkMayNotBe(t, "a zero pod", event(1, kind, 300, api.Pod{}))
		checkMayNotBe(t, "a pod with little", event(1, kind, 300, api.Pod{UID: 1, Phase: 1}))
	}
}

// 9.1, 9.2: kinds of messages and of events that there are not
func TestKindsThatAreNone(t *testing.T) {
	others := []int{-1, -2, 100, 128, 256, 1 << 32, 1<<32 + 1, math.MinInt, math.MaxInt}
	for _, kind := range append(others, 0, lastKind+1, lastKind+2) {
		for _, m := range append(someMsgs()[:2:2], event(1, api.EMod, 1, smallPod()), event(1, api.EMark, 1, api.Pod{}), api.Msg{Num: 1}, api.Msg{}) {
			m.Kind = kind
			checkMayNotBe(t, "a kind of messages", m)
			want := api.ErrLong
			if kind == 0 {
				want = api.ErrShape
			}
			checkNotRead(t, "a kind of messages", wantBytes(m), want)
		}
	}
	for _, kind := range append(others, 0, lastEvent+1, lastEvent+2) {
		for _, p := range []api.Pod{{}, smallPod(), fullPod()} {
			m := event(1, kind, 300, p)
			checkMayNotBe(t, "a kind of events", m)
			want := api.ErrLong
			if kind == 0 {
				want = api.ErrShape
			}
			checkNotRead(t, "a kind of events", wantBytes(m), want)
		}
	}
	checkMayNotBe(t, "a zero message", api.Msg{})
	checkMayNotBe(t, "a number alone", api.Msg{Num: 1})
	checkMayNotBe(t, "a reply without a number", api.Msg{Kind: api.MReply})
	checkMayNotBe(t, "an event without a kind", api.Msg{Kind: api.MEvent, Num: 1})
}

// 9.1, 9.2: data of each length, and of any bytes
func TestData(t *testing.T) {
	for size := range mostData + 1 {
		for _, letter := range []string{"a", "\x00", "\xff", " "} {
			m := reply(1, api.Reply{Data: strings.Repeat(letter, size)})
			checkMayBe(t, "data", m, "\x01\x01\x00\x00\x00\x00"+string(rune(size))+m.Reply.Data+"\x00\x00")
		}
	}
	for _, size := range []int{mostData + 1, mostData + 2, 64, 127, 128, 1000, 1 << 20} {
		m := reply(1, api.Reply{Data: strings.Repeat("d", size)})
		checkMayNotBe(t, "data", m)
		checkNotRead(t, "data", wantBytes(m), api.ErrLong)
	}
	// Bytes count, not letters.
	m := reply(1, api.Reply{Data: strings.Repeat("\u00e9", 16)})
	checkMayBe(t, "32 bytes", m, wantBytes(m))
	checkMayNotBe(t, "34 bytes", reply(1, api.Reply{Data: strings.Repeat("\u00e9", 17)}))
}

// 9.1, 9.2: how many pods and how many of use
func TestHowMany(t *testing.T) {
	for many := range mostPods + 3 {
		for _, p := range []api.Pod{smallPod(), fullPod()} {
			m := reply(1, api.Reply{Pods: slices.Repeat([]api.Pod{p}, many)})
			if many <= mostPods {
				checkMayBe(t, "pods", m, wantBytes(m))
			} else {
				checkMayNotBe(t, "pods", m)
				checkNotRead(t, "pods", wantBytes(m), api.ErrLong)
			}
		}
	}
	for many := range mostUse + 3 {
		m := reply(1, api.Reply{Use: slices.Repeat([]api.Res{{CPU: 1, Mem: 2, Pids: 3}}, many)})
		if many <= mostUse {
			checkMayBe(t, "use", m, wantBytes(m))
		} else {
			checkMayNotBe(t, "use", m)
			checkNotRead(t, "use", wantBytes(m), api.ErrLong)
		}
	}
	for _, many := range []int{127, 128, 1000} {
		pods, use := reply(1, api.Reply{Pods: slices.Repeat([]api.Pod{smallPod()}, many)}), reply(1, api.Reply{Use: make([]api.Res, many)})
		for _, m := range []api.Msg{pods, use} {
			checkMayNotBe(t, "far too many", m)
			checkNotRead(t, "far too many", wantBytes(m), api.ErrLong)
		}
	}
	// The last of the most there may be counts, too.
	m := greatestReply()
	m.Reply.Pods[mostPods-1].Phase = 0
	checkMayNotBe(t, "the last pod", m)
	m = greatestReply()
	m.Reply.Use[mostUse-1].Pids++
	checkMayNotBe(t, "the last use", m)
	// One pod may stand there twice: nothing says that it may not.
	m = reply(1, api.Reply{Pods: []api.Pod{smallPod(), smallPod()}})
	checkMayBe(t, "one pod twice", m, "\x01\x01\x00\x00\x00\x00\x00\x02"+smallPodBytes+smallPodBytes+"\x00")
}

// 9.1, R3: lists without members are zero, nil or not
func TestListsWithoutMembers(t *testing.T) {
	emptyPod := api.Pod{Spec: api.Spec{Labels: []api.Label{}, Init: make([]api.Container, 0, 3), Main: []api.Container{}}, Restarts: make([]int, 0, 2)}
	emptyReply := api.Reply{Pods: []api.Pod{}, Use: make([]api.Res, 0, 4)}

	m := reply(1, emptyReply)
	m.Event.Pod = emptyPod
	checkMayBe(t, "a reply", m, "\x01\x01\x00\x00\x00\x00\x00\x00\x00")
	m.Reply.Pods = slices.Repeat([]api.Pod{smallPod()}, 3)[:0]
	checkMayBe(t, "a reply", m, "\x01\x01\x00\x00\x00\x00\x00\x00\x00")

	for kind, letter := range map[int]string{api.EMark: "\x04", api.EOver: "\x05"} {
		m = event(1, kind, 9, emptyPod)
		m.Reply = emptyReply
		checkMayBe(t, "an event", m, "\x02\x01"+letter+"\x09")
	}
	for kind, letter := range map[int]string{api.EAdd: "\x01", api.EMod: "\x02", api.EDel: "\x03"} {
		m = event(1, kind, 9, smallPod())
		m.Event.Pod.Spec.Labels, m.Event.Pod.Spec.Init, m.Event.Pod.Spec.Main[0].Ports = []api.Label{}, []api.Container{}, []int{}
		m.Reply = emptyReply
		checkMayBe(t, "an event", m, "\x02\x01"+letter+"\x09"+smallPodBytes)
		checkPod(t, "a pod", m.Event.Pod, true)
	}
	checkPod(t, "an empty pod", emptyPod, false)
}

// 9.1, 9.2: two things that are wrong are as wrong as one
func TestTwoThingsThatAreWrong(t *testing.T) {
	for _, a := range replyNumbers() {
		for _, b := range replyNumbers() {
			m := fullReply()
			*a.of(&m), *b.of(&m) = a.least-1, b.most+1
			checkMayNotBe(t, a.path+" and "+b.path, m)
			checkReads(t, a.path+" and "+b.path, wantBytes(m))
		}
	}
	for _, a := range eventNumbers() {
		for _, b := range eventNumbers() {
			m := event(2, api.EMod, 300, fullPod())
			*a.of(&m), *b.of(&m) = a.most+1, b.least-1
			checkMayNotBe(t, a.path+" and "+b.path, m)
			checkReads(t, a.path+" and "+b.path, wantBytes(m))
		}
	}
}

// 9.1, 9.2, 9.4: any revision
func TestAnyRev(t *testing.T) {
	for shift := range 64 {
		power := uint64(1) << shift
		for _, rev := range []uint64{0, power - 1, power, power + 1, math.MaxUint64 - power, math.MaxUint64} {
			p := smallPod()
			p.Rev = rev
			for _, m := range []api.Msg{
				reply(1, api.Reply{Rev: rev}), reply(1, api.Reply{Pods: []api.Pod{p}}),
				event(1, api.EMark, rev, api.Pod{}), event(1, api.EOver, rev, api.Pod{}), event(1, api.EDel, rev, smallPod()), event(1, api.EAdd, 7, p),
			} {
				checkMayBe(t, "a revision", m, wantBytes(m))
			}
		}
	}
}
