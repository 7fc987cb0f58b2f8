package tell

import (
	"encoding/binary"
	"math"
	"reflect"
	"slices"
	"strconv"
	"strings"
	"testing"

	"provost/api"
	"provost/pack"
	"provost/spec"
	"provost/wire"
)

// The kinds and the greatest ones as the document writes them, for the expectations of these tests.
const (
	lastKind  = 2
	lastEvent = 5
	mostUID   = 1 << 30
	mostCodes = 999
	mostData  = 32
	mostPods  = 16
	mostUse   = 4
	mostRes   = 1 << 40
	lastPhase = 4
	lastMark  = 2
	mostGrace = 1000
	anyRev    = math.MaxUint64
)

// smallSpec is a spec with as little as may be, and smallSpecBytes are its bytes.
func smallSpec() api.Spec {
	return api.Spec{Name: "a", Main: []api.Container{{Name: "b", Image: "c:1"}}, Restart: api.RNever}
}

const smallSpecBytes = "\x01a" + "\x00" + "\x00" + "\x01\x01b\x03c:1\x00\x00\x00\x00\x00\x00\x00\x00\x00" + "\x01\x00\x00"

// fullSpec is a spec with something in each of its parts, and fullSpecBytes are its bytes.
func fullSpec() api.Spec {
	return api.Spec{
		Name: "p", Labels: []api.Label{{Key: "k", Val: "v"}, {Key: "l/m", Val: ""}},
		Init: []api.Container{{Name: "i", Image: "j:2", Req: api.Res{CPU: 1, Mem: 2, Pids: 3}, Lim: api.Res{CPU: 4, Mem: 5, Pids: 6}}},
		Main: []api.Container{
			{Name: "m", Image: "n:3", Req: api.Res{CPU: 7, Mem: 8, Pids: 9}, Lim: api.Res{CPU: 10, Mem: 11, Pids: 12}, Ports: []int{13, 14, 15}, Probe: api.Probe{Every: 16, Fails: 7}},
			{Name: "q", Image: "r:4", Ports: []int{443}},
		},
		Restart: api.RFailure, Grace: 1000, Prio: 9,
	}
}

const fullSpecBytes = "\x01p" + "\x02\x01k\x01v\x03l/m\x00" +
	"\x01\x01i\x03j:2\x01\x02\x03\x04\x05\x06\x00\x00\x00" +
	"\x02\x01m\x03n:3\x07\x08\x09\x0a\x0b\x0c\x03\x0d\x0e\x0f\x10\x07" +
	"\x01q\x03r:4\x00\x00\x00\x00\x00\x00\x01\xbb\x03\x00\x00" +
	"\x02\xe8\x07\x09"

// greatestSpec is a spec each of whose lists is as long as it may be, with texts and numbers that are as great.
func greatestSpec() api.Spec {
	long := strings.Repeat("z", 15)
	container := func(last string) api.Container {
		most := api.Res{CPU: mostRes, Mem: mostRes, Pids: mostRes}
		return api.Container{Name: long + last, Image: long + "y/1234567:12345678", Req: most, Lim: most}
	}
	s := api.Spec{Name: long + "z", Restart: api.RAlways, Grace: mostGrace, Prio: 10}
	for i := range 4 {
		s.Labels = append(s.Labels, api.Label{Key: long + "a/" + long + strconv.Itoa(i), Val: long + "Z"})
	}
	for i := range 3 {
		s.Init = append(s.Init, container(strconv.Itoa(i)))
	}
	for i := range 4 {
		c := container(strconv.Itoa(3 + i))
		c.Ports = []int{65535 - 3*i, 65534 - 3*i, 65533 - 3*i}
		c.Probe = api.Probe{Every: 1000, Fails: 10}
		s.Main = append(s.Main, c)
	}
	return s
}

// smallPod is a pod with as little as may be told, and smallPodBytes are its bytes.
func smallPod() api.Pod {
	return api.Pod{UID: 1, Spec: smallSpec(), Phase: api.PPending, Restarts: []int{0}}
}

const smallPodBytes = "\x01\x00" + smallSpecBytes + "\x01" + "\x00" + "\x00\x00"

// fullPod is a pod with something in each of its parts, and fullPodBytes are its bytes.
func fullPod() api.Pod {
	return api.Pod{UID: 300, Rev: 1 << 63, Spec: fullSpec(), Phase: api.PRunning, Restarts: []int{5, 128}, Mark: api.WKilled, Grace: 1000}
}

const fullPodBytes = "\xac\x02" + "\x80\x80\x80\x80\x80\x80\x80\x80\x80\x01" + fullSpecBytes + "\x02" + "\x05\x80\x01" + "\x01" + "\xe8\x07"

// greatestPod is a pod each part of which is as great as it may be.
func greatestPod() api.Pod {
	return api.Pod{UID: mostUID, Rev: math.MaxUint64, Spec: greatestSpec(), Phase: lastPhase, Restarts: slices.Repeat([]int{mostUID}, 4), Mark: lastMark, Grace: mostGrace}
}

// podOf is the pod as little, as full, or as great as may be told.
func podOf(size int) api.Pod {
	return []func() api.Pod{smallPod, fullPod, greatestPod}[size]()
}

func reply(n int, y api.Reply) api.Msg { return api.Msg{Kind: api.MReply, Num: n, Reply: y} }

func event(n, kind int, rev uint64, p api.Pod) api.Msg {
	return api.Msg{Kind: api.MEvent, Num: n, Event: api.Event{Kind: kind, Rev: rev, Pod: p}}
}

// fullReply is a reply with something in each of its parts, and fullReplyBytes are its bytes.
func fullReply() api.Msg {
	return reply(3, api.Reply{
		Code: api.ErrNone, UID: 7, Id: 300, Rev: 128, Data: "hi\x00\xff",
		Pods: []api.Pod{smallPod(), fullPod()}, Use: []api.Res{{CPU: 1, Mem: 2, Pids: 3}, {CPU: 300, Mem: 0, Pids: mostRes}},
	})
}

const fullReplyBytes = "\x01\x03" + "\x06\x07\xac\x02\x80\x01\x04hi\x00\xff" + "\x02" + smallPodBytes + fullPodBytes + "\x02\x01\x02\x03\xac\x02\x00\x80\x80\x80\x80\x80\x20"

// greatestReply is a reply each part of which is as great as it may be.
func greatestReply() api.Msg {
	y := api.Reply{Code: mostCodes, UID: mostUID, Id: mostUID, Rev: math.MaxUint64, Data: strings.Repeat("\xff", mostData)}
	for range mostPods {
		y.Pods = append(y.Pods, greatestPod())
	}
	for range mostUse {
		y.Use = append(y.Use, api.Res{CPU: mostRes, Mem: mostRes, Pids: mostRes})
	}
	return reply(mostUID, y)
}

// someMsgs are messages that may be, no two of them alike: of each kind with little, with more, and with the greatest there is.
func someMsgs() []api.Msg {
	out := []api.Msg{reply(1, api.Reply{}), fullReply(), greatestReply()}
	for kind := api.EAdd; kind <= api.EDel; kind++ {
		for size := range 3 {
			out = append(out, event(size+1, kind, 300, podOf(size)))
		}
	}
	for _, kind := range []int{api.EMark, api.EOver} {
		out = append(out, event(1, kind, 0, api.Pod{}), event(300, kind, 300, api.Pod{}), event(mostUID, kind, math.MaxUint64, api.Pod{}))
	}
	return out
}

// piece is a number, with the greatest one that is read in its place, or what stands behind a text's length.
type piece struct {
	bytes  string
	number bool
	most   uint64
}

// layout are the pieces of some bytes, written by the words of the chapters; a number below 0 becomes one that is too great.
type layout []piece

func (l *layout) big(n, most uint64) {
	*l = append(*l, piece{string(binary.AppendUvarint(nil, n)), true, most})
}

func (l *layout) number(n, most int) { l.big(uint64(n), uint64(most)) }

func (l *layout) text(s string, most int) {
	l.number(len(s), most)
	*l = append(*l, piece{bytes: s})
}

func (l *layout) res(r api.Res) {
	l.number(r.CPU, mostRes)
	l.number(r.Mem, mostRes)
	l.number(r.Pids, mostRes)
}

func (l *layout) containers(list []api.Container, most int) {
	l.number(len(list), most)
	for _, c := range list {
		l.text(c.Name, 16)
		l.text(c.Image, 33)
		l.res(c.Req)
		l.res(c.Lim)
		l.number(len(c.Ports), 3)
		for _, port := range c.Ports {
			l.number(port, 65535)
		}
		l.number(c.Probe.Every, 1000)
		l.number(c.Probe.Fails, 10)
	}
}

func (l *layout) spec(s api.Spec) {
	l.text(s.Name, 16)
	l.number(len(s.Labels), 4)
	for _, label := range s.Labels {
		l.text(label.Key, 33)
		l.text(label.Val, 16)
	}
	l.containers(s.Init, 3)
	l.containers(s.Main, 4)
	l.number(s.Restart, 3)
	l.number(s.Grace, 1000)
	l.number(s.Prio, 10)
}

func (l *layout) pod(p api.Pod) {
	l.number(p.UID, mostUID)
	l.big(p.Rev, anyRev)
	l.spec(p.Spec)
	l.number(p.Phase, lastPhase)
	for _, n := range p.Restarts {
		l.number(n, mostUID)
	}
	l.number(p.Mark, lastMark)
	l.number(p.Grace, mostGrace)
}

func (l *layout) reply(y api.Reply) {
	l.number(int(y.Code), mostCodes)
	l.number(y.UID, mostUID)
	l.number(y.Id, mostUID)
	l.big(y.Rev, anyRev)
	l.text(y.Data, mostData)
	l.number(len(y.Pods), mostPods)
	for _, p := range y.Pods {
		l.pod(p)
	}
	l.number(len(y.Use), mostUse)
	for _, u := range y.Use {
		l.res(u)
	}
}

func (l *layout) event(e api.Event) {
	l.number(e.Kind, lastEvent)
	l.big(e.Rev, anyRev)
	if e.Kind >= 1 && e.Kind <= 3 {
		l.pod(e.Pod)
	}
}

func (l layout) String() string {
	var out strings.Builder
	for _, p := range l {
		out.WriteString(p.bytes)
	}
	return out.String()
}

func layoutOf(m api.Msg) layout {
	var l layout
	l.number(m.Kind, lastKind)
	l.number(m.Num, mostUID)
	switch m.Kind {
	case 1:
		l.reply(m.Reply)
	case 2:
		l.event(m.Event)
	}
	return l
}

// wantBytes are the bytes of m, whether it may be or not.
func wantBytes(m api.Msg) string { return layoutOf(m).String() }

// isFrom tells whether each number is from least to most.
func isFrom(least, most int, numbers ...int) bool {
	return len(numbers) == 0 || slices.Min(numbers) >= least && slices.Max(numbers) <= most
}

// wantPod says whether p may be told, by the words of the chapter.
func wantPod(p api.Pod) bool {
	return isFrom(1, mostUID, p.UID) && spec.Check(p.Spec) == nil && isFrom(1, lastPhase, p.Phase) &&
		len(p.Restarts) == len(p.Spec.Main) && isFrom(0, mostUID, p.Restarts...) && isFrom(0, lastMark, p.Mark) && isFrom(0, mostGrace, p.Grace)
}

// wantMsg says whether m may be, by the words of the chapter.
func wantMsg(m api.Msg) bool {
	if !isFrom(1, mostUID, m.Num) {
		return false
	}
	switch y, e := m.Reply, m.Event; m.Kind {
	case 1:
		if !isEmpty(reflect.ValueOf(e)) || !isFrom(0, mostCodes, int(y.Code)) || !isFrom(0, mostUID, y.UID, y.Id) {
			return false
		}
		for _, p := range y.Pods {
			if !wantPod(p) {
				return false
			}
		}
		for _, u := range y.Use {
			if !isFrom(0, mostRes, u.CPU, u.Mem, u.Pids) {
				return false
			}
		}
		return isFrom(0, mostData, len(y.Data)) && isFrom(0, mostPods, len(y.Pods)) && isFrom(0, mostUse, len(y.Use))
	case 2:
		if !isEmpty(reflect.ValueOf(y)) {
			return false
		}
		switch e.Kind {
		case 1, 2, 3:
			return wantPod(e.Pod)
		case 4, 5:
			return isEmpty(reflect.ValueOf(e.Pod))
		}
	}
	return false
}

// isEmpty tells whether v is zero, lists being without members.
func isEmpty(v reflect.Value) bool {
	switch v.Kind() {
	case reflect.Slice:
		return v.Len() == 0
	case reflect.Struct:
		for i := range v.NumField() {
			if !isEmpty(v.Field(i)) {
				return false
			}
		}
		return true
	}
	return v.IsZero()
}

// alikePods tells whether all parts of both are the same, lists without members being one.
func alikePods(a, b api.Pod) bool {
	if !spec.Same(a.Spec, b.Spec) || !slices.Equal(a.Restarts, b.Restarts) {
		return false
	}
	a.Spec, b.Spec, a.Restarts, b.Restarts = api.Spec{}, api.Spec{}, nil, nil
	return reflect.DeepEqual(a, b)
}

func alike(a, b api.Msg) bool {
	if !slices.EqualFunc(a.Reply.Pods, b.Reply.Pods, alikePods) || !slices.Equal(a.Reply.Use, b.Reply.Use) || !alikePods(a.Event.Pod, b.Event.Pod) {
		return false
	}
	for _, m := range []*api.Msg{&a, &b} {
		m.Reply.Pods, m.Reply.Use, m.Event.Pod = nil, nil, api.Pod{}
	}
	return reflect.DeepEqual(a, b)
}

// readPod reads a pod by the words of the chapters.
func readPod(r *wire.Reader) api.Pod {
	var p api.Pod
	p.UID = r.Num(mostUID)
	p.Rev = r.Big()
	p.Spec = pack.Raw(r)
	p.Phase = r.Num(lastPhase)
	p.Restarts = make([]int, len(p.Spec.Main))
	for i := range p.Restarts {
		p.Restarts[i] = r.Num(mostUID)
	}
	p.Mark = r.Num(lastMark)
	p.Grace = r.Num(mostGrace)
	return p
}

// wantRead says which message b is, or by which code it is none, by the words of the chapters.
func wantRead(b string) (api.Msg, api.Code) {
	r := wire.Read(b)
	var m api.Msg
	m.Kind = r.Num(lastKind)
	m.Num = r.Num(mostUID)
	switch y, e := &m.Reply, &m.Event; m.Kind {
	case 1:
		y.Code = api.Code(r.Num(mostCodes))
		y.UID = r.Num(mostUID)
		y.Id = r.Num(mostUID)
		y.Rev = r.Big()
		y.Data = r.Text(mostData)
		y.Pods = make([]api.Pod, r.Num(mostPods))
		for i := range y.Pods {
			y.Pods[i] = readPod(r)
		}
		y.Use = make([]api.Res, r.Num(mostUse))
		for i := range y.Use {
			for _, n := range []*int{&y.Use[i].CPU, &y.Use[i].Mem, &y.Use[i].Pids} {
				*n = r.Num(mostRes)
			}
		}
	case 2:
		e.Kind = r.Num(lastEvent)
		e.Rev = r.Big()
		if e.Kind >= 1 && e.Kind <= 3 {
			e.Pod = readPod(r)
		}
	}
	if code := r.End(); code != api.OK {
		return api.Msg{}, code
	}
	if !wantMsg(m) {
		return api.Msg{}, api.ErrShape
	}
	return m, api.OK
}

// checkPod holds whether p may be told, alone, in a reply, and in an event.
func checkPod(t *testing.T, what string, p api.Pod, may bool) {
	t.Helper()
	want := api.OK
	if !may {
		want = api.ErrShape
	}
	for range 2 {
		if got := Pod(p); got != want {
			t.Errorf("%s: Pod = %d, want %d", what, int(got), int(want))
		}
	}
	msgs := []api.Msg{
		reply(1, api.Reply{Pods: []api.Pod{p}}),
		reply(1, api.Reply{Pods: []api.Pod{smallPod(), p}}),
		reply(1, api.Reply{Pods: []api.Pod{p, smallPod()}}),
		event(1, api.EAdd, 1, p), event(2, api.EMod, 2, p), event(3, api.EDel, 3, p),
	}
	for _, m := range msgs {
		if may {
			checkMayBe(t, what, m, wantBytes(m))
		} else {
			checkMayNotBe(t, what, m)
		}
	}
}

// checkMayBe holds that m may be, that b are its bytes, and that they are read as m.
func checkMayBe(t *testing.T, what string, m api.Msg, b string) {
	t.Helper()
	for range 2 {
		if code := Check(m); code != api.OK {
			t.Errorf("%s: Check = %d", what, int(code))
		}
		if got, code := Bytes(m); got != b || code != api.OK {
			t.Errorf("%s: Bytes = %.60q, %d; want %.60q", what, got, int(code), b)
		}
		got, code := Of(b)
		if code != api.OK || !alike(got, m) {
			t.Errorf("%s: Of = %+v, %d; want %+v", what, got, int(code), m)
		}
	}
}

// checkMayNotBe holds that m may not be, and that it has no bytes.
func checkMayNotBe(t *testing.T, what string, m api.Msg) {
	t.Helper()
	for range 2 {
		if code := Check(m); code != api.ErrShape {
			t.Errorf("%s: Check = %d", what, int(code))
		}
		if got, code := Bytes(m); got != "" || code != api.ErrShape {
			t.Errorf("%s: Bytes = %.60q, %d", what, got, int(code))
		}
	}
}

// checkNotRead holds that b is no message's, by that code.
func checkNotRead(t *testing.T, what, b string, code api.Code) {
	t.Helper()
	for range 2 {
		got, c := Of(b)
		if c != code {
			t.Errorf("%s: Of %.60q = %d, want %d", what, b, int(c), int(code))
		}
		if !reflect.DeepEqual(got, api.Msg{}) {
			t.Errorf("%s: Of = %+v beside %d", what, got, int(code))
		}
	}
}

// checkMsg holds all that is told of any m, and of its bytes, against the words.
func checkMsg(t *testing.T, what string, m api.Msg) {
	t.Helper()
	if wantMsg(m) {
		checkMayBe(t, what, m, wantBytes(m))
	} else {
		checkMayNotBe(t, what, m)
	}
	checkReads(t, what, wantBytes(m))
}

// checkReads holds what is read of any b against the words.
func checkReads(t *testing.T, what, b string) {
	t.Helper()
	m, code := wantRead(b)
	if code != api.OK {
		checkNotRead(t, what, b, code)
		return
	}
	checkMayBe(t, what, m, b)
}

// the chapter's example
func TestExamples(t *testing.T) {
	if got := Line(reply(3, api.Reply{Code: api.ErrNone})); got != "reply 3 6" {
		t.Errorf("Line = %q", got)
	}
}
