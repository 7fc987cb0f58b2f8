package tell

import (
	"math"
	"slices"
	"strconv"
	"strings"
	"testing"

	"provost/api"
)

func checkLine(t *testing.T, m api.Msg, want string) {
	t.Helper()
	for range 2 {
		if got := Line(m); got != want {
			t.Errorf("Line(%+v) = %q, want %q", m, got, want)
		}
	}
}

// 9.3: replies with each part alone, with some, and with all
func TestLinesOfReplies(t *testing.T) {
	for _, c := range []struct {
		m    api.Msg
		want string
	}{
		{reply(1, api.Reply{}), "reply 1 0"},
		{reply(3, api.Reply{Code: api.ErrNone}), "reply 3 6"},
		{reply(1<<30, api.Reply{Code: 999}), "reply 1073741824 999"},
		{reply(1, api.Reply{UID: 7}), "reply 1 0 uid=7"},
		{reply(1, api.Reply{UID: 1 << 30}), "reply 1 0 uid=1073741824"},
		{reply(1, api.Reply{Id: 7}), "reply 1 0 id=7"},
		{reply(1, api.Reply{Rev: 7}), "reply 1 0 rev=7"},
		{reply(1, api.Reply{Rev: math.MaxUint64}), "reply 1 0 rev=18446744073709551615"},
		{reply(1, api.Reply{Rev: 1 << 63}), "reply 1 0 rev=9223372036854775808"},
		{reply(1, api.Reply{Data: "hi"}), "reply 1 0 data=hi"},
		{reply(1, api.Reply{Data: "0"}), "reply 1 0 data=0"},
		{reply(1, api.Reply{Data: " "}), "reply 1 0 data= "},
		{reply(1, api.Reply{Data: "a b=c\n\x00\xff"}), "reply 1 0 data=a b=c\n\x00\xff"},
		{reply(1, api.Reply{Pods: []api.Pod{smallPod()}}), "reply 1 0 pods=1"},
		{reply(1, api.Reply{Pods: slices.Repeat([]api.Pod{fullPod()}, 16)}), "reply 1 0 pods=16"},
		{reply(1, api.Reply{Use: make([]api.Res, 1)}), "reply 1 0 use=1"},
		{reply(1, api.Reply{Use: []api.Res{{CPU: 1}, {Mem: 2}, {Pids: 3}, {}}}), "reply 1 0 use=4"},
		{fullReply(), "reply 3 6 uid=7 id=300 rev=128 data=hi\x00\xff pods=2 use=2"},
		{reply(2, api.Reply{UID: 7, Rev: 1}), "reply 2 0 uid=7 rev=1"},
		{reply(2, api.Reply{Id: 4, Data: "hi"}), "reply 2 0 id=4 data=hi"},
		{reply(2, api.Reply{Code: api.ErrStale, Rev: 5, Use: make([]api.Res, 2)}), "reply 2 130 rev=5 use=2"},
		{reply(2, api.Reply{Pods: []api.Pod{}, Use: []api.Res{}}), "reply 2 0"},
	} {
		checkLine(t, c.m, c.want)
	}
}

// 9.3: each choice of a reply's parts, in the order of the words
func TestLinesOfEachChoiceOfParts(t *testing.T) {
	all := fullReply().Reply
	for choice := range 64 {
		y, want := api.Reply{Code: 5}, "reply 9 5"
		if choice&1 != 0 {
			y.UID, want = all.UID, want+" uid=7"
		}
		if choice&2 != 0 {
			y.Id, want = all.Id, want+" id=300"
		}
		if choice&4 != 0 {
			y.Rev, want = all.Rev, want+" rev=128"
		}
		if choice&8 != 0 {
			y.Data, want = "d", want+" data=d"
		}
		if choice&16 != 0 {
			y.Pods, want = all.Pods, want+" pods=2"
		}
		if choice&32 != 0 {
			y.Use, want = all.Use[:1], want+" use=1"
		}
		checkLine(t, reply(9, y), want)
	}
}

// 9.3: events of each kind, and of others
func TestLinesOfEvents(t *testing.T) {
	for _, c := range []struct {
		m    api.Msg
		want string
	}{
		{event(1, api.EAdd, 1, smallPod()), "event 1 add 1 a"},
		{event(2, api.EMod, 300, fullPod()), "event 2 mod 300 p"},
		{event(1<<30, api.EDel, math.MaxUint64, greatestPod()), "event 1073741824 del 18446744073709551615 zzzzzzzzzzzzzzzz"},
		{event(1, api.EMark, 0, api.Pod{}), "event 1 mark 0"},
		{event(7, api.EMark, 1<<63, api.Pod{}), "event 7 mark 9223372036854775808"},
		{event(1, api.EOver, 0, api.Pod{}), "event 1 over 0"},
		{event(8, api.EOver, 12, api.Pod{}), "event 8 over 12"},
		// The revision is the event's, the number the message's.
		{event(3, api.EMod, 5, api.Pod{UID: 8, Rev: 9, Spec: api.Spec{Name: "web"}}), "event 3 mod 5 web"},
		// A name is told of the first three alone.
		{event(1, api.EMark, 2, smallPod()), "event 1 mark 2"},
		{event(1, api.EOver, 2, smallPod()), "event 1 over 2"},
		{event(1, 0, 2, smallPod()), "event 1 - 2"},
		{event(1, 6, 2, smallPod()), "event 1 - 2"},
		{event(0, 0, 0, api.Pod{}), "event 0 - 0"},
	} {
		checkLine(t, c.m, c.want)
	}
	for _, kind := range []int{0, -1, -5, 6, 7, 128, 256, 257, 1 << 32, 1<<32 + 1, math.MinInt, math.MaxInt} {
		checkLine(t, event(4, kind, 300, fullPod()), "event 4 - 300")
		checkLine(t, event(4, kind, 300, api.Pod{}), "event 4 - 300")
	}
}

// 9.3: of other kinds of messages nothing is told, whatever there is
func TestLinesOfOtherKinds(t *testing.T) {
	for _, kind := range []int{0, -1, 3, 4, 5, 128, 256, 257, 1 << 32, 1<<32 + 1, math.MinInt, math.MaxInt} {
		for _, m := range append(someMsgs(), api.Msg{}) {
			m.Kind = kind
			checkLine(t, m, "")
		}
	}
}

// 9.3: lines of messages that may not be
func TestLinesOfWhatMayNotBe(t *testing.T) {
	for _, c := range []struct {
		m    api.Msg
		want string
	}{
		{reply(0, api.Reply{}), "reply 0 0"},
		{reply(-1, api.Reply{Code: -2, UID: -3, Id: -4}), "reply -1 -2 uid=-3 id=-4"},
		{reply(math.MaxInt, api.Reply{Code: math.MinInt, UID: math.MaxInt, Id: math.MinInt}), "reply 9223372036854775807 -9223372036854775808 uid=9223372036854775807 id=-9223372036854775808"},
		{reply(1, api.Reply{Code: 1000, UID: 1<<30 + 1}), "reply 1 1000 uid=1073741825"},
		{reply(1, api.Reply{Data: strings.Repeat("d", 100)}), "reply 1 0 data=" + strings.Repeat("d", 100)},
		{reply(1, api.Reply{Pods: make([]api.Pod, 17)}), "reply 1 0 pods=17"},
		{reply(1, api.Reply{Use: make([]api.Res, 300)}), "reply 1 0 use=300"},
		{event(-7, api.EAdd, 1, api.Pod{Spec: api.Spec{Name: "A b"}}), "event -7 add 1 A b"},
		{event(math.MinInt, api.EOver, 1, smallPod()), "event -9223372036854775808 over 1"},
		// An empty name stands behind its blank.
		{event(1, api.EDel, 2, api.Pod{}), "event 1 del 2 "},
	} {
		checkLine(t, c.m, c.want)
	}
	// Of a reply its event is not looked at, of an event its reply is not.
	m := fullReply()
	m.Event = event(1, api.EAdd, 9, smallPod()).Event
	checkLine(t, m, Line(fullReply()))
	m = event(1, api.EMod, 9, smallPod())
	m.Reply = fullReply().Reply
	checkLine(t, m, "event 1 mod 9 a")
}

// wantLine is the line of m, by the words of the chapter.
func wantLine(m api.Msg) string {
	var out []string
	say := func(name, value string) {
		if value != "" && value != "0" || name == "data=" && value == "0" {
			out = append(out, name+value)
		}
	}
	switch y, e := m.Reply, m.Event; m.Kind {
	case 1:
		out = append(out, "reply", strconv.Itoa(m.Num), strconv.Itoa(int(y.Code)))
		say("uid=", strconv.Itoa(y.UID))
		say("id=", strconv.Itoa(y.Id))
		say("rev=", strconv.FormatUint(y.Rev, 10))
		say("data=", y.Data)
		say("pods=", strconv.Itoa(len(y.Pods)))
		say("use=", strconv.Itoa(len(y.Use)))
	case 2:
		word := "-"
		if e.Kind >= 1 && e.Kind <= 5 {
			word = strings.Fields("add mod del mark over")[e.Kind-1]
		}
		out = append(out, "event", strconv.Itoa(m.Num), word, strconv.FormatUint(e.Rev, 10))
		if e.Kind >= 1 && e.Kind <= 3 {
			out = append(out, e.Pod.Spec.Name)
		}
	}
	return strings.Join(out, " ")
}
