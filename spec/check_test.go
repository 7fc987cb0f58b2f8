package spec

import (
	"math"
	"slices"
	"strconv"
	"strings"
	"testing"

	"provost/api"
	"provost/fail"
)

// fault makes full a spec that may not be, by one thing of the words alone.
type fault struct {
	// part is what is set: a later fault of the same part would undo the one ahead.
	part, path string
	code       api.Code
	does       func(s *api.Spec)
}

// faults are all things of the words, in their order.
func faults() []fault {
	out := []fault{
		{"name", "name", api.ErrName, func(s *api.Spec) { s.Name = "-" }},
		{"labels", "labels", api.ErrLong, func(s *api.Spec) { s.Labels = append(s.Labels, api.Label{Key: "z"}) }},
	}
	for i := range mostLabels {
		out = append(out, labelFaults(i)...)
	}
	out = append(out, fault{"init", "init", api.ErrLong, func(s *api.Spec) {
		s.Init = append(s.Init, api.Container{Name: "more", Image: "a:1"})
	}})
	for i := range mostInit {
		out = append(out, containerFaults(place{"init", i})...)
	}
	out = append(out, fault{"main", "main", api.ErrLong, func(s *api.Spec) {
		s.Main = append(s.Main, api.Container{Name: "more", Image: "a:1"})
	}})
	for i := range mostMain {
		out = append(out, containerFaults(place{"main", i})...)
	}
	return append(out,
		fault{"restart", "restart", api.ErrRange, func(s *api.Spec) { s.Restart = 0 }},
		fault{"grace", "grace", api.ErrRange, func(s *api.Spec) { s.Grace = mostGrace + 1 }},
		fault{"prio", "prio", api.ErrRange, func(s *api.Spec) { s.Prio = -1 }})
}

func labelFaults(i int) []fault {
	key, val := index("labels", i)+".key", index("labels", i)+".val"
	out := []fault{{key, key, api.ErrKey, func(s *api.Spec) { s.Labels[i].Key = "-" }}}
	if i > 0 {
		out = append(out, fault{key, key, api.ErrShape, func(s *api.Spec) { s.Labels[i].Key = full().Labels[i-1].Key }})
	}
	return append(out, fault{val, val, api.ErrVal, func(s *api.Spec) { s.Labels[i].Val = "/" }})
}

func containerFaults(p place) []fault {
	var out []fault
	add := func(part string, code api.Code, does func(c *api.Container)) {
		at := p.String() + "." + part
		out = append(out, fault{at, at, code, func(s *api.Spec) { does(p.of(s)) }})
	}
	add("name", api.ErrName, func(c *api.Container) { c.Name = "Web" })
	if p != (place{"init", 0}) {
		add("name", api.ErrThere, func(c *api.Container) { c.Name = "init-0" })
	}
	add("image", api.ErrImage, func(c *api.Container) { c.Image = "lib/web" })
	for i, name := range []string{"cpu", "mem", "pids"} {
		add("req."+name, api.ErrRange, func(c *api.Container) { *resources(&c.Req)[i].n = -1 })
	}
	for i, name := range []string{"cpu", "mem", "pids"} {
		add("lim."+name, api.ErrRange, func(c *api.Container) { *resources(&c.Lim)[i].n = mostRes + 1 })
	}
	add("ports", api.ErrLong, func(c *api.Container) { c.Ports = append(c.Ports, 7) })
	every := 1
	if p.list == "main" {
		every = mostEvery + 1
		for k := range mostPorts {
			out = append(out, portFaults(p, k)...)
		}
	}
	add("probe.every", api.ErrRange, func(c *api.Container) { c.Probe = api.Probe{Every: every, Fails: 1} })
	add("probe.fails", api.ErrRange, func(c *api.Container) { c.Probe.Fails = -1 })
	return out
}

func portFaults(p place, k int) []fault {
	at := p.String() + "." + index("ports", k)
	out := []fault{{at, at, api.ErrRange, func(s *api.Spec) { p.of(s).Ports[k] = mostPort + 1 }}}
	if k > 0 {
		out = append(out, fault{at, at, api.ErrPort, func(s *api.Spec) { p.of(s).Ports[k] = full().Main[p.i].Ports[k-1] }})
	}
	if p.i > 0 {
		out = append(out, fault{at, at, api.ErrPort, func(s *api.Spec) { p.of(s).Ports[k] = full().Main[p.i-1].Ports[mostPorts-1] }})
	}
	return out
}

// 6.1
func TestSpecsThatMayBe(t *testing.T) {
	for i, s := range []api.Spec{
		small(),
		full(),
		{Name: "web-1", Labels: []api.Label{}, Init: []api.Container{}, Main: []api.Container{{Name: "a", Image: "lib/web:1.0", Ports: []int{}}}, Restart: api.RAlways},
		{
			Name: "web", Labels: []api.Label{{Key: "app", Val: "web"}}, Init: []api.Container{{Name: "web", Image: "a:1"}},
			Main:    []api.Container{{Name: "web-1", Image: "a:1", Ports: []int{443, 80, 1}}, {Name: "web-2", Image: "a:1", Probe: api.Probe{Every: 1, Fails: 1}}},
			Restart: api.RFailure, Grace: 1, Prio: 1,
		},
	} {
		for range 2 {
			if e := Check(s); e != nil {
				t.Errorf("%d: %q, %d", i, fail.Text(e), int(fail.Code(e)))
			}
		}
	}
	checkError(t, "the zero spec", Check(api.Spec{}), "name", api.ErrName)
}

// 6.1: each thing of the words, alone
func TestOneFault(t *testing.T) {
	for _, f := range faults() {
		s := full()
		f.does(&s)
		for range 2 {
			checkError(t, f.part, Check(s), f.path, f.code)
		}
	}
}

// 6.1: each two things of the words, those side by side among them: the first one is told
func TestTwoFaults(t *testing.T) {
	all := faults()
	for i, first := range all {
		for _, second := range all[i+1:] {
			if first.part == second.part {
				continue
			}
			s := full()
			first.does(&s)
			second.does(&s)
			checkError(t, first.part+" and "+second.part, Check(s), first.path, first.code)
		}
	}
}

// 6.1: each thing of the words with all that stand behind it
func TestAllFaultsBehind(t *testing.T) {
	all := faults()
	for i, first := range all {
		s := full()
		set := map[string]int{}
		for _, f := range all[i:] {
			if set[f.part]++; set[f.part] == 1 {
				f.does(&s)
			}
		}
		checkError(t, first.part+" and all behind", Check(s), first.path, first.code)
	}
}

// edge is what may be at a limit, or may not.
type edge struct {
	path string
	code api.Code
	does func(s *api.Spec)
}

func checkEdges(t *testing.T, edges []edge) {
	t.Helper()
	for i, x := range edges {
		s := full()
		x.does(&s)
		checkError(t, strconv.Itoa(i)+" "+x.path, Check(s), x.path, x.code)
	}
}

// 6.1: two things at one place, of which the first one is told
func TestTwoFaultsOfOnePart(t *testing.T) {
	checkEdges(t, []edge{
		{"labels[1].key", api.ErrKey, func(s *api.Spec) { s.Labels[1].Key = "" }},
		{"labels[1].key", api.ErrKey, func(s *api.Spec) { s.Labels[1].Key = "A" }},
		{"labels[3].key", api.ErrKey, func(s *api.Spec) { s.Labels[3].Key = "a//b" }},
		{"labels[0].key", api.ErrKey, func(s *api.Spec) { s.Labels[0].Key, s.Labels[1].Key = "-", "-" }},
		{"labels[1].key", api.ErrShape, func(s *api.Spec) { s.Labels[1] = api.Label{Key: "app", Val: "/"} }},
		{"init[0].name", api.ErrName, func(s *api.Spec) { s.Init[0].Name, s.Init[1].Name = "-", "-" }},
		{"init[2].name", api.ErrName, func(s *api.Spec) { s.Init[2].Name, s.Main[0].Name = "", "" }},
		{"init[1].name", api.ErrThere, func(s *api.Spec) { s.Init[1].Name, s.Init[2].Name = "init-0", "init-0" }},
		{"init[0].ports", api.ErrLong, func(s *api.Spec) { s.Init[0].Ports = []int{0} }},
		{"init[0].ports", api.ErrLong, func(s *api.Spec) { s.Init[0].Ports = []int{1, 1} }},
		{"init[0].ports", api.ErrLong, func(s *api.Spec) { s.Init[0].Ports, s.Init[0].Probe.Every = []int{7}, 1 }},
		{"init[0].probe.every", api.ErrRange, func(s *api.Spec) { s.Init[0].Probe.Every = 1 }},
		{"init[0].probe.every", api.ErrRange, func(s *api.Spec) { s.Init[0].Probe = api.Probe{Every: -1, Fails: -1} }},
		{"init[0].probe.every", api.ErrRange, func(s *api.Spec) { s.Init[0].Probe = api.Probe{Every: 1, Fails: 11} }},
		{"main[0].req.cpu", api.ErrRange, func(s *api.Spec) { s.Main[0].Req.CPU, s.Main[0].Lim.CPU = -2, -3 }},
		{"main[0].req.cpu", api.ErrRange, func(s *api.Spec) { s.Main[0].Req.CPU, s.Main[0].Lim.CPU = -3, -2 }},
		{"main[0].req.pids", api.ErrRange, func(s *api.Spec) { s.Main[0].Req.Pids, s.Main[0].Lim.Pids = mostRes+2, mostRes+1 }},
		{"main[0].ports[0]", api.ErrRange, func(s *api.Spec) { s.Main[0].Ports = []int{0, 0} }},
		{"main[1].ports[0]", api.ErrPort, func(s *api.Spec) { s.Main[1].Ports = []int{1000, 0} }},
		{"main[1].ports[0]", api.ErrRange, func(s *api.Spec) { s.Main[1].Ports = []int{-1, 1000} }},
		{"main[0].ports[2]", api.ErrPort, func(s *api.Spec) { s.Main[0].Ports, s.Main[1].Ports = []int{5, 6, 5}, []int{0} }},
		{"main[0].ports", api.ErrLong, func(s *api.Spec) { s.Main[0].Ports = []int{0, 0, 0, 0} }},
		{"main[0].probe.every", api.ErrRange, func(s *api.Spec) { s.Main[0].Probe = api.Probe{Every: -1, Fails: 0} }},
		{"main[0].probe.every", api.ErrRange, func(s *api.Spec) { s.Main[0].Probe = api.Probe{Every: 1001, Fails: 11} }},
		{"main", api.ErrLong, func(s *api.Spec) { s.Main, s.Restart = nil, 0 }},
		{"init", api.ErrLong, func(s *api.Spec) { s.Init, s.Main = make([]api.Container, 4), nil }},
		{"labels", api.ErrLong, func(s *api.Spec) { s.Labels, s.Init = make([]api.Label, 5), make([]api.Container, 4) }},
		{"name", api.ErrName, func(s *api.Spec) { s.Name, s.Labels = "", make([]api.Label, 5) }},
	})
}

// 6.1: names, keys, values, images
func TestTextsAtTheirEdges(t *testing.T) {
	name, tooLong := "abcdefghijklmnop", "abcdefghijklmnopq"
	var edges []edge
	for _, x := range []struct {
		s    string
		code api.Code
	}{{"a", api.OK}, {"0", api.OK}, {name, api.OK}, {tooLong, api.ErrName}, {"", api.ErrName}, {"a/b", api.ErrName}, {"a.b", api.ErrName}, {"A", api.ErrName}, {"-a", api.ErrName}, {"a-", api.ErrName}} {
		edges = append(edges, edge{pathIf("name", x.code), x.code, func(s *api.Spec) { s.Name = x.s }})
		for _, p := range containers() {
			edges = append(edges, edge{pathIf(p.String()+".name", x.code), x.code, func(s *api.Spec) { p.of(s).Name = x.s }})
		}
	}
	for _, x := range []struct {
		key  string
		code api.Code
	}{{"a", api.OK}, {"a/b", api.OK}, {name, api.OK}, {name + "/" + name, api.OK}, {tooLong, api.ErrKey}, {name + "/" + tooLong, api.ErrKey}, {"", api.ErrKey}, {"a/", api.ErrKey}, {"/a", api.ErrKey}, {"a/b/c", api.ErrKey}, {"a.b", api.ErrKey}} {
		edges = append(edges, edge{pathIf("labels[0].key", x.code), x.code, func(s *api.Spec) { s.Labels = []api.Label{{Key: x.key}} }})
	}
	for _, x := range []struct {
		val  string
		code api.Code
	}{{"", api.OK}, {"A_b.c-", api.OK}, {name, api.OK}, {tooLong, api.ErrVal}, {"a/b", api.ErrVal}, {"a b", api.ErrVal}, {"a=b", api.ErrVal}, {"a,b", api.ErrVal}} {
		for i := range mostLabels {
			edges = append(edges, edge{pathIf(index("labels", i)+".val", x.code), x.code, func(s *api.Spec) { s.Labels[i].Val = x.val }})
		}
	}
	for _, x := range []struct {
		image string
		code  api.Code
	}{{"a:1", api.OK}, {name + "/bcdefgh:12345678", api.OK}, {name + "/bcdefghi:1", api.ErrImage}, {"a:123456789", api.ErrImage}, {"", api.ErrImage}, {"a", api.ErrImage}, {"a:", api.ErrImage}, {":1", api.ErrImage}, {"A:1", api.ErrImage}} {
		for _, p := range containers() {
			edges = append(edges, edge{pathIf(p.String()+".image", x.code), x.code, func(s *api.Spec) { p.of(s).Image = x.image }})
		}
	}
	checkEdges(t, edges)
}

// pathIf is the path, if there is an error.
func pathIf(path string, code api.Code) string {
	if code == api.OK {
		return ""
	}
	return path
}

func codeUnless(ok bool, code api.Code) api.Code {
	if ok {
		return api.OK
	}
	return code
}

// 6.1: how many members lists have
func TestListsAtTheirEdges(t *testing.T) {
	for n := range 20 {
		s := full()
		s.Labels = nil
		for i := range n {
			s.Labels = append(s.Labels, api.Label{Key: "k" + string(rune('a'+i))})
		}
		code := codeUnless(n <= mostLabels, api.ErrLong)
		checkError(t, "labels", Check(s), pathIf("labels", code), code)

		s = full()
		s.Init = nil
		for i := range n {
			s.Init = append(s.Init, fullContainer("init", i))
		}
		code = codeUnless(n <= mostInit, api.ErrLong)
		checkError(t, "init", Check(s), pathIf("init", code), code)

		s = full()
		s.Main = nil
		for i := range n {
			s.Main = append(s.Main, fullContainer("main", i))
		}
		code = codeUnless(n >= 1 && n <= mostMain, api.ErrLong)
		checkError(t, "main", Check(s), pathIf("main", code), code)

		for _, p := range containers() {
			s = full()
			most := 0
			if p.list == "main" {
				most = mostPorts
			}
			p.of(&s).Ports = nil
			for i := range n {
				p.of(&s).Ports = append(p.of(&s).Ports, 1+i)
			}
			code = codeUnless(n <= most, api.ErrLong)
			checkError(t, p.String(), Check(s), pathIf(p.String()+".ports", code), code)
		}
	}
	s := full()
	s.Main = []api.Container{}
	checkError(t, "an empty list", Check(s), "main", api.ErrLong)
	checkError(t, "great lists", Check(api.Spec{Name: "a", Init: make([]api.Container, 100000), Main: make([]api.Container, 100000)}), "init", api.ErrLong)
}

// 6.1: keys rise, byte by byte
func TestKeysInOrder(t *testing.T) {
	for _, c := range []struct {
		keys []string
		at   int
	}{
		{[]string{"a", "b", "c", "d"}, -1},
		{[]string{"a", "a-b", "a/b", "ab"}, -1},
		{[]string{"0", "9", "a", "z"}, -1},
		{[]string{"a", "aa", "aaa", "aaaa"}, -1},
		{[]string{"10", "9"}, -1},
		{[]string{"9", "10"}, 1},
		{[]string{"a", "a"}, 1},
		{[]string{"b", "a"}, 1},
		{[]string{"aa", "a"}, 1},
		{[]string{"a/b", "a-b"}, 1},
		{[]string{"a/b", "a"}, 1},
		{[]string{"a/b", "a/b"}, 1},
		{[]string{"a", "9"}, 1},
		{[]string{"a", "b", "b"}, 2},
		{[]string{"a", "c", "b"}, 2},
		{[]string{"b", "c", "a"}, 2},
		{[]string{"a", "b", "a"}, 2},
		{[]string{"a", "b", "c", "c"}, 3},
		{[]string{"a", "b", "d", "c"}, 3},
		{[]string{"d", "c", "b", "a"}, 1},
	} {
		s := full()
		s.Labels = nil
		for _, key := range c.keys {
			s.Labels = append(s.Labels, api.Label{Key: key, Val: "x"})
		}
		path, code := "", api.OK
		if c.at >= 0 {
			path, code = index("labels", c.at)+".key", api.ErrShape
		}
		checkError(t, strings.Join(c.keys, " "), Check(s), path, code)
	}
}

// 6.1: no two containers of a pod have one name, of whichever lists they are
func TestOneNameTwice(t *testing.T) {
	all := containers()
	for i, first := range all {
		for _, second := range all[i+1:] {
			s := full()
			second.of(&s).Name = first.of(&s).Name
			checkError(t, first.String()+" and "+second.String(), Check(s), second.String()+".name", api.ErrThere)
		}
		s := full()
		s.Name = first.of(&s).Name
		checkError(t, "the pod and "+first.String(), Check(s), "", api.OK)
	}
}

// 6.1: no port stands twice in a pod
func TestOnePortTwice(t *testing.T) {
	var ports []place
	for i := range mostMain {
		for k := range mostPorts {
			ports = append(ports, place{index("main", i) + ".ports", k})
		}
	}
	of := func(s *api.Spec, n int) *int { return &s.Main[n/mostPorts].Ports[n%mostPorts] }
	for i, first := range ports {
		for j := i + 1; j < len(ports); j++ {
			s := full()
			*of(&s, j) = *of(&s, i)
			checkError(t, first.String()+" and "+ports[j].String(), Check(s), ports[j].String(), api.ErrPort)
		}
	}
}

// 6.1
func TestPortsAtTheirEdges(t *testing.T) {
	for i := range mostMain {
		for k := range mostPorts {
			for _, port := range []int{math.MinInt, -65535, -1, 0, 1, 2, 80, 65534, mostPort, mostPort + 1, 65537, 131073, math.MaxInt} {
				s := full()
				s.Main[i].Ports[k] = port
				code := codeUnless(port >= 1 && port <= mostPort, api.ErrRange)
				checkError(t, strconv.Itoa(port), Check(s), pathIf(index("main", i)+"."+index("ports", k), code), code)
			}
		}
	}
}

// 6.1
func TestResourcesAtTheirEdges(t *testing.T) {
	numbers := []int{math.MinInt, -mostRes, -1, 0, 1, 9, 10, 11, mostRes - 1, mostRes, mostRes + 1, 2 * mostRes, math.MaxInt}
	for _, p := range containers() {
		for i, name := range []string{"cpu", "mem", "pids"} {
			for _, req := range numbers {
				for _, lim := range numbers {
					s := full()
					c := p.of(&s)
					*resources(&c.Req)[i].n, *resources(&c.Lim)[i].n = req, lim
					path, code := "", api.OK
					switch {
					case req < 0 || req > mostRes:
						path, code = p.String()+".req."+name, api.ErrRange
					case lim != 0 && (lim < req || lim > mostRes):
						path, code = p.String()+".lim."+name, api.ErrRange
					}
					checkError(t, strconv.Itoa(req)+" "+strconv.Itoa(lim), Check(s), path, code)
				}
			}
		}
	}
}

// 6.1: a limit is held against its own number of what is asked for
func TestLimitsOfOtherNumbers(t *testing.T) {
	s := full()
	s.Main[0].Req = api.Res{CPU: 1, Mem: 100, Pids: 10000}
	s.Main[0].Lim = api.Res{CPU: 1, Mem: 100, Pids: 10000}
	checkError(t, "as much as is asked for", Check(s), "", api.OK)
	s.Main[0].Lim = api.Res{CPU: 10000, Mem: 1, Pids: 100}
	checkError(t, "mem and pids below", Check(s), "main[0].lim.mem", api.ErrRange)
	s.Main[0].Lim = api.Res{CPU: 10000, Mem: 0, Pids: 100}
	checkError(t, "pids below", Check(s), "main[0].lim.pids", api.ErrRange)
	s.Main[0].Lim = api.Res{}
	checkError(t, "no limits", Check(s), "", api.OK)
}

// 6.1
func TestProbesAtTheirEdges(t *testing.T) {
	numbers := []int{math.MinInt, -1, 0, 1, 2, 9, 10, 11, 999, 1000, 1001, math.MaxInt}
	for _, p := range containers() {
		for _, every := range numbers {
			for _, fails := range numbers {
				s := full()
				p.of(&s).Probe = api.Probe{Every: every, Fails: fails}
				path, code := "", api.OK
				switch {
				case every < 0 || every > mostEvery || p.list == "init" && every != 0:
					path, code = p.String()+".probe.every", api.ErrRange
				case every == 0 && fails != 0 || every != 0 && (fails < 1 || fails > mostFails):
					path, code = p.String()+".probe.fails", api.ErrRange
				}
				checkError(t, strconv.Itoa(every)+" "+strconv.Itoa(fails), Check(s), path, code)
			}
		}
	}
}

// 6.1
func TestNumbersAtTheirEdges(t *testing.T) {
	for _, c := range []struct {
		path        string
		least, most int
		of          func(s *api.Spec) *int
	}{
		{"restart", 1, 3, func(s *api.Spec) *int { return &s.Restart }},
		{"grace", 0, mostGrace, func(s *api.Spec) *int { return &s.Grace }},
		{"prio", 0, mostPrio, func(s *api.Spec) *int { return &s.Prio }},
	} {
		for _, n := range []int{math.MinInt, -1, 0, 1, 2, 3, 4, 9, 10, 11, 999, 1000, 1001, math.MaxInt} {
			s := full()
			*c.of(&s) = n
			code := codeUnless(n >= c.least && n <= c.most, api.ErrRange)
			checkError(t, c.path+" "+strconv.Itoa(n), Check(s), pathIf(c.path, code), code)
		}
	}
}

// 6.1: the steps of a path
func TestSteps(t *testing.T) {
	for _, c := range []struct {
		does func(s *api.Spec)
		path []string
	}{
		{func(s *api.Spec) { s.Name = "" }, []string{"name"}},
		{func(s *api.Spec) { s.Labels[1].Val = "/" }, []string{"labels[1].val"}},
		{func(s *api.Spec) { s.Main[1].Name = "" }, []string{"main[1]", "name"}},
		{func(s *api.Spec) { s.Main[1].Lim.CPU = 1 }, []string{"main[1]", "lim.cpu"}},
		{func(s *api.Spec) { s.Main[1].Ports[2] = 0 }, []string{"main[1]", "ports[2]"}},
		{func(s *api.Spec) { s.Init[2].Probe.Every = 1 }, []string{"init[2]", "probe.every"}},
	} {
		s := full()
		c.does(&s)
		if got := fail.Path(Check(s)); !slices.Equal(got, c.path) {
			t.Errorf("%q, want %q", got, c.path)
		}
	}
}
