package spec

import (
	"math/rand"
	"slices"
	"strings"
	"testing"

	"provost/api"
	"provost/fail"
)

// update changes one part of full; path and code are what Frozen tells of it.
type update struct {
	// part is what is changed: a later update of the same part might undo the one ahead.
	part, path string
	code       api.Code
	does       func(s *api.Spec)
}

// updates are those that may not be, in the order of the promise, with those that may be behind them.
func updates() []update {
	out := []update{{"name", "name", api.ErrShape, func(s *api.Spec) { s.Name = "other" }}}
	for i := range mostInit {
		p := place{"init", i}
		for _, x := range containerUpdates() {
			out = append(out, update{p.String() + "." + x.part, "init", api.ErrShape, func(s *api.Spec) { x.does(p.of(s)) }})
		}
		for _, image := range []string{repoOf(full().Init[i]) + ":2", "other:1.0", "lib/init", ""} {
			out = append(out, update{p.String() + ".image", "init", api.ErrShape, func(s *api.Spec) { p.of(s).Image = image }})
		}
	}
	out = append(out,
		update{"init", "init", api.ErrShape, func(s *api.Spec) { s.Init = nil }},
		update{"init", "init", api.ErrShape, func(s *api.Spec) { s.Init = s.Init[:mostInit-1] }},
		update{"init", "init", api.ErrShape, func(s *api.Spec) { s.Init = s.Init[1:] }},
		update{"init", "init", api.ErrShape, func(s *api.Spec) { s.Init = append(s.Init, api.Container{}) }},
		update{"init", "init", api.ErrShape, func(s *api.Spec) { s.Init[0], s.Init[1] = s.Init[1], s.Init[0] }},
		update{"main", "main", api.ErrShape, func(s *api.Spec) { s.Main = nil }},
		update{"main", "main", api.ErrShape, func(s *api.Spec) { s.Main = s.Main[:mostMain-1] }},
		update{"main", "main", api.ErrShape, func(s *api.Spec) { s.Main = append(s.Main, api.Container{}) }})
	for i := range mostMain {
		p := place{"main", i}
		for _, x := range containerUpdates() {
			out = append(out, update{p.String() + "." + x.part, p.String(), api.ErrShape, func(s *api.Spec) { x.does(p.of(s)) }})
		}
		repo := repoOf(full().Main[i])
		for _, image := range []string{"main:1.0", repo + "x:1.0", "lib/lib:1.0", "x/" + repo + ":1.0", repo, repo + ":", repo + ":123456789", ""} {
			out = append(out, update{p.String() + ".image", p.String() + ".image", api.ErrImage, func(s *api.Spec) { p.of(s).Image = image }})
		}
	}
	return append(out, updatesThatMayBe()...)
}

// containerUpdates change one part of a container, but its image.
func containerUpdates() []struct {
	part string
	does func(c *api.Container)
} {
	return []struct {
		part string
		does func(c *api.Container)
	}{
		{"name", func(c *api.Container) { c.Name = "other" }},
		{"req.cpu", func(c *api.Container) { c.Req.CPU++ }},
		{"req.mem", func(c *api.Container) { c.Req.Mem++ }},
		{"req.pids", func(c *api.Container) { c.Req.Pids++ }},
		{"lim.cpu", func(c *api.Container) { c.Lim.CPU-- }},
		{"lim.mem", func(c *api.Container) { c.Lim.Mem-- }},
		{"lim.pids", func(c *api.Container) { c.Lim.Pids = 0 }},
		{"ports", func(c *api.Container) { c.Ports = append(c.Ports, 7) }},
		{"ports", func(c *api.Container) { c.Ports = append([]int{7}, c.Ports[min(1, len(c.Ports)):]...) }},
		{"ports", func(c *api.Container) { c.Ports = append(c.Ports[min(1, len(c.Ports)):], 1) }},
		{"every", func(c *api.Container) { c.Probe.Every++ }},
		{"fails", func(c *api.Container) { c.Probe.Fails++ }},
	}
}

func repoOf(c api.Container) string {
	repo, _, _ := strings.Cut(c.Image, ":")
	return repo
}

func updatesThatMayBe() []update {
	out := []update{
		{"labels", "", api.OK, func(s *api.Spec) { s.Labels = nil }},
		{"labels", "", api.OK, func(s *api.Spec) { s.Labels = s.Labels[1:] }},
		{"labels", "", api.OK, func(s *api.Spec) { s.Labels[0].Key = "aa" }},
		{"labels", "", api.OK, func(s *api.Spec) { s.Labels[3].Val = "" }},
		{"restart", "", api.OK, func(s *api.Spec) { s.Restart = api.RNever }},
		{"restart", "", api.OK, func(s *api.Spec) { s.Restart = api.RAlways }},
		{"grace", "", api.OK, func(s *api.Spec) { s.Grace = 0 }},
		{"grace", "", api.OK, func(s *api.Spec) { s.Grace = mostGrace }},
		{"prio", "", api.OK, func(s *api.Spec) { s.Prio = 0 }},
		{"prio", "", api.OK, func(s *api.Spec) { s.Prio = mostPrio }},
	}
	for i := range mostMain {
		p := place{"main", i}
		for _, tag := range []string{"1", "1.0.1", "latest", "-"} {
			out = append(out, update{p.String() + ".image", "", api.OK, func(s *api.Spec) { p.of(s).Image = repoOf(full().Main[i]) + ":" + tag }})
		}
	}
	return out
}

// 6.2: each part, changed alone
func TestOneUpdate(t *testing.T) {
	for _, u := range updates() {
		was, now := full(), full()
		u.does(&now)
		if Same(was, now) {
			t.Fatalf("%s changes nothing", u.part)
		}
		for range 2 {
			checkError(t, u.part, Frozen(was, now), u.path, u.code)
			checkError(t, u.part+" back again", Frozen(now, was), u.path, u.code)
		}
	}
}

// 6.2: two parts: what stands ahead is told, and what may not be changed is, whatever else is changed
func TestTwoUpdates(t *testing.T) {
	all := updates()
	for i, first := range all {
		for _, second := range all[i+1:] {
			if overlaps(first.part, second.part) {
				continue
			}
			was, now := full(), full()
			first.does(&now)
			second.does(&now)
			path, code := first.path, first.code
			if code == api.OK {
				path, code = second.path, second.code
			}
			checkError(t, first.part+" and "+second.part, Frozen(was, now), path, code)
		}
	}
}

// overlaps tells whether one update might undo the other one, or leave nothing for it to change.
func overlaps(a, b string) bool {
	within := func(a, b string) bool {
		return len(b) > len(a) && b[:len(a)] == a && (b[len(a)] == '[' || b[len(a)] == '.')
	}
	return a == b || within(a, b) || within(b, a)
}

// 6.2
func TestUpdatesOfTheSame(t *testing.T) {
	for _, s := range []func() api.Spec{full, small, func() api.Spec { return api.Spec{} }} {
		checkError(t, "the same", Frozen(s(), s()), "", api.OK)
		was := s()
		checkError(t, "itself", Frozen(was, was), "", api.OK)
	}
	// how many others there are, from none on
	one, none := small(), small()
	none.Main = nil
	checkError(t, "one more", Frozen(none, one), "main", api.ErrShape)
	checkError(t, "one less", Frozen(one, none), "main", api.ErrShape)
	checkError(t, "none", Frozen(none, none), "", api.OK)
}

// 6.2: specs that may not be are held against one another all the same
func TestUpdatesOfWhatMayNotBe(t *testing.T) {
	broken := func() api.Spec {
		return api.Spec{
			Name: "-", Labels: make([]api.Label, 9), Init: make([]api.Container, 9),
			Main:    []api.Container{{Name: "A", Image: "none", Ports: []int{0, 0, 0, 0, -1}, Probe: api.Probe{Every: -1, Fails: -1}}, {}, {}, {}, {}, {Req: api.Res{CPU: -1}}},
			Restart: -1, Grace: -1, Prio: -1,
		}
	}
	checkError(t, "the same", Frozen(broken(), broken()), "", api.OK)
	for _, u := range []update{
		{path: "name", code: api.ErrShape, does: func(s *api.Spec) { s.Name = "" }},
		{path: "init", code: api.ErrShape, does: func(s *api.Spec) { s.Init[8].Image = "a:1" }},
		{path: "main", code: api.ErrShape, does: func(s *api.Spec) { s.Main = s.Main[:5] }},
		{path: "main[0].image", code: api.ErrImage, does: func(s *api.Spec) { s.Main[0].Image = "none:" }},
		{path: "main[0]", code: api.ErrShape, does: func(s *api.Spec) { s.Main[0].Ports[4] = -2 }},
		{path: "main[4].image", code: api.ErrImage, does: func(s *api.Spec) { s.Main[4].Image = "a:1" }},
		{path: "main[5]", code: api.ErrShape, does: func(s *api.Spec) { s.Main[5].Req.CPU = -2 }},
		{does: func(s *api.Spec) { s.Labels, s.Restart, s.Grace, s.Prio = nil, 9, -9, 99 }},
	} {
		now := broken()
		u.does(&now)
		checkError(t, u.path, Frozen(broken(), now), u.path, u.code)
	}
}

// 6.2: another tag, another repository, and what is no image
func TestUpdatesOfImages(t *testing.T) {
	for _, c := range []struct {
		was, now string
		code     api.Code
	}{
		{"web:1", "web:1", api.OK},
		{"web:1", "web:2", api.OK},
		{"lib/web:1", "lib/web:1.0-x", api.OK},
		{"web:1", "web1:1", api.ErrImage},
		{"web:1", "lib/web:1", api.ErrImage},
		{"lib/web:1", "web/lib:1", api.ErrImage},
		{"web:1", "web", api.ErrImage},
		{"web:1", "web:", api.ErrImage},
		{"web:1", "web:A", api.ErrImage},
		{"web:1", "", api.ErrImage},
		{"", "", api.OK},
		{"web", "web", api.OK},
		{"web:", "web:", api.OK},
		{"Web:1", "Web:1", api.OK},
		{"Web:1", "Web:2", api.ErrImage},
		{"web:A", "web:B", api.ErrImage},
		{"web", "web:", api.ErrImage},
		{"", "web", api.ErrImage},
		{":1", ":2", api.ErrImage},
	} {
		was, now := full(), full()
		was.Main[2].Image, now.Main[2].Image = c.was, c.now
		path := pathIf("main[2].image", c.code)
		checkError(t, c.was+" to "+c.now, Frozen(was, now), path, c.code)
		checkError(t, c.now+" to "+c.was, Frozen(now, was), path, c.code)

		// An init container's image may not be changed at all.
		was, now = full(), full()
		was.Init[1].Image, now.Init[1].Image = c.was, c.now
		code := codeUnless(c.was == c.now, api.ErrShape)
		checkError(t, c.was+" to "+c.now+" in init", Frozen(was, now), pathIf("init", code), code)
	}
	e := Frozen(api.Spec{Main: []api.Container{{Image: "a:1"}}}, api.Spec{Main: []api.Container{{Image: "b:1"}}})
	if got := fail.Path(e); !slices.Equal(got, []string{"main[0]", "image"}) {
		t.Errorf("the steps %q", got)
	}
}

// R3
func TestUpdatesOfListsWithoutMembers(t *testing.T) {
	was, now := small(), small()
	was.Main[0].Ports, was.Init, was.Labels = []int{}, []api.Container{}, []api.Label{}
	checkError(t, "empty to nil", Frozen(was, now), "", api.OK)
	checkError(t, "nil to empty", Frozen(now, was), "", api.OK)
	was.Init, now.Init = []api.Container{{Ports: []int{}}}, []api.Container{{}}
	checkError(t, "empty ports of an init container", Frozen(was, now), "", api.OK)
	checkError(t, "nil ports of an init container", Frozen(now, was), "", api.OK)
	was.Main, now.Main = []api.Container{}, nil
	checkError(t, "no main containers", Frozen(was, now), "", api.OK)
}

// 6.4: all that may be changed, at random, as long as the spec may be
func TestWhatMayBeChangedIsNotFrozen(t *testing.T) {
	p := pick(rand.New(rand.NewSource(64)).Intn)
	for range 5000 {
		was := of(p, full, small)()
		now := snapshot(was)
		now.Labels = nil
		for _, key := range []string{"a", "app", "b/c", "z"} {
			if p(2) == 0 {
				now.Labels = append(now.Labels, api.Label{Key: key, Val: of(p, "", "x", "Y")})
			}
		}
		for i := range now.Main {
			now.Main[i].Image = repoOf(was.Main[i]) + ":" + of(p, "1", "1.0", "2", "latest", "-.-")
		}
		now.Restart, now.Grace, now.Prio = 1+p(3), p(mostGrace+1), p(mostPrio+1)
		checkError(t, "Check of the old one", Check(was), "", api.OK)
		checkError(t, "Check of the new one", Check(now), "", api.OK)
		checkError(t, "Frozen", Frozen(was, now), "", api.OK)
		checkError(t, "Frozen, back again", Frozen(now, was), "", api.OK)
	}
}
