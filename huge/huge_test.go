package huge

import (
	"math"
	"math/rand"
	"slices"
	"strings"
	"testing"

	"freehold/api"
)

// made is a new tracker.
func made(t *testing.T, pages int) *Tracker {
	t.Helper()
	k, e := New(pages)
	if e != api.OK || k == nil {
		t.Fatalf("New(%d) = %v, %d", pages, k, e)
	}
	return k
}

// ok tests that a call returned no error.
func ok(t *testing.T, what string, e api.Errno) {
	t.Helper()
	if e != api.OK {
		t.Fatalf("%s: %d", what, e)
	}
}

// fails tests the error of a call.
func fails(t *testing.T, what string, e, want api.Errno) {
	t.Helper()
	if e != want {
		t.Fatalf("%s: %d, not %d", what, e, want)
	}
}

// planned tests the plan for some pages.
func planned(t *testing.T, k *Tracker, want int, runs ...api.Run) {
	t.Helper()
	if plan, e := k.Plan(want); e != api.OK || !slices.Equal(plan, runs) {
		t.Fatalf("Plan(%d) = %v, %d, not %v", want, plan, e, runs)
	}
}

// model is a tracker, read to the letter: the state of each page, written as a
// letter: - absent, u used, b backed, r released.
type model []byte

// parse is the model of some huge pages, written with spaces between them; a
// huge page that is written shorter goes on with its last letter.
func parse(text string) model {
	var m model
	for _, h := range strings.Fields(text) {
		for len(h) < 16 {
			h += h[len(h)-1:]
		}
		m = append(m, h...)
	}
	return m
}

// built is a tracker in the state of a model.
func built(t *testing.T, m model) *Tracker {
	t.Helper()
	k := made(t, len(m))
	for h := range m.huges() {
		if m[16*h] != '-' {
			ok(t, "Add", k.Add(h))
		}
	}
	for p, s := range m {
		if s == 'u' || s == 'b' {
			ok(t, "Use", k.Use(p, 1))
		}
		if s == 'b' {
			ok(t, "Unuse", k.Unuse(p, 1))
		}
	}
	return k
}

// written is a tracker in a state that is written as for parse.
func written(t *testing.T, text string) *Tracker {
	t.Helper()
	return built(t, parse(text))
}

// huges is the number of huge pages.
func (m model) huges() int {
	return len(m) / 16
}

// count is the number of pages of a huge page in a state.
func (m model) count(h int, s byte) int {
	n := 0
	for p := 16 * h; p <= 16*h+15; p++ {
		if m[p] == s {
			n++
		}
	}
	return n
}

// kind is what a huge page is: absent (-), idle (i), broken (b) or whole (w).
func (m model) kind(h int) byte {
	if m[16*h] == '-' {
		return '-'
	}
	if m.count(h, 'u') == 0 {
		return 'i'
	}
	if m.count(h, 'u') > 0 && m.count(h, 'r') > 0 {
		return 'b'
	}
	return 'w'
}

// list is the huge pages of a kind.
func (m model) list(kind byte) []int {
	var list []int
	for h := range m.huges() {
		if m.kind(h) == kind {
			list = append(list, h)
		}
	}
	return list
}

// runs is the maximal runs of backed pages of a huge page.
func (m model) runs(h int) []api.Run {
	var runs []api.Run
	for p := 16 * h; p < 16*h+16; p++ {
		if m[p] != 'b' {
			continue
		}
		if p > 16*h && m[p-1] == 'b' {
			runs[len(runs)-1].Pages++
		} else {
			runs = append(runs, api.Run{Start: p, Pages: 1})
		}
	}
	return runs
}

// order is the huge pages with backed pages in the order of the plan: those of
// each kind, by the number of used pages, from the highest number down.
func (m model) order() []int {
	var list []int
	for _, kind := range []byte("ibw") {
		for used := 0; used <= 16; used++ {
			for h := m.huges() - 1; h >= 0; h-- {
				if m.kind(h) == kind && m.count(h, 'u') == used && m.count(h, 'b') > 0 {
					list = append(list, h)
				}
			}
		}
	}
	return list
}

// plan is the plan.
func (m model) plan(want int) []api.Run {
	var plan []api.Run
	pages := 0
	for _, h := range m.order() {
		for _, r := range m.runs(h) {
			if pages < want {
				plan = append(plan, r)
				pages += r.Pages
			}
		}
	}
	return plan
}

// fits reports whether a run is within the pages.
func (m model) fits(start, pages int) bool {
	return start >= 0 && pages >= 1 && start+pages <= len(m)
}

// change is Use, Unuse and Release: from one of some states to another one.
func (m model) change(start, pages int, from string, to byte) api.Errno {
	if !m.fits(start, pages) {
		return api.ErrArg
	}
	for p := start; p < start+pages; p++ {
		if !strings.Contains(from, string(m[p])) {
			return api.ErrState
		}
	}
	for p := start; p < start+pages; p++ {
		m[p] = to
	}
	return api.OK
}

// turn is Add and Remove: from a kind to a state.
func (m model) turn(h int, kind, to byte) api.Errno {
	if h < 0 || h >= m.huges() {
		return api.ErrArg
	}
	if m.kind(h) != kind {
		return api.ErrState
	}
	for p := 16 * h; p < 16*h+16; p++ {
		m[p] = to
	}
	return api.OK
}

// letters is the states of the pages of a tracker of so many pages, as a model.
func letters(k *Tracker, pages int) model {
	var m model
	for p := range pages {
		m = append(m, "?-ubr"[k.State(p)+1])
	}
	return m
}

// view is all that a tracker tells of itself.
type view struct {
	states              []int
	used                []int
	idle, broken, whole []int
	counts              [4]int
	plans               [][]api.Run
}

// wants is the numbers of pages for which plans are compared, of a tracker of
// some pages.
func wants(pages int) []int {
	list := []int{0, 1, 2, 3, 5, 8, 13, 15, 16, 17, 21, 32, 33}
	return append(list, pages-1, pages, pages+1, math.MaxInt)
}

// look is all that a tracker of so many pages tells.
func look(k *Tracker, pages int) view {
	v := view{idle: k.Idle(), broken: k.Broken(), whole: k.Whole()}
	for p := range pages {
		v.states = append(v.states, k.State(p))
	}
	for h := range pages / 16 {
		v.used = append(v.used, k.Used(h))
	}
	for s := range v.counts {
		v.counts[s] = k.Count(s)
	}
	for _, want := range wants(pages) {
		plan, _ := k.Plan(want)
		v.plans = append(v.plans, plan)
	}
	return v
}

// view is all that the model tells.
func (m model) view() view {
	v := view{idle: m.list('i'), broken: m.list('b'), whole: m.list('w')}
	for _, s := range m {
		n := strings.IndexByte("-ubr", s)
		v.states = append(v.states, n)
		v.counts[n]++
	}
	for h := range m.huges() {
		v.used = append(v.used, m.count(h, 'u'))
	}
	for _, want := range wants(len(m)) {
		v.plans = append(v.plans, m.plan(want))
	}
	return v
}

// same tests that a tracker tells what is wanted.
func same(t *testing.T, what string, k *Tracker, want view) {
	t.Helper()
	got := look(k, len(want.states))
	if !slices.Equal(got.states, want.states) || got.counts != want.counts {
		t.Fatalf("%s: states %v, counts %v, not %v, %v", what, got.states, got.counts, want.states, want.counts)
	}
	if !slices.Equal(got.used, want.used) {
		t.Fatalf("%s: Used %v, not %v", what, got.used, want.used)
	}
	if !slices.Equal(got.idle, want.idle) || !slices.Equal(got.broken, want.broken) || !slices.Equal(got.whole, want.whole) {
		t.Fatalf("%s: idle %v, broken %v, whole %v, not %v, %v, %v", what, got.idle, got.broken, got.whole, want.idle, want.broken, want.whole)
	}
	for i, plan := range got.plans {
		if !slices.Equal(plan, want.plans[i]) {
			t.Fatalf("%s: Plan(%d) = %v, not %v", what, wants(len(want.states))[i], plan, want.plans[i])
		}
	}
}

// random is a model of some huge pages of any kind, with few and many runs.
func random(r *rand.Rand, huges int) model {
	letters := []string{"ubr", "ub", "br", "ur", "b", "uub", "ubbr", "u", "r"}
	var m model
	for range huges {
		if r.Intn(8) == 0 {
			m = append(m, strings.Repeat("-", 16)...)
			continue
		}
		from, long := letters[r.Intn(len(letters))], 1+r.Intn(9)
		var pages []byte
		for len(pages) < 16 {
			s := from[r.Intn(len(from))]
			for range 1 + r.Intn(long) {
				pages = append(pages, s)
			}
		}
		m = append(m, pages[:16]...)
	}
	return m
}

func TestNew(t *testing.T) {
	for pages := -40; pages <= 1100; pages++ {
		k, e := New(pages)
		if pages >= 16 && pages <= 1024 && pages%16 == 0 {
			if e != api.OK || k == nil {
				t.Fatalf("New(%d) = %v, %d", pages, k, e)
			}
		} else if k != nil || e != api.ErrArg {
			t.Fatalf("New(%d) = %v, %d", pages, k, e)
		}
	}
	for _, pages := range []int{math.MinInt, math.MinInt + 16, -1024, 2048, 1 << 32, math.MaxInt, math.MaxInt - 15} {
		if k, e := New(pages); k != nil || e != api.ErrArg {
			t.Errorf("New(%d) = %v, %d", pages, k, e)
		}
	}
	for _, pages := range []int{16, 32, 48, 1008, 1024} {
		k := made(t, pages)
		same(t, "New", k, model(strings.Repeat("-", pages)).view())
		ok(t, "Add", k.Add(pages/16-1))
	}
}

// TestExamples tests the chapter's examples, in their order.
func TestExamples(t *testing.T) {
	k := made(t, 32)
	ok(t, "Add(0)", k.Add(0))
	ok(t, "Add(1)", k.Add(1))
	ok(t, "Use(0, 4)", k.Use(0, 4))
	ok(t, "Unuse(2, 2)", k.Unuse(2, 2))
	if s := k.State(2); s != 2 {
		t.Errorf("State(2) = %d", s)
	}
	if list := k.Broken(); !slices.Equal(list, []int{0}) {
		t.Errorf("Broken = %v", list)
	}
	if list := k.Idle(); !slices.Equal(list, []int{1}) {
		t.Errorf("Idle = %v", list)
	}
	ok(t, "Use(16, 16)", k.Use(16, 16))
	ok(t, "Unuse(16, 16)", k.Unuse(16, 16))
	planned(t, k, 1, api.Run{Start: 16, Pages: 16})
	planned(t, k, 17, api.Run{Start: 16, Pages: 16}, api.Run{Start: 2, Pages: 2})
	ok(t, "Remove(1)", k.Remove(1))
	fails(t, "Remove(0)", k.Remove(0), api.ErrState)
	same(t, "at the end", k, parse("uubbr -").view())
}

// TestStates tests P4.1, on huge pages of each kind: those with one page that
// is other than the rest are on both sides of the line between two kinds.
func TestStates(t *testing.T) {
	m := parse("- r b br rb u ub bu ur ru ubr rbu bru uuuuuuuuuuuuuuur bbbbbbbbbbbbbbbu bbbbbbbbbbbbbbru rrrrrrrrrrrrrrru")
	k := built(t, m)
	same(t, "built", k, m.view())
	for name, x := range map[string][2][]int{
		"Idle":   {k.Idle(), {1, 2, 3, 4}},
		"Whole":  {k.Whole(), {5, 6, 7, 14}},
		"Broken": {k.Broken(), {8, 9, 10, 11, 12, 13, 15, 16}},
	} {
		if !slices.Equal(x[0], x[1]) {
			t.Errorf("%s = %v, not %v", name, x[0], x[1])
		}
	}
	for h, want := range []int{0, 0, 0, 0, 0, 16, 1, 15, 1, 15, 1, 14, 14, 15, 1, 1, 1} {
		if n := k.Used(h); n != want {
			t.Errorf("Used(%d) = %d, not %d", h, n, want)
		}
	}
}

// TestState tests State, Used and Count, also of what there is not.
func TestState(t *testing.T) {
	k := written(t, "ubr - r")
	for p, want := range map[int]int{0: 1, 1: 2, 2: 3, 15: 3, 16: 0, 31: 0, 32: 3, 47: 3} {
		if s := k.State(p); s != want {
			t.Errorf("State(%d) = %d, not %d", p, s, want)
		}
	}
	for _, p := range []int{math.MinInt, -16, -1, 48, 49, 1023, 1024, math.MaxInt} {
		if s := k.State(p); s != -1 {
			t.Errorf("State(%d) = %d", p, s)
		}
	}
	for _, h := range []int{math.MinInt, math.MinInt / 16, -1, 1, 2, 3, 16, 1 << 60, 1<<60 + 1, math.MaxInt} {
		if n := k.Used(h); n != 0 {
			t.Errorf("Used(%d) = %d", h, n)
		}
	}
	for s, want := range map[int]int{0: 16, 1: 1, 2: 1, 3: 30, -1: 0, 4: 0, 256: 0, 257: 0, 258: 0, -255: 0, math.MinInt: 0, math.MaxInt: 0} {
		if n := k.Count(s); n != want {
			t.Errorf("Count(%d) = %d, not %d", s, n, want)
		}
	}
}

// badHuges is huge pages that a tracker of three of them does not have.
func badHuges() []int {
	return []int{math.MinInt, math.MinInt / 16, -16, -1, 3, 4, 16, 48, 1 << 60, 1<<60 + 1, math.MaxInt}
}

// TestAddRemove tests Add and Remove of huge pages of each kind, their errors,
// and P4.6 of them.
func TestAddRemove(t *testing.T) {
	for _, kind := range []string{"-", "r", "b", "br", "u", "ub", "ur", "ubr"} {
		for h := range 3 {
			m := parse(strings.Join(slices.Insert([]string{"ub", "-"}, h, kind), " "))
			k := built(t, m)
			added, removed := slices.Clone(m), slices.Clone(m)
			a, r := k.Clone(), k.Clone()
			fails(t, "Add of "+kind, a.Add(h), added.turn(h, '-', 'r'))
			fails(t, "Remove of "+kind, r.Remove(h), removed.turn(h, 'i', '-'))
			same(t, "Add of "+kind, a, added.view())
			same(t, "Remove of "+kind, r, removed.view())
		}
	}
	k := written(t, "ub - r")
	before := look(k, 48)
	fails(t, "Add(0)", k.Add(0), api.ErrState)
	fails(t, "Add(2)", k.Add(2), api.ErrState)
	fails(t, "Remove(0)", k.Remove(0), api.ErrState)
	fails(t, "Remove(1)", k.Remove(1), api.ErrState)
	for _, h := range badHuges() {
		fails(t, "Add", k.Add(h), api.ErrArg)
		fails(t, "Remove", k.Remove(h), api.ErrArg)
	}
	same(t, "refused", k, before)
	ok(t, "Add(1)", k.Add(1))
	ok(t, "Remove(2)", k.Remove(2))
	same(t, "Add and Remove", k, parse("ub r -").view())
}

// TestAddAgain tests that nothing is left of a huge page that was removed.
func TestAddAgain(t *testing.T) {
	k := written(t, "br bru")
	ok(t, "Remove", k.Remove(0))
	ok(t, "Add", k.Add(0))
	same(t, "added again", k, parse("r bru").view())
	ok(t, "Use", k.Use(0, 16))
	ok(t, "Unuse", k.Unuse(0, 16))
	ok(t, "Remove", k.Remove(0))
	ok(t, "Add", k.Add(0))
	same(t, "added again", k, parse("r bru").view())
}

// changes is the three calls that change a run, and their models.
func changes() map[string]struct {
	call func(k *Tracker, start, pages int) api.Errno
	from string
	to   byte
} {
	return map[string]struct {
		call func(k *Tracker, start, pages int) api.Errno
		from string
		to   byte
	}{
		"Use":     {(*Tracker).Use, "br", 'u'},
		"Unuse":   {(*Tracker).Unuse, "u", 'b'},
		"Release": {(*Tracker).Release, "b", 'r'},
	}
}

// TestRunArg tests the first error of the calls that change a run, in trackers
// in which nothing else would refuse them, and P4.6.
func TestRunArg(t *testing.T) {
	for name, c := range changes() {
		for _, text := range []string{"u u u", "b b b", "r r r", "- - -", "ubr - rbu"} {
			k := written(t, text)
			before := look(k, 48)
			for _, r := range [][2]int{
				{-1, 1}, {-1, 2}, {-16, 16}, {-48, 48}, {0, 0}, {1, 0}, {1, -1}, {4, -2}, {0, 49}, {1, 48}, {47, 2}, {32, 17}, {48, 1}, {48, 0}, {49, 1}, {64, 16},
				{math.MinInt, 1}, {1, math.MinInt}, {1, math.MaxInt}, {math.MaxInt, 1}, {math.MaxInt, math.MaxInt}, {math.MinInt, math.MinInt},
				{-1, math.MaxInt}, {math.MinInt, math.MaxInt}, {math.MaxInt, 2}, {47, math.MaxInt - 46},
			} {
				if e := c.call(k, r[0], r[1]); e != api.ErrArg {
					t.Errorf("%s: %s(%d, %d): %d", text, name, r[0], r[1], e)
				}
			}
			same(t, name, k, before)
		}
	}
}

// TestRunState tests the second error of the calls that change a run: just one
// page of it, the first one, one in the middle or the last one, is in another
// state, or of an absent huge page.
func TestRunState(t *testing.T) {
	for name, c := range changes() {
		for _, s := range []byte("-ubr") {
			for _, from := range []byte(c.from) {
				if s == '-' {
					m := parse(string(from) + " - " + string(from))
					for _, r := range [][2]int{{16, 1}, {31, 1}, {16, 16}, {15, 2}, {31, 2}, {0, 48}, {12, 10}} {
						refused(t, name, m, r[0], r[1])
					}
					continue
				}
				if strings.Contains(c.from, string(s)) {
					continue
				}
				for _, at := range []int{10, 15, 16, 20} {
					m := parse(strings.Repeat(string(from)+" ", 3))
					m[at] = s
					refused(t, name, m, 10, 11)
					refused(t, name, m, at, 1)
					refused(t, name, m, 0, 48)
				}
			}
		}
	}
}

// refused tests that one of the calls that change a run returns ErrState, and
// changes nothing.
func refused(t *testing.T, name string, m model, start, pages int) {
	t.Helper()
	k := built(t, m)
	if e := changes()[name].call(k, start, pages); e != api.ErrState {
		t.Errorf("%s: %s(%d, %d): %d", m, name, start, pages, e)
	}
	same(t, name, k, m.view())
}

// TestRuns tests the calls that change a run for all runs of some trackers, of
// which many cross from one huge page into the next, present or absent.
func TestRuns(t *testing.T) {
	for _, text := range []string{"u u", "b b", "r r", "u -", "- b", "- r", "uuuuuuuuuuuub brbrbrbru", "rrrrrrrrrrrrub rrbbbbbbbbbr", "uuubbbrrruuubbbr -"} {
		m := parse(text)
		k := built(t, m)
		for name, c := range changes() {
			for start := -1; start <= 32; start++ {
				for pages := 0; pages <= 33; pages++ {
					d, after := k.Clone(), slices.Clone(m)
					want := after.change(start, pages, c.from, c.to)
					if e := c.call(d, start, pages); e != want {
						t.Fatalf("%s: %s(%d, %d): %d, not %d", text, name, start, pages, e, want)
					}
					if got := letters(d, 32); !slices.Equal(got, after) {
						t.Fatalf("%s: %s(%d, %d): %s, not %s", text, name, start, pages, got, after)
					}
				}
			}
		}
	}
}

// TestBack tests P4.5: what was used and unused is backed, whatever it was.
func TestBack(t *testing.T) {
	for _, text := range []string{"r r", "b b", "br rb", "bbrrbrbrbrrrbbrr rrrrbbbbrrrrbbbb"} {
		for _, r := range [][2]int{{0, 1}, {0, 16}, {3, 9}, {15, 2}, {9, 15}, {16, 16}, {0, 32}} {
			m := parse(text)
			k := built(t, m)
			ok(t, "Use", k.Use(r[0], r[1]))
			ok(t, "Unuse", k.Unuse(r[0], r[1]))
			for p := range r[1] {
				m[r[0]+p] = 'b'
			}
			same(t, "Unuse", k, m.view())
		}
	}
}

// TestPlanOrder tests the order of the kinds, of the used pages, and of the
// numbers, each where the others say nothing or the opposite.
func TestPlanOrder(t *testing.T) {
	for _, x := range []struct {
		text string
		want []int // the first pages of the runs
	}{
		{"b b b", []int{32, 16, 0}},
		{"b uubr ub", []int{0, 18, 33}},
		{"ub uubr b", []int{32, 18, 1}},
		{"uubr b ub", []int{16, 2, 33}},
		{"uuuuuuuuubr ub", []int{9, 17}},
		{"ub uuuuuuuuubr", []int{25, 1}},
		{"uub ub uuub", []int{17, 2, 35}},
		{"uubr ubr uuubr", []int{17, 2, 35}},
		{"uuub ub uub", []int{17, 34, 3}},
		{"ubu ubr bbbbbbbbbbbbbbbu", []int{17, 32, 1}},
		{"ub bu ub", []int{33, 1, 16}},
		{"br bbr bbbr b", []int{48, 32, 16, 0}},
		{"b r u ur - b", []int{80, 0}},
		{"ubr bur rub", []int{34, 16, 1}},
	} {
		plan, e := written(t, x.text).Plan(1024)
		var got []int
		for _, r := range plan {
			got = append(got, r.Start)
		}
		if e != api.OK || !slices.Equal(got, x.want) {
			t.Errorf("%s: Plan = %v, %d, not %v", x.text, plan, e, x.want)
		}
	}
}

// TestPlanRuns tests that a plan has whole runs, in rising order, that end with
// their huge page.
func TestPlanRuns(t *testing.T) {
	k := written(t, "bubbubbbubbbbubr b bbbbbrrrbbb")
	idle := []api.Run{{Start: 32, Pages: 5}, {Start: 40, Pages: 8}, {Start: 16, Pages: 16}}
	planned(t, k, 0)
	planned(t, k, 1, idle[0])
	planned(t, k, 5, idle[0])
	planned(t, k, 6, idle[:2]...)
	planned(t, k, 13, idle[:2]...)
	planned(t, k, 14, idle...)
	planned(t, k, 29, idle...)
	broken := append(idle, api.Run{Start: 0, Pages: 1}, api.Run{Start: 2, Pages: 2}, api.Run{Start: 5, Pages: 3}, api.Run{Start: 9, Pages: 4}, api.Run{Start: 14, Pages: 1})
	planned(t, k, 30, broken[:4]...)
	planned(t, k, 31, broken[:5]...)
	planned(t, k, 32, broken[:5]...)
	planned(t, k, 33, broken[:6]...)
	planned(t, k, 39, broken[:7]...)
	for _, want := range []int{40, 41, 1024, math.MaxInt} {
		planned(t, k, want, broken...)
	}
}

// TestPlanNone tests plans where there is nothing to release.
func TestPlanNone(t *testing.T) {
	for _, text := range []string{"-", "- - -", "u", "r", "ur", "u - r ur"} {
		k := written(t, text)
		for _, want := range []int{0, 1, 16, math.MaxInt} {
			planned(t, k, want)
		}
	}
}

// TestPlanErrors tests the error of Plan, also where there is nothing to
// release, and P4.6 of it.
func TestPlanErrors(t *testing.T) {
	for _, text := range []string{"-", "r", "ubr b", "u"} {
		k := written(t, text)
		before := look(k, 16)
		for _, want := range []int{-1, -2, -16, -1024, math.MinInt, math.MinInt + 1} {
			if plan, e := k.Plan(want); e != api.ErrArg || len(plan) != 0 {
				t.Errorf("%s: Plan(%d) = %v, %d", text, want, plan, e)
			}
		}
		same(t, "Plan", k, before)
	}
}

// pagesOf is the number of pages of a plan.
func pagesOf(plan []api.Run) int {
	pages := 0
	for _, r := range plan {
		pages += r.Pages
	}
	return pages
}

// TestPlan tests P4.2 to P4.4: what a plan has, which huge pages are broken by
// it, and what carrying it out changes.
func TestPlan(t *testing.T) {
	r := rand.New(rand.NewSource(1))
	for range 120 {
		m := random(r, 1+r.Intn(6))
		k := built(t, m)
		before := look(k, len(m))
		for want := range len(m) + 2 {
			plan, e := k.Plan(want)
			ok(t, "Plan", e)
			pages := pagesOf(plan)
			if pages < want && pages != k.Count(2) {
				t.Fatalf("%s: Plan(%d) = %v, of %d", m, want, plan, k.Count(2))
			}
			if n := len(plan); n > 0 && pagesOf(plan[:n-1]) >= want {
				t.Fatalf("%s: Plan(%d) = %v", m, want, plan)
			}
			carryOut(t, m, k.Clone(), plan, want)
		}
		same(t, "Plan", k, before)
	}
}

// carryOut releases the runs of a plan for some pages, and tests that only
// backed pages are released, and whole huge pages broken only if they must.
func carryOut(t *testing.T, m model, k *Tracker, plan []api.Run, want int) {
	t.Helper()
	after, easy, was := slices.Clone(m), 0, k.Whole()
	for h := range m.huges() {
		if m.kind(h) != 'w' {
			easy += m.count(h, 'b')
		}
	}
	for _, run := range plan {
		ok(t, "Release", k.Release(run.Start, run.Pages))
		for p := run.Start; p < run.Start+run.Pages; p++ {
			if after[p] != 'b' {
				t.Fatalf("%s: page %d is in the plan %v", m, p, plan)
			}
			after[p] = 'r'
		}
	}
	same(t, "Release", k, after.view())
	if !slices.Equal(k.Whole(), was) && easy >= want {
		t.Fatalf("%s: Plan(%d) = %v breaks what is whole", m, want, plan)
	}
}

// TestClone tests P4.7: what is done with one of two does not change the other.
func TestClone(t *testing.T) {
	m := parse("ubr - b u")
	for name, change := range map[string]func(k *Tracker) api.Errno{
		"Add":     func(k *Tracker) api.Errno { return k.Add(1) },
		"Remove":  func(k *Tracker) api.Errno { return k.Remove(2) },
		"Use":     func(k *Tracker) api.Errno { return k.Use(1, 2) },
		"Unuse":   func(k *Tracker) api.Errno { return k.Unuse(48, 16) },
		"Release": func(k *Tracker) api.Errno { return k.Release(40, 3) },
	} {
		k := built(t, m)
		c := k.Clone()
		same(t, "Clone", c, m.view())
		ok(t, name, change(c))
		same(t, name+" of the clone", k, m.view())
		c = k.Clone()
		d := c.Clone()
		ok(t, name, change(k))
		same(t, name+" of the tracker", c, m.view())
		same(t, name+" of the tracker", d, m.view())
		ok(t, name, change(d))
		same(t, name+" of both", d, look(k, len(m)))
	}
}

// TestNewMemory tests that results are new memory.
func TestNewMemory(t *testing.T) {
	m := parse("ubr b ub - bubur r")
	k := built(t, m)
	plan, _ := k.Plan(1000)
	clear(plan)
	for _, list := range [][]int{k.Idle(), k.Broken(), k.Whole()} {
		for i := range list {
			list[i] = -1
		}
	}
	same(t, "changed results", k, m.view())
	idle, broken, whole := k.Idle(), k.Broken(), k.Whole()
	plan, _ = k.Plan(17)
	ok(t, "Use", k.Use(16, 16))
	ok(t, "Unuse", k.Unuse(32, 1))
	ok(t, "Add", k.Add(3))
	if !slices.Equal(idle, []int{1, 5}) || !slices.Equal(broken, []int{0, 4}) || !slices.Equal(whole, []int{2}) {
		t.Errorf("results became %v, %v, %v", idle, broken, whole)
	}
	if !slices.Equal(plan, []api.Run{{Start: 16, Pages: 16}, {Start: 1, Pages: 1}}) {
		t.Errorf("the plan became %v", plan)
	}
}

// TestNotMade tests a Tracker that is nil, or that New or Clone did not return:
// ErrState is ahead of all other errors.
func TestNotMade(t *testing.T) {
	for name, k := range map[string]*Tracker{"nil": nil, "zero": {}} {
		for _, n := range []int{math.MinInt, -1, 0, 1, 16, math.MaxInt} {
			for _, pages := range []int{-1, 0, 1, 16, math.MaxInt} {
				fails(t, name+" Use", k.Use(n, pages), api.ErrState)
				fails(t, name+" Unuse", k.Unuse(n, pages), api.ErrState)
				fails(t, name+" Release", k.Release(n, pages), api.ErrState)
			}
			fails(t, name+" Add", k.Add(n), api.ErrState)
			fails(t, name+" Remove", k.Remove(n), api.ErrState)
			if plan, e := k.Plan(n); e != api.ErrState || len(plan) != 0 {
				t.Errorf("%s: Plan(%d) = %v, %d", name, n, plan, e)
			}
			if k.State(n) != -1 || k.Used(n) != 0 || k.Count(n) != 0 {
				t.Errorf("%s: State, Used, Count of %d: %d, %d, %d", name, n, k.State(n), k.Used(n), k.Count(n))
			}
		}
		if len(k.Idle()) != 0 || len(k.Broken()) != 0 || len(k.Whole()) != 0 {
			t.Errorf("%s: %v, %v, %v", name, k.Idle(), k.Broken(), k.Whole())
		}
		if c := k.Clone(); c != nil {
			t.Errorf("%s: Clone = %v", name, c)
		}
	}
}

// TestModel tests P4.1 to P4.7 by many calls, of which each is made on the
// model, too; some of them go on with a clone.
func TestModel(t *testing.T) {
	for seed := range 20 {
		r := rand.New(rand.NewSource(int64(seed)))
		m := random(r, 1+r.Intn(6))
		k := built(t, m)
		for range 300 {
			other, told := k.Clone(), look(k, len(m))
			start, pages, h := r.Intn(len(m)+1)-r.Intn(2), r.Intn(9), r.Intn(m.huges()+2)-1
			if r.Intn(6) == 0 {
				start, pages = 16*h, 16
			}
			var name string
			var e, want api.Errno
			switch r.Intn(9) {
			case 0, 1, 2:
				name, e, want = "Use", k.Use(start, pages), m.change(start, pages, "br", 'u')
			case 3, 4, 5:
				name, e, want = "Unuse", k.Unuse(start, pages), m.change(start, pages, "u", 'b')
			case 6:
				name, e, want = "Release", k.Release(start, pages), m.change(start, pages, "b", 'r')
			case 7:
				name, e, want = "Add", k.Add(h), m.turn(h, '-', 'r')
			case 8:
				name, e, want = "Remove", k.Remove(h), m.turn(h, 'i', '-')
			}
			fails(t, name, e, want)
			same(t, name, k, m.view())
			same(t, name+" beside a clone", other, told)
			if r.Intn(10) == 0 {
				k = k.Clone()
			}
		}
	}
}

// TestFull tests a tracker of the greatest size.
func TestFull(t *testing.T) {
	k := made(t, api.MaxPages)
	for h := range api.MaxPages / api.HugePages {
		ok(t, "Add", k.Add(h))
	}
	ok(t, "Use", k.Use(0, api.MaxPages))
	ok(t, "Unuse", k.Unuse(0, api.MaxPages))
	plan, e := k.Plan(api.MaxPages)
	if e != api.OK || len(plan) != 64 || plan[0] != (api.Run{Start: 1008, Pages: 16}) || plan[63] != (api.Run{Start: 0, Pages: 16}) {
		t.Errorf("Plan = %v, %d", plan, e)
	}
	ok(t, "Release", k.Release(0, api.MaxPages))
	if n := k.Count(3); n != api.MaxPages || len(k.Idle()) != 64 {
		t.Errorf("Count(3) = %d, Idle %v", n, k.Idle())
	}
}
