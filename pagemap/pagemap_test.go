package pagemap

import (
	"math"
	"math/rand"
	"slices"
	"testing"

	"freehold/api"
)

// greatest is the greatest number of a page.
const greatest = 1 << 30

// ok tests that a call returned no error.
func ok(t *testing.T, what string, e api.Errno) {
	t.Helper()
	if e != api.OK {
		t.Fatalf("%s: %d", what, e)
	}
}

// fails tests the error of a call.
func fails(t *testing.T, what string, e, want api.Errno) {
	t.Helper()
	if e != want {
		t.Fatalf("%s: %d, not %d", what, e, want)
	}
}

// model is a map, read to the letter: the number of each page.
type model [1024]int

// set is Set, and Clear if the number is 0.
func (x *model) set(start, pages, no int) {
	for p := start; p < start+pages; p++ {
		x[p] = no
	}
}

// with is a model with the numbers of some marks.
func with(marks ...api.Mark) *model {
	x := new(model)
	for _, k := range marks {
		x.set(k.Start, k.Pages, k.No)
	}
	return x
}

// built is a new map with the numbers of some marks, set in their order.
func built(t *testing.T, marks ...api.Mark) *Map {
	t.Helper()
	m := New()
	if m == nil {
		t.Fatal("New = nil")
	}
	for _, k := range marks {
		ok(t, "Set", m.Set(k.Start, k.Pages, k.No))
	}
	return m
}

// ends reports whether a mark ends with a page.
func (x *model) ends(page int) bool {
	return page == 1023 || x[page+1] != x[page]
}

// marks is the marks.
func (x *model) marks() []api.Mark {
	var marks []api.Mark
	start := 0
	for p, no := range x {
		if !x.ends(p) {
			continue
		}
		if no != 0 {
			marks = append(marks, api.Mark{Start: start, Pages: p - start + 1, No: no})
		}
		start = p + 1
	}
	return marks
}

// nodes is the number of middles and of leaves in which a page has a number.
func (x *model) nodes() [2]int {
	middles, leaves := map[int]bool{}, map[int]bool{}
	for p, no := range x {
		if no != 0 {
			middles[p/64], leaves[p/8] = true, true
		}
	}
	return [2]int{len(middles), len(leaves)}
}

// nextOf is what Next returns.
type nextOf struct {
	page, no int
	e        api.Errno
}

// next is Next.
func (x *model) next(page int) nextOf {
	for p, no := range x {
		if p >= page && no != 0 {
			return nextOf{p, no, api.OK}
		}
	}
	return nextOf{0, 0, api.ErrNone}
}

// view is all that a map tells of itself.
type view struct {
	numbers model
	nexts   [1026]nextOf // of the pages from -1 on
	marks   []api.Mark
	nodes   [2]int
}

// look is all that a map tells.
func look(m *Map) view {
	v := view{marks: m.Marks()}
	v.nodes[0], v.nodes[1] = m.Nodes()
	for p := range v.numbers {
		v.numbers[p] = m.Get(p)
	}
	for n := range v.nexts {
		page, no, e := m.Next(n - 1)
		v.nexts[n] = nextOf{page, no, e}
	}
	return v
}

// view is all that the model tells.
func (x *model) view() view {
	v := view{numbers: *x, marks: x.marks(), nodes: x.nodes()}
	last := nextOf{0, 0, api.ErrNone}
	for n := len(v.nexts) - 1; n >= 0; n-- {
		if p := n - 1; p >= 0 && p < 1024 && x[p] != 0 {
			last = nextOf{p, x[p], api.OK}
		}
		v.nexts[n] = last
	}
	return v
}

// same tests that a map tells what is wanted.
func same(t *testing.T, what string, m *Map, want view) {
	t.Helper()
	got := look(m)
	for p, no := range got.numbers {
		if no != want.numbers[p] {
			t.Fatalf("%s: Get(%d) = %d, not %d", what, p, no, want.numbers[p])
		}
	}
	for n, x := range got.nexts {
		if x != want.nexts[n] {
			t.Fatalf("%s: Next(%d) = %v, not %v", what, n-1, x, want.nexts[n])
		}
	}
	if !slices.Equal(got.marks, want.marks) {
		t.Fatalf("%s: Marks = %v, not %v", what, got.marks, want.marks)
	}
	if got.nodes != want.nodes {
		t.Fatalf("%s: Nodes = %v, not %v", what, got.nodes, want.nodes)
	}
}

// samples is marks of some maps: none, single pages, runs that cross from one
// leaf or middle into the next, the first and the last page, all pages, and
// pages next to each other with the same and with different numbers.
func samples() [][]api.Mark {
	return [][]api.Mark{
		{},
		{{Start: 0, Pages: 1, No: 1}},
		{{Start: 1023, Pages: 1, No: greatest}},
		{{Start: 0, Pages: 1, No: 3}, {Start: 1023, Pages: 1, No: 3}},
		{{Start: 6, Pages: 4, No: 5}},
		{{Start: 60, Pages: 8, No: 2}},
		{{Start: 7, Pages: 1, No: 4}, {Start: 8, Pages: 1, No: 9}},
		{{Start: 63, Pages: 1, No: 4}, {Start: 64, Pages: 1, No: 3}},
		{{Start: 16, Pages: 8, No: 7}, {Start: 128, Pages: 64, No: 8}},
		{{Start: 0, Pages: 1024, No: greatest}},
		{{Start: 0, Pages: 512, No: 1}, {Start: 512, Pages: 512, No: 2}},
		{{Start: 100, Pages: 200, No: 6}, {Start: 301, Pages: 3, No: 6}, {Start: 304, Pages: 700, No: 1}},
		{{Start: 10, Pages: 3, No: 1}, {Start: 13, Pages: 3, No: 2}, {Start: 16, Pages: 3, No: 1}, {Start: 20, Pages: 1, No: 1}},
	}
}

// TestNew tests a map without numbers, and that maps are not one map.
func TestNew(t *testing.T) {
	a, b := built(t), built(t)
	same(t, "New", a, new(model).view())
	ok(t, "Set", a.Set(0, 1024, 7))
	same(t, "another one", b, new(model).view())
	same(t, "a third one", built(t), new(model).view())
}

// TestExamples tests the chapter's examples, in their order.
func TestExamples(t *testing.T) {
	m := built(t)
	ok(t, "Set(6, 4, 5)", m.Set(6, 4, 5))
	if no := m.Get(9); no != 5 {
		t.Errorf("Get(9) = %d", no)
	}
	if middles, leaves := m.Nodes(); middles != 1 || leaves != 2 {
		t.Errorf("Nodes = %d, %d", middles, leaves)
	}
	if marks := m.Marks(); !slices.Equal(marks, []api.Mark{{Start: 6, Pages: 4, No: 5}}) {
		t.Errorf("Marks = %v", marks)
	}
	ok(t, "Clear(8, 2)", m.Clear(8, 2))
	if middles, leaves := m.Nodes(); middles != 1 || leaves != 1 {
		t.Errorf("Nodes = %d, %d", middles, leaves)
	}
	if page, no, e := m.Next(0); page != 6 || no != 5 || e != api.OK {
		t.Errorf("Next(0) = %d, %d, %d", page, no, e)
	}
	if page, no, e := m.Next(8); page != 0 || no != 0 || e != api.ErrNone {
		t.Errorf("Next(8) = %d, %d, %d", page, no, e)
	}
	ok(t, "Set(7, 1, 6)", m.Set(7, 1, 6))
	if marks := m.Marks(); !slices.Equal(marks, []api.Mark{{Start: 6, Pages: 1, No: 5}, {Start: 7, Pages: 1, No: 6}}) {
		t.Errorf("Marks = %v", marks)
	}
	same(t, "at the end", m, with(api.Mark{Start: 6, Pages: 1, No: 5}, api.Mark{Start: 7, Pages: 1, No: 6}).view())
}

// TestGet tests Get of pages that there are, and of others.
func TestGet(t *testing.T) {
	for _, marks := range samples() {
		same(t, "built", built(t, marks...), with(marks...).view())
	}
	m := built(t, api.Mark{Start: 0, Pages: 1024, No: 9})
	for _, page := range []int{math.MinInt, math.MinInt + 1, -1024, -64, -8, -1, 1024, 1025, 1032, 1088, 2048, 1 << 32, 1 << 62, math.MaxInt} {
		if no := m.Get(page); no != 0 {
			t.Errorf("Get(%d) = %d", page, no)
		}
	}
	for _, no := range []int{1, 2, 255, 256, 65536, greatest - 1, greatest} {
		ok(t, "Set", m.Set(500, 30, no))
		same(t, "Set", m, with(api.Mark{Start: 0, Pages: 1024, No: 9}, api.Mark{Start: 500, Pages: 30, No: no}).view())
	}
}

// places is pages at the sides of leaves and middles, the first and the last.
func places() []int {
	return []int{0, 1, 7, 8, 9, 55, 56, 63, 64, 65, 127, 128, 511, 512, 959, 960, 1015, 1016, 1022, 1023}
}

// TestRuns tests P5.1 and P5.4: Set and Clear of runs from each of some pages
// to each other one, in empty, full and mixed maps.
func TestRuns(t *testing.T) {
	for _, marks := range [][]api.Mark{
		{},
		{{Start: 0, Pages: 1024, No: 2}},
		{{Start: 0, Pages: 70, No: 2}, {Start: 400, Pages: 200, No: 1}, {Start: 1000, Pages: 24, No: 3}},
	} {
		m := built(t, marks...)
		for _, first := range places() {
			for _, last := range places() {
				if last >= first {
					runOf(t, m, first, last-first+1, marks)
				}
			}
		}
		same(t, "the map", m, with(marks...).view())
	}
}

// runOf tests Set and Clear of a run in a map with some marks.
func runOf(t *testing.T, m *Map, start, pages int, marks []api.Mark) {
	t.Helper()
	c, x := m.Clone(), with(marks...)
	ok(t, "Set", c.Set(start, pages, 1))
	x.set(start, pages, 1)
	same(t, "Set", c, x.view())
	ok(t, "Clear", c.Clear(start, pages))
	x.set(start, pages, 0)
	same(t, "Clear", c, x.view())
	ok(t, "Clear again", c.Clear(start, pages))
	same(t, "Clear again", c, x.view())
}

// TestSetAgain tests that the number that was set last is the one that counts.
func TestSetAgain(t *testing.T) {
	m := built(t, api.Mark{Start: 10, Pages: 20, No: 1})
	ok(t, "Set", m.Set(10, 20, 1))
	same(t, "the same number", m, with(api.Mark{Start: 10, Pages: 20, No: 1}).view())
	ok(t, "Set", m.Set(15, 5, 2))
	ok(t, "Set", m.Set(18, 14, 3))
	same(t, "other numbers", m, with(api.Mark{Start: 10, Pages: 5, No: 1}, api.Mark{Start: 15, Pages: 3, No: 2}, api.Mark{Start: 18, Pages: 14, No: 3}).view())
	ok(t, "Set", m.Set(15, 3, 1))
	same(t, "the first number", m, with(api.Mark{Start: 10, Pages: 8, No: 1}, api.Mark{Start: 18, Pages: 14, No: 3}).view())
	ok(t, "Clear", m.Clear(0, 1024))
	ok(t, "Set", m.Set(18, 1, 4))
	same(t, "after Clear", m, with(api.Mark{Start: 18, Pages: 1, No: 4}).view())
}

// TestClearNothing tests that clearing what has no number changes nothing.
func TestClearNothing(t *testing.T) {
	m := built(t)
	for _, r := range [][2]int{{0, 1}, {0, 1024}, {1023, 1}, {5, 100}} {
		ok(t, "Clear", m.Clear(r[0], r[1]))
		same(t, "Clear", m, new(model).view())
	}
	marks := []api.Mark{{Start: 12, Pages: 1, No: 5}, {Start: 200, Pages: 4, No: 6}}
	m = built(t, marks...)
	for _, r := range [][2]int{{0, 12}, {13, 187}, {13, 1}, {204, 820}, {8, 4}, {192, 8}} {
		ok(t, "Clear", m.Clear(r[0], r[1]))
		same(t, "Clear", m, with(marks...).view())
	}
}

// nodes tests the number of nodes.
func nodes(t *testing.T, what string, m *Map, middles, leaves int) {
	t.Helper()
	if a, b := m.Nodes(); a != middles || b != leaves {
		t.Fatalf("%s: Nodes = %d, %d, not %d, %d", what, a, b, middles, leaves)
	}
}

// TestNodes tests P5.4: nodes are there as long as they are needed.
func TestNodes(t *testing.T) {
	m := built(t)
	nodes(t, "New", m, 0, 0)
	ok(t, "Set", m.Set(0, 1024, 1))
	nodes(t, "all pages", m, 16, 128)
	ok(t, "Clear", m.Clear(1, 1023))
	nodes(t, "the first page", m, 1, 1)
	ok(t, "Set", m.Set(1023, 1, 1))
	nodes(t, "two pages", m, 2, 2)
	ok(t, "Clear", m.Clear(0, 1))
	nodes(t, "the last page", m, 1, 1)
	ok(t, "Clear", m.Clear(1023, 1))
	nodes(t, "none", m, 0, 0)
	ok(t, "Set", m.Set(7, 2, 1))
	nodes(t, "two leaves", m, 1, 2)
	ok(t, "Set", m.Set(63, 2, 1))
	nodes(t, "two middles", m, 2, 4)
	ok(t, "Clear", m.Clear(0, 63))
	nodes(t, "two middles", m, 2, 2)
	for page := 1023; page >= 0; page-- {
		ok(t, "Set", m.Set(page, 1, page+1))
	}
	nodes(t, "all pages", m, 16, 128)
	for page := range 1024 {
		ok(t, "Clear", m.Clear(page, 1))
		after := 1023 - page // pages that still have numbers
		nodes(t, "page by page", m, (after+63)/64, (after+7)/8)
	}
}

// TestMarks tests P5.2: the marks are maximal, cover exactly the pages with
// numbers, and make the same map again, in their order and in the opposite one.
func TestMarks(t *testing.T) {
	for _, marks := range samples() {
		m := built(t, marks...)
		got := m.Marks()
		for n, k := range got {
			if n > 0 && got[n-1].Start+got[n-1].Pages == k.Start && got[n-1].No == k.No {
				t.Errorf("Marks = %v", got)
			}
		}
		if *with(got...) != *with(marks...) {
			t.Errorf("Marks = %v, of %v", got, marks)
		}
		again := built(t, got...)
		same(t, "made again", again, look(m))
		if !Same(m, again) {
			t.Errorf("not the same: %v", got)
		}
		slices.Reverse(got)
		same(t, "made again", built(t, got...), look(m))
	}
}

// TestMarksJoined tests that runs that are next to each other are in one mark
// if they have the same number, whatever nodes they are in.
func TestMarksJoined(t *testing.T) {
	for _, edge := range []int{5, 8, 64, 512} {
		m := built(t, api.Mark{Start: edge - 2, Pages: 2, No: 4}, api.Mark{Start: edge, Pages: 3, No: 4})
		same(t, "the same number", m, with(api.Mark{Start: edge - 2, Pages: 5, No: 4}).view())
		if marks := m.Marks(); len(marks) != 1 {
			t.Errorf("Marks = %v", marks)
		}
		ok(t, "Set", m.Set(edge, 3, 5))
		if marks := m.Marks(); !slices.Equal(marks, []api.Mark{{Start: edge - 2, Pages: 2, No: 4}, {Start: edge, Pages: 3, No: 5}}) {
			t.Errorf("Marks = %v", marks)
		}
		ok(t, "Clear", m.Clear(edge, 1))
		ok(t, "Set", m.Set(edge+1, 2, 4))
		if marks := m.Marks(); !slices.Equal(marks, []api.Mark{{Start: edge - 2, Pages: 2, No: 4}, {Start: edge + 1, Pages: 2, No: 4}}) {
			t.Errorf("Marks = %v", marks)
		}
	}
}

// TestNext tests P5.3, also of pages that there are not.
func TestNext(t *testing.T) {
	for _, marks := range samples() {
		m, x := built(t, marks...), with(marks...)
		for _, page := range []int{math.MinInt, math.MinInt + 1, -1024, -65, -64, -63, -9, -8, -7, -1, 0, 1023, 1024, 1025, 1088, 2048, 1 << 40, 1 << 62, math.MaxInt - 1, math.MaxInt} {
			at, no, e := m.Next(page)
			if got, want := (nextOf{at, no, e}), x.next(page); got != want {
				t.Errorf("%v: Next(%d) = %v, not %v", marks, page, got, want)
			}
		}
		var visited model
		at, no, e := m.Next(0)
		for steps := 0; e == api.OK && steps < 1024; steps++ {
			visited[at] = no
			at, no, e = m.Next(at + 1)
		}
		if visited != *x || e != api.ErrNone {
			t.Errorf("%v: visited %v, %d", marks, visited, e)
		}
	}
}

// badRuns is runs that are not within the pages.
func badRuns() [][2]int {
	return [][2]int{
		{-1, 1}, {-1, 2}, {-8, 8}, {-8, 16}, {-1024, 1024}, {0, 0}, {1, 0}, {1, -1}, {9, -8}, {1024, 0}, {1024, -1}, {0, 1025}, {1, 1024}, {1023, 2}, {1000, 25}, {1024, 1}, {1025, 1}, {2048, 8},
		{math.MinInt, 1}, {1, math.MinInt}, {1, math.MaxInt}, {0, math.MaxInt}, {math.MaxInt, 1}, {math.MaxInt, math.MaxInt}, {math.MinInt, math.MinInt},
		{-1, math.MaxInt}, {math.MinInt, math.MaxInt}, {math.MaxInt, 2}, {1023, math.MaxInt - 1022}, {1 << 62, 1 << 62},
	}
}

// badNumbers is numbers that no page can have.
func badNumbers() []int {
	return []int{0, -1, -5, greatest + 1, greatest + 5, 1 << 31, 1 << 32, 1<<32 + 1, 1<<62 + 5, math.MaxInt, math.MinInt, math.MinInt + 5, -greatest}
}

// TestRefused tests the error of Set and Clear, and P5.5.
func TestRefused(t *testing.T) {
	for _, marks := range samples() {
		m := built(t, marks...)
		before := look(m)
		for _, r := range badRuns() {
			fails(t, "Clear", m.Clear(r[0], r[1]), api.ErrArg)
			for _, no := range append(badNumbers(), 1, 5, greatest) {
				fails(t, "Set", m.Set(r[0], r[1], no), api.ErrArg)
			}
		}
		for _, no := range badNumbers() {
			for _, r := range [][2]int{{0, 1}, {0, 1024}, {1023, 1}, {6, 4}, {60, 8}} {
				fails(t, "Set", m.Set(r[0], r[1], no), api.ErrArg)
			}
		}
		same(t, "refused", m, before)
		if !Same(m, built(t, marks...)) {
			t.Errorf("%v: changed", marks)
		}
	}
}

// TestGreatest tests the greatest runs and numbers that are not refused.
func TestGreatest(t *testing.T) {
	for _, start := range places() {
		m := built(t)
		ok(t, "Set", m.Set(start, 1024-start, greatest))
		same(t, "Set", m, with(api.Mark{Start: start, Pages: 1024 - start, No: greatest}).view())
		fails(t, "Set", m.Set(start, 1025-start, greatest), api.ErrArg)
		fails(t, "Set", m.Set(start, 1024-start, greatest+1), api.ErrArg)
		fails(t, "Clear", m.Clear(start, 1025-start), api.ErrArg)
		ok(t, "Clear", m.Clear(start, 1024-start))
		same(t, "Clear", m, new(model).view())
	}
}

// TestClone tests P5.6 and R8: a clone is in the same state, and neither
// changes the other, whatever nodes they change.
func TestClone(t *testing.T) {
	for _, marks := range samples() {
		m := built(t, marks...)
		before := look(m)
		c := m.Clone()
		same(t, "the clone", c, before)
		same(t, "the map", m, before)
		if !Same(m, c) || !Same(c, m) {
			t.Errorf("%v: not the same as its clone", marks)
		}
		for _, page := range places() {
			ok(t, "Set", c.Set(page, 1, page+77))
		}
		same(t, "the map", m, before)
		ok(t, "Clear", c.Clear(0, 1024))
		same(t, "the map", m, before)
		c = m.Clone()
		for _, page := range places() {
			ok(t, "Set", m.Set(page, 1, page+77))
		}
		same(t, "the clone", c, before)
		ok(t, "Clear", m.Clear(0, 1024))
		same(t, "the clone", c, before)
		same(t, "a clone of the clone", c.Clone(), before)
	}
}

// TestNewMemory tests that results share no memory with the map, or with one
// another (R5).
func TestNewMemory(t *testing.T) {
	marks := samples()[12]
	m := built(t, marks...)
	before := look(m)
	a, b := m.Marks(), m.Marks()
	for n := range a {
		a[n] = api.Mark{Start: -1, Pages: -1, No: -1}
	}
	if !slices.Equal(b, marks) {
		t.Errorf("Marks = %v", b)
	}
	_ = append(b[:0], api.Mark{})
	same(t, "Marks", m, before)
}

// TestSame tests Same of maps that were set and cleared in other orders, and of
// maps that differ in one number only.
func TestSame(t *testing.T) {
	for i, x := range samples() {
		for j, y := range samples() {
			if got, want := Same(built(t, x...), built(t, y...)), *with(x...) == *with(y...); got != want || want != (i == j) {
				t.Errorf("Same of %v and %v: %v", x, y, got)
			}
		}
	}
	a := built(t, api.Mark{Start: 20, Pages: 60, No: 3})
	b := built(t)
	ok(t, "Set", b.Set(0, 1024, 4))
	for page := 79; page >= 20; page-- {
		ok(t, "Set", b.Set(page, 1, 3))
	}
	if Same(a, b) || Same(b, a) {
		t.Error("the same before Clear")
	}
	ok(t, "Clear", b.Clear(80, 944))
	ok(t, "Clear", b.Clear(0, 20))
	if !Same(a, b) || !Same(b, a) || !Same(a, a) {
		t.Error("not the same after Clear")
	}
	for page := range 1024 {
		c, was := a.Clone(), a.Get(page)
		ok(t, "Set", c.Set(page, 1, 5))
		if Same(a, c) || Same(c, a) {
			t.Fatalf("the same, but for page %d", page)
		}
		if was == 0 {
			ok(t, "Clear", c.Clear(page, 1))
		} else {
			ok(t, "Set", c.Set(page, 1, was))
		}
		if !Same(a, c) || !Same(c, a) {
			t.Fatalf("not the same with page %d as it was", page)
		}
	}
	same(t, "Same", a, with(api.Mark{Start: 20, Pages: 60, No: 3}).view())
}

// TestNotMade tests a map that is nil, and one that no function returned (R1).
func TestNotMade(t *testing.T) {
	for name, m := range map[string]*Map{"nil": nil, "zero": {}} {
		for range 2 { // nothing that was refused makes it a map
			fails(t, name, m.Set(0, 1, 1), api.ErrState)
			fails(t, name, m.Set(-1, 0, 0), api.ErrState)
			fails(t, name, m.Clear(0, 1), api.ErrState)
			fails(t, name, m.Clear(1024, 1), api.ErrState)
			for _, p := range []int{-1, 0, 1023, 1024} {
				if page, no, e := m.Next(p); page != 0 || no != 0 || e != api.ErrState {
					t.Errorf("%s: Next = %d, %d, %d", name, page, no, e)
				}
				if no := m.Get(p); no != 0 {
					t.Errorf("%s: Get = %d", name, no)
				}
			}
			if marks := m.Marks(); len(marks) != 0 {
				t.Errorf("%s: Marks = %v", name, marks)
			}
			nodes(t, name, m, 0, 0)
			if c := m.Clone(); c != nil {
				t.Errorf("%s: Clone = %v", name, c)
			}
		}
	}
}

// TestSameNotMade tests Same of maps that nobody made: they give no numbers.
func TestSameNotMade(t *testing.T) {
	some := built(t, api.Mark{Start: 3, Pages: 1, No: 1})
	cleared := some.Clone()
	ok(t, "Clear", cleared.Clear(3, 1))
	for _, a := range []*Map{nil, {}, built(t), cleared} {
		for _, b := range []*Map{nil, {}, built(t), cleared} {
			if !Same(a, b) {
				t.Errorf("Same of %v and %v: false", a, b)
			}
		}
		if Same(a, some) || Same(some, a) {
			t.Errorf("Same of %v and a map with a number: true", a)
		}
	}
}

// run is a random run, often one with an end at a side of a leaf or a middle,
// sometimes one that is not within the pages.
func run(r *rand.Rand) (int, int) {
	start, pages := r.Intn(1026)-1, r.Intn(12)
	if r.Intn(3) == 0 {
		start &^= 7
	}
	switch r.Intn(4) {
	case 0:
		pages = 8 * r.Intn(20)
	case 1:
		pages = r.Intn(1030 - max(start, 0))
	}
	return start, pages
}

// TestMany compares many calls with the model.
func TestMany(t *testing.T) {
	for seed := range 30 {
		r := rand.New(rand.NewSource(int64(seed)))
		m, x := built(t), new(model)
		for range 60 {
			start, pages := run(r)
			no := r.Intn(4)
			want := api.OK
			if start < 0 || pages < 1 || start+pages > 1024 {
				want = api.ErrArg
			} else {
				x.set(start, pages, no)
			}
			if no == 0 {
				fails(t, "Clear", m.Clear(start, pages), want)
			} else {
				fails(t, "Set", m.Set(start, pages, no), want)
			}
			same(t, "many calls", m, x.view())
			if !Same(m, built(t, x.marks()...)) {
				t.Fatal("not the same as the map of its marks")
			}
			if r.Intn(5) == 0 {
				m = m.Clone()
			}
		}
	}
}
