package buddy

import (
	"math"
	"math/rand"
	"slices"
	"testing"

	"freehold/api"
)

// made is a new heap.
func made(t *testing.T, pages int) *Heap {
	t.Helper()
	h, e := New(pages)
	if e != api.OK || h == nil {
		t.Fatalf("New(%d) = %v, %d", pages, h, e)
	}
	return h
}

// ok tests that a call returned no error.
func ok(t *testing.T, what string, e api.Errno) {
	t.Helper()
	if e != api.OK {
		t.Fatalf("%s: %d", what, e)
	}
}

// given is a new heap to which some runs were given.
func given(t *testing.T, pages int, runs ...api.Run) *Heap {
	t.Helper()
	h := made(t, pages)
	for _, r := range runs {
		ok(t, "Give", h.Give(r.Start, r.Pages))
	}
	return h
}

// taken tests the first page that Take returns.
func taken(t *testing.T, h *Heap, pages, align, want int) {
	t.Helper()
	if start, e := h.Take(pages, align); e != api.OK || start != want {
		t.Fatalf("Take(%d, %d) = %d, %d, not %d", pages, align, start, e, want)
	}
}

// full tests that Take returns ErrFull.
func full(t *testing.T, h *Heap, pages, align int) {
	t.Helper()
	if start, e := h.Take(pages, align); e != api.ErrFull || start != 0 {
		t.Fatalf("Take(%d, %d) = %d, %d", pages, align, start, e)
	}
}

// blocks tests the free blocks of all orders, from 0 on.
func blocks(t *testing.T, h *Heap, want ...[]int) {
	t.Helper()
	for order := range 13 {
		var list []int
		if order < len(want) {
			list = want[order]
		}
		if got := h.Blocks(order); !slices.Equal(got, list) {
			t.Fatalf("Blocks(%d) = %v, not %v", order, got, list)
		}
	}
}

// model is a heap, read to the letter: whether each page is free.
type model []bool

// fits reports whether a run is within the pages.
func (m model) fits(start, pages int) bool {
	return start >= 0 && pages >= 1 && start+pages <= len(m)
}

// all reports whether all pages of a run are free, or none is.
func (m model) all(start, pages int, free bool) bool {
	return !slices.Contains(m[start:start+pages], !free)
}

// set lets the pages of a run be free, or not.
func (m model) set(start, pages int, free bool) {
	for p := range pages {
		m[start+p] = free
	}
}

// freePlace reports whether a page is the start of a place of an order all of
// whose pages are free.
func (m model) freePlace(start, order int) bool {
	return start%(1<<order) == 0 && m.fits(start, 1<<order) && m.all(start, 1<<order, true)
}

// blocks is the starts of the free blocks of an order.
func (m model) blocks(order int) []int {
	var list []int
	for p := range m {
		if m.freePlace(p, order) && !m.freePlace(p>>(order+1)<<(order+1), order+1) {
			list = append(list, p)
		}
	}
	return list
}

// choose is the order and the start of the block from which pages are taken.
func (m model) choose(pages, align int) (int, int, bool) {
	order := 0
	for 1<<order < pages || 1<<order < align {
		order++
	}
	for ; order <= 10; order++ {
		if list := m.blocks(order); len(list) > 0 {
			return order, list[0], true
		}
	}
	return 0, 0, false
}

// give is Give.
func (m model) give(start, pages int) api.Errno {
	if !m.fits(start, pages) {
		return api.ErrArg
	}
	if !m.all(start, pages, false) {
		return api.ErrTwice
	}
	m.set(start, pages, true)
	return api.OK
}

// take is Take, of arguments that are in their ranges.
func (m model) take(pages, align int) (int, api.Errno) {
	_, start, there := m.choose(pages, align)
	if !there {
		return 0, api.ErrFull
	}
	m.set(start, pages, false)
	return start, api.OK
}

// takeRun is TakeRun.
func (m model) takeRun(start, pages int) api.Errno {
	if !m.fits(start, pages) {
		return api.ErrArg
	}
	if !m.all(start, pages, true) {
		return api.ErrNone
	}
	m.set(start, pages, false)
	return api.OK
}

// view is all that a heap tells of itself.
type view struct {
	free   []bool
	count  int
	runs   []api.Run
	blocks [13][]int
	order  int
}

// look is all that a heap of so many pages tells.
func look(h *Heap, pages int) view {
	v := view{count: h.Free(), runs: h.Runs(), order: h.Order()}
	for p := range pages {
		v.free = append(v.free, h.IsFree(p))
	}
	for order := range v.blocks {
		v.blocks[order] = h.Blocks(order)
	}
	return v
}

// view is all that the model tells.
func (m model) view() view {
	v := view{free: slices.Clone(m), order: -1}
	for p, free := range m {
		if !free {
			continue
		}
		v.count++
		if p > 0 && m[p-1] {
			v.runs[len(v.runs)-1].Pages++
		} else {
			v.runs = append(v.runs, api.Run{Start: p, Pages: 1})
		}
	}
	for order := range v.blocks {
		v.blocks[order] = m.blocks(order)
		if len(v.blocks[order]) > 0 {
			v.order = order
		}
	}
	return v
}

// same tests that a heap tells what is wanted.
func same(t *testing.T, what string, h *Heap, want view) {
	t.Helper()
	got := look(h, len(want.free))
	if !slices.Equal(got.free, want.free) || got.count != want.count || got.order != want.order {
		t.Fatalf("%s: free %v, Free %d, Order %d, not %v, %d, %d", what, got.free, got.count, got.order, want.free, want.count, want.order)
	}
	if !slices.Equal(got.runs, want.runs) {
		t.Fatalf("%s: Runs = %v, not %v", what, got.runs, want.runs)
	}
	for order, list := range got.blocks {
		if !slices.Equal(list, want.blocks[order]) {
			t.Fatalf("%s: Blocks(%d) = %v, not %v", what, order, list, want.blocks[order])
		}
	}
}

// built is a heap whose free pages are those of a model, given one by one.
func built(t *testing.T, m model) *Heap {
	t.Helper()
	h := made(t, len(m))
	for p, free := range m {
		if free {
			ok(t, "Give", h.Give(p, 1))
		}
	}
	return h
}

// subsets is all models of so many pages.
func subsets(pages int) []model {
	var list []model
	for set := range 1 << pages {
		m := make(model, pages)
		for p := range m {
			m[p] = set>>p&1 == 1
		}
		list = append(list, m)
	}
	return list
}

func TestNew(t *testing.T) {
	for _, pages := range []int{1, 2, 3, 1023, 1024} {
		h := made(t, pages)
		same(t, "New", h, make(model, pages).view())
		if h.Order() != -1 || h.Free() != 0 || len(h.Runs()) != 0 {
			t.Errorf("New(%d): Order %d, Free %d, Runs %v", pages, h.Order(), h.Free(), h.Runs())
		}
		full(t, h, 1, 1)
		ok(t, "Give", h.Give(pages-1, 1))
	}
	for _, pages := range []int{math.MinInt, -1, 0, 1025, math.MaxInt} {
		if h, e := New(pages); h != nil || e != api.ErrArg {
			t.Errorf("New(%d) = %v, %d", pages, h, e)
		}
	}
}

// TestExamples tests the chapter's examples, in their order.
func TestExamples(t *testing.T) {
	h := given(t, 16, api.Run{Start: 0, Pages: 16})
	blocks(t, h, nil, nil, nil, nil, []int{0})
	taken(t, h, 3, 1, 0)
	blocks(t, h, []int{3}, nil, []int{4}, []int{8})
	taken(t, h, 2, 4, 4)
	blocks(t, h, []int{3}, []int{6}, nil, []int{8})
	taken(t, h, 1, 1, 3)
	blocks(t, h, nil, []int{6}, nil, []int{8})
	ok(t, "Give(4, 2)", h.Give(4, 2))
	blocks(t, h, nil, nil, []int{4}, []int{8})
	if e := h.Give(4, 1); e != api.ErrTwice {
		t.Errorf("Give(4, 1): %d", e)
	}
	blocks(t, h, nil, nil, []int{4}, []int{8})
}

// badRuns is runs that are not within a heap of 12 pages.
func badRuns() [][2]int {
	return [][2]int{
		{-1, 1}, {-1, 2}, {-12, 12}, {0, 0}, {1, 0}, {1, -1}, {4, -2}, {0, 13}, {1, 12}, {11, 2}, {12, 1}, {12, 0}, {13, 1}, {16, 1}, {0, 16},
		{math.MinInt, 1}, {1, math.MinInt}, {1, math.MaxInt}, {math.MaxInt, 1}, {math.MaxInt, math.MaxInt}, {math.MinInt, math.MinInt},
		{-1, math.MaxInt}, {math.MinInt, math.MaxInt}, {math.MaxInt, 2},
	}
}

// gaps is a heap of 12 pages of which 0, 3 and 8 are not free.
func gaps(t *testing.T) *Heap {
	t.Helper()
	return given(t, 12, api.Run{Start: 1, Pages: 2}, api.Run{Start: 4, Pages: 4}, api.Run{Start: 9, Pages: 3})
}

// TestRunErrors tests the errors of Give and TakeRun, and P3.6 of them.
func TestRunErrors(t *testing.T) {
	h := gaps(t)
	before := look(h, 12)
	for _, r := range badRuns() {
		if e := h.Give(r[0], r[1]); e != api.ErrArg {
			t.Errorf("Give(%d, %d): %d", r[0], r[1], e)
		}
		if e := h.TakeRun(r[0], r[1]); e != api.ErrArg {
			t.Errorf("TakeRun(%d, %d): %d", r[0], r[1], e)
		}
	}
	same(t, "ErrArg", h, before)
	for _, r := range [][2]int{{1, 1}, {2, 1}, {0, 2}, {2, 2}, {3, 2}, {4, 4}, {7, 2}, {8, 2}, {11, 1}, {9, 3}, {0, 12}} {
		if e := h.Give(r[0], r[1]); e != api.ErrTwice {
			t.Errorf("Give(%d, %d): %d", r[0], r[1], e)
		}
	}
	for _, r := range [][2]int{{0, 1}, {3, 1}, {8, 1}, {0, 2}, {1, 3}, {2, 2}, {3, 2}, {4, 5}, {7, 2}, {8, 2}, {8, 4}, {0, 12}, {1, 11}} {
		if e := h.TakeRun(r[0], r[1]); e != api.ErrNone {
			t.Errorf("TakeRun(%d, %d): %d", r[0], r[1], e)
		}
	}
	same(t, "ErrTwice and ErrNone", h, before)
}

// TestTakeArg tests the first error of Take, also where nothing is free, and
// P3.6 of it.
func TestTakeArg(t *testing.T) {
	for _, h := range []*Heap{gaps(t), made(t, 12), given(t, 1024, api.Run{Start: 0, Pages: 1024})} {
		before := look(h, 1024)
		for _, pages := range []int{math.MinInt, -1, 0, 1025, 2048, math.MaxInt} {
			for _, align := range []int{1, 4, 1024, 0, 3} {
				if start, e := h.Take(pages, align); e != api.ErrArg || start != 0 {
					t.Errorf("Take(%d, %d) = %d, %d", pages, align, start, e)
				}
			}
		}
		for _, align := range []int{math.MinInt, -4, -1, 0, 3, 5, 6, 7, 12, 1023, 1025, 1536, 2048, 1 << 62, math.MaxInt} {
			for _, pages := range []int{1, 4, 1024} {
				if start, e := h.Take(pages, align); e != api.ErrArg || start != 0 {
					t.Errorf("Take(%d, %d) = %d, %d", pages, align, start, e)
				}
			}
		}
		same(t, "ErrArg", h, before)
	}
}

// TestTakeFull tests the second error of Take, and P3.6 of it: there are enough
// free pages, but no free block is large enough.
func TestTakeFull(t *testing.T) {
	h := gaps(t)
	before := look(h, 12)
	for _, x := range [][2]int{{5, 1}, {8, 1}, {1, 8}, {4, 8}, {12, 1}, {13, 1}, {1024, 1}, {1, 1024}, {1024, 1024}} {
		full(t, h, x[0], x[1])
	}
	same(t, "ErrFull", h, before)
	h = given(t, 8, api.Run{Start: 1, Pages: 6})
	before = look(h, 8)
	for _, x := range [][2]int{{3, 1}, {4, 1}, {6, 1}, {1, 4}, {2, 4}} {
		full(t, h, x[0], x[1])
	}
	same(t, "ErrFull", h, before)
}

// TestEnd tests places that would end behind the pages of the heap.
func TestEnd(t *testing.T) {
	h := given(t, 6, api.Run{Start: 0, Pages: 6})
	blocks(t, h, nil, []int{4}, []int{0})
	full(t, h, 5, 1)
	full(t, h, 6, 1)
	full(t, h, 1, 8)
	taken(t, h, 2, 1, 4)
	taken(t, h, 4, 1, 0)
	h = given(t, 7, api.Run{Start: 4, Pages: 3})
	blocks(t, h, []int{6}, []int{4})
	full(t, h, 3, 1)
	h = given(t, 1, api.Run{Start: 0, Pages: 1})
	blocks(t, h, []int{0})
	full(t, h, 2, 1)
	full(t, h, 1, 2)
	taken(t, h, 1, 1, 0)
	h = given(t, 1023, api.Run{Start: 0, Pages: 1023})
	blocks(t, h, []int{1022}, []int{1020}, []int{1016}, []int{1008}, []int{992}, []int{960}, []int{896}, []int{768}, []int{512}, []int{0})
	full(t, h, 513, 1)
	full(t, h, 1, 1024)
	taken(t, h, 512, 512, 0)
}

// TestWhole tests the greatest heap, its greatest runs and its greatest
// alignment.
func TestWhole(t *testing.T) {
	h := given(t, 1024, api.Run{Start: 0, Pages: 1024})
	blocks(t, h, nil, nil, nil, nil, nil, nil, nil, nil, nil, nil, []int{0})
	if h.Order() != 10 || h.Free() != 1024 || !slices.Equal(h.Runs(), []api.Run{{Start: 0, Pages: 1024}}) {
		t.Errorf("Order %d, Free %d, Runs %v", h.Order(), h.Free(), h.Runs())
	}
	taken(t, h, 1024, 1024, 0)
	full(t, h, 1, 1)
	ok(t, "Give", h.Give(0, 1024))
	taken(t, h, 1, 1024, 0)
	blocks(t, h, []int{1}, []int{2}, []int{4}, []int{8}, []int{16}, []int{32}, []int{64}, []int{128}, []int{256}, []int{512})
	full(t, h, 1, 1024)
	ok(t, "TakeRun", h.TakeRun(1, 1023))
	same(t, "TakeRun", h, make(model, 1024).view())
}

// TestAlign tests alignments that are greater than the number of pages, and
// numbers of pages that are no powers of two.
func TestAlign(t *testing.T) {
	h := given(t, 32, api.Run{Start: 1, Pages: 31})
	blocks(t, h, []int{1}, []int{2}, []int{4}, []int{8}, []int{16})
	taken(t, h, 1, 8, 8)
	blocks(t, h, []int{1, 9}, []int{2, 10}, []int{4, 12}, nil, []int{16})
	taken(t, h, 3, 1, 4)
	blocks(t, h, []int{1, 7, 9}, []int{2, 10}, []int{12}, nil, []int{16})
	taken(t, h, 3, 8, 16)
	blocks(t, h, []int{1, 7, 9, 19}, []int{2, 10}, []int{12, 20}, []int{24})
	taken(t, h, 5, 1, 24)
	blocks(t, h, []int{1, 7, 9, 19, 29}, []int{2, 10, 30}, []int{12, 20})
	taken(t, h, 2, 4, 12)
	blocks(t, h, []int{1, 7, 9, 19, 29}, []int{2, 10, 14, 30}, []int{20})
	taken(t, h, 1, 2, 2)
	blocks(t, h, []int{1, 3, 7, 9, 19, 29}, []int{10, 14, 30}, []int{20})
}

// TestRun tests runs that are taken out of several blocks, or out of the middle
// of one.
func TestRun(t *testing.T) {
	h := given(t, 16, api.Run{Start: 0, Pages: 16})
	ok(t, "TakeRun(5, 6)", h.TakeRun(5, 6))
	blocks(t, h, []int{4, 11}, nil, []int{0, 12})
	if !slices.Equal(h.Runs(), []api.Run{{Start: 0, Pages: 5}, {Start: 11, Pages: 5}}) || h.Free() != 10 || h.Order() != 2 {
		t.Errorf("Runs %v, Free %d, Order %d", h.Runs(), h.Free(), h.Order())
	}
	ok(t, "TakeRun(3, 2)", h.TakeRun(3, 2))
	blocks(t, h, []int{2, 11}, []int{0}, []int{12})
	ok(t, "TakeRun(11, 5)", h.TakeRun(11, 5))
	blocks(t, h, []int{2}, []int{0})
	ok(t, "Give(3, 13)", h.Give(3, 13))
	blocks(t, h, nil, nil, nil, nil, []int{0})
}

// TestOrders tests Blocks of orders that no block can have.
func TestOrders(t *testing.T) {
	for _, h := range []*Heap{gaps(t), made(t, 1), given(t, 1024, api.Run{Start: 0, Pages: 1024})} {
		for _, order := range []int{math.MinInt, -64, -1, 11, 12, 62, 63, 64, 65, 1024, math.MaxInt} {
			if list := h.Blocks(order); len(list) != 0 {
				t.Errorf("Blocks(%d) = %v", order, list)
			}
		}
	}
	for order := 4; order <= 11; order++ {
		if list := gaps(t).Blocks(order); len(list) != 0 {
			t.Errorf("Blocks(%d) = %v", order, list)
		}
	}
}

// TestIsFree tests pages that the heap does not have.
func TestIsFree(t *testing.T) {
	for _, h := range []*Heap{given(t, 12, api.Run{Start: 0, Pages: 12}), given(t, 1024, api.Run{Start: 0, Pages: 1024})} {
		for _, page := range []int{math.MinInt, -1024, -16, -8, -1, 1024, 1025, 2048, math.MaxInt} {
			if h.IsFree(page) {
				t.Errorf("IsFree(%d)", page)
			}
		}
	}
	h := given(t, 12, api.Run{Start: 0, Pages: 12})
	for page := 12; page <= 20; page++ {
		if h.IsFree(page) || !h.IsFree(page-9) {
			t.Errorf("IsFree(%d), or not IsFree(%d)", page, page-9)
		}
	}
}

// TestNobody tests a Heap that is nil, or that New and Clone did not return:
// its error comes ahead of all others.
func TestNobody(t *testing.T) {
	for _, h := range []*Heap{nil, {}, new(Heap)} {
		for _, x := range []int{0, 1, -1, 4, 1024, 1025, math.MinInt, math.MaxInt} {
			for _, y := range []int{0, 1, -1, 3, 1024, 1025, math.MinInt, math.MaxInt} {
				start, e := h.Take(x, y)
				if f, g := h.Give(x, y), h.TakeRun(x, y); start != 0 || e != api.ErrState || f != api.ErrState || g != api.ErrState {
					t.Fatalf("%d, %d: Take %d, %d, Give %d, TakeRun %d", x, y, start, e, f, g)
				}
			}
			if h.IsFree(x) || len(h.Blocks(x)) != 0 {
				t.Errorf("IsFree(%d) = %v, Blocks = %v", x, h.IsFree(x), h.Blocks(x))
			}
		}
		if h.Order() != -1 || h.Free() != 0 || len(h.Runs()) != 0 || h.Clone() != nil {
			t.Errorf("Order %d, Free %d, Runs %v, Clone %v", h.Order(), h.Free(), h.Runs(), h.Clone())
		}
	}
}

// TestBlocks tests P3.1 for all free pages of small heaps: the blocks are those
// of the definition, cover the free pages, and no two are halves of a place.
func TestBlocks(t *testing.T) {
	for pages := 1; pages <= 10; pages++ {
		for _, m := range subsets(pages) {
			h := built(t, m)
			same(t, "Give", h, m.view())
			cover := make([]int, pages)
			for order := range 11 {
				list := h.Blocks(order)
				for _, start := range list {
					for p := start; p < start+1<<order; p++ {
						cover[p]++
					}
					if start%(2<<order) == 0 && start+2<<order <= pages && slices.Contains(list, start+1<<order) {
						t.Fatalf("Blocks(%d) = %v", order, list)
					}
				}
			}
			for p, free := range m {
				if free && cover[p] != 1 || !free && cover[p] != 0 {
					t.Fatalf("page %d is in %d blocks of %v", p, cover[p], m)
				}
			}
		}
	}
}

// splits is the order of the block that a page was in before it was taken.
func splits(h *Heap, page int) int {
	for order := range 11 {
		if slices.Contains(h.Blocks(order), page>>order<<order) {
			return order
		}
	}
	return -1
}

// TestTaken tests P3.2, P3.3 and P3.5 for all free pages of small heaps, and
// what is left of the block.
func TestTaken(t *testing.T) {
	for pages := 1; pages <= 9; pages++ {
		for _, m := range subsets(pages) {
			h := built(t, m)
			before := m.view()
			for n := 1; n <= 10; n++ {
				for _, align := range []int{1, 2, 4, 8, 16} {
					order, want, there := m.choose(n, align)
					c := h.Clone()
					start, e := c.Take(n, align)
					if !there {
						if e != api.ErrFull || start != 0 {
							t.Fatalf("%v: Take(%d, %d) = %d, %d", m, n, align, start, e)
						}
						same(t, "ErrFull", c, before)
						continue
					}
					if e != api.OK || start != want || splits(h, start) != order {
						t.Fatalf("%v: Take(%d, %d) = %d, %d, not %d", m, n, align, start, e, want)
					}
					least := 1
					for least < n {
						least *= 2
					}
					if start%align != 0 || start%least != 0 || !m.all(start, n, true) {
						t.Fatalf("%v: Take(%d, %d) = %d", m, n, align, start)
					}
					rest := slices.Clone(m)
					rest.set(start, n, false)
					same(t, "Take", c, rest.view())
					ok(t, "Give", c.Give(start, n))
					same(t, "given back", c, before)
				}
			}
		}
	}
}

// TestGiveTakeRun tests Give and TakeRun of all runs, for all free pages of
// small heaps.
func TestGiveTakeRun(t *testing.T) {
	for _, pages := range []int{1, 2, 5, 7, 8} {
		for _, m := range subsets(pages) {
			h := built(t, m)
			for start := -1; start <= pages; start++ {
				for n := 0; n <= pages+1; n++ {
					c, d := h.Clone(), h.Clone()
					gave, took := slices.Clone(m), slices.Clone(m)
					if e, want := c.Give(start, n), gave.give(start, n); e != want {
						t.Fatalf("%v: Give(%d, %d): %d, not %d", m, start, n, e, want)
					}
					if e, want := d.TakeRun(start, n), took.takeRun(start, n); e != want {
						t.Fatalf("%v: TakeRun(%d, %d): %d, not %d", m, start, n, e, want)
					}
					same(t, "Give", c, gave.view())
					same(t, "TakeRun", d, took.view())
				}
			}
		}
	}
}

// mixed is a heap whose free pages are those of a model, left by Gives and
// Takes in a random order.
func mixed(t *testing.T, r *rand.Rand, m model) *Heap {
	t.Helper()
	h := made(t, len(m))
	if r.Intn(2) == 0 {
		ok(t, "Give", h.Give(0, len(m)))
		for {
			if _, e := h.Take(1+r.Intn(3), 1); e != api.OK {
				break
			}
		}
	}
	for range 3 {
		for _, p := range r.Perm(len(m)) {
			if !h.IsFree(p) {
				ok(t, "Give", h.Give(p, 1))
			} else if r.Intn(2) == 0 {
				ok(t, "TakeRun", h.TakeRun(p, 1))
			}
		}
	}
	for _, p := range r.Perm(len(m)) {
		if m[p] && !h.IsFree(p) {
			ok(t, "Give", h.Give(p, 1))
		}
		if !m[p] && h.IsFree(p) {
			ok(t, "TakeRun", h.TakeRun(p, 1))
		}
	}
	return h
}

// TestOrder tests P3.4: the same free pages are the same heap, whose next Takes
// return the same, too.
func TestOrder(t *testing.T) {
	r := rand.New(rand.NewSource(1))
	for range 100 {
		m := make(model, 1+r.Intn(70))
		for p := range m {
			m[p] = r.Intn(5) > 0
		}
		one, two := mixed(t, r, m), mixed(t, r, m)
		same(t, "one order", one, m.view())
		same(t, "another order", two, m.view())
		for range 20 {
			n, align := 1+r.Intn(6), 1<<r.Intn(4)
			start, e := one.Take(n, align)
			if other, f := two.Take(n, align); other != start || f != e {
				t.Fatalf("Take(%d, %d) = %d, %d, and %d, %d", n, align, start, e, other, f)
			}
			same(t, "after Take", one, look(two, len(m)))
		}
	}
}

// TestClone tests P3.7: what is done with one of two does not change the other.
func TestClone(t *testing.T) {
	for name, change := range map[string]func(h *Heap) api.Errno{
		"Give":    func(h *Heap) api.Errno { return h.Give(8, 1) },
		"TakeRun": func(h *Heap) api.Errno { return h.TakeRun(4, 4) },
		"Take":    func(h *Heap) api.Errno { _, e := h.Take(1, 1); return e },
		"split":   func(h *Heap) api.Errno { _, e := h.Take(3, 4); return e },
	} {
		h := gaps(t)
		before := look(h, 12)
		c := h.Clone()
		same(t, "Clone", c, before)
		ok(t, name, change(c))
		same(t, name+" of the clone", h, before)
		c = h.Clone()
		d := c.Clone()
		ok(t, name, change(h))
		same(t, name+" of the heap", c, before)
		same(t, name+" of the heap", d, before)
		ok(t, name, change(d))
		same(t, name+" of both", d, look(h, 12))
	}
	c := made(t, 3).Clone()
	same(t, "Clone", c, make(model, 3).view())
	if e := c.Give(0, 4); e != api.ErrArg {
		t.Errorf("Give(0, 4): %d", e)
	}
	ok(t, "Give", c.Give(0, 3))
}

// TestNewMemory tests that results are new memory.
func TestNewMemory(t *testing.T) {
	h := gaps(t)
	before := look(h, 12)
	for order := range 3 {
		list := h.Blocks(order)
		for i := range list {
			list[i] = -1
		}
	}
	clear(h.Runs())
	same(t, "changed results", h, before)
	list, runs := h.Blocks(2), h.Runs()
	ok(t, "TakeRun", h.TakeRun(4, 4))
	if !slices.Equal(list, []int{4}) || !slices.Equal(runs, before.runs) {
		t.Errorf("results became %v, %v", list, runs)
	}
}

// TestModel tests P3.1 to P3.7 by many calls, of which each is made on the
// model, too; some of them go on with a clone.
func TestModel(t *testing.T) {
	for seed := range 40 {
		r := rand.New(rand.NewSource(int64(seed)))
		pages := 1 + r.Intn(80)
		h, m := made(t, pages), make(model, pages)
		for range 300 {
			other, told := h.Clone(), look(h, pages)
			start, n, align := r.Intn(pages+1)-r.Intn(2), r.Intn(12), 1<<r.Intn(5)
			var name string
			var e, want api.Errno
			switch r.Intn(4) {
			case 0, 1:
				name, e, want = "Give", h.Give(start, n), m.give(start, n)
			case 2:
				name, e, want = "TakeRun", h.TakeRun(start, n), m.takeRun(start, n)
			case 3:
				got, f := h.Take(n+1, align)
				first, g := m.take(n+1, align)
				if got != first {
					t.Fatalf("Take(%d, %d) = %d, not %d", n+1, align, got, first)
				}
				name, e, want = "Take", f, g
			}
			if e != want {
				t.Fatalf("%s: %d, not %d", name, e, want)
			}
			same(t, name, h, m.view())
			same(t, name+" beside a clone", other, told)
			if r.Intn(10) == 0 {
				h = h.Clone()
			}
		}
	}
}
