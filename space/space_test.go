package space

import (
	"math"
	"math/rand"
	"slices"
	"testing"

	"freehold/api"
)

// made is a new space.
func made(t *testing.T, pages int) *Space {
	t.Helper()
	s, e := New(pages)
	if e != api.OK || s == nil {
		t.Fatalf("New(%d) = %v, %d", pages, s, e)
	}
	return s
}

// ok tests that a call returned no error.
func ok(t *testing.T, what string, e api.Errno) {
	t.Helper()
	if e != api.OK {
		t.Fatalf("%s: %d", what, e)
	}
}

// mixed is a space of 8 pages: 1, 2, 3, 5 and 6 are mapped, 2 and 6 are dirty,
// 3 was. Word n of page 2 holds 100 + n, and word 0 of page 6 holds 7.
func mixed(t *testing.T) *Space {
	t.Helper()
	s := made(t, 8)
	ok(t, "Map", s.Map(1, 3))
	ok(t, "Map", s.Map(5, 2))
	for n := range 32 {
		ok(t, "Write", s.Write(512+8*n, 100+n))
	}
	ok(t, "Write", s.Write(768, 9))
	ok(t, "Write", s.Write(1536, 7))
	ok(t, "Release", s.Release(3, 1))
	return s
}

// view is all that a space tells of itself.
type view struct {
	states, words              []int
	runs                       [3][]api.Run
	pages, mapped, dirty, peak int
}

// look is all that a space tells; the words of unmapped pages are told as -1.
func look(s *Space) view {
	v := view{pages: s.Pages(), mapped: s.Mapped(), dirty: s.Dirty(), peak: s.Peak()}
	for state := range v.runs {
		v.runs[state] = s.Runs(state)
	}
	for p := range s.Pages() {
		v.states = append(v.states, s.State(p))
		for n := range 32 {
			value, e := s.Read(256*p + 8*n)
			if e != api.OK {
				value = -1
			}
			v.words = append(v.words, value)
		}
	}
	return v
}

// same tests that a space tells what was told before.
func same(t *testing.T, what string, s *Space, want view) {
	t.Helper()
	got := look(s)
	if !slices.Equal(got.states, want.states) || got.pages != want.pages || got.mapped != want.mapped || got.dirty != want.dirty || got.peak != want.peak {
		t.Fatalf("%s: states %v, counts %d %d %d %d, not %v, %d %d %d %d", what, got.states, got.pages, got.mapped, got.dirty, got.peak,
			want.states, want.pages, want.mapped, want.dirty, want.peak)
	}
	if !slices.Equal(got.words, want.words) {
		t.Fatalf("%s: words %v, not %v", what, got.words, want.words)
	}
	for state := range got.runs {
		if !slices.Equal(got.runs[state], want.runs[state]) {
			t.Fatalf("%s: Runs(%d) = %v, not %v", what, state, got.runs[state], want.runs[state])
		}
	}
}

// counts tests Mapped, Dirty and Peak.
func counts(t *testing.T, s *Space, mapped, dirty, peak int) {
	t.Helper()
	if s.Mapped() != mapped || s.Dirty() != dirty || s.Peak() != peak {
		t.Errorf("counts %d %d %d, not %d %d %d", s.Mapped(), s.Dirty(), s.Peak(), mapped, dirty, peak)
	}
}

// holds tests what words from an address on hold, by Words and by Read.
func holds(t *testing.T, s *Space, addr int, want ...int) {
	t.Helper()
	if list, e := s.Words(addr, len(want)); e != api.OK || !slices.Equal(list, want) {
		t.Errorf("Words(%d, %d) = %v, %d, not %v", addr, len(want), list, e, want)
	}
	for n, value := range want {
		if got, e := s.Read(addr + 8*n); e != api.OK || got != value {
			t.Errorf("Read(%d) = %d, %d, not %d", addr+8*n, got, e, value)
		}
	}
}

func TestNew(t *testing.T) {
	for _, pages := range []int{1, 2, 1023, 1024} {
		s := made(t, pages)
		if s.Pages() != pages || s.State(0) != 0 || s.State(pages-1) != 0 || s.State(pages) != -1 {
			t.Errorf("New(%d): %d pages, states %d, %d, %d", pages, s.Pages(), s.State(0), s.State(pages-1), s.State(pages))
		}
		counts(t, s, 0, 0, 0)
		if r := s.Runs(0); !slices.Equal(r, []api.Run{{Start: 0, Pages: pages}}) {
			t.Errorf("Runs = %v", r)
		}
	}
	for _, pages := range []int{math.MinInt, -1, 0, 1025, math.MaxInt} {
		if s, e := New(pages); s != nil || e != api.ErrArg {
			t.Errorf("New(%d) = %v, %d", pages, s, e)
		}
	}
}

// TestExamples tests the chapter's examples, in their order.
func TestExamples(t *testing.T) {
	s := made(t, 4)
	ok(t, "Map(1, 2)", s.Map(1, 2))
	holds(t, s, 256, 0)
	ok(t, "Write(256, 7)", s.Write(256, 7))
	holds(t, s, 256, 7)
	if s.Dirty() != 1 || s.State(2) != 1 {
		t.Errorf("Dirty %d, State(2) %d", s.Dirty(), s.State(2))
	}
	ok(t, "Release(1, 1)", s.Release(1, 1))
	holds(t, s, 256, 0)
	if s.Dirty() != 0 || s.Peak() != 1 {
		t.Errorf("Dirty %d, Peak %d", s.Dirty(), s.Peak())
	}
	for _, addr := range []int{0, 257, 768} {
		if v, e := s.Read(addr); v != 0 || e != api.ErrFault {
			t.Errorf("Read(%d) = %d, %d", addr, v, e)
		}
	}
	if e := s.Map(2, 1); e != api.ErrState {
		t.Errorf("Map(2, 1): %d", e)
	}
	if e := s.Unmap(0, 2); e != api.ErrFault {
		t.Errorf("Unmap(0, 2): %d", e)
	}
}

// badRuns is runs that are not in a space of 8 pages.
func badRuns() [][2]int {
	return [][2]int{
		{-1, 1}, {-1, 2}, {0, 0}, {1, 0}, {1, -1}, {0, 9}, {1, 8}, {7, 2}, {8, 1}, {8, 0}, {9, 1},
		{math.MinInt, 1}, {1, math.MinInt}, {1, math.MaxInt}, {math.MaxInt, 1}, {math.MaxInt, math.MaxInt}, {math.MinInt, math.MinInt},
		{-1, math.MaxInt}, {math.MaxInt, 2},
	}
}

// TestRunErrors tests the errors of Map, Unmap and Release, and P2.5 of them.
func TestRunErrors(t *testing.T) {
	s := mixed(t)
	before := look(s)
	for _, r := range badRuns() {
		if e := s.Map(r[0], r[1]); e != api.ErrArg {
			t.Errorf("Map(%d, %d): %d", r[0], r[1], e)
		}
		if e := s.Unmap(r[0], r[1]); e != api.ErrArg {
			t.Errorf("Unmap(%d, %d): %d", r[0], r[1], e)
		}
		if e := s.Release(r[0], r[1]); e != api.ErrArg {
			t.Errorf("Release(%d, %d): %d", r[0], r[1], e)
		}
	}
	same(t, "ErrArg", s, before)
	for _, r := range [][2]int{{0, 2}, {1, 1}, {2, 1}, {3, 2}, {6, 1}, {6, 2}, {0, 8}, {4, 2}} {
		if e := s.Map(r[0], r[1]); e != api.ErrState {
			t.Errorf("Map(%d, %d): %d", r[0], r[1], e)
		}
	}
	for _, r := range [][2]int{{0, 1}, {0, 2}, {1, 4}, {3, 2}, {2, 4}, {4, 1}, {4, 2}, {6, 2}, {7, 1}, {0, 8}} {
		if e := s.Unmap(r[0], r[1]); e != api.ErrFault {
			t.Errorf("Unmap(%d, %d): %d", r[0], r[1], e)
		}
		if e := s.Release(r[0], r[1]); e != api.ErrFault {
			t.Errorf("Release(%d, %d): %d", r[0], r[1], e)
		}
	}
	same(t, "ErrState and ErrFault", s, before)
}

// badAddresses is addresses of no word that can be accessed in mixed.
func badAddresses() []int {
	return []int{
		0, 8, 248, 255, 1024, 1272, 1792, 2040, 2048, 2056, 4096, -1, -8, -256, -512, math.MinInt, math.MaxInt, math.MaxInt - 7,
		257, 258, 260, 263, 511, 513, 519, 767, 1537, 1791,
	}
}

// TestWordErrors tests the errors of single words, and P2.5 of them.
func TestWordErrors(t *testing.T) {
	s := mixed(t)
	before := look(s)
	for _, addr := range badAddresses() {
		if v, e := s.Read(addr); v != 0 || e != api.ErrFault {
			t.Errorf("Read(%d) = %d, %d", addr, v, e)
		}
		if e := s.Write(addr, 5); e != api.ErrFault {
			t.Errorf("Write(%d): %d", addr, e)
		}
	}
	same(t, "ErrFault", s, before)
}

// TestManyArg tests the first error of many words, also where an address is
// bad, and P2.5 of it.
func TestManyArg(t *testing.T) {
	s := mixed(t)
	before := look(s)
	for _, words := range []int{math.MinInt, -32, -1, 32*1024 + 1, 1 << 60, math.MaxInt} {
		for _, addr := range []int{256, 0, 257, -8, math.MaxInt} {
			if l, e := s.Words(addr, words); len(l) != 0 || e != api.ErrArg {
				t.Errorf("Words(%d, %d) = %v, %d", addr, words, l, e)
			}
			if e := s.Fill(addr, words, 5); e != api.ErrArg {
				t.Errorf("Fill(%d, %d): %d", addr, words, e)
			}
			if e := s.Copy(addr, 512, words); e != api.ErrArg {
				t.Errorf("Copy(%d, 512, %d): %d", addr, words, e)
			}
			if e := s.Copy(256, addr, words); e != api.ErrArg {
				t.Errorf("Copy(256, %d, %d): %d", addr, words, e)
			}
		}
	}
	same(t, "ErrArg", s, before)
}

// TestManyFault tests the second error of many words, and P2.5 of it: some of
// the words, the first or the last ones, cannot be accessed.
func TestManyFault(t *testing.T) {
	s := mixed(t)
	before := look(s)
	bad := [][2]int{{248, 2}, {0, 64}, {256, 97}, {768, 33}, {1016, 2}, {1280, 65}, {1784, 2}, {256, 192}, {512, 32768}, {1536, 33}, {2040, 2}, {-8, 3}, {-8, 2}}
	for _, addr := range badAddresses() {
		bad = append(bad, [2]int{addr, 1}, [2]int{addr, 3}, [2]int{addr, 32768})
	}
	for _, x := range bad {
		addr, words := x[0], x[1]
		if l, e := s.Words(addr, words); len(l) != 0 || e != api.ErrFault {
			t.Errorf("Words(%d, %d) = %v, %d", addr, words, l, e)
		}
		if e := s.Fill(addr, words, 5); e != api.ErrFault {
			t.Errorf("Fill(%d, %d): %d", addr, words, e)
		}
		for _, other := range []int{256, 512, 1280, addr} {
			if e := s.Copy(addr, other, words); e != api.ErrFault {
				t.Errorf("Copy(%d, %d, %d): %d", addr, other, words, e)
			}
			if e := s.Copy(other, addr, words); e != api.ErrFault {
				t.Errorf("Copy(%d, %d, %d): %d", other, addr, words, e)
			}
		}
	}
	same(t, "ErrFault", s, before)
}

// TestNoWords tests 0 words, at any address.
func TestNoWords(t *testing.T) {
	s := mixed(t)
	before := look(s)
	for _, addr := range append(badAddresses(), 256, 512, 768, 1536, 1784) {
		if l, e := s.Words(addr, 0); len(l) != 0 || e != api.OK {
			t.Errorf("Words(%d, 0) = %v, %d", addr, l, e)
		}
		if e := s.Fill(addr, 0, 5); e != api.OK {
			t.Errorf("Fill(%d, 0): %d", addr, e)
		}
		for _, other := range []int{256, 0, 257, addr} {
			if e := s.Copy(addr, other, 0); e != api.OK {
				t.Errorf("Copy(%d, %d, 0): %d", addr, other, e)
			}
			if e := s.Copy(other, addr, 0); e != api.OK {
				t.Errorf("Copy(%d, %d, 0): %d", other, addr, e)
			}
		}
	}
	same(t, "0 words", s, before)
}

// TestWhole tests all words of the greatest space at once.
func TestWhole(t *testing.T) {
	s := made(t, 1024)
	ok(t, "Map", s.Map(0, 1024))
	if l, e := s.Words(0, 32768); e != api.OK || !slices.Equal(l, make([]int, 32768)) {
		t.Errorf("Words: %d", e)
	}
	counts(t, s, 1024, 0, 0)
	ok(t, "Fill", s.Fill(0, 32768, -3))
	counts(t, s, 1024, 1024, 1024)
	ok(t, "Write", s.Write(0, math.MinInt))
	ok(t, "Write", s.Write(1024*256-8, math.MaxInt))
	ok(t, "Copy", s.Copy(8, 0, 32767))
	holds(t, s, 0, math.MinInt, math.MinInt, -3)
	holds(t, s, 1024*256-16, -3, -3)
	ok(t, "Copy", s.Copy(0, 0, 32768))
	if l, e := s.Words(0, 32768); e != api.OK || len(l) != 32768 || slices.ContainsFunc(l[2:], func(v int) bool { return v != -3 }) {
		t.Errorf("Words: %d", e)
	}
	ok(t, "Unmap", s.Unmap(0, 1024))
	counts(t, s, 0, 0, 1024)
}

// TestNobody tests a Space that is nil, or that New and Clone did not return:
// its error comes ahead of all others.
func TestNobody(t *testing.T) {
	for _, s := range []*Space{nil, {}, new(Space)} {
		for _, x := range []int{0, 1, -1, 256, 257, math.MinInt, math.MaxInt} {
			for _, y := range []int{0, 1, -1, 256, math.MinInt, math.MaxInt} {
				errs := []api.Errno{s.Map(x, y), s.Unmap(x, y), s.Release(x, y), s.Write(x, y), s.Fill(x, y, 1), s.Copy(x, x, y)}
				v, e := s.Read(x)
				l, f := s.Words(x, y)
				for _, e := range append(errs, e, f) {
					if e != api.ErrState {
						t.Fatalf("%d, %d: %v, %d, %d", x, y, errs, e, f)
					}
				}
				if v != 0 || len(l) != 0 {
					t.Errorf("Read(%d) = %d, Words = %v", x, v, l)
				}
			}
			if s.State(x) != -1 || len(s.Runs(x)) != 0 {
				t.Errorf("State(%d) = %d, Runs = %v", x, s.State(x), s.Runs(x))
			}
		}
		if s.Pages() != 0 || s.Clone() != nil {
			t.Errorf("Pages %d, Clone %v", s.Pages(), s.Clone())
		}
		counts(t, s, 0, 0, 0)
	}
}

// TestWords tests P2.1: the last word written, until its page is mapped or
// released; and that the word next to it is left alone.
func TestWords(t *testing.T) {
	s := mixed(t)
	holds(t, s, 512, 100, 101, 102)
	holds(t, s, 760, 131, 0)
	ok(t, "Write", s.Write(520, -1))
	ok(t, "Write", s.Write(520, 55))
	holds(t, s, 504, 0, 100, 55, 102)
	ok(t, "Write", s.Write(1784, math.MinInt))
	ok(t, "Write", s.Write(1528, math.MaxInt))
	holds(t, s, 1520, 0, math.MaxInt, 7, 0)
	holds(t, s, 1776, 0, math.MinInt)
	ok(t, "Release", s.Release(5, 1))
	holds(t, s, 1520, 0, 0, 7, 0)
}

// TestStates tests P2.2 by single cases: State, and the maximal runs.
func TestStates(t *testing.T) {
	s := mixed(t)
	for p, want := range []int{0, 1, 2, 1, 0, 1, 2, 0} {
		if s.State(p) != want {
			t.Errorf("State(%d) = %d, not %d", p, s.State(p), want)
		}
	}
	for _, p := range []int{math.MinInt, -1, 8, 9, 256, math.MaxInt} {
		if s.State(p) != -1 {
			t.Errorf("State(%d) = %d", p, s.State(p))
		}
	}
	runs := [][]api.Run{
		{{Start: 0, Pages: 1}, {Start: 4, Pages: 1}, {Start: 7, Pages: 1}},
		{{Start: 1, Pages: 1}, {Start: 3, Pages: 1}, {Start: 5, Pages: 1}},
		{{Start: 2, Pages: 1}, {Start: 6, Pages: 1}},
	}
	for state, want := range runs {
		if r := s.Runs(state); !slices.Equal(r, want) {
			t.Errorf("Runs(%d) = %v, not %v", state, r, want)
		}
	}
	for _, state := range []int{math.MinInt, -1, 3, 4, math.MaxInt} {
		if r := s.Runs(state); len(r) != 0 {
			t.Errorf("Runs(%d) = %v", state, r)
		}
	}
	ok(t, "Unmap", s.Unmap(3, 1))
	ok(t, "Fill", s.Fill(1280, 1, 0))
	if r := s.Runs(0); !slices.Equal(r, []api.Run{{Start: 0, Pages: 1}, {Start: 3, Pages: 2}, {Start: 7, Pages: 1}}) {
		t.Errorf("Runs(0) = %v", r)
	}
	if r := s.Runs(2); !slices.Equal(r, []api.Run{{Start: 2, Pages: 1}, {Start: 5, Pages: 2}}) {
		t.Errorf("Runs(2) = %v", r)
	}
}

// TestDirtied tests that each way of writing makes a page dirty, also with the
// value 0, and only the pages that are written; and that reading makes none.
func TestDirtied(t *testing.T) {
	for name, write := range map[string]func(s *Space) api.Errno{
		"Write":      func(s *Space) api.Errno { return s.Write(512, 0) },
		"last Write": func(s *Space) api.Errno { return s.Write(760, 0) },
		"Fill":       func(s *Space) api.Errno { return s.Fill(760, 1, 0) },
		"whole Fill": func(s *Space) api.Errno { return s.Fill(512, 32, 0) },
		"Copy":       func(s *Space) api.Errno { return s.Copy(512, 768, 32) },
		"Copy of it": func(s *Space) api.Errno { return s.Copy(520, 520, 1) },
		"last Copy":  func(s *Space) api.Errno { return s.Copy(760, 1016, 1) },
	} {
		s := made(t, 8)
		ok(t, "Map", s.Map(0, 8))
		ok(t, name, write(s))
		counts(t, s, 8, 1, 1)
		if s.State(2) != 2 {
			t.Errorf("%s: State(2) = %d", name, s.State(2))
		}
	}
	s := made(t, 8)
	ok(t, "Map", s.Map(0, 8))
	before := look(s)
	if l, e := s.Words(0, 256); e != api.OK || !slices.Equal(l, make([]int, 256)) {
		t.Errorf("Words = %v, %d", l, e)
	}
	same(t, "reading", s, before)
	ok(t, "Fill", s.Fill(504, 34, 0))
	if r := s.Runs(2); !slices.Equal(r, []api.Run{{Start: 1, Pages: 3}}) {
		t.Errorf("Runs(2) = %v", r)
	}
}

// TestCounts tests P2.3 by single cases.
func TestCounts(t *testing.T) {
	s := mixed(t)
	counts(t, s, 5, 2, 3)
	ok(t, "Write", s.Write(520, 1))
	counts(t, s, 5, 2, 3)
	ok(t, "Release", s.Release(1, 3))
	counts(t, s, 5, 1, 3)
	ok(t, "Release", s.Release(1, 3))
	counts(t, s, 5, 1, 3)
	ok(t, "Unmap", s.Unmap(5, 2))
	counts(t, s, 3, 0, 3)
	ok(t, "Map", s.Map(4, 4))
	counts(t, s, 7, 0, 3)
	ok(t, "Fill", s.Fill(1024, 128, 1))
	counts(t, s, 7, 4, 4)
}

// TestOverlap tests P2.4 of words that overlap, in both directions, over the
// ends of pages, and of words that are copied onto themselves.
func TestOverlap(t *testing.T) {
	for _, x := range [][3]int{{512, 504, 40}, {504, 512, 40}, {256, 512, 64}, {512, 256, 64}, {520, 512, 31}, {512, 520, 31}, {256, 256, 96}, {768, 256, 32}, {264, 760, 33}} {
		to, from, words := x[0], x[1], x[2]
		s := made(t, 5)
		ok(t, "Map", s.Map(1, 4))
		for n := range 128 {
			ok(t, "Write", s.Write(256+8*n, n+1))
		}
		want := look(s)
		for n := range words {
			want.words[to/8+n] = from/8 + n - 32 + 1
		}
		ok(t, "Copy", s.Copy(to, from, words))
		same(t, "Copy", s, want)
	}
}

// TestLost tests P2.6.
func TestLost(t *testing.T) {
	for name, lose := range map[string]func(s *Space) api.Errno{
		"Release": func(s *Space) api.Errno { return s.Release(1, 3) },
		"Unmap": func(s *Space) api.Errno {
			if e := s.Unmap(1, 3); e != api.OK {
				return e
			}
			if _, e := s.Read(512); e != api.ErrFault {
				return api.ErrForm
			}
			return s.Map(1, 3)
		},
	} {
		s := mixed(t)
		ok(t, name, lose(s))
		for p := 1; p <= 3; p++ {
			if s.State(p) != 1 {
				t.Errorf("%s: State(%d) = %d", name, p, s.State(p))
			}
		}
		holds(t, s, 256, make([]int, 96)...)
		holds(t, s, 1536, 7)
		ok(t, "Write", s.Write(512, 3))
		holds(t, s, 504, 0, 3, 0)
	}
}

// TestClone tests P2.7: what is done with one of two does not change the other.
func TestClone(t *testing.T) {
	for name, change := range map[string]func(s *Space) api.Errno{
		"Write":   func(s *Space) api.Errno { return s.Write(512, 3) },
		"Fill":    func(s *Space) api.Errno { return s.Fill(256, 96, 3) },
		"Copy":    func(s *Space) api.Errno { return s.Copy(1536, 512, 32) },
		"Map":     func(s *Space) api.Errno { return s.Map(7, 1) },
		"Unmap":   func(s *Space) api.Errno { return s.Unmap(1, 3) },
		"Release": func(s *Space) api.Errno { return s.Release(6, 1) },
	} {
		s := mixed(t)
		before := look(s)
		c := s.Clone()
		same(t, "Clone", c, before)
		ok(t, name, change(c))
		same(t, name+" of the clone", s, before)
		c = s.Clone()
		d := c.Clone()
		ok(t, name, change(s))
		same(t, name+" of the space", c, before)
		same(t, name+" of the space", d, before)
	}
}

// TestNewMemory tests that results are new memory.
func TestNewMemory(t *testing.T) {
	s := mixed(t)
	before := look(s)
	words, e := s.Words(512, 32)
	ok(t, "Words", e)
	runs := s.Runs(1)
	clear(words)
	clear(runs)
	same(t, "changed results", s, before)
	words, e = s.Words(512, 2)
	ok(t, "Words", e)
	ok(t, "Fill", s.Fill(512, 32, 1))
	if !slices.Equal(words, []int{100, 101}) {
		t.Errorf("a result became %v", words)
	}
}

// model is a space, read to the letter: the state of each page, and each word.
type model struct {
	states, words []int
	peak          int
}

// inSpace reports whether a run is in the space.
func (m *model) inSpace(start, pages int) bool {
	return start >= 0 && pages >= 1 && start+pages <= len(m.states)
}

// set lets the pages of a run be in a state, if none is in the wrong one, and
// their words be 0.
func (m *model) set(start, pages, state int, wrong func(state int) bool, e api.Errno) api.Errno {
	if !m.inSpace(start, pages) {
		return api.ErrArg
	}
	for p := start; p < start+pages; p++ {
		if wrong(m.states[p]) {
			return e
		}
	}
	for p := start; p < start+pages; p++ {
		m.states[p] = state
		clear(m.words[32*p : 32*p+32])
	}
	return api.OK
}

// access reports whether a word can be accessed.
func (m *model) access(addr int) bool {
	return addr >= 0 && addr%8 == 0 && addr/256 < len(m.states) && m.states[addr/256] != 0
}

// write lets a word hold a value.
func (m *model) write(addr, value int) {
	m.words[addr/8] = value
	m.states[addr/256] = 2
	m.peak = max(m.peak, m.count(2))
}

// count is the number of pages in a state.
func (m *model) count(state int) int {
	n := 0
	for _, s := range m.states {
		if s == state {
			n++
		}
	}
	return n
}

// fill lets words hold a value.
func (m *model) fill(addr, words, value int) api.Errno {
	if e := m.many(addr, words); e != api.OK {
		return e
	}
	for n := range words {
		m.write(addr+8*n, value)
	}
	return api.OK
}

// copy copies words.
func (m *model) copy(to, from, words int) api.Errno {
	for _, addr := range []int{to, from} {
		if e := m.many(addr, words); e != api.OK {
			return e
		}
	}
	old := slices.Clone(m.words)
	for n := range words {
		m.write(to+8*n, old[from/8+n])
	}
	return api.OK
}

// many is the error of many words.
func (m *model) many(addr, words int) api.Errno {
	if words < 0 || words > 32*1024 {
		return api.ErrArg
	}
	for n := range words {
		if !m.access(addr + 8*n) {
			return api.ErrFault
		}
	}
	return api.OK
}

// view is what the model tells.
func (m *model) view() view {
	v := view{states: slices.Clone(m.states), words: slices.Clone(m.words), pages: len(m.states), dirty: m.count(2), mapped: m.count(1) + m.count(2), peak: m.peak}
	for p, state := range m.states {
		if state == 0 {
			for n := range 32 {
				v.words[32*p+n] = -1
			}
		}
		if p > 0 && m.states[p-1] == state {
			v.runs[state][len(v.runs[state])-1].Pages++
		} else {
			v.runs[state] = append(v.runs[state], api.Run{Start: p, Pages: 1})
		}
	}
	return v
}

// act makes one call on a space and on its model: both errors.
func act(r *rand.Rand, s *Space, m *model) (string, api.Errno, api.Errno) {
	isMapped := func(state int) bool { return state != 0 }
	isUnmapped := func(state int) bool { return state == 0 }
	pages := len(m.states)
	start, count := r.Intn(pages+1)-r.Intn(2), r.Intn(3)+r.Intn(2)
	addr, from, words := 8*(r.Intn(32*pages+2)-1), 8*(r.Intn(32*pages+2)-1), r.Intn(40)
	if r.Intn(20) == 0 {
		addr += r.Intn(8)
	}
	value := r.Intn(3)
	switch r.Intn(8) {
	case 0, 1:
		return "Map", s.Map(start, count), m.set(start, count, 1, isMapped, api.ErrState)
	case 2:
		return "Unmap", s.Unmap(start, count), m.set(start, count, 0, isUnmapped, api.ErrFault)
	case 3:
		return "Release", s.Release(start, count), m.set(start, count, 1, isUnmapped, api.ErrFault)
	case 4:
		return "Write", s.Write(addr, value), m.fill(addr, 1, value)
	case 5:
		return "Fill", s.Fill(addr, words, value), m.fill(addr, words, value)
	case 6:
		l, e := s.Words(addr, words)
		f := m.many(addr, words)
		if f == api.OK && words > 0 && !slices.Equal(l, m.words[addr/8:addr/8+words]) {
			return "words of Words", e, api.ErrForm
		}
		return "Words", e, f
	}
	return "Copy", s.Copy(addr, from, words), m.copy(addr, from, words)
}

// TestModel tests P2.1 to P2.7 by many calls, of which each is made on the
// model, too; some of them go on with a clone.
func TestModel(t *testing.T) {
	for seed := range 40 {
		r := rand.New(rand.NewSource(int64(seed)))
		pages := 1 + r.Intn(8)
		s, m := made(t, pages), &model{states: make([]int, pages), words: make([]int, 32*pages)}
		for range 300 {
			before, peak := s.Clone(), s.Peak()
			told := look(s)
			name, e, want := act(r, s, m)
			if e != want {
				t.Fatalf("%s: %d, not %d", name, e, want)
			}
			same(t, name, s, m.view())
			same(t, name+" beside a clone", before, told)
			if s.Dirty() > s.Mapped() || s.Dirty() > s.Peak() || s.Peak() < peak {
				t.Fatalf("%s: Mapped %d, Dirty %d, Peak %d", name, s.Mapped(), s.Dirty(), s.Peak())
			}
			if r.Intn(10) == 0 {
				s = s.Clone()
			}
		}
	}
}

// TestWrites tests P2.4: Copy and Fill do what Writes do.
func TestWrites(t *testing.T) {
	for _, x := range [][3]int{{256, 512, 64}, {520, 512, 40}, {512, 520, 40}, {768, 256, 1}} {
		to, from, words := x[0], x[1], x[2]
		s := mixed(t)
		c := s.Clone()
		list, e := c.Words(from, words)
		ok(t, "Words", e)
		ok(t, "Copy", s.Copy(to, from, words))
		for n, value := range list {
			ok(t, "Write", c.Write(to+8*n, value))
		}
		same(t, "Copy", s, look(c))
		ok(t, "Fill", s.Fill(from, words, 77))
		for n := range words {
			ok(t, "Write", c.Write(from+8*n, 77))
		}
		same(t, "Fill", s, look(c))
	}
}
