package heap_test

import (
	"slices"
	"testing"

	"freehold/api"
	"freehold/heap"
	"freehold/space"
)

// TestMostSteps tests P11.3: a Free and a Flush are done after 3 + MaxClasses
// steps at most, whatever others do in between, and some need as many.
func TestMostSteps(t *testing.T) {
	table := rising(40)
	cfg := api.Config{Pages: 1024, Arenas: 2, Threads: 2, Budget: 65536, Room: 1}
	bytes := 0
	for _, disturbed := range []bool{false, false, true} {
		p := paired(t, table, cfg)
		var blocks []int
		for _, c := range table {
			blocks = append(blocks, p.gets(0, c.Size, 8))
		}
		extra := p.gets(1, 8, 8) // so that it is one more than the limit of its list
		p.frees(0, blocks...)
		if bytes == 0 { // the last Free is to go over the budget, but nothing was held for long
			bytes = p.h.Stats().Cache
			cfg.Budget = bytes - 1
			continue
		}
		fails(t, "Start", p.start(0, freeOf(extra)), api.OK)
		steps := 0
		for done := false; !done; steps++ {
			if disturbed {
				p.disturb(1, steps)
			}
			done, _ = p.step(0)
		}
		if steps != 3+api.MaxClasses {
			t.Fatalf("Free is done after %d steps", steps)
		}
		p.alike()
	}
}

// disturb lets a thread make steps and calls that change the lists of all
// arenas.
func (p *pair) disturb(thread, n int) {
	p.t.Helper()
	table := p.x.table
	if p.x.ops[thread].phase != "" {
		p.step(thread)
		return
	}
	switch n % 5 {
	case 0:
		fails(p.t, "Start", p.start(thread, mallocOf(table[n%len(table)].Size, 8)), api.OK)
	case 1, 3:
		fails(p.t, "Start", p.start(thread, freeOf(p.lowest())), api.OK)
	case 2:
		p.tick()
		p.release(1)
	case 4:
		fails(p.t, "Start", p.start(thread, flush), api.OK)
	}
}

// lowest is the address of the lowest live block, or 0.
func (p *pair) lowest() int {
	if live := p.x.sorted(); len(live) > 0 {
		return live[0].Addr
	}
	return 0
}

// TestFlushSteps tests P11.3 for a Flush of a cache with objects of all classes.
func TestFlushSteps(t *testing.T) {
	p := paired(t, rising(40), api.Config{Pages: 1024, Arenas: 1, Threads: 1, Budget: 65536, Room: 8})
	for _, c := range p.x.table {
		p.frees(0, p.gets(0, c.Size, 8))
	}
	names, result := p.steps(0, flush)
	if len(names) != 41 || names[0] != "drain" || slices.ContainsFunc(names[1:], func(name string) bool { return name != "back" }) {
		t.Fatalf("Flush: %v", names)
	}
	if result != (api.Result{}) {
		t.Fatalf("Flush: %v", result)
	}
	p.alike()
}

// TestSixSteps tests P11.3: a Malloc that nobody disturbs is done after 6 steps
// at most.
func TestSixSteps(t *testing.T) {
	for _, table := range tables(t) {
		p := paired(t, table, api.Config{Pages: 512, Arenas: 1, Threads: 1, Budget: 3000, Room: 2})
		for n := range 150 {
			size := table[n*7%len(table)].Size
			names, result := p.steps(0, mallocOf(size, 1))
			if len(names) > 6 {
				t.Fatalf("Malloc(0, %d, 1): %v", size, names)
			}
			if n%3 == 0 && result.Errno == api.OK {
				p.frees(0, result.Addr)
			}
		}
		p.sound()
	}
}

// TestContents tests P11.4: words that are written between the steps of others
// stay, whatever is taken, given back, released and unmapped around them.
func TestContents(t *testing.T) {
	p := paired(t, pages(), api.Config{Pages: 96, Arenas: 2, Threads: 3, Budget: 200, Room: 1})
	var kept []int
	for n, size := range []int{8, 40, 64, 128, 256, 600, 1, 33} {
		kept = append(kept, p.gets(n%3, size, 8))
		p.paint(kept[n], n)
	}
	var blocks []int
	for n := range 60 {
		addr := p.gets(n%3, p.x.table[n%5].Size, 8)
		p.paint(addr, 100+n)
		blocks = append(blocks, addr)
	}
	for n, block := range blocks {
		fails(t, "Start", p.start(n%2, freeOf(block)), api.OK)
		for done := false; !done; {
			done, _ = p.step(n % 2)
			p.write(kept[n%len(kept)], n)
			p.kept()
		}
		if n%7 == 6 {
			p.tick()
			p.release(3)
			p.trim()
			p.kept()
		}
	}
	for thread := range 3 {
		fails(t, "Flush", p.flush(thread), api.OK)
		p.kept()
	}
	p.alike()
	p.empty()
	p.kept()
	if live := p.h.Live(); len(live) != len(kept) {
		t.Fatalf("Live = %v", live)
	}
}

// TestReadWrite tests that Read and Write are those of the space.
func TestReadWrite(t *testing.T) {
	p := paired(t, several(), example)
	addr := p.gets(0, 24, 8)
	for n, value := range far {
		word := addr + 8*(n%3)
		fails(t, "Write", p.h.Write(word, value), api.OK)
		if got, e := p.h.Read(word); got != value || e != api.OK {
			t.Fatalf("Read(%d) = %d, %d, not %d", word, got, e, value)
		}
		if got, e := p.h.Space().Read(word); got != value || e != api.OK {
			t.Fatalf("Read(%d) of the space = %d, %d, not %d", word, got, e, value)
		}
	}
	for _, bad := range append(far, 0, 8, 4095, 4097, addr+4, addr-8, 256*32, 256*64, 256*64+8, -8) {
		if got, e := p.h.Read(bad); got != 0 || e != api.ErrFault {
			t.Fatalf("Read(%d) = %d, %d", bad, got, e)
		}
		fails(t, "Write", p.h.Write(bad, 1), api.ErrFault)
	}
	// Words that are mapped can be accessed, also if no block has them.
	fails(t, "Write", p.h.Write(addr+256*15, 7), api.OK)
	if got, e := p.h.Read(addr + 256*15); got != 7 || e != api.OK || p.h.Stats().Dirty != 2 {
		t.Fatalf("Read = %d, %d", got, e)
	}
}

// TestWild tests that Usable and Block know only live blocks.
func TestWild(t *testing.T) {
	p := paired(t, several(), api.Config{Pages: 64, Arenas: 2, Threads: 2, Budget: 65536, Room: 2})
	p.gets(0, 24, 8)
	p.gets(1, 600, 8)
	for _, addr := range far {
		p.ask(addr)
	}
	for addr := range 256 * 64 {
		p.ask(addr)
	}
}

// dirtied is a heap of three arenas, each of which has free pages that are dirty,
// all of one huge page: a run of 4 pages, one of 4 pages, and one of 2 pages and
// one of 3 pages.
func dirtied(t *testing.T) *pair {
	t.Helper()
	p := paired(t, one(), api.Config{Pages: 96, Arenas: 3, Threads: 3, Budget: 0, Room: 0})
	for thread := range 3 {
		p.gets(thread, 256, 8)
	}
	// The two pages that are kept are between the runs of the last arena.
	blocks := []int{p.gets(0, 1024, 8), p.gets(1, 1024, 8), p.gets(2, 512, 8), p.gets(2, 512, 8), p.gets(2, 768, 8)}
	for n, block := range blocks {
		p.paint(block, n)
	}
	p.frees(0, blocks[0], blocks[1], blocks[2], blocks[4])
	return p
}

// TestRelease tests that the arenas release, in their order, what is still
// wanted, and whole runs.
func TestRelease(t *testing.T) {
	p := dirtied(t)
	dirty := p.h.Stats().Dirty
	for _, want := range []int{0, 1, 5, 1, 1, 1, api.MaxPages} {
		released := p.release(want)
		if dirty -= released; p.h.Stats().Dirty != dirty {
			t.Fatalf("Release(%d) = %d, and %d pages are dirty, not %d", want, released, p.h.Stats().Dirty, dirty)
		}
		p.alike()
	}
	for _, c := range []struct{ wants, released []int }{
		{[]int{0, 0, 1, 1, 1, 1, 1}, []int{0, 0, 4, 4, 2, 3, 0}},
		{[]int{4, 4, 4, 4}, []int{4, 4, 5, 0}},
		{[]int{5, 1, 1}, []int{8, 2, 3}},
		{[]int{8, 1, 1}, []int{8, 2, 3}},
		{[]int{9, 1, 1}, []int{10, 3, 0}},
		{[]int{1, 5, 5}, []int{4, 6, 3}},
		{[]int{12, 1}, []int{13, 0}},
		{[]int{api.MaxPages, api.MaxPages}, []int{13, 0}},
		{[]int{1 << 62}, []int{13}},
	} {
		p := dirtied(t)
		for n, want := range c.wants {
			if released := p.release(want); released != c.released[n] {
				t.Fatalf("%v: Release(%d) = %d, not %d", c.wants, want, released, c.released[n])
			}
		}
		p.sound()
	}
}

// TestReleaseErrors tests that no negative number of pages is released.
func TestReleaseErrors(t *testing.T) {
	p := dirtied(t)
	for _, want := range append(far, -2, -100) {
		if want >= 0 {
			continue
		}
		if released, e := p.h.Release(want); released != 0 || e != api.ErrArg {
			t.Fatalf("Release(%d) = %d, %d", want, released, e)
		}
	}
	p.alike()
}

// TestTick tests that Tick evicts batches of the transfer caches of all arenas.
func TestTick(t *testing.T) {
	p := paired(t, pages(), api.Config{Pages: 128, Arenas: 2, Threads: 2, Budget: 65536, Room: 8})
	for thread := range 2 {
		for range 3 {
			p.cached(thread, 1, 3)
			p.cached(thread, 2, 2)
			fails(t, "Flush", p.flush(thread), api.OK)
			p.gets(thread, 40, 8)
			p.many(thread, 2, 64, 8)
		}
		for _, class := range []int{1, 2, 3} {
			p.cached(thread, class, p.x.table[class].Batch)
			fails(t, "Flush", p.flush(thread), api.OK)
		}
	}
	before := p.h.Stats().Transfer
	p.tick()
	if p.h.Stats().Transfer > before {
		t.Fatalf("Stats = %+v", p.h.Stats())
	}
	p.alike()
	for range 4 {
		p.tick()
		p.alike()
	}
	if s := p.h.Stats(); before < 2*(120+128+128) || s.Transfer != 0 {
		t.Fatalf("%d bytes were in transfer caches, and are %+v", before, s)
	}
}

// TestTickHalf tests the batches that each Tick evicts.
func TestTickHalf(t *testing.T) {
	p := paired(t, pages(), api.Config{Pages: 128, Arenas: 2, Threads: 2, Budget: 65536, Room: 8})
	var blocks [][]int
	for thread := range 2 {
		blocks = append(blocks, p.many(thread, 16, 64, 8))
	}
	for thread := range 2 {
		for n, block := range blocks[thread] {
			p.frees(thread, block)
			if n%2 == 1 {
				p.runs(thread, flush, api.Result{}, "drain", "back")
			}
		}
	}
	for _, batches := range []int{8, 8, 4, 2, 1, 0} {
		if s := p.h.Stats(); s.Transfer != 2*128*batches {
			t.Fatalf("%d bytes are in transfer caches, not twice %d batches", s.Transfer, batches)
		}
		if batches == 8 {
			p.bytes(0, 0, 2048)
		}
		p.alike()
		if batches > 0 {
			p.tick()
		}
	}
}

// TestTrim tests that Trim unmaps idle huge pages of all arenas.
func TestTrim(t *testing.T) {
	p := paired(t, one(), api.Config{Pages: 256, Arenas: 3, Threads: 3, Budget: 0, Room: 0})
	if trimmed := p.trim(); trimmed != 0 {
		t.Fatalf("Trim = %d", trimmed)
	}
	var blocks []int
	for thread := range 3 {
		blocks = append(blocks, p.gets(thread, 4096, 8), p.gets(thread, 5000, 8))
	}
	for n, freed := range []int{0, 3, 5} {
		p.frees(n, blocks[freed])
		if trimmed := p.trim(); trimmed != 1+freed%2 {
			t.Fatalf("Trim = %d", trimmed)
		}
		p.alike()
	}
	p.frees(0, blocks[1], blocks[2], blocks[4])
	if trimmed := p.trim(); trimmed != 4 || p.h.Stats() != (api.Stats{}) {
		t.Fatalf("Trim = %d, Stats = %+v", trimmed, p.h.Stats())
	}
}

// TestReturned tests P11.6: what is left after Flush of all threads, five times
// Tick, Release(MaxPages) and Trim.
func TestReturned(t *testing.T) {
	for _, table := range tables(t) {
		for _, cfg := range configs() {
			p := paired(t, table, cfg)
			var blocks []int
			for n := range 60 {
				size := table[n*5%len(table)].Size
				if n%9 == 8 {
					size = 257 * (1 + n%4)
				}
				if addr, e := p.malloc(n%cfg.Threads, size, 8); e == api.OK {
					p.paint(addr, n)
					blocks = append(blocks, addr)
				}
			}
			for n, block := range blocks {
				if n%6 != 0 {
					p.frees(n/2%cfg.Threads, block)
				}
			}
			p.sound()
			p.empty()
			p.sound()
			for n := 0; n < len(blocks); n += 6 {
				p.frees(n%cfg.Threads, blocks[n])
				p.empty()
			}
			if s := p.h.Stats(); s != (api.Stats{}) {
				t.Fatalf("Stats = %+v", s)
			}
		}
	}
}

// waiting is a heap of two threads, the first of which is before the step of a
// name.
func waiting(t *testing.T, phase string) *pair {
	t.Helper()
	p, _ := traded(t, 1, 1)
	large, small := p.gets(0, 700, 8), p.gets(0, 128, 8)
	p.paint(small, 9)
	p.paint(large, 10)
	switch phase {
	case "take", "transfer", "fill":
		p.until(1, phase, mallocOf(64, 8))
	case "central", "grow":
		p.until(1, phase, mallocOf(256, 8))
	case "large":
		p.until(1, phase, mallocOf(3000, 8))
	case "find", "put":
		p.until(1, phase, freeOf(small))
	case "give":
		p.until(1, phase, freeOf(large))
	case "drain":
		p.until(0, phase, flush)
	case "back":
		p.frees(0, small)
		p.until(0, phase, flush)
	}
	return p
}

// phases is the names of all steps.
var phases = []string{"take", "transfer", "central", "grow", "fill", "large", "find", "put", "back", "give", "drain"}

// TestClone tests P11.7: a heap with a pending operation and its clones go on in
// different ways, and do not change each other.
func TestClone(t *testing.T) {
	ways := []func(*pair){
		(*pair).settle, (*pair).refill, (*pair).empty,
		func(p *pair) {
			for _, block := range p.x.sorted() {
				p.frees(2, block.Addr)
			}
		},
		func(p *pair) {
			for _, block := range p.x.sorted() {
				p.paint(block.Addr, 77)
			}
		},
		func(p *pair) { p.many(2, 20, 64, 8) },
	}
	for _, phase := range phases {
		for first, way := range ways {
			for second, other := range ways {
				if first == second {
					continue
				}
				p := waiting(t, phase)
				q := p.clone()
				if p.h.Space() == q.h.Space() {
					t.Fatal("a clone works on the same space")
				}
				way(q)
				p.sound()
				r := p.clone()
				other(p)
				q.sound()
				r.sound()
				way(r)
				p.alike()
				q.alike()
				r.alike()
			}
		}
	}
}

// TestSpace tests that Space is the space itself that the heap works on.
func TestSpace(t *testing.T) {
	p := paired(t, several(), example)
	s := p.h.Space()
	addr := p.gets(0, 24, 8)
	if s != p.h.Space() || s.Mapped() != 16 {
		t.Fatalf("%d pages are mapped", s.Mapped())
	}
	fails(t, "Write", s.Write(addr, 5), api.OK)
	if value, e := p.h.Read(addr); value != 5 || e != api.OK {
		t.Fatalf("Read = %d, %d", value, e)
	}
}

// TestNewMemory tests that an argument is neither changed nor retained, and that
// results share no memory with the heap, or with one another (R5).
func TestNewMemory(t *testing.T) {
	given := append(make([]api.Class, 0, 50), several()...)
	h := made(t, given, example)
	if !slices.Equal(given, several()) {
		t.Fatalf("New changed its argument: %v", given)
	}
	clear(given)
	_ = append(given, api.Class{Size: 512, Pages: 4, Batch: 1})
	p := &pair{t: t, h: h, x: modelOf(several(), example), asked: map[int]api.Op{}, words: map[int]int{}}
	p.sound()
	for range 3 {
		p.many(0, 5, 24, 8)
		p.gets(0, 600, 8)
		first, second := p.h.Live(), p.h.Live()
		clear(first)
		_ = append(first[:0], api.Block{Addr: 1})
		if !slices.Equal(second, p.x.sorted()) {
			t.Fatalf("Live = %v", second)
		}
		table, other := p.h.Table(), p.h.Table()
		clear(table)
		if !slices.Equal(other, several()) {
			t.Fatalf("Table = %v", other)
		}
		clear(p.h.Clone().Table())
		p.alike()
	}
}

// TestNotMade tests a heap that is nil, and one that no function returned (R1).
func TestNotMade(t *testing.T) {
	for name, h := range map[string]*heap.Heap{"nil": nil, "zero": {}} {
		for _, number := range append(far, 0, 1, 2, 3, 4096) {
			for _, op := range append(badOps(), mallocOf(8, 8), freeOf(number), flush) {
				fails(t, name, h.Start(number, op), api.ErrState)
			}
			if done, result, e := h.Step(number); done || result != (api.Result{}) || e != api.ErrState {
				t.Fatalf("%s: Step = %t, %v, %d", name, done, result, e)
			}
			if phase := h.Phase(number); phase != "" {
				t.Fatalf("%s: Phase = %q", name, phase)
			}
			if addr, e := h.Malloc(number, number, number); addr != 0 || e != api.ErrState {
				t.Fatalf("%s: Malloc = %d, %d", name, addr, e)
			}
			fails(t, name, h.Free(number, number), api.ErrState)
			fails(t, name, h.Flush(number), api.ErrState)
			testNoBlock(t, name, h, number)
			fails(t, name, h.Write(number, number), api.ErrState)
			if pages, e := h.Release(number); pages != 0 || e != api.ErrState {
				t.Fatalf("%s: Release = %d, %d", name, pages, e)
			}
			h.Tick()
			testNothing(t, name, h)
		}
	}
}

// testNoBlock tests what a heap that nobody made tells of an address.
func testNoBlock(t *testing.T, name string, h *heap.Heap, addr int) {
	t.Helper()
	if size, e := h.Usable(addr); size != 0 || e != api.ErrState {
		t.Fatalf("%s: Usable = %d, %d", name, size, e)
	}
	if block, e := h.Block(addr); block != (api.Block{}) || e != api.ErrState {
		t.Fatalf("%s: Block = %v, %d", name, block, e)
	}
	if value, e := h.Read(addr); value != 0 || e != api.ErrState {
		t.Fatalf("%s: Read = %d, %d", name, value, e)
	}
}

// testNothing tests what a heap that nobody made tells without arguments.
func testNothing(t *testing.T, name string, h *heap.Heap) {
	t.Helper()
	var none *space.Space
	if live, table := h.Live(), h.Table(); len(live) != 0 || len(table) != 0 {
		t.Fatalf("%s: Live = %v, Table = %v", name, live, table)
	}
	if s, cfg := h.Stats(), h.Config(); s != (api.Stats{}) || cfg != (api.Config{}) {
		t.Fatalf("%s: Stats = %v, Config = %v", name, s, cfg)
	}
	if trimmed, s, clone := h.Trim(), h.Space(), h.Clone(); trimmed != 0 || s != none || clone != nil {
		t.Fatalf("%s: Trim = %d, Space = %v, Clone = %v", name, trimmed, s, clone)
	}
}
