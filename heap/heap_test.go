package heap_test

import (
	"math"
	"slices"
	"testing"

	"freehold/api"
	"freehold/heap"
)

// runs tests the names of the steps of an operation, and its result.
func (p *pair) runs(thread int, op api.Op, want api.Result, names ...string) {
	p.t.Helper()
	got, result := p.steps(thread, op)
	if !slices.Equal(got, names) || result != want {
		p.t.Fatalf("%v of thread %d: %v, %v, not %v, %v", op, thread, got, result, names, want)
	}
}

// moves tests the names of the steps of a Malloc that makes a block: its
// address.
func (p *pair) moves(thread, size, align int, names ...string) int {
	p.t.Helper()
	got, result := p.steps(thread, mallocOf(size, align))
	if !slices.Equal(got, names) || result.Errno != api.OK || result.Addr == 0 {
		p.t.Fatalf("Malloc(%d, %d, %d): %v, %v, not %v", thread, size, align, got, result, names)
	}
	return result.Addr
}

// bytes tests some numbers of Stats.
func (p *pair) bytes(cache, hands, transfer int) {
	p.t.Helper()
	if s := p.h.Stats(); s.Cache != cache || s.Hands != hands || s.Transfer != transfer {
		p.t.Fatalf("%d, %d, %d bytes in caches, hands and transfer caches, not %d, %d, %d",
			s.Cache, s.Hands, s.Transfer, cache, hands, transfer)
	}
}

// TestExamples tests the chapter's examples.
func TestExamples(t *testing.T) {
	p := paired(t, made8(t), example)
	p.runs(0, mallocOf(24, 8), api.Result{Addr: 4096}, "take", "transfer", "central", "grow", "central", "fill")
	fails(t, "Free", p.free(0, 4096), api.OK)
	fails(t, "Free", p.free(0, 4096), api.ErrTwice)
	fails(t, "Free", p.free(0, 4097), api.ErrWild)
	addr := p.moves(0, 600, 1, "large")
	if size, e := p.h.Usable(addr); size != 3*256 || e != api.OK {
		t.Fatalf("Usable(%d) = %d, %d", addr, size, e)
	}
	if live := p.h.Live(); !slices.Equal(live, []api.Block{{Addr: addr, Size: 768, Class: -1, Arena: 0}}) {
		t.Fatalf("Live = %v", live)
	}
	if s := p.h.Stats(); s.Large != 768 || s.Spans != 1 || s.Mapped != 16 || s.Free != 12 {
		t.Fatalf("Stats = %+v", s)
	}
	p.alike()
}

// TestExampleAtOnce tests the chapter's first example without steps.
func TestExampleAtOnce(t *testing.T) {
	p := paired(t, made8(t), example)
	if addr, e := p.malloc(0, 24, 8); addr != 4096 || e != api.OK {
		t.Fatalf("Malloc = %d, %d", addr, e)
	}
	want := api.Stats{Live: 24, Cache: 24, Central: 8 * 24, Tails: 16, Spans: 1, Free: 15, Mapped: 16}
	if s := p.h.Stats(); s != want {
		t.Fatalf("Stats = %+v, not %+v", s, want)
	}
	if block, e := p.h.Block(4119); block != (api.Block{Addr: 4096, Size: 24, Class: 2, Arena: 0}) || e != api.OK {
		t.Fatalf("Block(4119) = %v, %d", block, e)
	}
	if block, e := p.h.Block(4120); block != (api.Block{}) || e != api.ErrWild {
		t.Fatalf("Block(4120) = %v, %d", block, e)
	}
}

// TestNew tests tables of one class and of many, and configurations at their
// bounds.
func TestNew(t *testing.T) {
	for _, table := range tables(t) {
		for _, pages := range []int{32, 48, 1008, 1024} {
			for n := range 16 {
				cfg := api.Config{Pages: pages, Arenas: 1 + n%2*3, Threads: 1 + n/2%2*3, Budget: n / 4 % 2 * 65536, Room: n / 8 * 8}
				p := paired(t, table, cfg)
				p.sound()
				if s := p.h.Stats(); s != (api.Stats{}) {
					t.Fatalf("Stats = %+v", s)
				}
				if space := p.h.Space(); space.Pages() != pages || space.Mapped() != 0 || space.Peak() != 0 {
					t.Fatalf("the space has %d pages, of which %d are mapped", space.Pages(), space.Mapped())
				}
				for thread := range cfg.Threads {
					fails(t, "Start", p.start(thread, flush), api.OK)
				}
				fails(t, "Start", p.start(cfg.Threads, flush), api.ErrArg)
			}
		}
	}
}

// badTables is lists of classes that are no tables.
func badTables() map[string][]api.Class {
	good := api.Class{Size: 64, Pages: 1, Batch: 8}
	return map[string][]api.Class{
		"nil":      nil,
		"empty":    {},
		"too long": rising(41),
		"zero":     {{}},
		"equal":    {good, good},
		"falling":  {{Size: 72, Pages: 1, Batch: 1}, good},
		"size":     {good, {Size: 100, Pages: 1, Batch: 1}},
		"size 0":   {{Size: 0, Pages: 1, Batch: 1}, good},
		"size 520": {good, {Size: 520, Pages: 4, Batch: 1}},
		"pages 0":  {{Size: 8, Pages: 0, Batch: 1}, good},
		"pages 5":  {good, {Size: 72, Pages: 5, Batch: 1}},
		"no room":  {good, {Size: 512, Pages: 1, Batch: 1}},
		"batch 0":  {{Size: 8, Pages: 1, Batch: 0}},
		"batch 33": {good, {Size: 72, Pages: 1, Batch: 33}},
		"far":      {{Size: math.MaxInt - 7, Pages: math.MaxInt, Batch: math.MaxInt}},
	}
}

// badConfigs is configurations that are out of one of their bounds.
func badConfigs() []api.Config {
	list := []api.Config{{}}
	with := func(change func(cfg *api.Config, number int), numbers ...int) {
		for _, number := range append(numbers, far...) {
			cfg := api.Config{Pages: 64, Arenas: 2, Threads: 2, Budget: 100, Room: 2}
			change(&cfg, number)
			list = append(list, cfg)
		}
	}
	with(func(cfg *api.Config, n int) { cfg.Pages = n }, 0, 1, 15, 16, 17, 24, 31, 33, 40, 47, 1000, 1023, 1025, 1032, 1040, -16, -32, -64, math.MaxInt-15)
	with(func(cfg *api.Config, n int) { cfg.Arenas = n }, 0, 5, 6, 64)
	with(func(cfg *api.Config, n int) { cfg.Threads = n }, 0, 5, 6, 64)
	with(func(cfg *api.Config, n int) { cfg.Budget = n }, 65537, 65536*2)
	with(func(cfg *api.Config, n int) { cfg.Room = n }, 9, 10, 64)
	return list
}

// TestNewErrors tests lists of classes that are no table, configurations that
// are out of their bounds, and which of these errors comes first.
func TestNewErrors(t *testing.T) {
	refuses := func(table []api.Class, cfg api.Config, want api.Errno) {
		t.Helper()
		if h, e := heap.New(table, cfg); h != nil || e != want {
			t.Fatalf("New(%v, %v) = %v, %d, not %d", table, cfg, h, e, want)
		}
	}
	for _, table := range badTables() {
		for _, cfg := range append(badConfigs(), configs()...) {
			refuses(table, cfg, api.ErrForm)
		}
	}
	for _, table := range tables(t) {
		for _, cfg := range badConfigs() {
			refuses(table, cfg, api.ErrArg)
		}
	}
}

// badThreads is numbers that no thread of so many has.
func badThreads(threads int) []int {
	return append([]int{-2, threads, threads + 1, 64}, far...)
}

// badOps is operations that are not valid.
func badOps() []api.Op {
	list := []api.Op{{}, {Kind: 3, Size: 8, Align: 8, Addr: 4096}, {Kind: 4}}
	for _, number := range far {
		if number < 1 || number > 256 {
			list = append(list, mallocOf(8, number), mallocOf(16384, number), mallocOf(number, 8), mallocOf(number, number))
		}
		list = append(list, api.Op{Kind: number, Size: 8, Align: 8})
	}
	for _, size := range []int{0, -8, 16385, 16640, 32768} {
		for _, align := range append([]int{0, 3, 512}, aligns...) {
			list = append(list, mallocOf(size, align))
		}
	}
	for align := -256; align <= 1024; align++ {
		if !slices.Contains(aligns, align) {
			list = append(list, mallocOf(1, align), mallocOf(600, align))
		}
	}
	return list
}

// TestStartErrors tests threads that are not there, operations that are not
// valid, and threads with a pending operation, and which of these errors comes
// first; and that nothing has changed then.
func TestStartErrors(t *testing.T) {
	p := paired(t, several(), api.Config{Pages: 64, Arenas: 2, Threads: 3, Budget: 100, Room: 1})
	p.gets(0, 24, 8)
	p.until(1, "central", mallocOf(64, 8))
	good := []api.Op{mallocOf(24, 8), mallocOf(600, 1), freeOf(4096), freeOf(-1), flush}
	for _, op := range append(badOps(), good...) {
		for _, thread := range badThreads(3) {
			fails(t, "Start", p.start(thread, op), api.ErrArg)
		}
		fails(t, "Start", p.start(1, op), api.ErrState)
		if !slices.Contains(good, op) {
			fails(t, "Start", p.start(0, op), api.ErrArg)
			fails(t, "Start", p.start(2, op), api.ErrArg)
		}
	}
	p.alike()
	for _, op := range good {
		fails(t, "Start", p.start(0, op), api.OK)
		fails(t, "Start", p.start(0, op), api.ErrState)
		p.finish(0)
	}
	p.alike()
}

// TestIgnored tests that the fields that a kind does not use are ignored.
func TestIgnored(t *testing.T) {
	p := paired(t, several(), example)
	for _, number := range far {
		addr := p.gets(0, 24, 8)
		_, result := p.steps(0, api.Op{Kind: api.Malloc, Size: 24, Align: 8, Addr: number})
		fails(t, "Malloc", result.Errno, api.OK)
		_, freed := p.steps(0, api.Op{Kind: api.Free, Size: number, Align: number, Addr: result.Addr})
		fails(t, "Free", freed.Errno, api.OK)
		_, flushed := p.steps(0, api.Op{Kind: api.Flush, Size: number, Align: number, Addr: addr})
		fails(t, "Flush", flushed.Errno, api.OK)
		if _, e := p.h.Usable(addr); e != api.OK {
			t.Fatalf("Flush freed %d", addr)
		}
	}
}

// TestStepErrors tests threads that are not there, or have no pending operation.
func TestStepErrors(t *testing.T) {
	p := paired(t, several(), api.Config{Pages: 64, Arenas: 2, Threads: 3, Budget: 100, Room: 1})
	addr := p.gets(0, 24, 8)
	p.until(1, "central", mallocOf(64, 8))
	none := func(thread int, want api.Errno) {
		t.Helper()
		if done, result, e := p.h.Step(thread); done || result != (api.Result{}) || e != want {
			t.Fatalf("Step(%d) = %t, %v, %d, not %d", thread, done, result, e, want)
		}
		if phase := p.h.Phase(thread); phase != "" {
			t.Fatalf("Phase(%d) = %q", thread, phase)
		}
	}
	for _, thread := range badThreads(3) {
		none(thread, api.ErrArg)
	}
	for _, thread := range []int{0, 2} {
		none(thread, api.ErrState)
	}
	for _, op := range []api.Op{mallocOf(24, 8), freeOf(addr), freeOf(addr), flush, flush, mallocOf(600, 1)} {
		fails(t, "Start", p.start(0, op), api.OK)
		p.finish(0)
		none(0, api.ErrState)
		none(2, api.ErrState)
	}
	p.alike()
}

// TestAtOnceErrors tests the errors of Malloc, Free and Flush, which are those of
// Start.
func TestAtOnceErrors(t *testing.T) {
	p := paired(t, several(), api.Config{Pages: 64, Arenas: 2, Threads: 3, Budget: 100, Room: 1})
	addr := p.gets(0, 24, 8)
	p.until(1, "central", mallocOf(64, 8))
	refuses := func(thread int, want api.Errno) {
		t.Helper()
		for _, op := range append(badOps(), mallocOf(24, 8), mallocOf(600, 1)) {
			if op.Kind != api.Malloc {
				continue
			}
			if addr, e := p.malloc(thread, op.Size, op.Align); addr != 0 || e != want {
				t.Fatalf("Malloc(%d, %v) = %d, %d, not %d", thread, op, addr, e, want)
			}
		}
		for _, at := range []int{addr, addr + 1, 0, -1, 1 << 40} {
			fails(t, "Free", p.free(thread, at), want)
		}
		fails(t, "Flush", p.flush(thread), want)
	}
	for _, thread := range badThreads(3) {
		refuses(thread, api.ErrArg)
	}
	refuses(1, api.ErrState)
	for _, op := range badOps() {
		if op.Kind != api.Malloc {
			continue
		}
		if addr, e := p.malloc(0, op.Size, op.Align); addr != 0 || e != api.ErrArg {
			t.Fatalf("Malloc(0, %v) = %d, %d", op, addr, e)
		}
	}
	p.alike()
}

// TestRequests tests the class, the alignment and the usable size of blocks of
// many sizes, among them those that have no class because of their alignment.
func TestRequests(t *testing.T) {
	for _, table := range tables(t) {
		p := paired(t, table, api.Config{Pages: 512, Arenas: 1, Threads: 1, Budget: 0, Room: 1})
		for _, size := range []int{1, 2, 7, 8, 9, 24, 25, 63, 64, 65, 255, 256, 257, 320, 321, 511, 512, 513, 700, 768, 769, 4095, 4096, 4097, 16128, 16129, 16383, 16384} {
			for _, align := range aligns {
				addr := p.gets(0, size, align)
				block, e := p.h.Block(addr)
				fails(t, "Block", e, api.OK)
				if want := p.x.classOf(size, align); block.Class != want {
					t.Fatalf("the class of %d, %d is %d, not %d", size, align, block.Class, want)
				}
				p.sound()
				p.paint(addr, size)
				p.sound()
				p.frees(0, addr)
			}
		}
		p.alike()
	}
}

// TestAligned tests requests that are large because of their alignment alone.
func TestAligned(t *testing.T) {
	table := []api.Class{{Size: 8, Pages: 1, Batch: 4}, {Size: 24, Pages: 1, Batch: 4}, {Size: 40, Pages: 1, Batch: 2}}
	p := paired(t, table, example)
	first := p.moves(0, 8, 16, "large")
	second := p.moves(0, 40, 256, "large")
	third := p.moves(0, 1, 8, "take", "transfer", "central", "grow", "central", "fill")
	p.moves(0, 41, 1, "large")
	if first != 4096 || second != 4352 || third != 4608 {
		t.Fatalf("%d, %d, %d", first, second, third)
	}
	if s := p.h.Stats(); s.Large != 3*256 || s.Spans != 1 {
		t.Fatalf("Stats = %+v", s)
	}
	p.runs(0, freeOf(first), api.Result{}, "find", "give")
	p.alike()
}
