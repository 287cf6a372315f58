package heap_test

import (
	"slices"
	"testing"

	"freehold/api"
)

// TestTake tests that a block is the newest object of the cache, and that only a
// miss needs more steps.
func TestTake(t *testing.T) {
	p := paired(t, made8(t), example)
	a := p.moves(0, 24, 8, "take", "transfer", "central", "grow", "central", "fill")
	b := p.moves(0, 24, 8, "take")
	c := p.moves(0, 24, 8, "take", "transfer", "central", "fill")
	if b != a+24 || c != a+48 {
		t.Fatalf("%d, %d, %d", a, b, c)
	}
	p.bytes(48, 0, 0)
	p.runs(0, freeOf(b), api.Result{}, "find", "put")
	if d := p.moves(0, 17, 1, "take"); d != b {
		t.Fatalf("Malloc = %d, not %d", d, b)
	}
	// The rest of what was filled in comes in its order.
	d := p.moves(0, 24, 8, "take")
	e := p.moves(0, 24, 8, "take")
	if d != c+24 || e != c+48 {
		t.Fatalf("%d, %d behind %d", d, e, c)
	}
	p.alike()
}

// traded is a heap whose thread 0 has given a batch of two objects of 64 bytes
// back, which it had taken first, and holds two others of thread 1: that batch.
func traded(t *testing.T, arenas, room int) (*pair, []int) {
	t.Helper()
	p := paired(t, pages(), api.Config{Pages: 96, Arenas: arenas, Threads: 3, Budget: 65536, Room: room})
	batch := p.many(0, 2, 64, 8)
	others := p.many(1, 2, 64, 8)
	p.frees(0, batch...)
	p.runs(0, freeOf(others[0]), api.Result{}, "find", "put", "back")
	p.runs(0, freeOf(others[1]), api.Result{}, "find", "put")
	return p, batch
}

// TestTransfer tests that a batch that one thread gives back goes as a whole to
// another thread of the same arena that wants one, and to none of another arena.
func TestTransfer(t *testing.T) {
	p, batch := traded(t, 1, 1)
	p.bytes(128, 0, 128)
	if a := p.moves(1, 64, 8, "take", "transfer", "fill"); a != batch[0] {
		t.Fatalf("Malloc = %d, not %d", a, batch[0])
	}
	if b := p.moves(1, 64, 8, "take"); b != batch[1] {
		t.Fatalf("Malloc = %d, not %d", b, batch[1])
	}
	p.moves(1, 64, 8, "take", "transfer", "central", "grow", "central", "fill")
	p.alike()
	p, batch = traded(t, 2, 1) // thread 1 belongs to another arena
	p.moves(1, 64, 8, "take", "transfer", "central", "fill")
	if a := p.moves(2, 64, 8, "take", "transfer", "fill"); a != batch[0] {
		t.Fatalf("Malloc = %d, not %d", a, batch[0])
	}
	p.alike()
}

// TestNoRoom tests that a batch for which there is no room goes to the central
// list.
func TestNoRoom(t *testing.T) {
	p, batch := traded(t, 1, 0)
	p.bytes(128, 0, 0)
	// The span has four objects, of which two are free.
	if s := p.h.Stats(); s.Central != 128 || s.Spans != 1 {
		t.Fatalf("Stats = %+v", s)
	}
	if a := p.moves(1, 64, 8, "take", "transfer", "central", "fill"); a != batch[0] {
		t.Fatalf("Malloc = %d, not %d", a, batch[0])
	}
	p.alike()
	p, _ = traded(t, 1, 1) // there is room for one batch
	p.gets(2, 64, 8)       // has the batch, and puts half of it into its cache
	p.runs(0, flush, api.Result{}, "drain", "back")
	p.bytes(64, 0, 128)
	again := p.many(1, 2, 64, 8)
	p.bytes(64, 0, 0)
	p.frees(1, again...)
	p.runs(1, flush, api.Result{}, "drain", "back")
	p.bytes(64, 0, 128)
	fresh := p.many(0, 4, 64, 8)
	p.frees(0, fresh[0], fresh[1])
	p.runs(0, flush, api.Result{}, "drain", "back")
	p.frees(0, fresh[2], fresh[3])
	p.runs(0, flush, api.Result{}, "drain", "back")
	p.bytes(64, 0, 128)
	p.alike()
}

// cached lets a thread hold as many objects of a class in its cache: it takes and
// frees blocks.
func (p *pair) cached(thread, class, many int) {
	p.t.Helper()
	c := p.x.caches[thread]
	var blocks []int
	for c.Limit(class) < many || c.Len(class) > many || c.Len(class)+len(blocks) < many {
		blocks = append(blocks, p.gets(thread, p.x.table[class].Size, 8))
	}
	p.frees(thread, blocks[:many-c.Len(class)]...)
	if n := c.Len(class); n != many {
		p.t.Fatalf("%d objects are in the cache, not %d", n, many)
	}
}

// TestWant tests that the transfer cache is asked only if a whole batch is
// wanted, and that the central list gives as many as are wanted.
func TestWant(t *testing.T) {
	p := paired(t, pages(), api.Config{Pages: 512, Arenas: 1, Threads: 2, Budget: 65536, Room: 8})
	p.cached(0, 0, 32)
	p.runs(0, flush, api.Result{}, "drain", "back")
	p.bytes(0, 0, 256)
	for limit := 2; limit < 32; limit++ { // each miss lets the limit grow
		names, free := []string{"take", "transfer", "central", "fill"}, p.h.Stats().Central/8
		if free == 0 {
			names, free = []string{"take", "transfer", "central", "grow", "central", "fill"}, 32
		}
		p.moves(1, 8, 8, names...)
		rest := min(limit, free) - 1
		p.bytes(8*rest, 0, 256)
		p.many(1, rest, 8, 8)
	}
	p.moves(1, 8, 8, "take", "transfer", "fill")
	p.bytes(8*31, 0, 0)
	p.alike()
}

// TestFewer tests that the central list gives what there is, if more is wanted,
// and nothing is made more for that.
func TestFewer(t *testing.T) {
	p := paired(t, one(), api.Config{Pages: 64, Arenas: 1, Threads: 2, Budget: 65536, Room: 2})
	for range 5 {
		p.moves(0, 256, 256, "take", "transfer", "central", "grow", "central", "fill")
		p.bytes(0, 0, 0)
	}
	p.alike()
	p = paired(t, pages(), api.Config{Pages: 64, Arenas: 1, Threads: 2, Budget: 65536, Room: 2})
	p.many(0, 5, 40, 8) // of 6 objects of a span
	p.bytes(0, 0, 0)
	p.moves(1, 40, 8, "take", "transfer", "central", "fill")
	p.bytes(0, 0, 0)
	p.moves(1, 40, 8, "take", "transfer", "central", "grow", "central", "fill")
	p.bytes(80, 0, 0)
	p.alike()
}

// TestHands tests what is in the hands of a thread between its steps.
func TestHands(t *testing.T) {
	p, _ := traded(t, 1, 1)
	p.until(1, "fill", mallocOf(64, 8)) // has the batch of the transfer cache
	p.bytes(128, 128, 0)
	p.alike()
	p.until(2, "fill", mallocOf(8, 8))
	p.bytes(128, 128+16, 0)
	p.alike()
	p.finish(1)
	p.bytes(128+64, 16, 0)
	_, result := p.finish(2)
	p.bytes(128+64+8, 0, 0)
	p.until(1, "put", freeOf(result.Addr))
	p.bytes(128+64+8, 8, 0)
	p.until(0, "back", flush)
	p.bytes(64+8, 128+8, 0)
	p.alike()
	p.finish(0)
	p.bytes(64+8, 8, 128)
	p.finish(1)
	p.bytes(64+8+8, 0, 128)
	large := p.gets(0, 600, 1)
	p.until(0, "give", freeOf(large))
	p.bytes(64+8+8, 0, 128)
	if s := p.h.Stats(); s.Large != 768 {
		t.Fatalf("Stats = %+v", s)
	}
	p.alike()
	p.finish(0)
	if s := p.h.Stats(); s.Large != 0 {
		t.Fatalf("Stats = %+v", s)
	}
	p.alike()
}

// TestFull tests that a Malloc for which there are no pages is done with
// ErrFull, and that what the miss changed in the cache stays.
func TestFull(t *testing.T) {
	for misses := range 8 {
		p := paired(t, several(), api.Config{Pages: 32, Arenas: 2, Threads: 3, Budget: 65536, Room: 2})
		large := p.gets(0, 4096, 256)
		p.runs(1, mallocOf(1000, 1), api.Result{Errno: api.ErrFull}, "large")
		for range misses {
			p.runs(0, mallocOf(88, 8), api.Result{Errno: api.ErrFull}, "take", "transfer", "central", "grow")
			p.runs(1, mallocOf(88, 8), api.Result{Errno: api.ErrFull}, "take", "transfer", "central", "grow")
		}
		if addr, e := p.malloc(2, 88, 8); addr != 0 || e != api.ErrFull {
			t.Fatalf("Malloc = %d, %d", addr, e)
		}
		if s := p.h.Stats(); s != (api.Stats{Large: 4096, Mapped: 16}) {
			t.Fatalf("Stats = %+v", s)
		}
		p.alike()
		p.runs(1, freeOf(large), api.Result{}, "find", "give")
		p.moves(0, 88, 8, "take", "transfer", "central", "grow", "central", "fill")
		if misses > 3 {
			misses = 3 // a span has 5 objects
		}
		p.bytes(88*(misses+1), 0, 0)
		p.alike()
	}
}

// TestFullHuge tests that a Malloc of one thread can use what another arena gave
// back only after Trim.
func TestFullHuge(t *testing.T) {
	p := paired(t, one(), api.Config{Pages: 32, Arenas: 2, Threads: 2, Budget: 0, Room: 0})
	large := p.gets(0, 257, 1)
	p.frees(0, large)
	p.runs(1, mallocOf(256, 8), api.Result{Errno: api.ErrFull}, "take", "transfer", "central", "grow")
	if trimmed := p.trim(); trimmed != 1 {
		t.Fatalf("Trim = %d", trimmed)
	}
	p.moves(1, 256, 8, "take", "transfer", "central", "grow", "central", "fill")
	p.runs(0, mallocOf(257, 1), api.Result{Errno: api.ErrFull}, "large")
	p.alike()
}

// TestFree tests all ways of a Free of a live block.
func TestFree(t *testing.T) {
	p := paired(t, several(), api.Config{Pages: 256, Arenas: 1, Threads: 1, Budget: 65536, Room: 2})
	for class, c := range p.x.table {
		addr := p.gets(0, c.Size, 8)
		before := p.h.Stats()
		p.runs(0, freeOf(addr), api.Result{}, "find", "put")
		if s := p.h.Stats(); s.Live != before.Live-c.Size || s.Cache != before.Cache+c.Size {
			t.Fatalf("class %d: %+v, before that %+v", class, s, before)
		}
		p.sound()
	}
	for _, size := range []int{513, 4096, 4097, 12000} {
		addr := p.gets(0, size, 8)
		p.runs(0, freeOf(addr), api.Result{}, "find", "give")
		if s := p.h.Stats(); s.Large != 0 || s.Live != 0 {
			t.Fatalf("Stats = %+v", s)
		}
		p.sound()
	}
	p.alike()
}

// notLive tests that a Free of an address, by any thread, changes nothing but
// that it is done with an error.
func (p *pair) notLive(addr int, want api.Errno) {
	p.t.Helper()
	before, space := p.h.Stats(), p.h.Space().Clone()
	for thread := range p.x.cfg.Threads {
		if p.x.ops[thread].phase != "" {
			continue
		}
		p.runs(thread, freeOf(addr), api.Result{Errno: want}, "find")
		fails(p.t, "Free", p.free(thread, addr), want)
	}
	if s := p.h.Stats(); s != before {
		p.t.Fatalf("Stats = %+v, before that %+v", s, before)
	}
	for state := range 3 {
		if !slices.Equal(p.h.Space().Runs(state), space.Runs(state)) {
			p.t.Fatalf("the pages in state %d have changed", state)
		}
	}
}

// TestNotLive tests P11.5: a Free of a free object, wherever it is, of the tail
// of a span, of an address inside a block, of 0, and of one beside all pages.
func TestNotLive(t *testing.T) {
	p := paired(t, several(), api.Config{Pages: 96, Arenas: 2, Threads: 4, Budget: 65536, Room: 2})
	live := p.gets(0, 24, 8) // 4096: the second object is in the cache, the others are free
	p.paint(live, 5)
	p.notLive(live+24, api.ErrTwice)
	for n := 2; n < 10; n++ {
		p.notLive(live+24*n, api.ErrTwice)
	}
	for addr := live + 240; addr < live+256; addr++ {
		p.notLive(addr, api.ErrWild) // the tail
	}
	for n := 1; n < 24; n++ {
		p.notLive(live+n, api.ErrWild)
		p.notLive(live+24+n, api.ErrWild)
		p.notLive(live+48+n, api.ErrWild)
	}
	for _, addr := range []int{0, 1, 8, 256, live - 1, live - 24, live - 256, live + 512, live + 256*15, 256*96 - 256, 256 * 96, 256*96 + 24} {
		p.notLive(addr, api.ErrWild)
	}
	for _, addr := range append(far, -live, -8, -256) {
		p.notLive(addr, api.ErrWild)
	}
	large := p.gets(0, 600, 1)
	for _, addr := range []int{large + 1, large + 8, large + 256, large + 512, large + 767, large + 768, large - 1} {
		p.notLive(addr, api.ErrWild)
	}
	p.alike()
	p.frees(1, live)
	p.notLive(live, api.ErrTwice) // in the cache of a thread of another arena
	p.frees(2, large)
	p.notLive(large, api.ErrWild)
	fails(t, "Flush", p.flush(1), api.OK)
	p.notLive(live, api.ErrTwice) // free in its span
	fails(t, "Flush", p.flush(0), api.OK)
	p.notLive(live, api.ErrWild) // its span is gone
	p.alike()
}

// TestNotLiveMoving tests a Free of objects in transfer caches and in hands, and
// of a large run that is not given back yet.
func TestNotLiveMoving(t *testing.T) {
	p, batch := traded(t, 2, 1)
	for _, object := range batch {
		p.notLive(object, api.ErrTwice) // in the transfer cache
	}
	p.until(2, "fill", mallocOf(64, 8))
	for _, object := range batch {
		p.notLive(object, api.ErrTwice) // in the hands: no block yet
	}
	p.alike()
	_, result := p.finish(2)
	p.until(2, "put", freeOf(result.Addr))
	p.notLive(result.Addr, api.ErrTwice)
	p.alike()
	p.finish(2)
	p.notLive(result.Addr, api.ErrTwice)
	large := p.gets(0, 4097, 1)
	p.until(2, "give", freeOf(large))
	for n := range 17 {
		p.notLive(large+256*n, api.ErrWild)
		p.ask(large + 256*n)
	}
	p.alike()
	p.finish(2)
	p.notLive(large, api.ErrWild)
	p.until(2, "back", flush)
	for _, object := range batch {
		p.notLive(object, api.ErrTwice)
	}
	p.alike()
}

// TestBackForeign tests that a batch with objects of other arenas goes to their
// central lists, in the order of the arenas, also if it is whole and there is
// room.
func TestBackForeign(t *testing.T) {
	for own := range 3 { // how many of the two objects are the thread's own
		p := paired(t, pages(), api.Config{Pages: 96, Arenas: 2, Threads: 2, Budget: 65536, Room: 8})
		blocks := append(p.many(0, 4, 64, 8)[:own:own], p.many(1, 4, 64, 8)[:2-own]...)
		fails(t, "Flush", p.flush(0), api.OK)
		p.frees(0, blocks...)
		p.bytes(128, 0, 0)
		before := p.h.Stats()
		p.runs(0, flush, api.Result{}, "drain", "back")
		want := before
		want.Cache = 0
		if own == 2 {
			want.Transfer = 128
		} else {
			want.Central += 128
		}
		if s := p.h.Stats(); s != want {
			t.Fatalf("Stats = %+v, not %+v", s, want)
		}
		p.alike()
	}
}

// TestBackMixed tests batches whose objects belong to four arenas.
func TestBackMixed(t *testing.T) {
	for _, batch := range []int{3, 4, 5} {
		table := []api.Class{{Size: 32, Pages: 1, Batch: batch}}
		p := paired(t, table, api.Config{Pages: 128, Arenas: 4, Threads: 4, Budget: 65536, Room: 8})
		var blocks []int
		for _, thread := range []int{2, 0, 3, 1} {
			blocks = append(blocks, p.many(thread, 2, 32, 8)...)
		}
		for thread := range 4 {
			fails(t, "Flush", p.flush(thread), api.OK)
		}
		for n, block := range blocks {
			p.frees(n%4, block)
		}
		for thread := range 4 {
			p.until(thread, "back", flush)
			p.alike()
			p.finish(thread)
			p.alike()
		}
	}
}

// TestBackAlone tests that giving objects back does not sweep the lists of
// arenas to which none of them belongs.
func TestBackAlone(t *testing.T) {
	p := paired(t, pages(), api.Config{Pages: 96, Arenas: 3, Threads: 3, Budget: 65536, Room: 0})
	blocks := p.many(1, 2, 64, 8)
	p.until(0, "grow", mallocOf(64, 8))
	p.step(0)
	p.until(2, "grow", mallocOf(64, 8))
	p.step(2)
	if s := p.h.Stats(); s.Spans != 3 { // two of them have no taken object
		t.Fatalf("Stats = %+v", s)
	}
	p.frees(1, blocks[0])
	p.runs(1, flush, api.Result{}, "drain", "back")
	if s := p.h.Stats(); s.Spans != 3 {
		t.Fatalf("Stats = %+v", s)
	}
	p.frees(1, blocks[1])
	p.runs(1, flush, api.Result{}, "drain", "back")
	if s := p.h.Stats(); s.Spans != 2 {
		t.Fatalf("Stats = %+v", s)
	}
	if phase := p.h.Phase(0); phase != "central" {
		t.Fatalf("Phase(0) = %q", phase)
	}
	p.alike()
}

// TestSwept tests a Malloc whose new span is gone before it takes an object of
// it.
func TestSwept(t *testing.T) {
	p := paired(t, pages(), api.Config{Pages: 96, Arenas: 1, Threads: 2, Budget: 65536, Room: 0})
	blocks := p.many(1, 4, 64, 8) // a whole span
	for round := range 3 {
		p.until(0, "grow", mallocOf(64, 8))
		p.step(0)
		p.frees(1, blocks[round])
		p.alike()
		p.runs(1, flush, api.Result{}, "drain", "back")
		if s := p.h.Stats(); s.Spans != 1 {
			t.Fatalf("Stats = %+v", s)
		}
		p.finish(0)
	}
	p.until(1, "grow", mallocOf(8, 8))
	p.step(1)
	before := p.h.Stats().Spans
	p.release(1)
	if s := p.h.Stats(); s.Spans != before-1 {
		t.Fatalf("Stats = %+v", s)
	}
	p.step(1)
	if phase := p.h.Phase(1); phase != "grow" {
		t.Fatalf("Phase(1) = %q", phase)
	}
	p.alike()
}

// TestStolen tests a Malloc whose new span is taken by another thread.
func TestStolen(t *testing.T) {
	p := paired(t, one(), api.Config{Pages: 64, Arenas: 1, Threads: 2, Budget: 65536, Room: 2})
	p.until(0, "grow", mallocOf(256, 8))
	for range 5 {
		p.step(0)
		p.moves(1, 256, 8, "take", "transfer", "central", "fill")
		p.step(0)
		if phase := p.h.Phase(0); phase != "grow" {
			t.Fatalf("Phase(0) = %q", phase)
		}
		p.sound()
	}
	p.alike()
}

// TestSameList tests two threads that take from the same central list between
// each other's steps.
func TestSameList(t *testing.T) {
	for _, first := range []int{0, 1} {
		p := paired(t, several(), api.Config{Pages: 64, Arenas: 1, Threads: 2, Budget: 65536, Room: 2})
		addr := p.gets(0, 64, 8) // the span has four objects, of which two are free
		p.gets(0, 64, 8)
		p.until(0, "central", mallocOf(64, 8))
		p.until(1, "central", mallocOf(64, 8))
		p.step(first)
		p.bytes(0, 128, 0)
		p.step(1 - first)
		if phase := p.h.Phase(1 - first); phase != "grow" {
			t.Fatalf("Phase(%d) = %q", 1-first, phase)
		}
		_, result := p.finish(first)
		if result.Addr != addr+128 {
			t.Fatalf("%d behind %d", result.Addr, addr)
		}
		p.alike()
		p.finish(1 - first)
		p.alike()
	}
}

// TestSameBlock tests two threads that free the same block: one of them is told
// that it is not live.
func TestSameBlock(t *testing.T) {
	cfg := api.Config{Pages: 64, Arenas: 2, Threads: 3, Budget: 65536, Room: 2}
	for _, size := range []int{64, 1000} {
		want := api.ErrTwice
		if size > 512 {
			want = api.ErrWild
		}
		for _, steps := range []int{1, 2} {
			p := paired(t, several(), cfg)
			addr := p.gets(0, size, 8)
			fails(t, "Start", p.start(1, freeOf(addr)), api.OK)
			fails(t, "Start", p.start(2, freeOf(addr)), api.OK)
			for range steps {
				p.step(2)
			}
			if _, e := p.h.Usable(addr); e != api.ErrWild {
				t.Fatalf("the block is live: %d", e)
			}
			p.alike()
			if done, result := p.step(1); !done || result != (api.Result{Errno: want}) {
				t.Fatalf("Step(1) = %t, %v", done, result)
			}
			if phase := p.h.Phase(2); (phase == "") != (steps == 2) {
				t.Fatalf("Phase(2) = %q", phase)
			}
			p.alike()
		}
	}
}

// TestFlush tests a Flush of an empty cache, and of one with several classes:
// their batches are given back in the order of the classes.
func TestFlush(t *testing.T) {
	p := paired(t, several(), api.Config{Pages: 256, Arenas: 1, Threads: 2, Budget: 65536, Room: 8})
	p.runs(0, flush, api.Result{}, "drain")
	for _, class := range []int{4, 1, 0, 3} {
		addr := p.gets(0, p.x.table[class].Size, 8)
		p.frees(0, addr)
	}
	p.gets(0, 88, 8)
	p.gets(1, 24, 8)
	p.until(0, "back", flush)
	sizes := []int{2 * 24, 2 * 64, 88, 2 * 200, 256}
	hands := 0
	for _, size := range sizes {
		hands += size
	}
	p.bytes(24, hands, 0)
	for n, size := range sizes {
		p.alike()
		if done, _ := p.step(0); done != (n == len(sizes)-1) {
			t.Fatalf("back of class %d: done: %t", n, done)
		}
		hands -= size
		if s := p.h.Stats(); s.Hands != hands {
			t.Fatalf("%d bytes are in the hands, not %d", s.Hands, hands)
		}
	}
	p.alike()
}

// TestBudget tests that a cache that is over its budget after a put is scavenged
// then: what it did not need goes back, behind what the put itself returned.
func TestBudget(t *testing.T) {
	table := []api.Class{{Size: 8, Pages: 1, Batch: 4}, {Size: 16, Pages: 1, Batch: 4}, {Size: 32, Pages: 1, Batch: 4}}
	p := paired(t, table, api.Config{Pages: 64, Arenas: 1, Threads: 2, Budget: 100, Room: 8})
	var blocks [][]int
	for _, c := range table {
		blocks = append(blocks, p.many(0, 4, c.Size, 8))
	}
	fails(t, "Flush", p.flush(0), api.OK) // the limits stay 3
	p.frees(0, blocks[0][:2]...)
	p.frees(0, blocks[1][:2]...)
	p.runs(0, freeOf(blocks[2][0]), api.Result{}, "find", "put")
	p.runs(0, freeOf(blocks[2][1]), api.Result{}, "find", "put") // over the budget, but all lows are 0
	p.bytes(8*2+16*2+32*2, 0, 0)
	// From then on each list has two objects at least, of which one was not needed.
	p.until(0, "back", freeOf(blocks[1][2]))
	p.bytes(8*2+16*3+32*2-(8+16+32), 8+16+32, 0)
	p.alike()
	for n, hands := range []int{16 + 32, 32, 0} {
		if done, _ := p.step(0); done != (n == 2) || p.h.Stats().Hands != hands {
			t.Fatalf("%d bytes are in the hands, not %d", p.h.Stats().Hands, hands)
		}
	}
	p.alike()
}

// TestBudgetZero tests a budget of 0, over which each put goes.
func TestBudgetZero(t *testing.T) {
	for _, table := range tables(t) {
		p := paired(t, table, api.Config{Pages: 256, Arenas: 1, Threads: 1, Budget: 0, Room: 2})
		c := table[len(table)/2]
		blocks := p.many(0, 12, c.Size, 8)
		fails(t, "Flush", p.flush(0), api.OK)
		p.runs(0, freeOf(blocks[0]), api.Result{}, "find", "put")
		p.bytes(c.Size, 0, p.h.Stats().Transfer)
		for _, block := range blocks[1:] {
			p.runs(0, freeOf(block), api.Result{}, "find", "put", "back")
			if s := p.h.Stats(); s.Cache != c.Size {
				t.Fatalf("Stats = %+v", s)
			}
		}
		p.alike()
	}
}

// TestBoth tests a put that is too much for the list and for the budget: both
// give batches, also of the same class.
func TestBoth(t *testing.T) {
	table := []api.Class{{Size: 8, Pages: 1, Batch: 1}, {Size: 64, Pages: 1, Batch: 2}}
	p := paired(t, table, api.Config{Pages: 64, Arenas: 1, Threads: 2, Budget: 79, Room: 0})
	ones, others := p.many(1, 8, 8, 8), p.many(1, 4, 64, 8)
	p.frees(0, others[0]) // the limit of each class is 1
	p.runs(0, freeOf(ones[0]), api.Result{}, "find", "put")
	p.runs(0, freeOf(ones[1]), api.Result{}, "find", "put", "back")
	p.bytes(64+8, 0, 0)
	p.runs(0, mallocOf(8, 8), api.Result{Addr: ones[1]}, "take")
	p.moves(0, 8, 8, "take", "transfer", "central", "fill") // the limit is 2 then
	p.frees(0, ones[1])
	p.runs(0, freeOf(ones[2]), api.Result{}, "find", "put") // 80 bytes, and all lows are 0
	p.until(0, "back", freeOf(ones[3]))
	p.alike()
	for range 2 {
		if done, _ := p.step(0); done {
			t.Fatal("done too early")
		}
		p.alike()
	}
	if done, _ := p.step(0); !done {
		t.Fatalf("the next step is %q", p.h.Phase(0))
	}
	p.bytes(8, 0, 0)
	p.alike()
}
