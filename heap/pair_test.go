package heap_test

import (
	"math"
	"slices"
	"testing"

	"freehold/api"
	"freehold/heap"
	"freehold/sizes"
)

// far is numbers that are no thread, no size, no address and no kind.
var far = []int{math.MinInt, math.MinInt + 1, -1 << 62, -1 << 32, -16385, -257, -41, -1, 1 << 20, 1 << 32, 1<<32 + 1, 1 << 62, math.MaxInt - 255, math.MaxInt - 1, math.MaxInt}

// pair is a heap and its model, which are used in the same way, and what is to
// be known of the live blocks: what was asked, and what was written to them.
type pair struct {
	t     *testing.T
	h     *heap.Heap
	x     *model
	asked map[int]api.Op
	words map[int]int
}

// fails tests the error of a call.
func fails(t *testing.T, what string, e, want api.Errno) {
	t.Helper()
	if e != want {
		t.Fatalf("%s: %d, not %d", what, e, want)
	}
}

// made is a new heap.
func made(t *testing.T, table []api.Class, cfg api.Config) *heap.Heap {
	t.Helper()
	h, e := heap.New(table, cfg)
	if h == nil || e != api.OK {
		t.Fatalf("New(%v, %v) = %v, %d", table, cfg, h, e)
	}
	return h
}

// paired is a new heap with its model.
func paired(t *testing.T, table []api.Class, cfg api.Config) *pair {
	t.Helper()
	return &pair{t: t, h: made(t, table, cfg), x: modelOf(table, cfg), asked: map[int]api.Op{}, words: map[int]int{}}
}

// clone is a clone of the heap, and the same for the rest.
func (p *pair) clone() *pair {
	p.t.Helper()
	q := &pair{t: p.t, h: p.h.Clone(), x: p.x.clone(), asked: map[int]api.Op{}, words: map[int]int{}}
	if q.h == nil || q.h == p.h {
		p.t.Fatalf("Clone = %p of %p", q.h, p.h)
	}
	for addr, op := range p.asked {
		q.asked[addr] = op
	}
	for addr, value := range p.words {
		q.words[addr] = value
	}
	return q
}

// start starts an operation.
func (p *pair) start(thread int, op api.Op) api.Errno {
	p.t.Helper()
	e, want := p.h.Start(thread, op), p.x.start(thread, op)
	if e != want {
		p.t.Fatalf("Start(%d, %v): %d, not %d", thread, op, e, want)
	}
	p.phases()
	return e
}

// step makes a step: whether the operation is done, and its result.
func (p *pair) step(thread int) (bool, api.Result) {
	p.t.Helper()
	var now pending
	if p.x.has(thread) {
		now = p.x.ops[thread]
	}
	before := p.h.Live()
	done, result, e := p.h.Step(thread)
	wantDone, wantResult, wantE := p.x.step(thread)
	if done != wantDone || result != wantResult || e != wantE {
		p.t.Fatalf("Step(%d) of %v = %t, %v, %d, not %t, %v, %d", thread, now, done, result, e, wantDone, wantResult, wantE)
	}
	p.moment(now, before, done && result.Errno == api.OK, result.Addr)
	if done && now.op.Kind == api.Malloc && result.Errno == api.OK {
		p.asked[result.Addr] = now.op
	}
	if now.phase == "find" && !(done && result.Errno != api.OK) {
		p.forget(now.op.Addr)
	}
	p.phases()
	p.conserved()
	return done, result
}

// moment tests P4: a step of a Malloc changes the live blocks only if it is done
// with a block, which is added; a step of a Free only if it finds its block,
// which is removed.
func (p *pair) moment(now pending, before []api.Block, succeeded bool, addr int) {
	p.t.Helper()
	is := func(addr int) func(api.Block) bool {
		return func(block api.Block) bool { return block.Addr == addr }
	}
	after := p.h.Live()
	if now.op.Kind == api.Malloc && succeeded && now.phase != "" {
		if !slices.ContainsFunc(after, is(addr)) || addr == 0 {
			p.t.Fatalf("the step %s made no live block %d", now.phase, addr)
		}
		after = slices.DeleteFunc(after, is(addr))
	}
	if now.phase == "find" {
		before = slices.DeleteFunc(before, is(now.op.Addr))
	}
	if !slices.Equal(before, after) {
		p.t.Fatalf("the step %s changed the live blocks %v to %v", now.phase, before, after)
	}
}

// forget notes that a block is not live any more.
func (p *pair) forget(addr int) {
	delete(p.asked, addr)
	for word := range p.words {
		if _, e := p.x.blockAt(word); e != api.OK {
			delete(p.words, word)
		}
	}
}

// finish makes all steps that are left of an operation: how many, and the
// result.
func (p *pair) finish(thread int) (int, api.Result) {
	p.t.Helper()
	for steps := 1; steps <= 1000; steps++ {
		if done, result := p.step(thread); done {
			return steps, result
		}
	}
	p.t.Fatalf("thread %d is not done after 1000 steps", thread)
	return 0, api.Result{}
}

// steps starts an operation, and makes all its steps: their names, and the
// result.
func (p *pair) steps(thread int, op api.Op) ([]string, api.Result) {
	p.t.Helper()
	fails(p.t, "Start", p.start(thread, op), api.OK)
	var names []string
	for {
		names = append(names, p.h.Phase(thread))
		if done, result := p.step(thread); done {
			return names, result
		}
	}
}

// until starts an operation, and makes the steps before that of a name.
func (p *pair) until(thread int, phase string, op api.Op) {
	p.t.Helper()
	fails(p.t, "Start", p.start(thread, op), api.OK)
	for p.h.Phase(thread) != phase {
		if done, result := p.step(thread); done {
			p.t.Fatalf("%v of thread %d is done without %s: %v", op, thread, phase, result)
		}
	}
}

// mallocOf is an operation Malloc.
func mallocOf(size, align int) api.Op {
	return api.Op{Kind: api.Malloc, Size: size, Align: align}
}

// freeOf is an operation Free.
func freeOf(addr int) api.Op {
	return api.Op{Kind: api.Free, Addr: addr}
}

// flush is an operation Flush.
var flush = api.Op{Kind: api.Flush}

// whole makes the steps of an operation on the model.
func (p *pair) whole(thread int, op api.Op) api.Result {
	if e := p.x.start(thread, op); e != api.OK {
		return api.Result{Errno: e}
	}
	for {
		done, result, _ := p.x.step(thread)
		if done {
			return result
		}
	}
}

// malloc is Malloc.
func (p *pair) malloc(thread, size, align int) (int, api.Errno) {
	p.t.Helper()
	addr, e := p.h.Malloc(thread, size, align)
	want := p.whole(thread, mallocOf(size, align))
	if addr != want.Addr || e != want.Errno {
		p.t.Fatalf("Malloc(%d, %d, %d) = %d, %d, not %v", thread, size, align, addr, e, want)
	}
	if e == api.OK {
		p.asked[addr] = mallocOf(size, align)
	}
	p.phases()
	p.conserved()
	return addr, e
}

// gets is the address of a new block.
func (p *pair) gets(thread, size, align int) int {
	p.t.Helper()
	addr, e := p.malloc(thread, size, align)
	if e != api.OK || addr == 0 {
		p.t.Fatalf("Malloc(%d, %d, %d) = %d, %d", thread, size, align, addr, e)
	}
	return addr
}

// many is the addresses of some new blocks.
func (p *pair) many(thread, many, size, align int) []int {
	p.t.Helper()
	var list []int
	for range many {
		list = append(list, p.gets(thread, size, align))
	}
	return list
}

// free is Free.
func (p *pair) free(thread, addr int) api.Errno {
	p.t.Helper()
	e, want := p.h.Free(thread, addr), p.whole(thread, freeOf(addr))
	if e != want.Errno {
		p.t.Fatalf("Free(%d, %d): %d, not %d", thread, addr, e, want.Errno)
	}
	if e == api.OK {
		p.forget(addr)
	}
	p.phases()
	p.conserved()
	return e
}

// frees frees live blocks.
func (p *pair) frees(thread int, addrs ...int) {
	p.t.Helper()
	for _, addr := range addrs {
		fails(p.t, "Free", p.free(thread, addr), api.OK)
	}
}

// flush is Flush.
func (p *pair) flush(thread int) api.Errno {
	p.t.Helper()
	e, want := p.h.Flush(thread), p.whole(thread, flush)
	if e != want.Errno {
		p.t.Fatalf("Flush(%d): %d, not %d", thread, e, want.Errno)
	}
	p.phases()
	p.conserved()
	return e
}

// write writes to a word.
func (p *pair) write(addr, value int) {
	p.t.Helper()
	e, want := p.h.Write(addr, value), p.x.space.Write(addr, value)
	if e != want {
		p.t.Fatalf("Write(%d, %d): %d, not %d", addr, value, e, want)
	}
	if _, e := p.x.blockAt(addr); want == api.OK && e == api.OK {
		p.words[addr] = value
	}
}

// paint writes to all words of a live block.
func (p *pair) paint(addr, value int) {
	p.t.Helper()
	block, e := p.x.blockAt(addr)
	fails(p.t, "paint", e, api.OK)
	for word := block.Addr; word+8 <= block.Addr+block.Size; word += 8 {
		p.write(word, value+word)
	}
}

// release is Release.
func (p *pair) release(want int) int {
	p.t.Helper()
	pages, e := p.h.Release(want)
	wantPages, wantE := p.x.release(want)
	if pages != wantPages || e != wantE {
		p.t.Fatalf("Release(%d) = %d, %d, not %d, %d", want, pages, e, wantPages, wantE)
	}
	p.conserved()
	return pages
}

// trim is Trim.
func (p *pair) trim() int {
	p.t.Helper()
	trimmed, want := p.h.Trim(), p.x.trim()
	if trimmed != want {
		p.t.Fatalf("Trim = %d, not %d", trimmed, want)
	}
	p.conserved()
	return trimmed
}

// tick is Tick.
func (p *pair) tick() {
	p.t.Helper()
	p.h.Tick()
	p.x.tick()
	p.conserved()
}

// phases tests the names of the next steps.
func (p *pair) phases() {
	p.t.Helper()
	for thread, own := range p.x.ops {
		if phase := p.h.Phase(thread); phase != own.phase {
			p.t.Fatalf("Phase(%d) = %q, not %q", thread, phase, own.phase)
		}
	}
}

// conserved tests P11.2, and the numbers themselves.
func (p *pair) conserved() {
	p.t.Helper()
	s, want := p.h.Stats(), p.x.stats()
	if s != want {
		p.t.Fatalf("Stats = %+v, not %+v", s, want)
	}
	if 256*s.Spans != s.Live+s.Cache+s.Hands+s.Transfer+s.Central+s.Tails {
		p.t.Fatalf("the bytes of spans are not conserved: %+v", s)
	}
	if s.Large%256 != 0 || s.Mapped != s.Spans+s.Free+s.Large/256 {
		p.t.Fatalf("the mapped pages are not conserved: %+v", s)
	}
	if space := p.h.Space(); s.Mapped != space.Mapped() || s.Dirty != space.Dirty() {
		p.t.Fatalf("Stats = %+v of a space with %d, %d pages", s, space.Mapped(), space.Dirty())
	}
}

// sound tests all that can be asked of a heap without changing it, and P11.1,
// P11.2 and P11.4.
func (p *pair) sound() {
	p.t.Helper()
	p.phases()
	p.conserved()
	p.disjoint()
	p.kept()
	p.asks()
	if cfg := p.h.Config(); cfg != p.x.cfg {
		p.t.Fatalf("Config = %v, not %v", cfg, p.x.cfg)
	}
	if table := p.h.Table(); !slices.Equal(table, p.x.table) {
		p.t.Fatalf("Table = %v, not %v", table, p.x.table)
	}
	for state := range 3 {
		if runs, want := p.h.Space().Runs(state), p.x.space.Runs(state); !slices.Equal(runs, want) {
			p.t.Fatalf("the pages in state %d are %v, not %v", state, runs, want)
		}
	}
	if peak, want := p.h.Space().Peak(), p.x.space.Peak(); peak != want {
		p.t.Fatalf("Peak = %d, not %d", peak, want)
	}
	for _, run := range p.x.space.Runs(2) {
		words, e := p.h.Space().Words(256*run.Start, 32*run.Pages)
		want, _ := p.x.space.Words(256*run.Start, 32*run.Pages)
		if e != api.OK || !slices.Equal(words, want) {
			p.t.Fatalf("the words of %v are %v, not %v", run, words, want)
		}
	}
}

// disjoint tests P11.1, and the live blocks themselves.
func (p *pair) disjoint() {
	p.t.Helper()
	live := p.h.Live()
	if want := p.x.sorted(); !slices.Equal(live, want) {
		p.t.Fatalf("Live = %v, not %v", live, want)
	}
	if len(live) != len(p.asked) {
		p.t.Fatalf("%d blocks are live, not %d", len(live), len(p.asked))
	}
	end := 256
	for _, block := range live {
		op, found := p.asked[block.Addr]
		if !found || block.Addr%op.Align != 0 || block.Size < op.Size {
			p.t.Fatalf("the block %v was asked for as %v", block, op)
		}
		if block.Addr < end {
			p.t.Fatalf("the block %v begins before %d", block, end)
		}
		end = block.Addr + block.Size
		if block.Class >= len(p.x.table) || block.Class >= 0 && block.Size != p.x.table[block.Class].Size {
			p.t.Fatalf("the block %v has not the size of its class", block)
		}
		if block.Class < 0 && block.Size != (op.Size+255)/256*256 {
			p.t.Fatalf("the large block %v was asked for as %v", block, op)
		}
	}
	if end > 256*p.x.cfg.Pages {
		p.t.Fatalf("the last block ends at %d", end)
	}
}

// kept tests P11.4: the words of live blocks are those that were written last.
func (p *pair) kept() {
	p.t.Helper()
	for word, want := range p.words {
		if value, e := p.h.Read(word); value != want || e != api.OK {
			p.t.Fatalf("Read(%d) = %d, %d, not %d", word, value, e, want)
		}
	}
}

// asks tests Usable and Block of the addresses about all live blocks.
func (p *pair) asks() {
	p.t.Helper()
	for _, block := range p.x.live {
		for _, addr := range []int{block.Addr - 1, block.Addr, block.Addr + 1, block.Addr + block.Size - 1, block.Addr + block.Size} {
			p.ask(addr)
		}
	}
	p.ask(0)
	p.ask(256*p.x.cfg.Pages - 1)
}

// ask tests Usable and Block of an address.
func (p *pair) ask(addr int) {
	p.t.Helper()
	want, wantE := p.x.blockAt(addr)
	if block, e := p.h.Block(addr); block != want || e != wantE {
		p.t.Fatalf("Block(%d) = %v, %d, not %v, %d", addr, block, e, want, wantE)
	}
	if want.Addr != addr {
		want, wantE = api.Block{}, api.ErrWild
	}
	if size, e := p.h.Usable(addr); size != want.Size || e != wantE {
		p.t.Fatalf("Usable(%d) = %d, %d, not %d, %d", addr, size, e, want.Size, wantE)
	}
}

// alike tests that the heap and the model are in the same state, also in what
// only later calls tell: two clones go on in the same ways.
func (p *pair) alike() {
	p.t.Helper()
	p.sound()
	for _, way := range []func(*pair){(*pair).settle, (*pair).refill, (*pair).empty} {
		q := p.clone()
		way(q)
		q.sound()
	}
	p.sound()
}

// settle finishes all operations, a step of each thread in turn.
func (p *pair) settle() {
	p.t.Helper()
	for range 1000 {
		moved := false
		for thread := range p.x.ops {
			if p.x.ops[thread].phase != "" {
				p.step(thread)
				moved = true
			}
		}
		if !moved {
			return
		}
	}
	p.t.Fatalf("the operations are not done")
}

// refill finishes all operations, and then takes blocks of many classes, and
// pages one by one.
func (p *pair) refill() {
	p.t.Helper()
	p.settle()
	for n := 0; n < len(p.x.table); n += 1 + len(p.x.table)/6 {
		for thread := range p.x.ops {
			p.malloc(thread, p.x.table[n].Size, 8)
			p.malloc(thread, p.x.table[n].Size, 8)
		}
	}
	for thread := range p.x.ops {
		p.malloc(thread, 700, 256)
	}
	for range 20 {
		if p.release(1) == 0 {
			break
		}
	}
}

// empty finishes all operations, and then gives all back that is not live.
func (p *pair) empty() {
	p.t.Helper()
	p.settle()
	for thread := range p.x.ops {
		fails(p.t, "Flush", p.flush(thread), api.OK)
	}
	for range 5 {
		p.tick()
	}
	p.release(api.MaxPages)
	p.trim()
	p.returned()
}

// returned tests P11.6 and P3 of a heap that was emptied, all whose dirty pages
// were written while they were those of live blocks.
func (p *pair) returned() {
	p.t.Helper()
	s := p.h.Stats()
	if s.Cache != 0 || s.Hands != 0 || s.Transfer != 0 {
		p.t.Fatalf("not all is given back: %+v", s)
	}
	used, huge, spans := map[int]bool{}, map[int]bool{}, map[int]bool{}
	for _, block := range p.x.live {
		for page := block.Addr / 256; page <= (block.Addr+block.Size-1)/256; page++ {
			used[page], huge[page/16] = true, true
			if block.Class >= 0 {
				spans[page] = true
			}
		}
	}
	// A span of several pages can have pages without a byte of a live block.
	least, most := len(spans), 0
	for _, block := range p.x.live {
		if block.Class >= 0 {
			most += p.x.table[block.Class].Pages
		}
	}
	if s.Spans < least || s.Spans > most {
		p.t.Fatalf("%d pages of spans, of %d to %d of live blocks", s.Spans, least, most)
	}
	if s.Dirty > s.Spans+s.Large/256 {
		p.t.Fatalf("%d pages are dirty: %+v", s.Dirty, s)
	}
	if onePage(p.x.table) {
		if s.Spans != least || s.Mapped != 16*len(huge) {
			p.t.Fatalf("%d pages of spans, not %d; %d mapped pages, not %d", s.Spans, least, s.Mapped, 16*len(huge))
		}
		for page := range p.x.cfg.Pages {
			if p.h.Space().State(page) == 2 && !used[page] {
				p.t.Fatalf("page %d is dirty, and of no block", page)
			}
		}
	}
	if len(p.x.live) == 0 && (s != api.Stats{}) {
		p.t.Fatalf("nothing is live: %+v", s)
	}
}

// onePage reports whether all spans of a table have one page.
func onePage(table []api.Class) bool {
	return !slices.ContainsFunc(table, func(c api.Class) bool { return c.Pages > 1 })
}

// example is the configuration of the chapter's examples.
var example = api.Config{Pages: 64, Arenas: 1, Threads: 1, Budget: 1024, Room: 2}

// made8 is the table of the chapter's examples.
func made8(t *testing.T) []api.Class {
	t.Helper()
	table, e := sizes.Make(8)
	fails(t, "Make", e, api.OK)
	return table
}

// one is a table of one class, whose spans have one object.
func one() []api.Class {
	return []api.Class{{Size: 256, Pages: 1, Batch: 2}}
}

// pages is a table of classes whose spans have one page.
func pages() []api.Class {
	return []api.Class{{Size: 8, Pages: 1, Batch: 32}, {Size: 40, Pages: 1, Batch: 3}, {Size: 64, Pages: 1, Batch: 2}, {Size: 128, Pages: 1, Batch: 1}, {Size: 256, Pages: 1, Batch: 2}}
}

// several is a table of classes with spans of 1 to 4 pages, with tails and
// without, and with batches of 1 to 32 objects.
func several() []api.Class {
	return []api.Class{{Size: 24, Pages: 1, Batch: 3}, {Size: 64, Pages: 1, Batch: 4}, {Size: 88, Pages: 2, Batch: 32}, {Size: 200, Pages: 3, Batch: 2}, {Size: 256, Pages: 4, Batch: 1}}
}

// rising is a table of the first sizes.
func rising(classes int) []api.Class {
	var table []api.Class
	for n := range classes {
		// From 264 bytes on, objects do not fit into one page.
		table = append(table, api.Class{Size: 8 * (n + 1), Pages: 1 + n%3 + n/32, Batch: 1 + n%32})
	}
	return table
}

// tables is tables of one class and of many.
func tables(t *testing.T) [][]api.Class {
	t.Helper()
	list := [][]api.Class{one(), pages(), several(), rising(39), rising(40)}
	for _, waste := range []int{2, 8, 16} {
		table, e := sizes.Make(waste)
		fails(t, "Make", e, api.OK)
		list = append(list, table)
	}
	return list
}

// configs is configurations with one arena and several, with one thread and
// several, and with budgets, rooms and pages at their bounds and between them.
func configs() []api.Config {
	return []api.Config{
		example,
		{Pages: 32, Arenas: 1, Threads: 1, Budget: 0, Room: 0},
		{Pages: 32, Arenas: 4, Threads: 4, Budget: 65536, Room: 8},
		{Pages: 1024, Arenas: 4, Threads: 4, Budget: 65536, Room: 8},
		{Pages: 1024, Arenas: 1, Threads: 4, Budget: 0, Room: 8},
		{Pages: 96, Arenas: 2, Threads: 3, Budget: 300, Room: 1},
		{Pages: 128, Arenas: 2, Threads: 4, Budget: 1, Room: 0},
		{Pages: 112, Arenas: 1, Threads: 2, Budget: 500, Room: 2},
		{Pages: 256, Arenas: 3, Threads: 2, Budget: 2000, Room: 3},
		{Pages: 80, Arenas: 4, Threads: 3, Budget: 100, Room: 8},
	}
}
