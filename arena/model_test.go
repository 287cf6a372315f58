package arena

import (
	"slices"
	"testing"

	"freehold/api"
	"freehold/sizes"
	"freehold/space"
)

// nobody is the owner of a page that is unmapped.
const nobody = -1

// world is what is known of a space, to the letter: which arena each page's huge
// page belongs to, and whether the page is dirty.
type world struct {
	owner []int
	dirty []bool
}

// worldOf is a world of pages that are all unmapped.
func worldOf(pages int) *world {
	w := &world{owner: make([]int, pages), dirty: make([]bool, pages)}
	for page := range w.owner {
		w.owner[page] = nobody
	}
	return w
}

// state is the state of a page of the space.
func (w *world) state(page int) int {
	if w.owner[page] == nobody {
		return 0
	}
	if !w.dirty[page] {
		return 1
	}
	return 2
}

// clone is a world in the same state.
func (w *world) clone() *world {
	return &world{owner: slices.Clone(w.owner), dirty: slices.Clone(w.dirty)}
}

// spanModel is a span: its class, its first page, and which of its objects are
// taken, by their addresses.
type spanModel struct {
	class, start int
	taken        map[int]bool
}

// transferModel is a transfer cache: its batches, the oldest one first, and how
// many it had at all times since the last Tick, or since it was made.
type transferModel struct {
	batches [][]int
	lengths []int
}

// counted notes the number of batches.
func (y *transferModel) counted() {
	y.lengths = append(y.lengths, len(y.batches))
}

// model is an arena, read to the letter.
type model struct {
	table  []api.Class
	room   int
	me     int // the number of the arena
	world  *world
	spans  []*spanModel
	large  []api.Run
	backed map[int]bool // the free pages that are not released
	queues []*transferModel
}

// modelOf is an arena without huge pages.
func modelOf(table []api.Class, w *world, room, me int) *model {
	x := &model{table: table, room: room, me: me, world: w, backed: map[int]bool{}}
	for range table {
		x.queues = append(x.queues, &transferModel{lengths: []int{0}})
	}
	return x
}

// clone is a model in the same state, in another world.
func (x *model) clone(w *world) *model {
	y := modelOf(x.table, w, x.room, x.me)
	for _, span := range x.spans {
		own := &spanModel{class: span.class, start: span.start, taken: map[int]bool{}}
		for object := range span.taken {
			own.taken[object] = true
		}
		y.spans = append(y.spans, own)
	}
	y.large = slices.Clone(x.large)
	for page := range x.backed {
		y.backed[page] = true
	}
	for class, queue := range x.queues {
		for _, batch := range queue.batches {
			y.queues[class].batches = append(y.queues[class].batches, slices.Clone(batch))
		}
		y.queues[class].lengths = slices.Clone(queue.lengths)
	}
	return y
}

// has reports whether there is a class.
func (x *model) has(class int) bool {
	return class >= 0 && class < len(x.table)
}

// objects is the addresses of all objects of a span.
func (x *model) objects(span *spanModel) []int {
	class := x.table[span.class]
	var objects []int
	for addr := 256 * span.start; addr+class.Size <= 256*(span.start+class.Pages); addr += class.Size {
		objects = append(objects, addr)
	}
	return objects
}

// run is the pages of a span.
func (x *model) run(span *spanModel) api.Run {
	return api.Run{Start: span.start, Pages: x.table[span.class].Pages}
}

// within reports whether a page is in a run.
func within(page int, run api.Run) bool {
	return page >= run.Start && page < run.Start+run.Pages
}

// used reports whether a page is one of a span or of a large run.
func (x *model) used(page int) bool {
	for _, run := range x.large {
		if within(page, run) {
			return true
		}
	}
	for _, span := range x.spans {
		if within(page, x.run(span)) {
			return true
		}
	}
	return false
}

// free is which pages are free: those of the arena's huge pages that are neither
// of spans nor of large runs.
func (x *model) free() []bool {
	free := make([]bool, len(x.world.owner))
	for page, owner := range x.world.owner {
		free[page] = owner == x.me && !x.used(page)
	}
	return free
}

// all reports whether a place is within the pages, and all of it is free.
func all(free []bool, start, pages int) bool {
	if start+pages > len(free) {
		return false
	}
	for page := start; page < start+pages; page++ {
		if !free[page] {
			return false
		}
	}
	return true
}

// place is where pages with an alignment are taken, as chapter 3 says: from the
// first of the least free blocks that are large enough.
func (x *model) place(pages, align int) (int, bool) {
	free, size := x.free(), 1
	for size < pages || size < align {
		size *= 2
	}
	for ; size <= len(free); size *= 2 {
		for start := 0; start+size <= len(free); start += size {
			if all(free, start, size) && !all(free, start/(2*size)*(2*size), 2*size) {
				return start, true
			}
		}
	}
	return 0, false
}

// extend maps the lowest run that is large enough.
func (x *model) extend(pages, align int) bool {
	b := 1
	for b < pages || b < align || b < 16 {
		b *= 2
	}
	unmapped := make([]bool, len(x.world.owner))
	for page, owner := range x.world.owner {
		unmapped[page] = owner == nobody
	}
	for start := b; start+b <= len(unmapped); start += b {
		if all(unmapped, start, b) {
			for page := start; page < start+b; page++ {
				x.world.owner[page], x.world.dirty[page] = x.me, false
			}
			return true
		}
	}
	return false
}

// get gets pages, which nothing uses yet.
func (x *model) get(pages, align int) (int, api.Errno) {
	start, found := x.place(pages, align)
	if !found {
		if !x.extend(pages, align) {
			return 0, api.ErrFull
		}
		start, _ = x.place(pages, align)
	}
	for page := start; page < start+pages; page++ {
		delete(x.backed, page)
	}
	return start, api.OK
}

// giveBack makes pages that nothing uses any more backed.
func (x *model) giveBack(run api.Run) {
	for page := run.Start; page < run.Start+run.Pages; page++ {
		x.backed[page] = true
	}
}

// spanOf is the span of a class with an object at an address.
func (x *model) spanOf(class, object int) *spanModel {
	for _, span := range x.spans {
		if span.class == class && slices.Contains(x.objects(span), object) {
			return span
		}
	}
	return nil
}

// isTaken reports whether an object of a class is taken.
func (x *model) isTaken(class, object int) bool {
	span := x.spanOf(class, object)
	return span != nil && span.taken[object]
}

// fromTransfer is FromTransfer.
func (x *model) fromTransfer(class int) ([]int, api.Errno) {
	if !x.has(class) {
		return nil, api.ErrArg
	}
	queue := x.queues[class]
	last := len(queue.batches) - 1
	if last < 0 {
		return nil, api.ErrNone
	}
	batch := queue.batches[last]
	queue.batches = slices.Clone(queue.batches[:last])
	queue.counted()
	return batch, api.OK
}

// toTransfer is ToTransfer.
func (x *model) toTransfer(class int, objects []int) (bool, api.Errno) {
	if !x.has(class) || len(objects) != x.table[class].Batch {
		return false, api.ErrArg
	}
	for _, object := range objects {
		if !x.isTaken(class, object) {
			return false, api.ErrWild
		}
	}
	queue := x.queues[class]
	if len(queue.batches) == x.room {
		return false, api.OK
	}
	queue.batches = append(queue.batches, slices.Clone(objects))
	queue.counted()
	return true, api.OK
}

// fullest is the span of a class that the next object is taken of.
func (x *model) fullest(class int) *spanModel {
	var best *spanModel
	for _, span := range x.spans {
		if span.class != class || len(span.taken) == len(x.objects(span)) {
			continue
		}
		if best == nil || len(span.taken) > len(best.taken) ||
			len(span.taken) == len(best.taken) && span.start < best.start {
			best = span
		}
	}
	return best
}

// fromCentral is FromCentral.
func (x *model) fromCentral(class, many int) ([]int, api.Errno) {
	if !x.has(class) || many < 0 {
		return nil, api.ErrArg
	}
	var taken []int
	for len(taken) < many {
		span := x.fullest(class)
		if span == nil {
			break
		}
		for _, object := range x.objects(span) {
			if !span.taken[object] {
				span.taken[object] = true
				taken = append(taken, object)
				break
			}
		}
	}
	return taken, api.OK
}

// sweep removes the spans of a class without a taken object.
func (x *model) sweep(class int) {
	var kept []*spanModel
	for _, span := range x.spans {
		if span.class == class && len(span.taken) == 0 {
			x.giveBack(x.run(span))
		} else {
			kept = append(kept, span)
		}
	}
	x.spans = kept
}

// toCentral is ToCentral.
func (x *model) toCentral(class int, objects []int) api.Errno {
	if !x.has(class) {
		return api.ErrArg
	}
	for _, object := range objects {
		if x.spanOf(class, object) == nil {
			return api.ErrWild
		}
	}
	for n, object := range objects {
		if !x.isTaken(class, object) || slices.Contains(objects[:n], object) {
			return api.ErrTwice
		}
	}
	for _, object := range objects {
		delete(x.spanOf(class, object).taken, object)
	}
	x.sweep(class)
	return api.OK
}

// grow is Grow.
func (x *model) grow(class int) api.Errno {
	if !x.has(class) {
		return api.ErrArg
	}
	start, e := x.get(x.table[class].Pages, 1)
	if e == api.OK {
		x.spans = append(x.spans, &spanModel{class: class, start: start, taken: map[int]bool{}})
	}
	return e
}

// takePages is TakePages.
func (x *model) takePages(pages, align int) (int, api.Errno) {
	if pages < 1 || pages > 64 || !slices.Contains([]int{1, 2, 4, 8, 16}, align) {
		return 0, api.ErrArg
	}
	start, e := x.get(pages, align)
	if e == api.OK {
		x.large = append(x.large, api.Run{Start: start, Pages: pages})
	}
	return start, e
}

// givePages is GivePages.
func (x *model) givePages(start int) api.Errno {
	for n, run := range x.large {
		if run.Start == start {
			x.large = slices.Delete(slices.Clone(x.large), n, n+1)
			x.giveBack(run)
			return api.OK
		}
	}
	return api.ErrWild
}

// find is Find.
func (x *model) find(addr int) (int, int, api.Errno) {
	for _, run := range x.large {
		if addr >= 256*run.Start && addr < 256*(run.Start+run.Pages) {
			return -1, 256 * run.Start, api.OK
		}
	}
	for _, span := range x.spans {
		for _, object := range x.objects(span) {
			if addr >= object && addr < object+x.table[span.class].Size {
				return span.class, object, api.OK
			}
		}
	}
	return 0, 0, api.ErrWild
}

// isBlock is IsTaken.
func (x *model) isBlock(addr int) bool {
	for _, run := range x.large {
		if addr == 256*run.Start {
			return true
		}
	}
	for class := range x.table {
		if x.isTaken(class, addr) {
			return true
		}
	}
	return false
}

// owns is Owns.
func (x *model) owns(page int) bool {
	return page >= 0 && page < len(x.world.owner) && x.world.owner[page] == x.me
}

// hugePages is the numbers of the arena's huge pages.
func (x *model) hugePages() []int {
	var list []int
	for no := range len(x.world.owner) / 16 {
		if x.owns(16 * no) {
			list = append(list, no)
		}
	}
	return list
}

// usedPages is the number of used pages of a huge page.
func (x *model) usedPages(no int) int {
	count := 0
	for page := 16 * no; page < 16*no+16; page++ {
		if x.used(page) {
			count++
		}
	}
	return count
}

// kind is what a huge page is: 0 idle, 1 broken, 2 whole.
func (x *model) kind(no int) int {
	used, released := x.usedPages(no), 0
	for page := 16 * no; page < 16*no+16; page++ {
		if !x.used(page) && !x.backed[page] {
			released++
		}
	}
	if used == 0 {
		return 0
	}
	if released > 0 {
		return 1
	}
	return 2
}

// before reports whether a huge page comes before another one in a plan.
func (x *model) before(no, other int) bool {
	if x.kind(no) != x.kind(other) {
		return x.kind(no) < x.kind(other)
	}
	if x.usedPages(no) != x.usedPages(other) {
		return x.usedPages(no) < x.usedPages(other)
	}
	return no > other
}

// backedRuns is the maximal runs of backed pages of a huge page.
func (x *model) backedRuns(no int) []api.Run {
	var runs []api.Run
	for page := 16 * no; page < 16*no+16; page++ {
		if !x.backed[page] {
			continue
		}
		if page > 16*no && x.backed[page-1] {
			runs[len(runs)-1].Pages++
		} else {
			runs = append(runs, api.Run{Start: page, Pages: 1})
		}
	}
	return runs
}

// plan is the plan of chapter 4.
func (x *model) plan(want int) []api.Run {
	left := x.hugePages()
	var plan []api.Run
	for len(left) > 0 {
		first := 0
		for n := range left {
			if x.before(left[n], left[first]) {
				first = n
			}
		}
		for _, run := range x.backedRuns(left[first]) {
			if pagesOf(plan) < want {
				plan = append(plan, run)
			}
		}
		left = slices.Delete(left, first, first+1)
	}
	return plan
}

// pagesOf is the number of all pages of some runs.
func pagesOf(runs []api.Run) int {
	pages := 0
	for _, run := range runs {
		pages += run.Pages
	}
	return pages
}

// release is Release.
func (x *model) release(want int) (int, api.Errno) {
	if want < 0 {
		return 0, api.ErrArg
	}
	for class := range x.table {
		x.sweep(class)
	}
	plan := x.plan(want)
	for _, run := range plan {
		for page := run.Start; page < run.Start+run.Pages; page++ {
			delete(x.backed, page)
			x.world.dirty[page] = false
		}
	}
	return pagesOf(plan), api.OK
}

// trim is Trim.
func (x *model) trim() int {
	trimmed := 0
	for _, no := range x.hugePages() {
		if x.usedPages(no) > 0 {
			continue
		}
		for page := 16 * no; page < 16*no+16; page++ {
			x.world.owner[page], x.world.dirty[page] = nobody, false
			delete(x.backed, page)
		}
		trimmed++
	}
	return trimmed
}

// tick is Tick.
func (x *model) tick() {
	for class, queue := range x.queues {
		low := slices.Min(queue.lengths)
		var evicted [][]int
		for 2*len(evicted) < low {
			evicted = append(evicted, queue.batches[0])
			queue.batches = slices.Clone(queue.batches[1:])
		}
		queue.lengths = []int{len(queue.batches)}
		for _, batch := range evicted {
			x.toCentral(class, batch)
		}
	}
}

// counts is Counts.
func (x *model) counts() [6]int {
	var c [6]int
	for class, queue := range x.queues {
		for _, batch := range queue.batches {
			c[0] += len(batch) * x.table[class].Size
		}
	}
	for _, span := range x.spans {
		class, objects := x.table[span.class], x.objects(span)
		c[1] += (len(objects) - len(span.taken)) * class.Size
		c[2] += 256*class.Pages - len(objects)*class.Size
		c[3] += class.Pages
	}
	c[4] = pagesOf(x.large)
	for _, free := range x.free() {
		if free {
			c[5]++
		}
	}
	return c
}

// countsOf is the results of Counts.
func countsOf(a *Arena) [6]int {
	var c [6]int
	c[0], c[1], c[2], c[3], c[4], c[5] = a.Counts()
	return c
}

// group is a space and arenas that work on it, with their models.
type group struct {
	space  *space.Space
	world  *world
	arenas []*Arena
	models []*model
}

// grouped is a new space with new arenas.
func grouped(t *testing.T, pages, arenas, room int, table []api.Class) *group {
	t.Helper()
	s, e := space.New(pages)
	fails(t, "space.New", e, api.OK)
	g := &group{space: s, world: worldOf(pages)}
	for n := range arenas {
		g.arenas = append(g.arenas, made(t, table, s, room))
		g.models = append(g.models, modelOf(table, g.world, room, n))
	}
	return g
}

// alone is a new arena on a new space.
func alone(t *testing.T, pages, room int, table []api.Class) (*Arena, *model, *group) {
	t.Helper()
	g := grouped(t, pages, 1, room, table)
	return g.arenas[0], g.models[0], g
}

// clone is a group in the same state.
func (g *group) clone(t *testing.T) *group {
	t.Helper()
	c := &group{space: g.space.Clone(), world: g.world.clone()}
	for n, a := range g.arenas {
		b := a.Clone(c.space)
		if b == nil || b == a {
			t.Fatalf("Clone = %v", b)
		}
		c.arenas = append(c.arenas, b)
		c.models = append(c.models, g.models[n].clone(c.world))
	}
	return c
}

// write writes a word of a page, if the page is mapped.
func (g *group) write(t *testing.T, page int) {
	t.Helper()
	if g.world.owner[page] == nobody {
		fails(t, "Write", g.space.Write(256*page, 7), api.ErrFault)
		return
	}
	fails(t, "Write", g.space.Write(256*page+8*(page%32), 7), api.OK)
	g.world.dirty[page] = true
}

// writeAll writes a word of each page that is mapped.
func (g *group) writeAll(t *testing.T) {
	t.Helper()
	for page := range g.world.owner {
		g.write(t, page)
	}
}

// probes is addresses in, at the ends of, and beside all pages and all objects.
func (g *group) probes() []int {
	var addrs []int
	for page := -1; page <= len(g.world.owner); page++ {
		addrs = append(addrs, 256*page, 256*page+8, 256*page+100, 256*page+255)
	}
	for _, x := range g.models {
		for _, span := range x.spans {
			size := x.table[span.class].Size
			for _, object := range x.objects(span) {
				addrs = append(addrs, object-1, object, object+1, object+size-1, object+size)
			}
		}
	}
	return addrs
}

// finds tests what an arena knows of an address.
func finds(t *testing.T, what string, a *Arena, x *model, addr int) {
	t.Helper()
	class, object, e := a.Find(addr)
	wantClass, wantObject, want := x.find(addr)
	if class != wantClass || object != wantObject || e != want {
		t.Fatalf("%s: Find(%d) = %d, %d, %d, not %d, %d, %d", what, addr, class, object, e, wantClass, wantObject, want)
	}
	if taken := a.IsTaken(addr); taken != x.isBlock(addr) {
		t.Fatalf("%s: IsTaken(%d) = %t", what, addr, taken)
	}
}

// near tests, of all arenas, what they own and count, and the states of all
// pages.
func (g *group) near(t *testing.T, what string) {
	t.Helper()
	for page := range g.world.owner {
		if state := g.space.State(page); state != g.world.state(page) {
			t.Fatalf("%s: State(%d) = %d, not %d", what, page, state, g.world.state(page))
		}
	}
	for n, a := range g.arenas {
		x := g.models[n]
		for page := -1; page <= len(g.world.owner); page++ {
			if a.Owns(page) != x.owns(page) {
				t.Fatalf("%s: Owns(%d) of arena %d = %t", what, page, n, a.Owns(page))
			}
		}
		if countsOf(a) != x.counts() {
			t.Fatalf("%s: Counts of arena %d = %v, not %v", what, n, countsOf(a), x.counts())
		}
	}
}

// same tests that all arenas tell of themselves what their models do.
func (g *group) same(t *testing.T, what string) {
	t.Helper()
	g.near(t, what)
	for _, addr := range g.probes() {
		for n, a := range g.arenas {
			finds(t, what, a, g.models[n], addr)
		}
	}
}

// alike tests, too, that all arenas do what their models do: in a clone of the
// group all that can be taken is taken, in the order in which that is done, and
// then everything is released, page by page.
func (g *group) alike(t *testing.T, what string) {
	t.Helper()
	g.same(t, what)
	c := g.clone(t)
	for n, a := range c.arenas {
		x := c.models[n]
		for class := range x.table {
			for range 2 {
				c.call(t, what, n, callFromTransfer, class, 0)
			}
			c.call(t, what, n, callTick, 0, 0)
			c.call(t, what, n, callFromCentral, class, 5)
			c.call(t, what, n, callGrow, class, 0)
		}
		c.call(t, what, n, callTakePages, 3, 2)
		for range 40 {
			want, _ := x.release(1)
			if pages, e := a.Release(1); pages != want || e != api.OK {
				t.Fatalf("%s: Release(1) = %d, %d, not %d", what, pages, e, want)
			}
			if want == 0 {
				break
			}
		}
		c.call(t, what, n, callTrim, 0, 0)
	}
	c.same(t, what+", in a clone")
}

// The calls that change an arena and need no objects.
const (
	callFromTransfer = iota
	callFromCentral
	callGrow
	callTakePages
	callGivePages
	callRelease
	callTrim
	callTick
	calls
)

// call makes a call of an arena and of its model, and compares the results:
// these objects, if there are some.
func (g *group) call(t *testing.T, what string, n, kind, p, q int) []int {
	t.Helper()
	a, x := g.arenas[n], g.models[n]
	var got, want []int
	var e, wantE api.Errno
	number, wantNumber := 0, 0
	switch kind {
	case callFromTransfer:
		got, e = a.FromTransfer(p)
		want, wantE = x.fromTransfer(p)
	case callFromCentral:
		got, e = a.FromCentral(p, q)
		want, wantE = x.fromCentral(p, q)
	case callGrow:
		e, wantE = a.Grow(p), x.grow(p)
	case callTakePages:
		number, e = a.TakePages(p, q)
		wantNumber, wantE = x.takePages(p, q)
	case callGivePages:
		e, wantE = a.GivePages(p), x.givePages(p)
	case callRelease:
		number, e = a.Release(p)
		wantNumber, wantE = x.release(p)
	case callTrim:
		number, wantNumber = a.Trim(), x.trim()
	case callTick:
		a.Tick()
		x.tick()
	}
	if !slices.Equal(got, want) || number != wantNumber || e != wantE {
		t.Fatalf("%s: call %d of arena %d with %d, %d: %v, %d, %d, not %v, %d, %d",
			what, kind, n, p, q, got, number, e, want, wantNumber, wantE)
	}
	return got
}

// toTransfer calls ToTransfer of an arena and of its model, and compares the
// results.
func (g *group) toTransfer(t *testing.T, what string, n, class int, objects ...int) bool {
	t.Helper()
	added, e := g.arenas[n].ToTransfer(class, objects)
	want, wantE := g.models[n].toTransfer(class, objects)
	if added != want || e != wantE {
		t.Fatalf("%s: ToTransfer(%d, %v) = %t, %d, not %t, %d", what, class, objects, added, e, want, wantE)
	}
	return added
}

// toCentral calls ToCentral of an arena and of its model, and compares the
// results.
func (g *group) toCentral(t *testing.T, what string, n, class int, objects ...int) api.Errno {
	t.Helper()
	e, want := g.arenas[n].ToCentral(class, objects), g.models[n].toCentral(class, objects)
	if e != want {
		t.Fatalf("%s: ToCentral(%d, %v): %d, not %d", what, class, objects, e, want)
	}
	return e
}

// takes lets an arena grow, as long as objects are missing, and takes so many.
func (g *group) takes(t *testing.T, what string, n, class, many int) []int {
	t.Helper()
	objects := g.call(t, what, n, callFromCentral, class, many)
	for len(objects) < many {
		fails(t, what, g.arenas[n].Grow(class), g.models[n].grow(class))
		more := g.call(t, what, n, callFromCentral, class, many-len(objects))
		if len(more) == 0 {
			t.Fatalf("%s: there are %d objects, not %d", what, len(objects), many)
		}
		objects = append(objects, more...)
	}
	return objects
}

// fails tests the error of a call.
func fails(t *testing.T, what string, e, want api.Errno) {
	t.Helper()
	if e != want {
		t.Fatalf("%s: %d, not %d", what, e, want)
	}
}

// made is a new arena.
func made(t *testing.T, table []api.Class, s *space.Space, room int) *Arena {
	t.Helper()
	a, e := New(table, s, room)
	if e != api.OK || a == nil {
		t.Fatalf("New(%v, %d pages, %d) = %v, %d", table, s.Pages(), room, a, e)
	}
	return a
}

// one is a table of one class, whose spans have one object.
func one() []api.Class {
	return []api.Class{{Size: 256, Pages: 1, Batch: 2}}
}

// several is a table of classes with spans of 1 to 4 pages, with tails and
// without, and with batches of 1 to 32 objects.
func several() []api.Class {
	return []api.Class{{Size: 24, Pages: 1, Batch: 3}, {Size: 64, Pages: 1, Batch: 4}, {Size: 88, Pages: 2, Batch: 32}, {Size: 200, Pages: 3, Batch: 2}, {Size: 256, Pages: 4, Batch: 1}}
}

// rising is a table of the first sizes.
func rising(classes int) []api.Class {
	var table []api.Class
	for n := range classes {
		// From 264 bytes on, objects do not fit into one page.
		table = append(table, api.Class{Size: 8 * (n + 1), Pages: 1 + n%3 + n/32, Batch: 1 + n%32})
	}
	return table
}

// tables is tables of one class and of many.
func tables(t *testing.T) [][]api.Class {
	t.Helper()
	list := [][]api.Class{one(), several(), rising(40)}
	for _, waste := range []int{2, 8, 16} {
		table, e := sizes.Make(waste)
		fails(t, "Make", e, api.OK)
		list = append(list, table)
	}
	return list
}
