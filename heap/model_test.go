package heap_test

import (
	"slices"

	"freehold/api"
	"freehold/arena"
	"freehold/cache"
	"freehold/space"
)

// pending is what is known of a thread: the name of the next step of its
// operation, "" if none is pending, and what it needs.
type pending struct {
	phase string
	op    api.Op
	class int
	want  int
	hands []api.Batch
	block api.Block
}

// model is a heap, read to the letter, on top of the layers below.
type model struct {
	table  []api.Class
	cfg    api.Config
	space  *space.Space
	arenas []*arena.Arena
	caches []*cache.Cache
	ops    []pending
	live   []api.Block // in any order
}

// modelOf is a heap without blocks.
func modelOf(table []api.Class, cfg api.Config) *model {
	x := &model{table: table, cfg: cfg}
	x.space, _ = space.New(cfg.Pages)
	for range cfg.Arenas {
		a, _ := arena.New(table, x.space, cfg.Room)
		x.arenas = append(x.arenas, a)
	}
	for range cfg.Threads {
		c, _ := cache.New(table, cfg.Budget)
		x.caches = append(x.caches, c)
		x.ops = append(x.ops, pending{})
	}
	return x
}

// clone is a model in the same state.
func (x *model) clone() *model {
	y := &model{table: x.table, cfg: x.cfg, space: x.space.Clone(), live: slices.Clone(x.live)}
	for _, a := range x.arenas {
		y.arenas = append(y.arenas, a.Clone(y.space))
	}
	for thread, c := range x.caches {
		y.caches = append(y.caches, c.Clone())
		own := x.ops[thread]
		own.hands = nil
		for _, batch := range x.ops[thread].hands {
			own.hands = append(own.hands, api.Batch{Class: batch.Class, Objects: slices.Clone(batch.Objects)})
		}
		y.ops = append(y.ops, own)
	}
	return y
}

// has reports whether there is a thread.
func (x *model) has(thread int) bool {
	return thread >= 0 && thread < x.cfg.Threads
}

// classOf is the class of a request, -1 if it is large.
func (x *model) classOf(size, align int) int {
	for n, c := range x.table {
		if c.Size >= size && c.Size%align == 0 {
			return n
		}
	}
	return -1
}

// start is Start.
func (x *model) start(thread int, op api.Op) api.Errno {
	if !x.has(thread) {
		return api.ErrArg
	}
	if x.ops[thread].phase != "" {
		return api.ErrState
	}
	switch op.Kind {
	case 0:
		if op.Size < 1 || op.Size > 16384 || !slices.Contains(aligns, op.Align) {
			return api.ErrArg
		}
		class := x.classOf(op.Size, op.Align)
		x.ops[thread] = pending{phase: "take", op: op, class: class}
		if class < 0 {
			x.ops[thread].phase = "large"
		}
	case 1:
		x.ops[thread] = pending{phase: "find", op: op}
	case 2:
		x.ops[thread] = pending{phase: "drain", op: op}
	default:
		return api.ErrArg
	}
	return api.OK
}

// aligns is all alignments.
var aligns = []int{1, 2, 4, 8, 16, 32, 64, 128, 256}

// step is Step.
func (x *model) step(thread int) (bool, api.Result, api.Errno) {
	if !x.has(thread) {
		return false, api.Result{}, api.ErrArg
	}
	if x.ops[thread].phase == "" {
		return false, api.Result{}, api.ErrState
	}
	var next string
	var result api.Result
	switch x.ops[thread].op.Kind {
	case 0:
		next, result = x.stepOfMalloc(thread)
	default:
		next, result = x.stepOfOthers(thread)
	}
	x.ops[thread].phase = next
	if next == "" {
		x.ops[thread] = pending{}
	}
	return next == "", result, api.OK
}

// stepOfMalloc is a step of Malloc: the name of the next one, or the result.
func (x *model) stepOfMalloc(thread int) (string, api.Result) {
	y, own := &x.ops[thread], x.arenas[thread%x.cfg.Arenas]
	switch y.phase {
	case "take":
		object, e := x.caches[thread].Take(y.class)
		if e == api.OK {
			return "", x.newBlock(object, y.class)
		}
		y.want, _ = x.caches[thread].Want(y.class)
		return "transfer", api.Result{}
	case "transfer":
		if y.want != x.table[y.class].Batch {
			return "central", api.Result{}
		}
		objects, e := own.FromTransfer(y.class)
		if e == api.ErrNone {
			return "central", api.Result{}
		}
		y.hands = []api.Batch{{Class: y.class, Objects: objects}}
		return "fill", api.Result{}
	case "central":
		objects, _ := own.FromCentral(y.class, y.want)
		if len(objects) == 0 {
			return "grow", api.Result{}
		}
		y.hands = []api.Batch{{Class: y.class, Objects: objects}}
		return "fill", api.Result{}
	case "grow":
		if own.Grow(y.class) == api.ErrFull {
			return "", api.Result{Errno: api.ErrFull}
		}
		return "central", api.Result{}
	case "fill":
		objects := y.hands[0].Objects
		x.caches[thread].Fill(y.class, objects[1:])
		return "", x.newBlock(objects[0], y.class)
	}
	pages := y.op.Size / 256
	if y.op.Size%256 != 0 {
		pages++
	}
	page, e := own.TakePages(pages, 1)
	if e != api.OK {
		return "", api.Result{Errno: api.ErrFull}
	}
	x.live = append(x.live, api.Block{Addr: 256 * page, Size: 256 * pages, Class: -1, Arena: thread % x.cfg.Arenas})
	return "", api.Result{Addr: 256 * page}
}

// stepOfOthers is a step of Free or of Flush.
func (x *model) stepOfOthers(thread int) (string, api.Result) {
	y := &x.ops[thread]
	switch y.phase {
	case "find":
		return x.find(y, y.op.Addr)
	case "put":
		y.hands = nil
		objects, _ := x.caches[thread].Put(y.block.Class, y.block.Addr)
		if len(objects) > 0 {
			y.hands = append(y.hands, api.Batch{Class: y.block.Class, Objects: objects})
		}
		if x.caches[thread].Bytes() > x.cfg.Budget {
			y.hands = append(y.hands, x.caches[thread].Scavenge()...)
		}
	case "give":
		x.arenas[y.block.Arena].GivePages(y.block.Addr / 256)
	case "drain":
		y.hands = x.caches[thread].Drain()
	case "back":
		x.giveBack(thread, y.hands[0])
		y.hands = y.hands[1:]
	}
	if len(y.hands) > 0 {
		return "back", api.Result{}
	}
	return "", api.Result{}
}

// find is the step find of a Free.
func (x *model) find(y *pending, addr int) (string, api.Result) {
	for n, block := range x.live {
		if block.Addr != addr {
			continue
		}
		x.live = slices.Delete(slices.Clone(x.live), n, n+1)
		y.block = block
		if block.Class < 0 {
			return "give", api.Result{}
		}
		y.hands = []api.Batch{{Class: block.Class, Objects: []int{addr}}}
		return "put", api.Result{}
	}
	for _, a := range x.arenas {
		if class, object, e := a.Find(addr); e == api.OK && class >= 0 && object == addr {
			return "", api.Result{Errno: api.ErrTwice}
		}
	}
	return "", api.Result{Errno: api.ErrWild}
}

// owner is the number of the arena that an address belongs to.
func (x *model) owner(addr int) int {
	for n, a := range x.arenas {
		if a.Owns(addr / 256) {
			return n
		}
	}
	return -1
}

// newBlock makes a block of an object.
func (x *model) newBlock(object, class int) api.Result {
	x.live = append(x.live, api.Block{Addr: object, Size: x.table[class].Size, Class: class, Arena: x.owner(object)})
	return api.Result{Addr: object}
}

// giveBack gives a batch back.
func (x *model) giveBack(thread int, batch api.Batch) {
	belonging := make([][]int, x.cfg.Arenas)
	for _, object := range batch.Objects {
		owner := x.owner(object)
		belonging[owner] = append(belonging[owner], object)
	}
	own := thread % x.cfg.Arenas
	if len(belonging[own]) == len(batch.Objects) && len(batch.Objects) == x.table[batch.Class].Batch {
		if room, _ := x.arenas[own].ToTransfer(batch.Class, batch.Objects); room {
			return
		}
	}
	for n, objects := range belonging {
		if len(objects) > 0 {
			x.arenas[n].ToCentral(batch.Class, objects)
		}
	}
}

// sorted is the live blocks by their addresses.
func (x *model) sorted() []api.Block {
	list := slices.Clone(x.live)
	slices.SortFunc(list, func(a, b api.Block) int { return a.Addr - b.Addr })
	return list
}

// blockAt is the live block that a byte belongs to.
func (x *model) blockAt(addr int) (api.Block, api.Errno) {
	for _, block := range x.live {
		if addr >= block.Addr && addr < block.Addr+block.Size {
			return block, api.OK
		}
	}
	return api.Block{}, api.ErrWild
}

// release is Release.
func (x *model) release(want int) (int, api.Errno) {
	if want < 0 {
		return 0, api.ErrArg
	}
	released := 0
	for n := 0; n < len(x.arenas) && released < want; n++ {
		pages, _ := x.arenas[n].Release(want - released)
		released += pages
	}
	return released, api.OK
}

// trim is Trim.
func (x *model) trim() int {
	trimmed := 0
	for _, a := range x.arenas {
		trimmed += a.Trim()
	}
	return trimmed
}

// tick is Tick.
func (x *model) tick() {
	for _, a := range x.arenas {
		a.Tick()
	}
}

// stats is Stats.
func (x *model) stats() api.Stats {
	s := api.Stats{Mapped: x.space.Mapped(), Dirty: x.space.Dirty()}
	for _, block := range x.live {
		if block.Class >= 0 {
			s.Live += block.Size
		}
	}
	for thread, c := range x.caches {
		for class := range x.table {
			s.Cache += c.Len(class) * x.table[class].Size
		}
		for _, batch := range x.ops[thread].hands {
			s.Hands += len(batch.Objects) * x.table[batch.Class].Size
		}
	}
	for _, a := range x.arenas {
		transfers, free, tails, spans, large, pages := a.Counts()
		s.Transfer += transfers
		s.Central += free
		s.Tails += tails
		s.Spans += spans
		s.Large += 256 * large
		s.Free += pages
	}
	return s
}
