package heap

import (
	"slices"

	"freehold/api"
	"freehold/arena"
	"freehold/sizes"
)

// phase is the next step of a pending operation, and what it is about. Nothing
// writes to a phase, or to what it holds, after it was made, so that the clones
// of a heap can have the same one.
type phase interface {
	name() string
}

// The phases of Malloc.
type (
	// take asks the cache.
	take struct{ class int }
	// transfer asks the transfer cache.
	transfer struct{ class, want int }
	// central asks the central list.
	central struct{ class, want int }
	// grow makes a span more.
	grow struct{ class, want int }
	// fill has objects in the hands, the first of which is the block.
	fill struct{ batch api.Batch }
	// large takes the pages of a large block.
	large struct{ pages int }
)

// The phases of Free and Flush.
type (
	// find looks for the block.
	find struct{ addr int }
	// put has an object in the hands, which goes to the cache.
	put struct{ class, object int }
	// back has batches in the hands, of which there is one at least.
	back struct{ batches []api.Batch }
	// give gives the pages of a large block back, which is not live any more.
	give struct{ block api.Block }
	// drain empties the cache.
	drain struct{}
)

func (take) name() string     { return "take" }
func (transfer) name() string { return "transfer" }
func (central) name() string  { return "central" }
func (grow) name() string     { return "grow" }
func (fill) name() string     { return "fill" }
func (large) name() string    { return "large" }
func (find) name() string     { return "find" }
func (put) name() string      { return "put" }
func (back) name() string     { return "back" }
func (give) name() string     { return "give" }
func (drain) name() string    { return "drain" }

// first returns the first phase of an operation.
func (h *Heap) first(op api.Op) (phase, api.Errno) {
	switch op.Kind {
	case api.Malloc:
		return h.firstOfMalloc(op.Size, op.Align)
	case api.Free:
		return find{op.Addr}, api.OK
	case api.Flush:
		return drain{}, api.OK
	}
	return nil, api.ErrArg
}

// firstOfMalloc returns the first phase of a request.
func (h *Heap) firstOfMalloc(size, align int) (phase, api.Errno) {
	if size > api.MaxLarge {
		return nil, api.ErrArg
	}
	class, e := sizes.Class(h.table, size, align)
	switch e {
	case api.OK:
		return take{class}, api.OK
	case api.ErrNone:
		return large{(size + api.PageSize - 1) / api.PageSize}, api.OK
	}
	return nil, e
}

// step makes the step of a phase of a thread: the next phase, or nil and the
// result, if the operation is done.
func (h *Heap) step(thread int, now phase) (phase, api.Result) {
	switch p := now.(type) {
	case take:
		return h.take(thread, p.class)
	case transfer:
		return h.transfer(thread, p.class, p.want), api.Result{}
	case central:
		return h.central(thread, p.class, p.want), api.Result{}
	case grow:
		return h.grow(thread, p.class, p.want)
	case fill:
		return h.fill(thread, p.batch)
	case large:
		return h.large(thread, p.pages)
	case find:
		return h.find(p.addr)
	case put:
		return h.put(thread, p.class, p.object), api.Result{}
	case back:
		return h.back(thread, p.batches), api.Result{}
	case give:
		h.arenas[p.block.Arena].GivePages(p.block.Addr / api.PageSize)
		return nil, api.Result{}
	case drain:
		return holding(h.threads[thread].cache.Drain()), api.Result{}
	}
	return nil, api.Result{}
}

// hands returns the objects that a thread has in its hands in a phase.
func hands(now phase) []api.Batch {
	switch p := now.(type) {
	case fill:
		return []api.Batch{p.batch}
	case put:
		return []api.Batch{{Class: p.class, Objects: []int{p.object}}}
	case back:
		return p.batches
	}
	return nil
}

// take takes an object of the cache, and otherwise tells how many are wanted.
func (h *Heap) take(thread, class int) (phase, api.Result) {
	c := h.threads[thread].cache
	if object, e := c.Take(class); e == api.OK {
		return h.allot(class, object)
	}
	want, _ := c.Want(class)
	return transfer{class, want}, api.Result{}
}

// transfer takes a batch of the transfer cache, if a whole one is wanted.
func (h *Heap) transfer(thread, class, want int) phase {
	if want == h.table[class].Batch {
		if objects, e := h.home(thread).FromTransfer(class); e == api.OK {
			return fill{api.Batch{Class: class, Objects: objects}}
		}
	}
	return central{class, want}
}

// central takes objects of the central list.
func (h *Heap) central(thread, class, want int) phase {
	objects, _ := h.home(thread).FromCentral(class, want)
	if len(objects) == 0 {
		return grow{class, want}
	}
	return fill{api.Batch{Class: class, Objects: objects}}
}

// grow adds a span to the central list.
func (h *Heap) grow(thread, class, want int) (phase, api.Result) {
	if e := h.home(thread).Grow(class); e != api.OK {
		return nil, api.Result{Errno: e}
	}
	return central{class, want}, api.Result{}
}

// fill makes a block of the first object in the hands, and puts the others into
// the cache, which has none of that class: there is room.
func (h *Heap) fill(thread int, batch api.Batch) (phase, api.Result) {
	h.threads[thread].cache.Fill(batch.Class, batch.Objects[1:])
	return h.allot(batch.Class, batch.Objects[0])
}

// allot makes a block of an object.
func (h *Heap) allot(class, object int) (phase, api.Result) {
	h.live[object] = api.Block{Addr: object, Size: h.table[class].Size, Class: class, Arena: h.ownerOf(object)}
	return nil, api.Result{Addr: object}
}

// large makes a large block.
func (h *Heap) large(thread, pages int) (phase, api.Result) {
	start, e := h.home(thread).TakePages(pages, 1)
	if e != api.OK {
		return nil, api.Result{Errno: e}
	}
	addr := start * api.PageSize
	h.live[addr] = api.Block{Addr: addr, Size: pages * api.PageSize, Class: noClass, Arena: h.homeNo(thread)}
	return nil, api.Result{Addr: addr}
}

// find lets a block not be live any more, if there is one.
func (h *Heap) find(addr int) (phase, api.Result) {
	block, found := h.live[addr]
	if !found {
		return nil, api.Result{Errno: h.notLive(addr)}
	}
	delete(h.live, addr)
	if block.Class == noClass {
		return give{block}, api.Result{}
	}
	return put{block.Class, addr}, api.Result{}
}

// notLive returns the error of a Free of what is not live. A large run that is
// about to be given back is no object.
func (h *Heap) notLive(addr int) api.Errno {
	class, start, e := h.lookUp(addr)
	if e != api.OK || class == noClass || start != addr {
		return api.ErrWild
	}
	return api.ErrTwice
}

// put puts an object into the cache, which has room, and takes what is too much
// into the hands.
func (h *Heap) put(thread, class, object int) phase {
	c := h.threads[thread].cache
	var batches []api.Batch
	if objects, _ := c.Put(class, object); len(objects) > 0 {
		batches = append(batches, api.Batch{Class: class, Objects: objects})
	}
	if c.Over() {
		batches = append(batches, c.Scavenge()...)
	}
	return holding(batches)
}

// back gives the first batch in the hands back.
func (h *Heap) back(thread int, batches []api.Batch) phase {
	h.giveBack(thread, batches[0])
	return holding(batches[1:])
}

// holding returns the phase of a thread with batches in its hands, or nil, if
// there are none.
func holding(batches []api.Batch) phase {
	if len(batches) == 0 {
		return nil
	}
	return back{batches}
}

// giveBack gives a batch to the transfer cache of the thread's arena. That takes
// only whole batches of its own objects; of others, each object goes to its own
// central list.
func (h *Heap) giveBack(thread int, batch api.Batch) {
	if added, _ := h.home(thread).ToTransfer(batch.Class, batch.Objects); added {
		return
	}
	for no, a := range h.arenas {
		own := h.ownedBy(no, batch.Objects)
		// Without objects nothing is put: that would sweep the list.
		if len(own) > 0 {
			a.ToCentral(batch.Class, own)
		}
	}
}

// homeNo returns the number of the arena that a thread belongs to.
func (h *Heap) homeNo(thread int) int {
	return thread % len(h.arenas)
}

// home returns the arena that a thread belongs to.
func (h *Heap) home(thread int) *arena.Arena {
	return h.arenas[h.homeNo(thread)]
}

// ownerOf returns the number of the arena that an object belongs to.
func (h *Heap) ownerOf(object int) int {
	return slices.IndexFunc(h.arenas, func(a *arena.Arena) bool { return a.Owns(object / api.PageSize) })
}

// ownedBy returns those of some objects that belong to an arena.
func (h *Heap) ownedBy(no int, objects []int) []int {
	var own []int
	for _, object := range objects {
		if h.ownerOf(object) == no {
			own = append(own, object)
		}
	}
	return own
}
