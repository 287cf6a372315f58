package heap_test

import (
	"maps"
	"math/rand"
	"slices"
	"testing"

	"freehold/api"
	"freehold/heap"
)

// act is what a thread does: an operation, whose block a Malloc writes into a
// slot. A Free whose Addr is 0 frees what its slot holds then.
type act struct {
	op   api.Op
	slot int
}

// orders is a heap, what its threads have still to do, and what the slots hold.
type orders struct {
	*pair
	left  [][]act
	slots map[int]int
}

// clone is the same with clones.
func (o *orders) clone() *orders {
	return &orders{pair: o.pair.clone(), left: slices.Clone(o.left), slots: maps.Clone(o.slots)}
}

// moves makes a step of a thread, and starts its next operation before that if
// none is pending: whether there was something to do.
func (o *orders) moves(thread int) bool {
	o.t.Helper()
	if len(o.left[thread]) == 0 {
		return false
	}
	now := o.left[thread][0]
	if o.x.ops[thread].phase == "" {
		op := now.op
		if op.Kind == api.Free && op.Addr == 0 {
			op.Addr = o.slots[now.slot]
		}
		fails(o.t, "Start", o.start(thread, op), api.OK)
	}
	if done, result := o.step(thread); done {
		o.left[thread] = o.left[thread][1:]
		if now.op.Kind == api.Malloc {
			o.slots[now.slot] = result.Addr
		}
	}
	return true
}

// all makes the steps of all threads in all orders: how many orders there are.
func (o *orders) all() int {
	o.t.Helper()
	count := 0
	for thread := range o.left {
		if len(o.left[thread]) == 0 {
			continue
		}
		next := o.clone()
		next.moves(thread)
		count += next.all()
	}
	if count == 0 {
		o.sound()
		o.empty()
		o.sound()
		return 1
	}
	return count
}

// TestOrders tests P4, P11.1 and P11.2 for all orders of the steps of some
// threads: each one is as the document says step by step, and what is live
// changes at one moment of each operation.
func TestOrders(t *testing.T) {
	take := func(size, slot int) act { return act{mallocOf(size, 8), slot} }
	free := func(slot int) act { return act{freeOf(0), slot} }
	end := act{op: flush}
	for name, c := range map[string]struct {
		table []api.Class
		cfg   api.Config
		first func(*pair) map[int]int
		left  [][]act
	}{
		"two that grow the same list": {
			one(), api.Config{Pages: 48, Arenas: 1, Threads: 2, Budget: 1000, Room: 1}, nil,
			[][]act{{take(256, 0)}, {take(256, 1), free(1)}},
		},
		"two that have one page left": {
			one(), api.Config{Pages: 32, Arenas: 1, Threads: 2, Budget: 0, Room: 1},
			func(p *pair) map[int]int { return map[int]int{0: p.gets(0, 15*256, 1)} },
			[][]act{{take(256, 1), free(1), end}, {take(257, 2), take(256, 3)}},
		},
		"two that free the same blocks": {
			pages(), api.Config{Pages: 64, Arenas: 2, Threads: 2, Budget: 0, Room: 0},
			func(p *pair) map[int]int {
				return map[int]int{0: p.gets(0, 64, 8), 1: p.gets(1, 64, 8), 2: p.gets(1, 700, 8)}
			},
			[][]act{{free(0), free(2), free(1)}, {free(1), free(2), free(0)}},
		},
		"one that takes what the other one gives back": {
			pages(), api.Config{Pages: 32, Arenas: 1, Threads: 2, Budget: 65536, Room: 1},
			func(p *pair) map[int]int { return map[int]int{0: p.gets(0, 64, 8), 1: p.gets(0, 64, 8)} },
			[][]act{{free(0), free(1), end}, {take(64, 2), free(0)}},
		},
		"three that share an arena, and do not": {
			one(), api.Config{Pages: 64, Arenas: 2, Threads: 3, Budget: 300, Room: 1},
			func(p *pair) map[int]int {
				return map[int]int{0: p.gets(0, 256, 8), 1: p.gets(1, 256, 8), 2: p.gets(2, 256, 8)}
			},
			[][]act{{free(1)}, {free(0), end}, {take(300, 3), free(2)}},
		},
	} {
		p := paired(t, c.table, c.cfg)
		o := &orders{pair: p, left: c.left, slots: map[int]int{}}
		if c.first != nil {
			o.slots = c.first(p)
		}
		o.sound()
		count := o.all()
		t.Logf("%s: %d orders", name, count)
		if count < 100 {
			t.Fatalf("%s: %d orders", name, count)
		}
	}
}

// walk is a pair that is used at random.
type walk struct {
	*pair
	r *rand.Rand
}

// op is an operation, which is valid in most cases.
func (w *walk) op() api.Op {
	table := w.x.table
	switch w.r.Intn(20) {
	case 0:
		return flush
	case 1, 2:
		return mallocOf(1+w.r.Intn(3000), aligns[w.r.Intn(9)])
	case 3, 4, 5, 6, 7, 8, 9, 10:
		return mallocOf(table[w.r.Intn(min(len(table), 4))].Size, aligns[w.r.Intn(4)])
	case 11:
		return freeOf(w.r.Intn(256 * w.x.cfg.Pages))
	case 12:
		ops := badOps()
		return ops[w.r.Intn(len(ops))]
	}
	if len(w.x.live) == 0 {
		return freeOf(4096)
	}
	return freeOf(w.x.live[w.r.Intn(len(w.x.live))].Addr)
}

// whole makes all steps of an operation at once.
func (w *walk) whole(thread int, op api.Op) {
	w.t.Helper()
	switch op.Kind {
	case api.Malloc:
		w.malloc(thread, op.Size, op.Align)
	case api.Free:
		w.free(thread, op.Addr)
	case api.Flush:
		w.flush(thread)
	}
}

// turn does something.
func (w *walk) turn() {
	w.t.Helper()
	thread := w.r.Intn(w.x.cfg.Threads)
	switch w.r.Intn(24) {
	case 0:
		w.tick()
	case 1:
		w.release(1 + w.r.Intn(20))
	case 2:
		w.trim()
	case 3, 4:
		w.whole(thread, w.op())
	case 5, 6:
		if len(w.x.live) > 0 {
			block := w.x.live[w.r.Intn(len(w.x.live))]
			w.write(block.Addr+8*w.r.Intn(block.Size/8), w.r.Int())
		}
	case 7, 8, 9, 10:
		w.start(thread, w.op())
	default:
		if w.x.ops[thread].phase == "" {
			w.start(thread, w.op())
		}
		w.step(thread)
	}
}

// TestMany compares many calls with the model.
func TestMany(t *testing.T) {
	for seed := range 120 {
		r := rand.New(rand.NewSource(int64(seed)))
		list, cfgs := tables(t), configs()
		w := &walk{paired(t, list[r.Intn(len(list))], cfgs[r.Intn(len(cfgs))]), r}
		for n := range 250 {
			w.turn()
			if n%20 == 0 {
				w.sound()
			}
			if n%60 == 59 {
				before := w.pair
				w.pair = before.clone()
				w.turn()
				w.turn()
				before.sound()
			}
		}
		w.alike()
	}
}

// TestAlone tests P11.8: an operation at once is Start, and Steps until it is
// done.
func TestAlone(t *testing.T) {
	for seed := range 20 {
		r := rand.New(rand.NewSource(int64(seed)))
		list, cfgs := tables(t), configs()
		table, cfg := list[r.Intn(len(list))], cfgs[r.Intn(len(cfgs))]
		w := &walk{paired(t, table, cfg), r}
		alone := made(t, table, cfg)
		for range 150 {
			thread, op := r.Intn(cfg.Threads), w.op()
			if e := w.start(thread, op); e != api.OK {
				continue
			}
			_, want := w.finish(thread)
			if result := atOnce(alone, thread, op); result != want {
				t.Fatalf("%v of thread %d: %v, not %v", op, thread, result, want)
			}
			if alone.Stats() != w.h.Stats() || !slices.Equal(alone.Live(), w.h.Live()) {
				t.Fatalf("%v of thread %d: %+v, not %+v", op, thread, alone.Stats(), w.h.Stats())
			}
		}
	}
}

// atOnce makes all steps of a valid operation at once.
func atOnce(h *heap.Heap, thread int, op api.Op) api.Result {
	switch op.Kind {
	case api.Malloc:
		addr, e := h.Malloc(thread, op.Size, op.Align)
		return api.Result{Addr: addr, Errno: e}
	case api.Free:
		return api.Result{Errno: h.Free(thread, op.Addr)}
	}
	return api.Result{Errno: h.Flush(thread)}
}
