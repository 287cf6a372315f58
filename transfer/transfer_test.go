package transfer

import (
	"math"
	"math/rand"
	"slices"
	"testing"

	"freehold/api"
)

// fails tests the error of a call.
func fails(t *testing.T, what string, e, want api.Errno) {
	t.Helper()
	if e != want {
		t.Fatalf("%s: %d, not %d", what, e, want)
	}
}

// made is a new cache.
func made(t *testing.T, batch, room int) *Cache {
	t.Helper()
	c, e := New(batch, room)
	if e != api.OK || c == nil {
		t.Fatalf("New(%d, %d) = %v, %d", batch, room, c, e)
	}
	return c
}

// inserts tests whether a batch is added.
func inserts(t *testing.T, what string, c *Cache, objects []int, want bool) {
	t.Helper()
	if added, e := c.Insert(objects); added != want || e != api.OK {
		t.Fatalf("%s: Insert(%v) = %t, %d, not %t", what, objects, added, e, want)
	}
}

// refuses tests the error of an Insert.
func refuses(t *testing.T, what string, c *Cache, objects []int, want api.Errno) {
	t.Helper()
	if added, e := c.Insert(objects); added || e != want {
		t.Fatalf("%s: Insert(%v) = %t, %d, not %d", what, objects, added, e, want)
	}
}

// removes tests which batch is removed.
func removes(t *testing.T, what string, c *Cache, want ...int) {
	t.Helper()
	if objects, e := c.Remove(); !slices.Equal(objects, want) || e != api.OK {
		t.Fatalf("%s: Remove = %v, %d, not %v", what, objects, e, want)
	}
}

// removesNone tests the error of a Remove.
func removesNone(t *testing.T, what string, c *Cache, want api.Errno) {
	t.Helper()
	if objects, e := c.Remove(); len(objects) != 0 || e != want {
		t.Fatalf("%s: Remove = %v, %d, not %d", what, objects, e, want)
	}
}

// gives tests which batches a Tick or a Drain returned.
func gives(t *testing.T, what string, batches [][]int, want ...[]int) {
	t.Helper()
	if !equal(batches, want) {
		t.Fatalf("%s: %v, not %v", what, batches, want)
	}
}

// equal reports whether batches are the same.
func equal(a, b [][]int) bool {
	return slices.EqualFunc(a, b, func(a, b []int) bool { return slices.Equal(a, b) })
}

// counts tests what a cache tells of its number of batches.
func counts(t *testing.T, what string, c *Cache, length, low int) {
	t.Helper()
	if c.Len() != length || c.Low() != low {
		t.Fatalf("%s: Len = %d, Low = %d, not %d, %d", what, c.Len(), c.Low(), length, low)
	}
}

// model is a cache, read to the letter: its batches, and all numbers of batches
// that it had since the last Tick, or since it was made.
type model struct {
	batch, room int
	batches     [][]int
	numbers     []int
}

// modelOf is a cache without batches.
func modelOf(batch, room int) *model {
	return &model{batch: batch, room: room, numbers: []int{0}}
}

// low is the least number of batches.
func (x *model) low() int {
	return slices.Min(x.numbers)
}

// counted notes the number of batches.
func (x *model) counted() {
	x.numbers = append(x.numbers, len(x.batches))
}

// insert is Insert.
func (x *model) insert(objects []int) (bool, api.Errno) {
	if len(objects) != x.batch {
		return false, api.ErrArg
	}
	if len(x.batches) == x.room {
		return false, api.OK
	}
	x.batches = append(x.batches, slices.Clone(objects))
	x.counted()
	return true, api.OK
}

// remove is Remove.
func (x *model) remove() ([]int, api.Errno) {
	if len(x.batches) == 0 {
		return nil, api.ErrNone
	}
	newest := x.batches[len(x.batches)-1]
	x.batches = x.batches[:len(x.batches)-1]
	x.counted()
	return newest, api.OK
}

// removeOldest removes the oldest batch.
func (x *model) removeOldest() []int {
	oldest := x.batches[0]
	x.batches = slices.Clone(x.batches[1:])
	x.counted()
	return oldest
}

// tick is Tick.
func (x *model) tick() [][]int {
	many := x.low() / 2
	if x.low()%2 == 1 {
		many++
	}
	var evicted [][]int
	for range many {
		evicted = append(evicted, x.removeOldest())
	}
	x.numbers = []int{len(x.batches)}
	return evicted
}

// drain is Drain.
func (x *model) drain() [][]int {
	var drained [][]int
	for len(x.batches) > 0 {
		drained = append(drained, x.removeOldest())
	}
	return drained
}

// clone is a model in the same state.
func (x *model) clone() *model {
	c := &model{batch: x.batch, room: x.room, numbers: slices.Clone(x.numbers)}
	for _, batch := range x.batches {
		c.batches = append(c.batches, slices.Clone(batch))
	}
	return c
}

// same tests that a cache tells of itself what the model does, and does what
// the model does: clones of both are emptied in all ways.
func same(t *testing.T, what string, c *Cache, x *model) {
	t.Helper()
	counts(t, what, c, len(x.batches), x.low())
	var objects []int
	for _, batch := range x.batches {
		objects = append(objects, batch...)
	}
	if got := c.Objects(); !slices.Equal(got, objects) {
		t.Fatalf("%s: Objects = %v, not %v", what, got, objects)
	}
	gives(t, what+", Drain", c.Clone().Drain(), x.batches...)
	gives(t, what+", Tick", c.Clone().Tick(), x.clone().tick()...)
	rest := c.Clone()
	for n := len(x.batches) - 1; n >= 0; n-- {
		removes(t, what, rest, x.batches[n]...)
	}
	removesNone(t, what, rest, api.ErrNone)
	rest = c.Clone()
	for n := len(x.batches); n < x.room; n++ {
		inserts(t, what, rest, batchOf(x.batch, n), true)
	}
	inserts(t, what, rest, batchOf(x.batch, -1), false)
}

// batchOf is a batch of some objects, all different from those of other numbers.
func batchOf(batch, number int) []int {
	objects := make([]int, batch)
	for n := range objects {
		objects[n] = 8 * (number*batch + batch - n)
	}
	return objects
}

// batchesOf is the batches of the numbers from the first one up to the end.
func batchesOf(batch, first, end int) [][]int {
	var batches [][]int
	for number := first; number < end; number++ {
		batches = append(batches, batchOf(batch, number))
	}
	return batches
}

// filled is a cache, and its model, with the batches of the numbers from 0 on,
// which it has since a Tick: low is their number.
func filled(t *testing.T, batch, room, many int) (*Cache, *model) {
	t.Helper()
	c, x := made(t, batch, room), modelOf(batch, room)
	for _, objects := range batchesOf(batch, 0, many) {
		inserts(t, "filled", c, objects, true)
		x.insert(objects)
	}
	gives(t, "filled", c.Tick(), x.tick()...)
	counts(t, "filled", c, many, many)
	return c, x
}

// lowered is a cache, and its model, with the batches of the numbers from 0 on,
// of which low are there since the last Tick.
func lowered(t *testing.T, batch, room, many, low int) (*Cache, *model) {
	t.Helper()
	c, x := filled(t, batch, room, low)
	for _, objects := range batchesOf(batch, low, many) {
		inserts(t, "lowered", c, objects, true)
		x.insert(objects)
	}
	counts(t, "lowered", c, many, low)
	return c, x
}

// TestExamples tests the chapter's examples.
func TestExamples(t *testing.T) {
	c := made(t, 2, 3)
	inserts(t, "first", c, []int{8, 16}, true)
	inserts(t, "second", c, []int{24, 32}, true)
	removes(t, "newest", c, 24, 32)
	counts(t, "Remove", c, 1, 0)
	gives(t, "Tick", c.Tick())
	counts(t, "Tick", c, 1, 1)
	gives(t, "Tick", c.Tick(), []int{8, 16})
	counts(t, "Tick", c, 0, 0)
	refuses(t, "one object", c, []int{8}, api.ErrArg)
}

// TestNew tests all batch sizes and rooms up to their bounds, and beyond them.
func TestNew(t *testing.T) {
	for batch := -2; batch <= 40; batch++ {
		for room := -2; room <= 12; room++ {
			c, e := New(batch, room)
			if batch < 1 || batch > 32 || room < 0 || room > 8 {
				if c != nil || e != api.ErrArg {
					t.Fatalf("New(%d, %d) = %v, %d", batch, room, c, e)
				}
				continue
			}
			fails(t, "New", e, api.OK)
			same(t, "New", c, modelOf(batch, room))
		}
	}
	far := []int{math.MinInt, -1 << 32, 1 << 32, 1<<32 + 1, 1 << 62, math.MaxInt}
	for _, n := range far {
		for _, args := range [][2]int{{n, 3}, {2, n}, {n, n}} {
			if c, e := New(args[0], args[1]); c != nil || e != api.ErrArg {
				t.Errorf("New(%d, %d) = %v, %d", args[0], args[1], c, e)
			}
		}
	}
}

// TestInsertErrors tests that slices of all wrong lengths are refused, whether
// or not there is room, and that nothing has changed then.
func TestInsertErrors(t *testing.T) {
	for batch := 1; batch <= 32; batch++ {
		for _, room := range []int{0, 1, 8} {
			for many := range room + 1 {
				c, x := filled(t, batch, room, many)
				for length := range 70 {
					if length != batch {
						refuses(t, "length", c, make([]int, length), api.ErrArg)
					}
				}
				refuses(t, "nil", c, nil, api.ErrArg)
				refuses(t, "long", c, make([]int, 100000), api.ErrArg)
				refuses(t, "capacity", c, make([]int, 0, batch), api.ErrArg)
				same(t, "refused", c, x)
			}
		}
	}
}

// TestStack tests P8.1: for all numbers of batches that are inserted and
// evicted, Remove returns those that are left, the newest one first.
func TestStack(t *testing.T) {
	for _, batch := range []int{1, 2, 32} {
		for room := 1; room <= 8; room++ {
			for low := range room + 1 {
				for many := low; many <= room; many++ {
					c, _ := lowered(t, batch, room, many, low)
					evicted := len(c.Tick())
					for more := many; more-evicted < room; more++ {
						inserts(t, "more", c, batchOf(batch, more), true)
					}
					for number := room + evicted - 1; number >= evicted; number-- {
						removes(t, "the newest", c, batchOf(batch, number)...)
					}
					removesNone(t, "none is left", c, api.ErrNone)
				}
			}
		}
	}
}

// TestTurns tests P8.1 where batches are inserted and removed in turn.
func TestTurns(t *testing.T) {
	c := made(t, 2, 3)
	inserts(t, "a", c, []int{1, 2}, true)
	inserts(t, "b", c, []int{3, 4}, true)
	removes(t, "b", c, 3, 4)
	inserts(t, "c", c, []int{5, 6}, true)
	inserts(t, "d", c, []int{7, 8}, true)
	inserts(t, "e", c, []int{9, 10}, false)
	removes(t, "d", c, 7, 8)
	removes(t, "c", c, 5, 6)
	removes(t, "a", c, 1, 2)
	removesNone(t, "none", c, api.ErrNone)
	inserts(t, "b", c, []int{3, 4}, true)
	removes(t, "b", c, 3, 4)
}

// TestAnyObjects tests that objects may be any numbers, and come twice, and that
// they stay in their order.
func TestAnyObjects(t *testing.T) {
	c, x := made(t, 4, 4), modelOf(4, 4)
	for _, objects := range [][]int{
		{math.MaxInt, -1, 0, math.MinInt},
		{7, 7, 7, 7},
		{0, 0, 0, 0},
		{7, 7, 7, 7},
	} {
		inserts(t, "any", c, objects, true)
		x.insert(objects)
		same(t, "any", c, x)
	}
}

// TestRoom tests P8.3: as many batches as the room are added, and no more, and
// that nothing has changed if one is not.
func TestRoom(t *testing.T) {
	for batch := 1; batch <= 32; batch++ {
		for room := range 9 {
			c, x := made(t, batch, room), modelOf(batch, room)
			for number := range room + 3 {
				inserts(t, "Insert", c, batchOf(batch, number), number < room)
				x.insert(batchOf(batch, number))
				same(t, "Insert", c, x)
			}
			if room == 0 {
				continue
			}
			removes(t, "one is removed", c, batchOf(batch, room-1)...)
			inserts(t, "there is room for one", c, batchOf(batch, 20), true)
			inserts(t, "there is none", c, batchOf(batch, 21), false)
			gives(t, "Tick", c.Tick())
			inserts(t, "none was evicted", c, batchOf(batch, 22), false)
			evicted := len(c.Tick())
			for number := range evicted + 2 {
				inserts(t, "some were evicted", c, batchOf(batch, 30+number), number < evicted)
			}
		}
	}
}

// TestNoRoom tests a cache with the room 0, which has never a batch.
func TestNoRoom(t *testing.T) {
	c, x := made(t, 1, 0), modelOf(1, 0)
	for range 3 {
		inserts(t, "no room", c, []int{8}, false)
		removesNone(t, "no room", c, api.ErrNone)
		gives(t, "Tick", c.Tick())
		gives(t, "Drain", c.Drain())
		same(t, "no room", c, x)
	}
}

// TestRemove tests a Remove of the only batch, and of none: nothing has changed
// then.
func TestRemove(t *testing.T) {
	for batch := 1; batch <= 32; batch++ {
		c, x := filled(t, batch, 8, 1)
		removes(t, "the only one", c, batchOf(batch, 0)...)
		x.remove()
		for range 2 {
			same(t, "none is left", c, x)
			removesNone(t, "none", c, api.ErrNone)
		}
		inserts(t, "again", c, batchOf(batch, 1), true)
		counts(t, "low stays", c, 1, 0)
	}
}

// TestTick tests which batches are evicted, for all rooms, numbers of batches
// and lows, and low afterwards.
func TestTick(t *testing.T) {
	half := []int{0, 1, 1, 2, 2, 3, 3, 4, 4}
	for room := range 9 {
		for many := range room + 1 {
			for low := range many + 1 {
				c, x := lowered(t, 2, room, many, low)
				gives(t, "Tick", c.Tick(), batchesOf(2, 0, half[low])...)
				counts(t, "Tick", c, many-half[low], many-half[low])
				x.tick()
				same(t, "Tick", c, x)
			}
		}
	}
}

// TestIdle tests P8.5: in all states five Ticks evict everything, the oldest
// batches first, if nothing is inserted or removed; and four do not, if a cache
// is full since it was made.
func TestIdle(t *testing.T) {
	for room := range 9 {
		for many := range room + 1 {
			for low := range many + 1 {
				c, _ := lowered(t, 3, room, many, low)
				var evicted [][]int
				for range 5 {
					evicted = append(evicted, c.Tick()...)
				}
				gives(t, "five Ticks", evicted, batchesOf(3, 0, many)...)
				counts(t, "five Ticks", c, 0, 0)
				gives(t, "a sixth one", c.Tick())
			}
		}
	}
	c := made(t, 32, 8)
	for _, objects := range batchesOf(32, 0, 8) {
		inserts(t, "full", c, objects, true)
	}
	counts(t, "full", c, 8, 0)
	from := 0
	for _, end := range []int{0, 4, 6, 7, 8} {
		gives(t, "Tick", c.Tick(), batchesOf(32, from, end)...)
		counts(t, "Tick", c, 8-end, 8-end)
		from = end
	}
}

// TestDrain tests that all batches are removed, and low is 0 then, for all
// rooms, numbers of batches and lows, none among them.
func TestDrain(t *testing.T) {
	for room := range 9 {
		for many := range room + 1 {
			for low := range many + 1 {
				c, x := lowered(t, 2, room, many, low)
				gives(t, "Drain", c.Drain(), batchesOf(2, 0, many)...)
				x.drain()
				same(t, "Drain", c, x)
				counts(t, "Drain", c, 0, 0)
				gives(t, "Drain of an empty one", c.Drain())
				same(t, "Drain of an empty one", c, x)
				if room > 0 {
					inserts(t, "after a Drain", c, batchOf(2, 9), true)
					counts(t, "after a Drain", c, 1, 0)
					gives(t, "after a Drain", c.Tick())
					gives(t, "after a Drain", c.Tick(), batchOf(2, 9))
				}
			}
		}
	}
}

// call makes one of the calls Insert, Remove, Tick and Drain, of a cache and its
// model, and compares their results.
func call(t *testing.T, c *Cache, x *model, kind, number int) {
	t.Helper()
	switch kind {
	case 0:
		want, _ := x.insert(batchOf(x.batch, number))
		inserts(t, "Insert", c, batchOf(x.batch, number), want)
	case 1:
		if want, e := x.remove(); e == api.OK {
			removes(t, "Remove", c, want...)
		} else {
			removesNone(t, "Remove", c, e)
		}
	case 2:
		gives(t, "Tick", c.Tick(), x.tick()...)
	case 3:
		gives(t, "Drain", c.Drain(), x.drain()...)
	}
}

// TestLow tests P8.4: after the calls in all orders low is the least number of
// batches since the last Tick.
func TestLow(t *testing.T) {
	for _, room := range []int{0, 1, 2, 3, 8} {
		for orders := range 1 << 16 { // eight calls of four kinds
			c, x := made(t, 1, room), modelOf(1, room)
			for number := range 8 {
				call(t, c, x, orders>>(2*number)&3, number)
				counts(t, "a call", c, len(x.batches), x.low())
				if c.Low() > c.Len() {
					t.Fatalf("Low = %d, Len = %d", c.Low(), c.Len())
				}
			}
		}
	}
}

// TestLowStays tests that low is not changed by what only asks, by an Insert, or
// by calls that are refused.
func TestLowStays(t *testing.T) {
	c, _ := lowered(t, 1, 5, 5, 3)
	c.Objects()
	c.Clone().Drain()
	refuses(t, "Insert", c, nil, api.ErrArg)
	inserts(t, "Insert", c, []int{7}, false)
	counts(t, "asked", c, 5, 3)
	for number, want := range []int{3, 3, 2, 1, 0} {
		removes(t, "Remove", c, batchOf(1, 4-number)...)
		counts(t, "Remove", c, 4-number, want)
		inserts(t, "Insert", c, []int{7}, true)
		counts(t, "Insert", c, 5-number, want)
		removes(t, "Remove", c, 7)
	}
}

// TestConserved tests P8.2, that each batch is in the cache, or was returned just
// once, whole and in its order; and P8.4, that a Tick evicts only batches that
// were there, and not removed, during the whole time since the last Tick.
func TestConserved(t *testing.T) {
	for seed := range 300 {
		r := rand.New(rand.NewSource(int64(seed)))
		c := made(t, 2, 1+r.Intn(8))
		var there []int  // the numbers of all batches in the cache
		var stayed []int // of those that were there since the last Tick
		for number := range 200 {
			switch n := r.Intn(20); {
			case n < 9:
				if added, _ := c.Insert(batchOf(2, number)); added {
					there = append(there, number)
				}
			case n < 15:
				if objects, e := c.Remove(); e == api.OK {
					there = dropped(t, there, objects)
					stayed = common(stayed, there)
				}
			case n < 19:
				evicted := c.Tick()
				for _, objects := range evicted {
					if !slices.Contains(stayed, numberOf(objects)) {
						t.Fatalf("%v was evicted, but only %v were there all the time", objects, stayed)
					}
					there = dropped(t, there, objects)
				}
				stayed = slices.Clone(there)
			default:
				for _, objects := range c.Drain() {
					there = dropped(t, there, objects)
				}
				stayed = nil
			}
			held(t, c, there)
		}
	}
}

// numberOf is the number of a batch of two objects.
func numberOf(objects []int) int {
	return objects[0]/16 - 1
}

// dropped is the numbers of batches without that of a batch, which must be one
// of them, whole and in its order.
func dropped(t *testing.T, numbers, objects []int) []int {
	t.Helper()
	at := slices.Index(numbers, numberOf(objects))
	if at < 0 || !slices.Equal(objects, batchOf(2, numbers[at])) {
		t.Fatalf("%v was given, but only %v were there", objects, numbers)
	}
	return slices.Delete(slices.Clone(numbers), at, at+1)
}

// common is the numbers that are in both lists.
func common(a, b []int) []int {
	var both []int
	for _, n := range a {
		if slices.Contains(b, n) {
			both = append(both, n)
		}
	}
	return both
}

// held tests P8.2: a cache has the objects of the batches of these numbers, in
// their order, and no others.
func held(t *testing.T, c *Cache, numbers []int) {
	t.Helper()
	var objects []int
	for _, number := range numbers {
		objects = append(objects, batchOf(2, number)...)
	}
	if got := c.Objects(); !slices.Equal(got, objects) || c.Len() != len(numbers) {
		t.Fatalf("Objects = %v, Len = %d, not %v", got, c.Len(), objects)
	}
}

// TestClone tests P8.6 and R8: a clone is in the same state, and neither changes
// the other, nor do what they return.
func TestClone(t *testing.T) {
	for room := range 9 {
		for many := range room + 1 {
			for low := range many + 1 {
				for kind := range 4 {
					c, x := lowered(t, 2, room, many, low)
					d := c.Clone()
					if d == nil || d == c {
						t.Fatalf("Clone = %v", d)
					}
					y := x.clone()
					same(t, "the clone", d, y)
					turn(t, d, y, kind)
					same(t, "the cache, after the clone was changed", c, x)
					same(t, "the clone, after it was changed", d, y)
					d, y = c.Clone(), x.clone()
					turn(t, c, x, kind)
					same(t, "the clone, after the cache was changed", d, y)
					same(t, "a clone of the clone", d.Clone(), y)
				}
			}
		}
	}
}

// turn makes a call of one kind, writes to what it returns, and makes others.
func turn(t *testing.T, c *Cache, x *model, kind int) {
	t.Helper()
	switch kind {
	case 0:
		inserts(t, "turn", c, batchOf(2, 50), len(x.batches) < x.room)
		x.insert(batchOf(2, 50))
	case 1:
		objects, _ := c.Remove()
		x.remove()
		clear(objects)
	case 2:
		spoil(c.Tick())
		x.tick()
	case 3:
		spoil(c.Drain())
		x.drain()
	}
	for number := range 3 {
		call(t, c, x, 0, 60+number)
	}
}

// spoil writes to batches, and behind them.
func spoil(batches [][]int) {
	for n, batch := range batches {
		clear(batch)
		_ = append(batch[:0], -1)
		_ = append(batch, -2, -3)
		batches[n] = []int{-4}
	}
	_ = append(batches, []int{-5}, []int{-6})
}

// TestNewMemory tests that a slice that is inserted is neither changed nor
// retained, and that results share no memory with the cache, or with one another
// (R5).
func TestNewMemory(t *testing.T) {
	for many := range 9 {
		for low := range many + 1 {
			c, x := made(t, 2, 8), modelOf(2, 8)
			for number := range many {
				if number == low {
					spoil(c.Tick())
					x.tick()
				}
				given := append(make([]int, 0, 10), batchOf(2, number)...)
				inserts(t, "Insert", c, given, true)
				x.insert(batchOf(2, number))
				if !slices.Equal(given, batchOf(2, number)) {
					t.Fatalf("Insert changed its argument: %v", given)
				}
				clear(given)
				_ = append(given, -1)
				same(t, "Insert", c, x)
			}
			one, two := c.Objects(), c.Objects()
			clear(one)
			_ = append(one, -1)
			if !slices.Equal(two, slices.Concat(x.batches...)) {
				t.Fatalf("Objects = %v", two)
			}
			same(t, "Objects", c, x)
			spoil(c.Tick())
			x.tick()
			same(t, "Tick", c, x)
			if objects, e := c.Remove(); e == api.OK {
				clear(objects)
				_ = append(objects, -1)
				x.remove()
			}
			same(t, "Remove", c, x)
			spoil(c.Drain())
			x.drain()
			call(t, c, x, 0, 20)
			same(t, "Drain", c, x)
		}
	}
}

// TestTogether tests that the batches of one result, and those of several
// results, share no memory.
func TestTogether(t *testing.T) {
	c, _ := filled(t, 2, 8, 8)
	evicted := c.Tick()
	removed, _ := c.Remove()
	drained := c.Drain()
	all := append(append(slices.Clone(evicted), removed), drained...)
	for n, batch := range all {
		before := slices.Clone(all)
		for m := range before {
			before[m] = slices.Clone(before[m])
		}
		_ = append(batch, -1, -2)
		batch[0] = -3
		before[n][0] = -3
		gives(t, "another batch was changed", all, before...)
	}
	_ = append(evicted, nil)
	gives(t, "behind the evicted ones", drained, all[5:]...)
}

// TestNotMade tests a cache that is nil, and one that no function returned (R1).
func TestNotMade(t *testing.T) {
	for name, c := range map[string]*Cache{"nil": nil, "zero": {}} {
		for range 2 { // nothing that was refused makes it a cache
			for _, objects := range [][]int{nil, {}, {8}, {8, 16}, make([]int, 32), make([]int, 33)} {
				refuses(t, name, c, objects, api.ErrState)
			}
			removesNone(t, name, c, api.ErrState)
			gives(t, name, c.Tick())
			gives(t, name, c.Drain())
			counts(t, name, c, 0, 0)
			if objects := c.Objects(); len(objects) != 0 {
				t.Errorf("%s: Objects = %v", name, objects)
			}
			if d := c.Clone(); d != nil {
				t.Errorf("%s: Clone = %v", name, d)
			}
		}
	}
}

// TestMany compares many calls with the model.
func TestMany(t *testing.T) {
	for seed := range 300 {
		r := rand.New(rand.NewSource(int64(seed)))
		batch, room := 1+r.Intn(32), r.Intn(9)
		c, x := made(t, batch, room), modelOf(batch, room)
		for number := range 100 {
			kinds := []int{0, 0, 0, 0, 0, 1, 1, 1, 2, 2, 2, 3}
			call(t, c, x, kinds[r.Intn(len(kinds))], number)
			same(t, "many calls", c, x)
			if r.Intn(30) == 0 {
				c = c.Clone()
			}
		}
	}
}
