package cache

import (
	"math"
	"math/rand"
	"slices"
	"testing"

	"freehold/api"
	"freehold/sizes"
)

// fails tests the error of a call.
func fails(t *testing.T, what string, e, want api.Errno) {
	t.Helper()
	if e != want {
		t.Fatalf("%s: %d, not %d", what, e, want)
	}
}

// one is a table of one class of a batch.
func one(batch int) []api.Class {
	return []api.Class{{Size: 8, Pages: 1, Batch: batch}}
}

// several is a table of classes of all kinds of batches.
func several() []api.Class {
	return []api.Class{{Size: 8, Pages: 1, Batch: 4}, {Size: 24, Pages: 2, Batch: 3}, {Size: 64, Pages: 1, Batch: 1}, {Size: 512, Pages: 2, Batch: 32}}
}

// rising is a table of the first sizes.
func rising(classes int) []api.Class {
	var table []api.Class
	for n := range classes {
		table = append(table, api.Class{Size: 8 * (n + 1), Pages: 4, Batch: 1 + n%32})
	}
	return table
}

// tables is tables of one class and of many.
func tables(t *testing.T) [][]api.Class {
	t.Helper()
	list := [][]api.Class{one(1), one(4), one(32), several(), rising(40)}
	for _, waste := range []int{2, 8, 16} {
		table, e := sizes.Make(waste)
		fails(t, "Make", e, api.OK)
		list = append(list, table)
	}
	return list
}

// made is a new cache.
func made(t *testing.T, table []api.Class, budget int) *Cache {
	t.Helper()
	c, e := New(table, budget)
	if e != api.OK || c == nil {
		t.Fatalf("New(%v, %d) = %v, %d", table, budget, c, e)
	}
	return c
}

// takes tests which object is taken.
func takes(t *testing.T, what string, c *Cache, class, want int) {
	t.Helper()
	if object, e := c.Take(class); object != want || e != api.OK {
		t.Fatalf("%s: Take(%d) = %d, %d, not %d", what, class, object, e, want)
	}
}

// misses tests the error of a Take.
func misses(t *testing.T, what string, c *Cache, class int, want api.Errno) {
	t.Helper()
	if object, e := c.Take(class); object != 0 || e != want {
		t.Fatalf("%s: Take(%d) = %d, %d, not %d", what, class, object, e, want)
	}
}

// wants tests how many objects are wanted.
func wants(t *testing.T, what string, c *Cache, class, want int) {
	t.Helper()
	if many, e := c.Want(class); many != want || e != api.OK {
		t.Fatalf("%s: Want(%d) = %d, %d, not %d", what, class, many, e, want)
	}
}

// puts tests what a Put returns.
func puts(t *testing.T, what string, c *Cache, class, object int, want ...int) {
	t.Helper()
	if objects, e := c.Put(class, object); !slices.Equal(objects, want) || e != api.OK {
		t.Fatalf("%s: Put(%d, %d) = %v, %d, not %v", what, class, object, objects, e, want)
	}
}

// refuses tests the error of a Put.
func refuses(t *testing.T, what string, c *Cache, class, object int, want api.Errno) {
	t.Helper()
	if objects, e := c.Put(class, object); len(objects) != 0 || e != want {
		t.Fatalf("%s: Put(%d, %d) = %v, %d, not %d", what, class, object, objects, e, want)
	}
}

// gives tests which batches a Scavenge or a Drain returned.
func gives(t *testing.T, what string, batches []api.Batch, want ...api.Batch) {
	t.Helper()
	if !slices.EqualFunc(batches, want, func(a, b api.Batch) bool {
		return a.Class == b.Class && slices.Equal(a.Objects, b.Objects)
	}) {
		t.Fatalf("%s: %v, not %v", what, batches, want)
	}
}

// counts tests what a cache tells of a list.
func counts(t *testing.T, what string, c *Cache, class, length, limit, low int) {
	t.Helper()
	if c.Len(class) != length || c.Limit(class) != limit || c.Low(class) != low {
		t.Fatalf("%s: Len = %d, Limit = %d, Low = %d, not %d, %d, %d",
			what, c.Len(class), c.Limit(class), c.Low(class), length, limit, low)
	}
}

// lists tests the objects of a list.
func lists(t *testing.T, what string, c *Cache, class int, want []int) {
	t.Helper()
	if objects := c.Objects(class); !slices.Equal(objects, want) || c.Len(class) != len(want) {
		t.Fatalf("%s: Objects(%d) = %v, Len = %d, not %v", what, class, objects, c.Len(class), want)
	}
}

// from is as many numbers that rise, from one on: objects, the oldest one first.
func from(first, many int) []int {
	var objects []int
	for n := range many {
		objects = append(objects, first+n)
	}
	return objects
}

// reversed is objects in the order in which Fill is given them.
func reversed(objects []int) []int {
	turned := slices.Clone(objects)
	slices.Reverse(turned)
	return turned
}

// holding is what is known of a list, to the letter: among it all lengths that
// it had since the last Scavenge or Drain, or since the cache was made.
type holding struct {
	class   api.Class
	objects []int
	limit   int
	lengths []int
}

// counted notes the length.
func (h *holding) counted() {
	h.lengths = append(h.lengths, len(h.objects))
}

// low is the least length.
func (h *holding) low() int {
	return slices.Min(h.lengths)
}

// removeOldest removes the oldest object.
func (h *holding) removeOldest() int {
	oldest := h.objects[0]
	h.objects = slices.Clone(h.objects[1:])
	h.counted()
	return oldest
}

// model is a cache, read to the letter.
type model struct {
	budget   int
	holdings []*holding
}

// modelOf is a cache without objects.
func modelOf(table []api.Class, budget int) *model {
	x := &model{budget: budget}
	for _, class := range table {
		x.holdings = append(x.holdings, &holding{class: class, limit: 1, lengths: []int{0}})
	}
	return x
}

// has reports whether there is a class.
func (x *model) has(class int) bool {
	return class >= 0 && class < len(x.holdings)
}

// take is Take.
func (x *model) take(class int) (int, api.Errno) {
	if !x.has(class) {
		return 0, api.ErrArg
	}
	h := x.holdings[class]
	if len(h.objects) == 0 {
		if h.limit < h.class.Batch {
			h.limit++
		} else {
			h.limit += h.class.Batch
		}
		if h.limit > 128 {
			h.limit = 128
		}
		return 0, api.ErrNone
	}
	newest := h.objects[len(h.objects)-1]
	h.objects = slices.Clone(h.objects[:len(h.objects)-1])
	h.counted()
	return newest, api.OK
}

// want is Want.
func (x *model) want(class int) (int, api.Errno) {
	if !x.has(class) {
		return 0, api.ErrArg
	}
	h := x.holdings[class]
	if h.limit < h.class.Batch {
		return h.limit, api.OK
	}
	return h.class.Batch, api.OK
}

// fill is Fill.
func (x *model) fill(class int, objects []int) api.Errno {
	if !x.has(class) {
		return api.ErrArg
	}
	h := x.holdings[class]
	if len(h.objects)+len(objects) > 256 {
		return api.ErrFull
	}
	h.objects = slices.Concat(h.objects, reversed(objects))
	h.counted()
	return api.OK
}

// put is Put.
func (x *model) put(class, object int) ([]int, api.Errno) {
	if !x.has(class) {
		return nil, api.ErrArg
	}
	h := x.holdings[class]
	if len(h.objects)+1 > 256 {
		return nil, api.ErrFull
	}
	h.objects = append(slices.Clone(h.objects), object)
	h.counted()
	if len(h.objects) <= h.limit {
		return nil, api.OK
	}
	var removed []int
	for len(removed) < h.class.Batch && len(h.objects) > 0 {
		removed = append(removed, h.removeOldest())
	}
	if h.limit < h.class.Batch {
		h.limit++
	}
	return removed, api.OK
}

// scavenge is Scavenge.
func (x *model) scavenge() []api.Batch {
	var batches []api.Batch
	for class, h := range x.holdings {
		low := h.low()
		var removed []int
		for 2*len(removed) < low {
			removed = append(removed, h.removeOldest())
		}
		if h.limit > h.class.Batch {
			h.limit -= h.class.Batch
			if h.limit < h.class.Batch {
				h.limit = h.class.Batch
			}
		}
		h.lengths = []int{len(h.objects)}
		if len(removed) > 0 {
			batches = append(batches, api.Batch{Class: class, Objects: removed})
		}
	}
	return batches
}

// drain is Drain.
func (x *model) drain() []api.Batch {
	var batches []api.Batch
	for class, h := range x.holdings {
		if len(h.objects) > 0 {
			batches = append(batches, api.Batch{Class: class, Objects: h.objects})
		}
		h.objects, h.lengths = nil, []int{0}
	}
	return batches
}

// bytes is Bytes.
func (x *model) bytes() int {
	bytes := 0
	for _, h := range x.holdings {
		for range h.objects {
			bytes += h.class.Size
		}
	}
	return bytes
}

// clone is a model in the same state.
func (x *model) clone() *model {
	y := &model{budget: x.budget}
	for _, h := range x.holdings {
		y.holdings = append(y.holdings, &holding{class: h.class, objects: slices.Clone(h.objects), limit: h.limit, lengths: slices.Clone(h.lengths)})
	}
	return y
}

// same tests that a cache tells of itself what the model does.
func same(t *testing.T, what string, c *Cache, x *model) {
	t.Helper()
	for class, h := range x.holdings {
		counts(t, what, c, class, len(h.objects), h.limit, h.low())
		lists(t, what, c, class, h.objects)
		many, _ := x.want(class)
		wants(t, what, c, class, many)
	}
	if c.Bytes() != x.bytes() || c.Over() != (x.bytes() > x.budget) {
		t.Fatalf("%s: Bytes = %d, Over = %t, not %d of %d", what, c.Bytes(), c.Over(), x.bytes(), x.budget)
	}
}

// alike tests, too, that a cache does what the model does: clones of both are
// emptied in all ways.
func alike(t *testing.T, what string, c *Cache, x *model) {
	t.Helper()
	same(t, what, c, x)
	for kind := range 3 {
		d, y := c.Clone(), x.clone()
		switch kind {
		case 0:
			gives(t, what+", Scavenge", d.Scavenge(), y.scavenge()...)
		case 1:
			gives(t, what+", Drain", d.Drain(), y.drain()...)
		}
		for class, h := range y.holdings {
			for n := len(h.objects) - 1; n >= 0; n-- {
				takes(t, what, d, class, h.objects[n])
				y.take(class)
			}
			misses(t, what, d, class, api.ErrNone)
			y.take(class)
		}
		same(t, what, d, y)
	}
}

// call makes one of the calls Take, Fill, Put, Scavenge and Drain, of a cache
// and its model, and compares their results.
func call(t *testing.T, c *Cache, x *model, kind, class, number, many int) {
	t.Helper()
	switch kind {
	case 0:
		if want, e := x.take(class); e == api.OK {
			takes(t, "Take", c, class, want)
		} else {
			misses(t, "Take", c, class, e)
		}
	case 1:
		objects := from(number, many)
		fails(t, "Fill", c.Fill(class, objects), x.fill(class, objects))
	case 2:
		if want, e := x.put(class, number); e == api.OK {
			puts(t, "Put", c, class, number, want...)
		} else {
			refuses(t, "Put", c, class, number, e)
		}
	case 3:
		gives(t, "Scavenge", c.Scavenge(), x.scavenge()...)
	case 4:
		gives(t, "Drain", c.Drain(), x.drain()...)
	}
}

// hold brings a list of a cache without objects, and of its model, to a state:
// so many misses, of the objects from 0 on so many that are there since a
// Scavenge, and so many in all.
func hold(t *testing.T, c *Cache, x *model, class, missed, low, many int) {
	t.Helper()
	for range missed {
		call(t, c, x, 0, class, 0, 0)
	}
	fill := func(objects []int) {
		fails(t, "hold", c.Fill(class, reversed(objects)), x.fill(class, reversed(objects)))
	}
	fill(from(0, low))
	if low > 0 {
		call(t, c, x, 3, 0, 0, 0)
	}
	fill(from(low, many-low))
	lists(t, "hold", c, class, from(0, many))
	counts(t, "hold", c, class, many, x.holdings[class].limit, low)
}

// held is a cache with one class in a state, and its model.
func held(t *testing.T, batch, missed, low, many int) (*Cache, *model) {
	t.Helper()
	c, x := made(t, one(batch), 100), modelOf(one(batch), 100)
	hold(t, c, x, 0, missed, low, many)
	return c, x
}

// TestExamples tests the chapter's examples.
func TestExamples(t *testing.T) {
	c := made(t, []api.Class{{Size: 8, Pages: 1, Batch: 4}}, 100)
	misses(t, "first", c, 0, api.ErrNone)
	counts(t, "first", c, 0, 0, 2, 0)
	wants(t, "first", c, 0, 2)
	fails(t, "Fill", c.Fill(0, []int{8, 16}), api.OK)
	takes(t, "Take", c, 0, 8)
	puts(t, "Put", c, 0, 24)
	lists(t, "Put", c, 0, []int{16, 24})
	puts(t, "Put", c, 0, 32, 16, 24, 32)
	counts(t, "Put", c, 0, 0, 3, 0)
	puts(t, "Put", c, 0, 40)
	puts(t, "Put", c, 0, 48)
	gives(t, "Drain", c.Drain(), api.Batch{Class: 0, Objects: []int{40, 48}})
	counts(t, "Drain", c, 0, 0, 3, 0)
}

// badTables is lists of classes that are no tables.
func badTables() map[string][]api.Class {
	good := api.Class{Size: 64, Pages: 1, Batch: 8}
	return map[string][]api.Class{
		"nil":      nil,
		"empty":    {},
		"too long": rising(41),
		"zero":     {{}},
		"equal":    {good, good},
		"falling":  {{Size: 72, Pages: 1, Batch: 1}, good},
		"size":     {good, {Size: 100, Pages: 1, Batch: 1}},
		"size 0":   {{Size: 0, Pages: 1, Batch: 1}, good},
		"size 520": {good, {Size: 520, Pages: 4, Batch: 1}},
		"pages":    {{Size: 8, Pages: 0, Batch: 1}, good},
		"no room":  {good, {Size: 512, Pages: 1, Batch: 1}},
		"batch 0":  {{Size: 8, Pages: 1, Batch: 0}},
		"batch 33": {good, {Size: 72, Pages: 1, Batch: 33}},
		"far":      {{Size: math.MaxInt - 7, Pages: math.MaxInt, Batch: math.MaxInt}},
	}
}

// TestNew tests tables of one class and of many, with the budgets at their
// bounds.
func TestNew(t *testing.T) {
	for _, table := range tables(t) {
		for _, budget := range []int{0, 1, 100, 65535, 65536} {
			alike(t, "New", made(t, table, budget), modelOf(table, budget))
		}
	}
}

// TestNewErrors tests lists of classes that are no table, and budgets out of
// their bounds, and which of these errors comes first.
func TestNewErrors(t *testing.T) {
	budgets := []int{math.MinInt, -1 << 32, -65536, -1, 65537, 1 << 17, 1 << 32, 1<<32 + 1, 1 << 62, math.MaxInt}
	for _, budget := range budgets {
		for _, table := range tables(t) {
			if c, e := New(table, budget); c != nil || e != api.ErrArg {
				t.Errorf("New(%d classes, %d) = %v, %d", len(table), budget, c, e)
			}
		}
	}
	for name, table := range badTables() {
		for _, budget := range append(budgets, 0, 1, 65536) {
			if c, e := New(table, budget); c != nil || e != api.ErrForm {
				t.Errorf("%s: New(%v, %d) = %v, %d", name, table, budget, c, e)
			}
		}
	}
}

// noClasses is numbers that no class of a table of so many has.
func noClasses(classes int) []int {
	return []int{math.MinInt, -1 << 62, -1 << 32, -40, -2, -1, classes, classes + 1, 41, 64, 1 << 32, 1<<32 + 1, 1 << 62, math.MaxInt}
}

// TestClasses tests that no function accepts a class that there is not, whatever
// else is asked, and that nothing has changed then.
func TestClasses(t *testing.T) {
	for _, table := range tables(t) {
		c, x := made(t, table, 100), modelOf(table, 100)
		for range 3 {
			for _, class := range noClasses(len(table)) {
				misses(t, "no class", c, class, api.ErrArg)
				if many, e := c.Want(class); many != 0 || e != api.ErrArg {
					t.Fatalf("Want(%d) = %d, %d", class, many, e)
				}
				for _, many := range []int{0, 1, 4, 256, 257, 1000} {
					fails(t, "no class", c.Fill(class, make([]int, many)), api.ErrArg)
				}
				refuses(t, "no class", c, class, 8, api.ErrArg)
				counts(t, "no class", c, class, 0, 0, 0)
				lists(t, "no class", c, class, nil)
			}
			same(t, "no class", c, x)
			for class := range table { // and when the lists are full
				call(t, c, x, 0, class, 0, 0)
				call(t, c, x, 1, class, 0, 128)
			}
		}
	}
}

// TestStack tests P9.1: what was filled and put in turn is taken in the reverse
// order, from each class its own.
func TestStack(t *testing.T) {
	table := several()
	c := made(t, table, 0)
	for class := range table {
		for range 12 { // all limits are 8 or more
			misses(t, "a miss", c, class, api.ErrNone)
		}
		fails(t, "Fill", c.Fill(class, []int{100*class + 3, 100*class + 2}), api.OK)
	}
	for class := range table {
		puts(t, "Put", c, class, 100*class+4)
		fails(t, "Fill", c.Fill(class, []int{100*class + 6, 100*class + 5}), api.OK)
		puts(t, "Put", c, class, 100*class+7)
		takes(t, "the one that was put", c, class, 100*class+7)
		fails(t, "Fill", c.Fill(class, nil), api.OK)
		puts(t, "Put", c, class, 100*class+8)
	}
	for _, n := range []int{8, 6, 5, 4, 3, 2} {
		for class := range table {
			takes(t, "in turn", c, class, 100*class+n)
		}
	}
	for class := range table {
		misses(t, "none is left", c, class, api.ErrNone)
	}
}

// TestStackAfter tests P9.1 where oldest objects were removed: those that are
// left are still taken, the newest one first.
func TestStackAfter(t *testing.T) {
	for _, batch := range []int{1, 3, 32} {
		for many := range 40 {
			for low := range many + 1 {
				c, _ := held(t, batch, 40, low, many)
				removed := (low + 1) / 2
				c.Scavenge()
				fails(t, "Fill", c.Fill(0, reversed(from(many, 5))), api.OK)
				for n := many + 4; n >= removed; n-- {
					takes(t, "after a Scavenge", c, 0, n)
				}
				misses(t, "none is left", c, 0, api.ErrNone)
			}
		}
	}
}

// TestAnyObjects tests that objects may be any numbers, and come twice.
func TestAnyObjects(t *testing.T) {
	c, x := made(t, several(), 100), modelOf(several(), 100)
	for range 2 {
		for class := range several() {
			objects := []int{math.MaxInt, -1, 0, math.MinInt, 7, 7, 7}
			fails(t, "Fill", c.Fill(class, objects), api.OK)
			x.fill(class, objects)
			for _, object := range objects {
				call(t, c, x, 2, class, object, 0)
			}
			alike(t, "any", c, x)
		}
	}
}

// TestTakeNone tests P9.4 for all batches: with each miss the limit grows by 1
// until it is the batch, and then by the batch, but to MaxHold at most; Want is
// the limit until then, and then the batch.
func TestTakeNone(t *testing.T) {
	for batch := 1; batch <= 32; batch++ {
		c := made(t, one(batch), 100)
		for limit := 1; limit < batch; limit++ {
			counts(t, "slow start", c, 0, 0, limit, 0)
			wants(t, "slow start", c, 0, limit)
			misses(t, "slow start", c, 0, api.ErrNone)
		}
		for limit := batch; limit < 128; limit += batch {
			counts(t, "by the batch", c, 0, 0, limit, 0)
			wants(t, "by the batch", c, 0, batch)
			misses(t, "by the batch", c, 0, api.ErrNone)
		}
		for range 5 {
			counts(t, "the greatest", c, 0, 0, 128, 0)
			wants(t, "the greatest", c, 0, batch)
			misses(t, "the greatest", c, 0, api.ErrNone)
		}
	}
}

// TestTakeClass tests that a miss lets only the limit of its own class grow, and
// that a Take of an object lets none grow.
func TestTakeClass(t *testing.T) {
	table := several()
	for class := range table {
		c, x := made(t, table, 100), modelOf(table, 100)
		for other := range table {
			c.Fill(other, from(10*other, other))
			x.fill(other, from(10*other, other))
		}
		for range 10 {
			call(t, c, x, 0, class, 0, 0)
			same(t, "Take", c, x)
		}
		for other := range table {
			if other != class && c.Limit(other) != 1 {
				t.Errorf("the limit of %d is %d", other, c.Limit(other))
			}
		}
	}
}

// TestFill tests the order of what is filled, for all numbers of objects that a
// list can have, and beyond them, from none on; nothing has changed if they are
// too many.
func TestFill(t *testing.T) {
	for _, there := range []int{0, 1, 2, 100, 128, 254, 255, 256} {
		for many := range 260 {
			c, x := held(t, 4, 3, 0, there)
			want := api.OK
			if there+many > 256 {
				want = api.ErrFull
			}
			fails(t, "Fill", c.Fill(0, reversed(from(there, many))), want)
			if want == api.OK {
				lists(t, "Fill", c, 0, from(0, there+many))
				counts(t, "Fill", c, 0, there+many, 4, 0)
			} else {
				same(t, "Fill of too many", c, x)
			}
		}
		c, x := held(t, 4, 3, 0, there)
		fails(t, "Fill of too many", c.Fill(0, make([]int, 100000)), api.ErrFull)
		fails(t, "Fill of nil", c.Fill(0, nil), api.OK)
		fails(t, "Fill of none", c.Fill(0, make([]int, 0, 300)), api.OK)
		alike(t, "Fill of none", c, x)
	}
}

// TestFillClass tests that the room of a class is its own, and that Fill changes
// no limit, nor a low.
func TestFillClass(t *testing.T) {
	table := several()
	c, x := made(t, table, 65536), modelOf(table, 65536)
	for class := range table {
		for _, many := range []int{200, 57, 56, 1} {
			call(t, c, x, 1, class, 1000*class+many, many)
			counts(t, "Fill", c, class, len(x.holdings[class].objects), 1, 0)
		}
		if c.Len(class) != 256 {
			t.Errorf("Len(%d) = %d", class, c.Len(class))
		}
	}
	alike(t, "Fill of all classes", c, x)
}

// TestPut tests what a Put returns, and the limit afterwards, for all batches,
// limits and lengths.
func TestPut(t *testing.T) {
	for batch := 1; batch <= 32; batch++ {
		for missed := range 50 {
			for _, many := range []int{0, 1, 2, 3, 5, 30, 31, 32, 33, 63, 64, 95, 96, 126, 127, 128, 129, 254, 255} {
				c, _ := held(t, batch, missed, 0, many)
				limit := c.Limit(0)
				if many < limit {
					puts(t, "there is room", c, 0, many)
					counts(t, "there is room", c, 0, many+1, limit, 0)
					lists(t, "there is room", c, 0, from(0, many+1))
					continue
				}
				removed := min(batch, many+1)
				puts(t, "too long", c, 0, many, from(0, removed)...)
				lists(t, "too long", c, 0, from(removed, many+1-removed))
				if limit < batch {
					limit++
				}
				counts(t, "too long", c, 0, many+1-removed, limit, 0)
			}
		}
	}
}

// TestPutBound tests a Put to lists up to their greatest length: one more is
// refused, and nothing has changed then.
func TestPutBound(t *testing.T) {
	for batch := 1; batch <= 32; batch++ {
		c, _ := held(t, batch, 200, 0, 255)
		puts(t, "the last one", c, 0, 255, from(0, batch)...)
		counts(t, "the last one", c, 0, 256-batch, 128, 0)
		for _, missed := range []int{0, 1, 200} {
			c, x := held(t, batch, missed, 7, 256)
			for range 2 {
				refuses(t, "one more", c, 0, 256, api.ErrFull)
				alike(t, "one more", c, x)
			}
			takes(t, "one less", c, 0, 255)
			puts(t, "one less", c, 0, 9, from(0, batch)...)
		}
	}
}

// TestPutClass tests that only the list of the own class counts for a Put, and
// is changed.
func TestPutClass(t *testing.T) {
	table := several()
	for class := range table {
		c, x := made(t, table, 100), modelOf(table, 100)
		for other := range table {
			call(t, c, x, 1, other, 1000*other, 256-other)
		}
		for number := range 300 {
			call(t, c, x, 2, class, 10000+number, 0)
			same(t, "Put", c, x)
		}
		for other := range table {
			if other != class && (c.Len(other) != 256-other || c.Limit(other) != 1) {
				t.Errorf("Len(%d) = %d, Limit = %d", other, c.Len(other), c.Limit(other))
			}
		}
	}
}

// TestOverflow tests P9.4 where the limit grows by overflows alone: by 1 with
// each of them, until it is the batch, and no more.
func TestOverflow(t *testing.T) {
	for batch := 1; batch <= 32; batch++ {
		c := made(t, one(batch), 100)
		for limit := 1; limit <= batch+3; limit++ {
			counts(t, "slow start", c, 0, 0, min(limit, batch), 0)
			for n := range min(limit, batch) {
				puts(t, "there is room", c, 0, n)
			}
			last := min(limit, batch) // the list has one more than its limit then
			want := from(0, last+1)
			puts(t, "too long", c, 0, last, want[:min(batch, last+1)]...)
			if limit >= batch { // the batch leaves one
				takes(t, "the rest", c, 0, last)
			}
		}
	}
}

// TestOneMore tests a list that is as long as its limit, for all limits, and one
// that is just shorter.
func TestOneMore(t *testing.T) {
	for batch := 1; batch <= 32; batch++ {
		for missed := range 40 {
			limit := made(t, one(batch), 0)
			for range missed {
				misses(t, "a miss", limit, 0, api.ErrNone)
			}
			many := limit.Limit(0)
			c, _ := held(t, batch, missed, 0, many-1)
			puts(t, "as long as the limit", c, 0, many-1)
			counts(t, "as long as the limit", c, 0, many, many, 0)
			puts(t, "one more", c, 0, many, from(0, min(batch, many+1))...)
		}
	}
}

// TestLimits tests P9.3 in many calls: a limit is 1 to MaxHold; after a Put a
// list is at most as long as its limit, unless it was longer by a batch or more.
func TestLimits(t *testing.T) {
	table := several()
	for seed := range 100 {
		r := rand.New(rand.NewSource(int64(seed)))
		c := made(t, table, 0)
		for number := range 300 {
			class := r.Intn(len(table))
			length, limit := c.Len(class), c.Limit(class)
			switch r.Intn(8) {
			case 0, 1, 2:
				_, e := c.Put(class, number)
				if e == api.OK && c.Len(class) > c.Limit(class) && length < limit+table[class].Batch {
					t.Fatalf("the list is %d, the limit %d; they were %d, %d", c.Len(class), c.Limit(class), length, limit)
				}
			case 3:
				c.Fill(class, from(number, r.Intn(60)))
			case 4, 5, 6:
				for range r.Intn(40) {
					c.Take(class)
				}
			case 7:
				c.Scavenge()
			}
			if c.Limit(class) < 1 || c.Limit(class) > 128 {
				t.Fatalf("the limit is %d", c.Limit(class))
			}
		}
	}
}

// TestScavenge tests P9.5, which objects are removed, for all lengths and lows
// of some range, and low afterwards: what is left.
func TestScavenge(t *testing.T) {
	half := []int{0, 1, 1, 2, 2, 3, 3, 4, 4, 5, 5, 6, 6}
	for _, batch := range []int{1, 2, 4, 32} {
		for many := range len(half) {
			for low := range many + 1 {
				c, x := held(t, batch, 5, low, many)
				limit := x.holdings[0].limit
				if limit > batch {
					limit = max(limit-batch, batch)
				}
				var want []api.Batch
				if low > 0 {
					want = []api.Batch{{Class: 0, Objects: from(0, half[low])}}
				}
				gives(t, "Scavenge", c.Scavenge(), want...)
				counts(t, "Scavenge", c, 0, many-half[low], limit, many-half[low])
				lists(t, "Scavenge", c, 0, from(half[low], many-half[low]))
				x.scavenge()
				alike(t, "Scavenge", c, x)
			}
		}
	}
}

// TestLows tests that low is the least length, whatever made the list that
// short: a Take, or a Put that removed more than it added.
func TestLows(t *testing.T) {
	c, _ := held(t, 4, 4, 6, 8) // the limit is 4, after the Scavenge
	for _, low := range []int{6, 6, 5} {
		takes(t, "Take", c, 0, c.Len(0)-1)
		counts(t, "Take", c, 0, c.Len(0), 4, low)
	}
	puts(t, "Put", c, 0, 5, 0, 1, 2, 3)
	counts(t, "Put", c, 0, 2, 4, 2)
	puts(t, "Put", c, 0, 6)
	puts(t, "Put", c, 0, 7)
	counts(t, "Put", c, 0, 4, 4, 2)
	puts(t, "Put", c, 0, 8, 4, 5, 6, 7)
	counts(t, "Put", c, 0, 1, 4, 1)
	fails(t, "Fill", c.Fill(0, []int{9, 10, 11}), api.OK)
	counts(t, "Fill", c, 0, 4, 4, 1)
	gives(t, "Scavenge", c.Scavenge(), api.Batch{Class: 0, Objects: []int{8}})
	counts(t, "Scavenge", c, 0, 3, 4, 3)
	for low := 2; low >= 0; low-- {
		takes(t, "Take", c, 0, 11-low)
		counts(t, "Take", c, 0, low, 4, low)
	}
	misses(t, "none", c, 0, api.ErrNone)
	counts(t, "none", c, 0, 0, 8, 0)
}

// TestLowStays tests that low is not changed by what only asks, or by calls that
// are refused.
func TestLowStays(t *testing.T) {
	c, x := held(t, 4, 4, 200, 256)
	c.Want(0)
	c.Objects(0)
	c.Bytes()
	c.Over()
	c.Clone().Drain()
	fails(t, "Fill", c.Fill(0, []int{1}), api.ErrFull)
	refuses(t, "Put", c, 0, 1, api.ErrFull)
	counts(t, "asked", c, 0, 256, 4, 200)
	alike(t, "asked", c, x)
}

// TestLowOrders tests P9.5: after the calls in all orders low is the least
// length since the last Scavenge or Drain, and at most the length.
func TestLowOrders(t *testing.T) {
	for _, batch := range []int{1, 2, 5} {
		for orders := range 5 * 5 * 5 * 5 * 5 * 5 { // six calls of five kinds
			c, x := made(t, one(batch), 100), modelOf(one(batch), 100)
			for number, rest := 0, orders; number < 6; number, rest = number+1, rest/5 {
				call(t, c, x, rest%5, 0, 10*number, 3)
				same(t, "a call", c, x)
				if c.Low(0) > c.Len(0) {
					t.Fatalf("Low = %d, Len = %d", c.Low(0), c.Len(0))
				}
			}
		}
	}
}

// TestShrink tests that each Scavenge makes a limit that is greater than the
// batch less by the batch, but not less than that, and leaves one alone that is
// not greater.
func TestShrink(t *testing.T) {
	for batch := 1; batch <= 32; batch++ {
		for missed := range 140 {
			c, _ := held(t, batch, missed, 0, 0)
			for range 140 {
				limit := c.Limit(0)
				switch {
				case limit >= 2*batch:
					limit -= batch
				case limit > batch:
					limit = batch
				}
				gives(t, "Scavenge", c.Scavenge())
				counts(t, "Scavenge", c, 0, 0, limit, 0)
				if limit <= batch {
					break
				}
			}
			limit := min(1+missed, batch)
			counts(t, "shrunk", c, 0, 0, limit, 0)
			gives(t, "no more", c.Scavenge())
			counts(t, "no more", c, 0, 0, limit, 0)
		}
	}
}

// TestSeveral tests a Scavenge and a Drain of several classes: their batches are
// in the order of the classes, those of classes without any left out.
func TestSeveral(t *testing.T) {
	table := rising(40)
	for seed := range 50 {
		r := rand.New(rand.NewSource(int64(seed)))
		c, x := made(t, table, 0), modelOf(table, 0)
		for class := range table {
			if r.Intn(3) > 0 {
				call(t, c, x, 1, class, 100*class, r.Intn(20))
			}
		}
		call(t, c, x, 3, 0, 0, 0)
		for class := range table {
			call(t, c, x, r.Intn(3), class, 100*class+50, r.Intn(20))
		}
		alike(t, "several", c, x)
		for range 3 {
			call(t, c, x, 3, 0, 0, 0)
			same(t, "several", c, x)
		}
		call(t, c, x, 4, 0, 0, 0)
		same(t, "several", c, x)
	}
	c := made(t, several(), 0)
	fails(t, "Fill", c.Fill(3, []int{1, 2, 3}), api.OK)
	fails(t, "Fill", c.Fill(1, []int{4, 5}), api.OK)
	gives(t, "low is 0", c.Scavenge())
	gives(t, "of two", c.Clone().Drain(), api.Batch{Class: 1, Objects: []int{5, 4}}, api.Batch{Class: 3, Objects: []int{3, 2, 1}})
	gives(t, "of two", c.Scavenge(), api.Batch{Class: 1, Objects: []int{5}}, api.Batch{Class: 3, Objects: []int{3, 2}})
	gives(t, "of two", c.Scavenge(), api.Batch{Class: 1, Objects: []int{4}}, api.Batch{Class: 3, Objects: []int{1}})
	gives(t, "of none", c.Scavenge())
}

// TestIdle tests P9.6: ten calls of Scavenge empty all lists, the oldest objects
// first, if nothing is added or taken; and nine do not, if a list was filled
// since the last one.
func TestIdle(t *testing.T) {
	for _, many := range []int{0, 1, 2, 3, 64, 127, 128, 129, 255, 256} {
		for _, low := range []int{0, 1, 2, 100, 127, 128, 255, 256} {
			if low > many {
				continue
			}
			c, x := made(t, several(), 0), modelOf(several(), 0)
			for class := range several() {
				hold(t, c, x, class, 9, 0, low)
			}
			call(t, c, x, 3, 0, 0, 0)
			for class := range several() {
				fails(t, "Fill", c.Fill(class, reversed(from(low, many-low))), api.OK)
				counts(t, "Fill", c, class, many, x.holdings[class].limit, low)
			}
			removed := make([][]int, 4)
			for range 10 {
				for _, batch := range c.Scavenge() {
					removed[batch.Class] = append(removed[batch.Class], batch.Objects...)
				}
			}
			for class, h := range x.holdings {
				counts(t, "ten of them", c, class, 0, min(10, h.class.Batch), 0)
				if !slices.Equal(removed[class], from(0, many)) {
					t.Fatalf("%v was removed, not %d", removed[class], many)
				}
			}
			gives(t, "eleven of them", c.Scavenge())
		}
	}
	c, _ := held(t, 32, 0, 0, 256)
	first := 0
	for _, end := range []int{0, 128, 192, 224, 240, 248, 252, 254, 255, 256} {
		var want []api.Batch
		if end > 0 {
			want = []api.Batch{{Class: 0, Objects: from(first, end-first)}}
		}
		gives(t, "Scavenge", c.Scavenge(), want...)
		counts(t, "Scavenge", c, 0, 256-end, 1, 256-end)
		first = end
	}
}

// TestDrain tests that all objects are removed, and what is left then: the
// limits, and lows of 0.
func TestDrain(t *testing.T) {
	for _, batch := range []int{1, 3, 32} {
		for _, missed := range []int{0, 1, 5, 200} {
			for _, many := range []int{0, 1, 2, 31, 32, 33, 255, 256} {
				for _, low := range []int{0, 1, many / 2, many} {
					if low > many {
						continue
					}
					c, x := held(t, batch, missed, low, many)
					limit := x.holdings[0].limit
					var want []api.Batch
					if many > 0 {
						want = []api.Batch{{Class: 0, Objects: from(0, many)}}
					}
					gives(t, "Drain", c.Drain(), want...)
					counts(t, "Drain", c, 0, 0, limit, 0)
					x.drain()
					alike(t, "Drain", c, x)
					gives(t, "Drain of an empty one", c.Drain())
					counts(t, "Drain of an empty one", c, 0, 0, limit, 0)
					fails(t, "after a Drain", c.Fill(0, []int{2, 1}), api.OK)
					counts(t, "after a Drain", c, 0, 2, limit, 0)
					gives(t, "after a Drain", c.Scavenge())
					gives(t, "after a Drain", c.Scavenge(), api.Batch{Class: 0, Objects: []int{1}})
				}
			}
		}
	}
	for _, table := range tables(t) {
		c, x := made(t, table, 0), modelOf(table, 0)
		gives(t, "Drain of a new one", c.Drain())
		alike(t, "Drain of a new one", c, x)
	}
}

// TestBytes tests P9.7, for the objects of each class, whatever their pages or
// their batch, and of all of them.
func TestBytes(t *testing.T) {
	for _, table := range tables(t) {
		c := made(t, table, 65536)
		bytes := 0
		for class := range table {
			for many := range 4 {
				fails(t, "Fill", c.Fill(class, from(0, many)), api.OK)
				bytes += many * table[class].Size
				if c.Bytes() != bytes {
					t.Fatalf("Bytes = %d, not %d", c.Bytes(), bytes)
				}
			}
			takes(t, "Take", c, class, 0)
			bytes -= table[class].Size
			if c.Bytes() != bytes {
				t.Fatalf("Bytes = %d, not %d", c.Bytes(), bytes)
			}
		}
		c.Drain()
		if c.Bytes() != 0 || c.Over() {
			t.Errorf("Bytes = %d, Over = %t", c.Bytes(), c.Over())
		}
	}
}

// TestOver tests budgets that are just below, at, and above the bytes, the
// budgets 0 and MaxBudget among them.
func TestOver(t *testing.T) {
	for _, many := range []int{0, 1, 2, 100, 127, 128, 129, 255, 256} {
		bytes := 512*many + 8
		for _, budget := range []int{0, 7, 8, 9, bytes - 1, bytes, bytes + 1, 65535, 65536} {
			if budget > 65536 {
				continue
			}
			c := made(t, several(), budget)
			if c.Over() {
				t.Fatalf("a cache without objects is over %d", budget)
			}
			fails(t, "Fill", c.Fill(3, make([]int, many)), api.OK)
			fails(t, "Fill", c.Fill(0, make([]int, 1)), api.OK)
			if c.Bytes() != bytes || c.Over() != (bytes > budget) {
				t.Fatalf("Bytes = %d, Over = %t, the budget is %d", c.Bytes(), c.Over(), budget)
			}
			if d := c.Clone(); d.Over() != c.Over() {
				t.Fatalf("the clone: Over = %t", d.Over())
			}
		}
	}
	c := made(t, several(), 65536)
	fails(t, "Fill", c.Fill(3, make([]int, 128)), api.OK)
	if c.Bytes() != 65536 || c.Over() {
		t.Errorf("Bytes = %d, Over = %t", c.Bytes(), c.Over())
	}
	fails(t, "Fill", c.Fill(0, make([]int, 1)), api.OK)
	if !c.Over() {
		t.Errorf("Bytes = %d, Over = %t", c.Bytes(), c.Over())
	}
	takes(t, "Take", c, 0, 0)
	if c.Over() {
		t.Errorf("Bytes = %d, Over = %t", c.Bytes(), c.Over())
	}
}

// TestBudget tests that the budget changes nothing else: a cache that is over it
// does what one does that is not.
func TestBudget(t *testing.T) {
	r := rand.New(rand.NewSource(1))
	c, d, x := made(t, several(), 0), made(t, several(), 65536), modelOf(several(), 0)
	for number := range 1000 {
		kind, class, many := []int{0, 0, 1, 2, 2, 2, 2, 3}[r.Intn(8)], r.Intn(4), r.Intn(9)
		y := x.clone()
		y.budget = 65536
		call(t, c, x, kind, class, number, many)
		call(t, d, y, kind, class, number, many)
		same(t, "the budget 0", c, x)
		same(t, "the budget 65536", d, y)
	}
}

// TestConserved tests P9.2: each object that was added is in its list, or was
// returned just once, from the list that it was added to.
func TestConserved(t *testing.T) {
	table := several()
	for seed := range 100 {
		r := rand.New(rand.NewSource(int64(seed)))
		c := made(t, table, 0)
		there := make([]map[int]bool, len(table)) // what each list has
		for class := range there {
			there[class] = map[int]bool{}
		}
		gone := func(class int, objects ...int) {
			for _, object := range objects {
				if !there[class][object] {
					t.Fatalf("%d of class %d was returned, but was not there", object, class)
				}
				delete(there[class], object)
			}
		}
		next := 1
		for range 300 {
			class := r.Intn(len(table))
			switch n := r.Intn(20); {
			case n < 5:
				if object, e := c.Take(class); e == api.OK {
					gone(class, object)
				}
			case n < 8:
				objects := from(next, r.Intn(60))
				next += len(objects)
				if c.Fill(class, objects) == api.OK {
					for _, object := range objects {
						there[class][object] = true
					}
				}
			case n < 16:
				removed, e := c.Put(class, next)
				if e == api.OK {
					there[class][next] = true
				}
				next++
				gone(class, removed...)
			case n < 19:
				for _, batch := range c.Scavenge() {
					gone(batch.Class, batch.Objects...)
				}
			default:
				for _, batch := range c.Drain() {
					gone(batch.Class, batch.Objects...)
				}
			}
			for class := range table {
				has(t, c, class, there[class])
			}
		}
	}
}

// has tests that a list has these objects, and no others.
func has(t *testing.T, c *Cache, class int, there map[int]bool) {
	t.Helper()
	objects := c.Objects(class)
	if len(objects) != len(there) || c.Len(class) != len(there) {
		t.Fatalf("class %d has %d objects, Len = %d, not %d", class, len(objects), c.Len(class), len(there))
	}
	for _, object := range objects {
		if !there[object] {
			t.Fatalf("class %d has %d", class, object)
		}
	}
}

// turn makes a call of one kind, writes to what it returns, and makes others.
func turn(t *testing.T, c *Cache, x *model, kind int) {
	t.Helper()
	for class := range x.holdings {
		switch kind {
		case 0, 1:
			call(t, c, x, kind, class, 5000, 20)
		case 2:
			removed, _ := c.Put(class, 5001)
			x.put(class, 5001)
			spoil(removed)
		case 3:
			spoilBatches(c.Scavenge())
			x.scavenge()
		case 4:
			spoilBatches(c.Drain())
			x.drain()
		}
	}
	for class := range x.holdings {
		for number := range 3 {
			call(t, c, x, 1, class, 6000+100*number, 3)
			call(t, c, x, 2, class, 7000+number, 0)
		}
	}
}

// spoil writes to objects, and behind them.
func spoil(objects []int) {
	clear(objects)
	_ = append(objects[:0], -1)
	_ = append(objects, -2, -3, -4)
}

// spoilBatches writes to batches, and behind them.
func spoilBatches(batches []api.Batch) {
	for n, batch := range batches {
		spoil(batch.Objects)
		batches[n] = api.Batch{Class: -5, Objects: []int{-6}}
	}
	_ = append(batches, api.Batch{Class: -7}, api.Batch{Class: -8})
}

// TestClone tests P9.8 and R8: a clone is in the same state, and neither changes
// the other, nor do what they return.
func TestClone(t *testing.T) {
	table := several()
	for _, many := range []int{0, 1, 5, 40, 256} {
		for _, low := range []int{0, 1, 3, 40} {
			for kind := range 5 {
				c, x := made(t, table, 300), modelOf(table, 300)
				for class := range table {
					hold(t, c, x, class, 3*class, 0, min(low, many))
				}
				call(t, c, x, 3, 0, 0, 0)
				for class := range table {
					call(t, c, x, 1, class, 1000*class, many-min(low, many))
				}
				d := c.Clone()
				if d == nil || d == c {
					t.Fatalf("Clone = %v", d)
				}
				y := x.clone()
				alike(t, "the clone", d, y)
				turn(t, d, y, kind)
				alike(t, "the cache, after the clone was changed", c, x)
				alike(t, "the clone, after it was changed", d, y)
				d, y = c.Clone(), x.clone()
				turn(t, c, x, kind)
				alike(t, "the clone, after the cache was changed", d, y)
				alike(t, "a clone of the clone", d.Clone(), y)
			}
		}
	}
}

// TestNewMemory tests that a table and objects that are given are neither
// changed nor retained, and that results share no memory with the cache, or with
// one another (R5).
func TestNewMemory(t *testing.T) {
	table := append(make([]api.Class, 0, 10), several()...)
	c, x := made(t, table, 300), modelOf(several(), 300)
	if !slices.Equal(table, several()) {
		t.Fatalf("New changed its argument: %v", table)
	}
	clear(table)
	_ = append(table, api.Class{Size: 520, Pages: 4, Batch: 1})
	alike(t, "New", c, x)
	for round := range 20 {
		for class := range several() {
			given := append(make([]int, 0, 20), from(10*round, 7)...)
			fails(t, "Fill", c.Fill(class, given), x.fill(class, given))
			if !slices.Equal(given, from(10*round, 7)) {
				t.Fatalf("Fill changed its argument: %v", given)
			}
			spoil(given)
			same(t, "Fill", c, x)
			first, second := c.Objects(class), c.Objects(class)
			spoil(first)
			if !slices.Equal(second, x.holdings[class].objects) {
				t.Fatalf("Objects = %v", second)
			}
			same(t, "Objects", c, x)
			for number := range 3 {
				removed, _ := c.Put(class, 1000+number)
				x.put(class, 1000+number)
				spoil(removed)
				same(t, "Put", c, x)
			}
		}
		if round%3 == 2 {
			spoilBatches(c.Scavenge())
			x.scavenge()
		}
		alike(t, "Scavenge", c, x)
		if round%7 == 6 {
			spoilBatches(c.Drain())
			x.drain()
		}
		alike(t, "Drain", c, x)
	}
}

// TestTogether tests that the batches of one result, and those of several
// results, share no memory.
func TestTogether(t *testing.T) {
	table := several()
	c, x := made(t, table, 300), modelOf(table, 300)
	for class := range table {
		hold(t, c, x, class, 20, 0, 100)
	}
	c.Scavenge()
	var all [][]int
	for class := range table {
		removed, e := c.Put(class, 9)
		fails(t, "Put", e, api.OK)
		all = append(all, removed)
	}
	for range 3 {
		for _, batch := range c.Scavenge() {
			all = append(all, batch.Objects)
		}
	}
	for class := range table {
		all = append(all, c.Objects(class))
	}
	for _, batch := range c.Drain() {
		all = append(all, batch.Objects)
	}
	if len(all) != 24 {
		t.Fatalf("%d results", len(all))
	}
	for n, objects := range all {
		want := make([][]int, len(all))
		for m := range want {
			want[m] = slices.Clone(all[m])
		}
		clear(want[n])
		clear(objects)
		_ = append(objects, -1, -2)
		for m := range want {
			if !slices.Equal(all[m], want[m]) {
				t.Fatalf("%d was changed with %d: %v, not %v", m, n, all[m], want[m])
			}
		}
	}
}

// TestNotMade tests a cache that is nil, and one that no function returned (R1).
func TestNotMade(t *testing.T) {
	for name, c := range map[string]*Cache{"nil": nil, "zero": {}} {
		for range 2 { // nothing that was refused makes it a cache
			for _, class := range append(noClasses(4), 0, 1, 39) {
				misses(t, name, c, class, api.ErrState)
				if many, e := c.Want(class); many != 0 || e != api.ErrState {
					t.Errorf("%s: Want(%d) = %d, %d", name, class, many, e)
				}
				for _, many := range []int{0, 1, 256, 257} {
					fails(t, name, c.Fill(class, make([]int, many)), api.ErrState)
				}
				refuses(t, name, c, class, 8, api.ErrState)
				counts(t, name, c, class, 0, 0, 0)
				lists(t, name, c, class, nil)
			}
			gives(t, name, c.Scavenge())
			gives(t, name, c.Drain())
			if c.Bytes() != 0 || c.Over() {
				t.Errorf("%s: Bytes = %d, Over = %t", name, c.Bytes(), c.Over())
			}
			if d := c.Clone(); d != nil {
				t.Errorf("%s: Clone = %v", name, d)
			}
		}
	}
}

// TestMany compares many calls with the model.
func TestMany(t *testing.T) {
	for seed := range 100 {
		r := rand.New(rand.NewSource(int64(seed)))
		all := tables(t)
		table, budget := all[r.Intn(len(all))], r.Intn(2000)
		c, x := made(t, table, budget), modelOf(table, budget)
		classes := min(1+r.Intn(4), len(table))
		for number := range 200 {
			kinds := []int{0, 0, 0, 0, 1, 2, 2, 2, 2, 2, 2, 3}
			if r.Intn(10) == 0 {
				kinds = []int{4}
			}
			call(t, c, x, kinds[r.Intn(len(kinds))], r.Intn(classes), 1000*number, r.Intn(40))
			same(t, "many calls", c, x)
			if r.Intn(30) == 0 {
				c = c.Clone()
				alike(t, "many calls", c, x)
			}
		}
	}
}
