package arena

import (
	"math"
	"math/rand"
	"slices"
	"testing"

	"freehold/api"
	"freehold/space"
)

// far is numbers that are no page, no class, no address and no number of pages.
var far = []int{math.MinInt, math.MinInt + 1, -1 << 62, -1 << 32, -1025, -256, -41, -40, -39, -1, 1 << 20, 1 << 32, 1<<32 + 1, 1 << 62, math.MaxInt - 40, math.MaxInt - 1, math.MaxInt}

// TestExamples tests the chapter's examples.
func TestExamples(t *testing.T) {
	a, _, g := alone(t, 64, 2, one())
	fails(t, "Grow", a.Grow(0), api.OK)
	if a.Owns(15) || !a.Owns(16) || !a.Owns(31) || a.Owns(32) || g.space.Mapped() != 16 {
		t.Fatalf("huge page 1 is not the only one that is mapped: %d pages", g.space.Mapped())
	}
	if objects, e := a.FromCentral(0, 3); !slices.Equal(objects, []int{4096}) || e != api.OK {
		t.Fatalf("FromCentral = %v, %d", objects, e)
	}
	if c := countsOf(a); c != [6]int{0, 0, 0, 1, 0, 15} {
		t.Fatalf("Counts = %v", c)
	}
	if start, e := a.TakePages(20, 1); start != 32 || e != api.OK || g.space.Mapped() != 48 {
		t.Fatalf("TakePages = %d, %d", start, e)
	}
	fails(t, "GivePages", a.GivePages(32), api.OK)
	if n := a.Trim(); n != 2 || a.Owns(32) || a.Owns(63) {
		t.Fatalf("Trim = %d", n)
	}
	fails(t, "ToCentral", a.ToCentral(0, []int{4096}), api.OK)
	if n := a.Trim(); n != 1 || a.Owns(16) || g.space.Mapped() != 0 {
		t.Fatalf("Trim = %d", n)
	}
}

// TestNew tests tables of one class and of many, rooms at their bounds, and
// spaces of the least and of the most pages.
func TestNew(t *testing.T) {
	for _, table := range tables(t) {
		for _, pages := range []int{32, 48, 64, 512, 1008, 1024} {
			for _, room := range []int{0, 1, 8} {
				_, _, g := alone(t, pages, room, table)
				g.same(t, "New")
				if g.space.Mapped() != 0 {
					t.Fatalf("%d pages are mapped", g.space.Mapped())
				}
			}
		}
	}
}

// badTables is lists of classes that are no tables.
func badTables() map[string][]api.Class {
	good := api.Class{Size: 64, Pages: 1, Batch: 8}
	return map[string][]api.Class{
		"nil":      nil,
		"empty":    {},
		"too long": rising(41),
		"zero":     {{}},
		"equal":    {good, good},
		"falling":  {{Size: 72, Pages: 1, Batch: 1}, good},
		"size":     {good, {Size: 100, Pages: 1, Batch: 1}},
		"size 0":   {{Size: 0, Pages: 1, Batch: 1}, good},
		"size 520": {good, {Size: 520, Pages: 4, Batch: 1}},
		"pages 0":  {{Size: 8, Pages: 0, Batch: 1}, good},
		"pages 5":  {good, {Size: 72, Pages: 5, Batch: 1}},
		"no room":  {good, {Size: 512, Pages: 1, Batch: 1}},
		"batch 0":  {{Size: 8, Pages: 1, Batch: 0}},
		"batch 33": {good, {Size: 72, Pages: 1, Batch: 33}},
		"far":      {{Size: math.MaxInt - 7, Pages: math.MaxInt, Batch: math.MaxInt}},
	}
}

// spaces is a space for each number of pages.
func spaces(t *testing.T, pages ...int) []*space.Space {
	t.Helper()
	var list []*space.Space
	for _, n := range pages {
		s, e := space.New(n)
		fails(t, "space.New", e, api.OK)
		list = append(list, s)
	}
	return list
}

// TestNewErrors tests lists of classes that are no table, spaces that cannot be
// worked on, and rooms out of their bounds, and which of these errors comes
// first.
func TestNewErrors(t *testing.T) {
	good, bad := spaces(t, 32, 1024), spaces(t, 1, 2, 15, 16, 17, 24, 31, 33, 40, 47, 56, 100, 1000, 1016, 1023)
	bad = append(bad, nil, &space.Space{})
	rooms := append([]int{-2, -1, 9, 10, 16, 65536}, far...)
	refuses := func(table []api.Class, s *space.Space, room int, want api.Errno) {
		t.Helper()
		if a, e := New(table, s, room); a != nil || e != want {
			t.Fatalf("New(%v, %d pages, %d) = %v, %d, not %d", table, s.Pages(), room, a, e, want)
		}
	}
	for _, room := range append(rooms, 0, 1, 8) {
		for _, s := range bad {
			refuses(several(), s, room, api.ErrArg)
			for _, table := range badTables() {
				refuses(table, s, room, api.ErrForm)
			}
		}
		for _, s := range good {
			for _, table := range badTables() {
				refuses(table, s, room, api.ErrForm)
			}
		}
	}
	for _, room := range rooms {
		for _, s := range good {
			refuses(several(), s, room, api.ErrArg)
		}
	}
	for _, s := range good {
		if s.Mapped() != 0 {
			t.Fatalf("%d pages are mapped", s.Mapped())
		}
	}
}

// furnished is a group of two arenas whose spans, batches and large runs are of
// all kinds, and the objects of the first one that are taken and in no batch, for
// each class.
func furnished(t *testing.T) (*group, [][]int) {
	t.Helper()
	table := several()
	g := grouped(t, 160, 2, 2, table)
	var taken [][]int
	for class := range table {
		batch := table[class].Batch
		objects := g.takes(t, "furnish", 0, class, 2*batch+3)
		g.toTransfer(t, "furnish", 0, class, objects[:batch]...)
		fails(t, "furnish", g.toCentral(t, "furnish", 0, class, objects[batch]), api.OK)
		taken = append(taken, objects[batch+1:])
		g.takes(t, "furnish", 1, class, 1)
	}
	for _, pages := range []int{1, 3, 2, 8} {
		g.call(t, "furnish", 0, callTakePages, pages, 1)
		g.call(t, "furnish", 1, callTakePages, pages, 2)
	}
	g.call(t, "furnish", 0, callGivePages, g.models[0].large[2].Start, 0)
	for page := 0; page < 160; page += 3 {
		g.write(t, page)
	}
	return g, taken
}

// noClasses is numbers that no class of a table of so many has.
func noClasses(classes int) []int {
	return append([]int{-2, classes, classes + 1, 64}, far...)
}

// TestClasses tests that no function accepts a class that there is not, whatever
// else is asked, and that nothing has changed then.
func TestClasses(t *testing.T) {
	g, taken := furnished(t)
	for _, x := range tables(t) {
		_, _, other := alone(t, 64, 2, x)
		testClasses(t, other, nil)
	}
	testClasses(t, g, taken[1])
	g.alike(t, "no class")
}

// testClasses tests that the first arena of a group has no other classes.
func testClasses(t *testing.T, g *group, objects []int) {
	t.Helper()
	a := g.arenas[0]
	for _, class := range noClasses(len(g.models[0].table)) {
		if got, e := a.FromTransfer(class); len(got) != 0 || e != api.ErrArg {
			t.Fatalf("FromTransfer(%d) = %v, %d", class, got, e)
		}
		for many := range len(objects) + 1 {
			if added, e := a.ToTransfer(class, objects[:many]); added || e != api.ErrArg {
				t.Fatalf("ToTransfer(%d) = %t, %d", class, added, e)
			}
			fails(t, "ToCentral", a.ToCentral(class, objects[:many]), api.ErrArg)
		}
		fails(t, "ToCentral", a.ToCentral(class, []int{4097}), api.ErrArg)
		for _, many := range []int{-1, 0, 1, 100} {
			if got, e := a.FromCentral(class, many); len(got) != 0 || e != api.ErrArg {
				t.Fatalf("FromCentral(%d, %d) = %v, %d", class, many, got, e)
			}
		}
		fails(t, "Grow", a.Grow(class), api.ErrArg)
	}
	g.near(t, "no class")
}

// TestTransfer tests P10.3 of the transfer caches: the newest batch comes back
// first, as it was, of each class its own, and there are as many as the room.
func TestTransfer(t *testing.T) {
	table := several()
	for room := range 9 {
		a, _, g := alone(t, 256, room, table)
		var given [][][]int
		for class := range table {
			given = append(given, nil)
			g.call(t, "empty", 0, callFromTransfer, class, 0)
			batch := table[class].Batch
			for n := range min(room, 3) {
				objects := g.takes(t, "takes", 0, class, batch)
				if n%2 == 1 {
					slices.Reverse(objects)
				}
				if !g.toTransfer(t, "room is left", 0, class, objects...) {
					t.Fatalf("room %d: batch %d of class %d was not added", room, n, class)
				}
				given[class] = append(given[class], objects)
			}
			objects := g.takes(t, "takes", 0, class, batch)
			for range room - min(room, 3) {
				g.toTransfer(t, "the same objects", 0, class, objects...)
				given[class] = append(given[class], objects)
			}
			if g.toTransfer(t, "no room is left", 0, class, objects...) {
				t.Fatalf("room %d: a batch more was added", room)
			}
		}
		g.same(t, "full")
		for class := range table {
			for n := room - 1; n >= 0; n-- {
				if objects, e := a.FromTransfer(class); !slices.Equal(objects, given[class][n]) || e != api.OK {
					t.Fatalf("FromTransfer(%d) = %v, %d, not %v", class, objects, e, given[class][n])
				}
				g.models[0].fromTransfer(class)
			}
			if objects, e := a.FromTransfer(class); len(objects) != 0 || e != api.ErrNone {
				t.Fatalf("FromTransfer(%d) = %v, %d", class, objects, e)
			}
		}
		g.same(t, "empty")
	}
}

// TestToTransferErrors tests batches of a wrong length, and objects that are not
// taken ones of the class; which of these comes first, and that it comes ahead of
// a lack of room; and that nothing has changed then.
func TestToTransferErrors(t *testing.T) {
	g, taken := furnished(t)
	a, table := g.arenas[0], several()
	bad := append([]int{0, 8, 4095, 4097, 256 * 127, 256*16 + 255}, far...)
	for _, x := range g.models[1].spans { // those of another arena
		bad = append(bad, 256*x.start)
	}
	for _, run := range append(g.models[0].large, g.models[1].large...) {
		bad = append(bad, 256*run.Start)
	}
	refuses := func(what string, class int, objects []int, want api.Errno) {
		t.Helper()
		if added, e := a.ToTransfer(class, objects); added || e != want {
			t.Fatalf("%s: ToTransfer(%d, %v) = %t, %d, not %d", what, class, objects, added, e, want)
		}
	}
	for round := range 3 { // in the third round there is no room
		for class := range table {
			batch := table[class].Batch
			for many := range 70 {
				if many == batch {
					continue
				}
				refuses("wrong length", class, slices.Repeat(taken[class][:1], many), api.ErrArg)
				refuses("wrong length", class, make([]int, many), api.ErrArg)
			}
			wild := append(slices.Clone(bad), taken[(class+1)%len(table)][0], taken[class][0]+8)
			free, _ := lowestFree(g.models[0], class)
			for _, object := range append(wild, free) {
				for at := range batch {
					objects := slices.Clone(taken[class][:batch])
					objects[at] = object
					refuses("wild", class, objects, api.ErrWild)
				}
			}
		}
		g.same(t, "refused")
		for class := range table {
			if added := g.toTransfer(t, "full", 0, class, taken[class][:table[class].Batch]...); added != (round == 0) {
				t.Fatalf("round %d: added: %t", round, added)
			}
		}
	}
	g.alike(t, "refused")
}

// lowestFree is a free object of a span of a class that has a taken one.
func lowestFree(x *model, class int) (int, bool) {
	span := x.fullest(class)
	if span == nil {
		return 0, false
	}
	for _, object := range x.objects(span) {
		if !span.taken[object] {
			return object, true
		}
	}
	return 0, false
}

// TestFromCentral tests that objects come from the fullest span, as many as are
// wanted or there are, and that none comes twice (P10.3).
func TestFromCentral(t *testing.T) {
	for _, table := range tables(t) {
		_, _, g := alone(t, 256, 0, table)
		taken := map[int]bool{}
		for class := range min(len(table), 6) {
			g.call(t, "no span", 0, callFromCentral, class, 5)
			for range 3 {
				g.call(t, "Grow", 0, callGrow, class, 0)
			}
			for _, many := range []int{0, 1, 2, 7, math.MaxInt, 1} {
				for _, object := range g.call(t, "FromCentral", 0, callFromCentral, class, many) {
					if taken[object] {
						t.Fatalf("%d was taken twice", object)
					}
					taken[object] = true
				}
			}
		}
		g.same(t, "taken")
	}
}

// TestFromCentralErrors tests numbers that are less than 0, with and without
// spans.
func TestFromCentralErrors(t *testing.T) {
	g, _ := furnished(t)
	_, _, empty := alone(t, 32, 0, several())
	for class := range several() {
		for _, many := range []int{math.MinInt, -1 << 62, -1 << 32, -2, -1} {
			for _, a := range []*Arena{g.arenas[0], empty.arenas[0]} {
				if objects, e := a.FromCentral(class, many); len(objects) != 0 || e != api.ErrArg {
					t.Fatalf("FromCentral(%d, %d) = %v, %d", class, many, objects, e)
				}
			}
		}
	}
	g.alike(t, "refused")
	empty.alike(t, "refused")
}

// TestToCentral tests that objects are free when they were put, in whatever
// order, and that the pages of a span without a taken object are given back.
func TestToCentral(t *testing.T) {
	for _, reverse := range []bool{false, true} {
		_, x, g := alone(t, 128, 0, several())
		for class := range several() {
			objects := g.takes(t, "takes", 0, class, 20)
			if reverse {
				slices.Reverse(objects)
			}
			for n, object := range objects {
				fails(t, "ToCentral", g.toCentral(t, "ToCentral", 0, class, object), api.OK)
				if n%5 == 4 {
					g.same(t, "ToCentral")
				}
			}
			if len(x.spans) != 0 || len(x.backed) == 0 {
				t.Fatalf("class %d has %d spans", class, len(x.spans))
			}
			objects = g.takes(t, "takes", 0, class, 20)
			fails(t, "all at once", g.toCentral(t, "all at once", 0, class, objects...), api.OK)
			g.same(t, "all at once")
		}
		g.alike(t, "ToCentral")
	}
}

// TestToCentralNothing tests that putting no objects removes spans without a
// taken object, those of its class alone.
func TestToCentralNothing(t *testing.T) {
	_, x, g := alone(t, 64, 0, several())
	for class := range several() {
		g.call(t, "Grow", 0, callGrow, class, 0)
	}
	g.takes(t, "takes", 0, 1, 1)
	for class, left := range []int{4, 4, 3, 2, 1} {
		fails(t, "nothing", g.toCentral(t, "nothing", 0, class), api.OK)
		if len(x.spans) != left {
			t.Fatalf("class %d: %d spans are left", class, len(x.spans))
		}
		g.alike(t, "nothing")
	}
}

// TestToCentralErrors tests objects that are not those of the class, that are
// free, and that come twice; which of these errors comes first; and that nothing
// has changed then.
func TestToCentralErrors(t *testing.T) {
	g, taken := furnished(t)
	bad := append([]int{0, 8, 4095, 4097, 256 * 127}, far...)
	for _, x := range g.models[1].spans { // those of another arena
		bad = append(bad, 256*x.start)
	}
	for _, run := range append(g.models[0].large, g.models[1].large...) {
		bad = append(bad, 256*run.Start)
	}
	for class := range several() {
		good := taken[class]
		refuses := func(what string, want api.Errno, objects ...int) {
			t.Helper()
			fails(t, what, g.arenas[0].ToCentral(class, objects), want)
			fails(t, what, g.models[0].toCentral(class, objects), want)
		}
		free, _ := lowestFree(g.models[0], class)
		wild := append(slices.Clone(bad), good[0]+8, taken[(class+1)%len(taken)][0])
		for _, object := range wild {
			refuses("wild", api.ErrWild, object)
			refuses("wild", api.ErrWild, good[0], object)
			refuses("wild", api.ErrWild, object, good[0])
			refuses("wild behind a free one", api.ErrWild, free, good[0], object)
			refuses("wild behind one that comes twice", api.ErrWild, good[0], good[0], object)
		}
		refuses("free", api.ErrTwice, free)
		refuses("free", api.ErrTwice, good[0], free)
		refuses("free", api.ErrTwice, free, good[0])
		refuses("twice", api.ErrTwice, good[0], good[0])
		refuses("twice", api.ErrTwice, good[0], good[1], good[0])
		g.same(t, "refused")
	}
	g.alike(t, "refused")
}

// TestPutTwice tests that an object that was put is not put again.
func TestPutTwice(t *testing.T) {
	_, _, g := alone(t, 64, 0, several())
	objects := g.takes(t, "takes", 0, 0, 5)
	fails(t, "first", g.toCentral(t, "first", 0, 0, objects[2]), api.OK)
	fails(t, "again", g.toCentral(t, "again", 0, 0, objects[2]), api.ErrTwice)
	fails(t, "again", g.toCentral(t, "again", 0, 0, objects[1:3]...), api.ErrTwice)
	fails(t, "the others", g.toCentral(t, "the others", 0, 0, objects[0], objects[1], objects[3], objects[4]), api.OK)
	for _, object := range objects { // its span was removed
		fails(t, "removed", g.toCentral(t, "removed", 0, 0, object), api.ErrWild)
	}
	g.alike(t, "put twice")
}

// TestGrow tests that pages for spans are got without mapping as long as there
// are some, and then with mapping, until all is used; then nothing changes.
func TestGrow(t *testing.T) {
	// How many spans are made of a huge page: one of 3 pages takes a block of 4.
	for class, many := range []int{16, 16, 8, 4, 4} {
		for _, size := range []int{32, 64, 112} {
			a, x, g := alone(t, size, 0, several())
			spans := 0
			for g.models[0].grow(class) == api.OK {
				mapped := g.space.Mapped()
				fails(t, "Grow", a.Grow(class), api.OK)
				if (spans%many == 0) != (g.space.Mapped() == mapped+16) {
					t.Fatalf("class %d: span %d, and %d pages are mapped", class, spans, g.space.Mapped())
				}
				spans++
				g.near(t, "Grow")
			}
			if g.space.Mapped() != size-16 || len(x.spans) != spans {
				t.Fatalf("%d spans, %d pages", spans, g.space.Mapped())
			}
			for range 3 {
				fails(t, "full", a.Grow(class), api.ErrFull)
				g.alike(t, "full")
			}
		}
	}
}

// TestSpans tests that all spans and large runs are apart, and that the pages
// that are left beside them are free, and are got for others (P10.1, P10.2).
func TestSpans(t *testing.T) {
	_, x, g := alone(t, 64, 0, several())
	for range 40 {
		for _, class := range []int{3, 0, 4, 2, 1} {
			g.call(t, "Grow", 0, callGrow, class, 0)
		}
		g.call(t, "TakePages", 0, callTakePages, 3, 1)
	}
	g.near(t, "full")
	owner := map[int]int{}
	for n, span := range x.spans {
		for page := span.start; page < span.start+several()[span.class].Pages; page++ {
			if owner[page] != 0 || page < 16 || g.space.State(page) == 0 {
				t.Fatalf("page %d of span %d", page, n)
			}
			owner[page] = n + 1
		}
	}
	for _, run := range x.large {
		for page := run.Start; page < run.Start+run.Pages; page++ {
			if owner[page] != 0 || page < 16 || g.space.State(page) == 0 {
				t.Fatalf("page %d of a large run", page)
			}
			owner[page] = -1
		}
	}
	if len(owner) != 48 {
		t.Fatalf("%d pages are used", len(owner))
	}
}

// TestTakePages compares large runs of all numbers of pages, with all alignments,
// with the model, in arenas without huge pages, and with free pages of all kinds.
func TestTakePages(t *testing.T) {
	for _, size := range []int{32, 64, 80, 128, 256} {
		for before := range 4 {
			_, _, g := alone(t, size, 0, several())
			for n := range before {
				g.call(t, "before", 0, callTakePages, 1+3*n, 1<<n)
			}
			if before == 3 {
				g.call(t, "before", 0, callTakePages, 40, 1)
				g.call(t, "before", 0, callGivePages, 64, 0)
			}
			for pages := 1; pages <= 64; pages++ {
				for align := 1; align <= 16; align *= 2 {
					c := g.clone(t)
					c.call(t, "TakePages", 0, callTakePages, pages, align)
					c.near(t, "TakePages")
					c.call(t, "TakePages", 0, callTakePages, pages, align)
					c.near(t, "TakePages again")
				}
			}
		}
	}
}

// TestAligned tests that what TakePages returns is aligned, and mapped, and not
// the page 0, and that its pages are the arena's.
func TestAligned(t *testing.T) {
	for pages := 1; pages <= 64; pages++ {
		for align := 1; align <= 16; align *= 2 {
			a, _, g := alone(t, 256, 0, one())
			fails(t, "Grow", a.Grow(0), api.OK)
			for range 3 {
				start, e := a.TakePages(pages, align)
				if e == api.ErrFull && pages > 32 {
					break // three runs of 64 pages do not fit behind the span
				}
				if e != api.OK || start%align != 0 || start < 17 {
					t.Fatalf("TakePages(%d, %d) = %d, %d", pages, align, start, e)
				}
				for page := start; page < start+pages; page++ {
					if !a.Owns(page) || g.space.State(page) != 1 {
						t.Fatalf("TakePages(%d, %d) = %d: page %d is not mapped", pages, align, start, page)
					}
				}
			}
		}
	}
}

// TestTakePagesErrors tests numbers of pages and alignments out of their bounds,
// that this error comes first, and that nothing has changed then.
func TestTakePagesErrors(t *testing.T) {
	g, _ := furnished(t)
	_, _, full := alone(t, 32, 0, one())
	full.call(t, "TakePages", 0, callTakePages, 16, 1)
	for _, c := range []*group{g, full} {
		refuses := func(pages, align int, want api.Errno) {
			t.Helper()
			if start, e := c.arenas[0].TakePages(pages, align); start != 0 || e != want {
				t.Fatalf("TakePages(%d, %d) = %d, %d, not %d", pages, align, start, e, want)
			}
		}
		for _, pages := range append([]int{0, 65, 66, 128, 1024, 1025}, far...) {
			for _, align := range append([]int{0, 1, 3, 16, 32}, far...) {
				refuses(pages, align, api.ErrArg)
			}
		}
		for _, align := range append([]int{0, 3, 5, 6, 7, 9, 12, 15, 17, 24, 32, 64, 128, 256, 1024}, far...) {
			for _, pages := range []int{1, 2, 16, 64} {
				refuses(pages, align, api.ErrArg)
			}
		}
		refuses(64, 1, api.ErrFull)
		refuses(64, 16, api.ErrFull)
		c.alike(t, "refused")
	}
}

// TestLowest tests P10.4: of all runs that are long enough, and begin at a
// multiple of their length, that with the lowest start is mapped, and only if the
// free pages are not enough.
func TestLowest(t *testing.T) {
	g := grouped(t, 256, 2, 0, one())
	takes := func(n, pages, want, mapped int) {
		t.Helper()
		start, e := g.arenas[n].TakePages(pages, 1)
		if start != want || e != api.OK || g.space.Mapped() != mapped {
			t.Fatalf("TakePages(%d) = %d, %d, %d pages are mapped, not %d, %d", pages, start, e, g.space.Mapped(), want, mapped)
		}
	}
	takes(0, 16, 16, 16)
	takes(1, 33, 64, 80)  // 64 pages begin at a multiple of 64
	takes(0, 17, 32, 112) // 32 pages
	takes(0, 4, 52, 112)  // the least free block that is large enough, not the lowest one
	takes(0, 15, 128, 128)
	takes(1, 2, 98, 128) // the pages that are left of 64
	takes(1, 16, 112, 128)
	takes(1, 16, 144, 144)
	takes(0, 64, 192, 208)
	fails(t, "GivePages", g.arenas[0].GivePages(16), api.OK)
	if n := g.arenas[0].Trim(); n != 1 {
		t.Fatalf("Trim = %d", n)
	}
	takes(1, 9, 16, 208) // the lowest again
}

// TestNoRun tests that there may be no run that is long enough, though enough
// pages are unmapped: none of so many next to each other, none that begins at a
// multiple of its length, or only with the page 0.
func TestNoRun(t *testing.T) {
	g := grouped(t, 96, 2, 0, one())
	g.call(t, "first", 0, callTakePages, 1, 1) // huge page 1
	g.call(t, "first", 1, callTakePages, 1, 1) // 2
	g.call(t, "first", 0, callTakePages, 16, 1)
	g.call(t, "first", 1, callTakePages, 16, 1) // 3 and 4
	g.call(t, "first", 1, callGivePages, 32, 0)
	g.call(t, "first", 1, callTrim, 0, 0)
	for n := range 2 { // the pages 0 to 15, 32 to 47, and 80 to 95 are unmapped
		for _, pages := range []int{17, 20, 31, 32, 33, 64} {
			if start, e := g.arenas[n].TakePages(pages, 1); start != 0 || e != api.ErrFull {
				t.Fatalf("TakePages(%d) = %d, %d", pages, start, e)
			}
		}
	}
	g.alike(t, "no run")
	g.call(t, "GivePages", 1, callGivePages, 64, 0)
	g.call(t, "Trim", 1, callTrim, 0, 0)
	for _, pages := range []int{33, 64} { // those from 64 on are unmapped, but only 32
		if start, e := g.arenas[1].TakePages(pages, 1); start != 0 || e != api.ErrFull {
			t.Fatalf("TakePages(%d) = %d, %d", pages, start, e)
		}
	}
	g.alike(t, "no run")
	g.call(t, "32 pages", 1, callTakePages, 20, 1)
	g.same(t, "a run of 32 pages")

	_, _, small := alone(t, 48, 0, one()) // the pages 16 to 47 begin at no multiple of 32
	for _, pages := range []int{17, 32, 64} {
		if start, e := small.arenas[0].TakePages(pages, 1); start != 0 || e != api.ErrFull {
			t.Fatalf("TakePages(%d) = %d, %d", pages, start, e)
		}
	}
	small.alike(t, "no run of 32 pages")
	_, _, small = alone(t, 64, 0, one()) // those from 0 to 63 are not without the page 0
	for _, pages := range []int{33, 64} {
		if start, e := small.arenas[0].TakePages(pages, 16); start != 0 || e != api.ErrFull {
			t.Fatalf("TakePages(%d) = %d, %d", pages, start, e)
		}
	}
	small.alike(t, "no run of 64 pages")
}

// TestMappedByOthers tests that pages that somebody else mapped are left alone.
func TestMappedByOthers(t *testing.T) {
	s := spaces(t, 128)[0]
	fails(t, "Map", s.Map(31, 1), api.OK)
	fails(t, "Map", s.Map(70, 3), api.OK)
	a := made(t, one(), s, 0)
	for _, want := range []int{32, 48, 80, 96, 112} {
		if start, e := a.TakePages(16, 1); start != want || e != api.OK {
			t.Fatalf("TakePages = %d, %d, not %d", start, e, want)
		}
	}
	if start, e := a.TakePages(1, 1); start != 0 || e != api.ErrFull {
		t.Fatalf("TakePages = %d, %d", start, e)
	}
	if s.Mapped() != 84 || a.Owns(31) || a.Owns(70) {
		t.Fatalf("%d pages are mapped", s.Mapped())
	}
}

// TestWholeSpace tests spaces that are used up: all but the huge page 0 can be.
func TestWholeSpace(t *testing.T) {
	for _, size := range []int{32, 64, 1024} {
		a, x, g := alone(t, size, 0, one())
		for n := 16; n < size; n++ {
			fails(t, "Grow", a.Grow(0), api.OK)
			x.spans = append(x.spans, &spanModel{start: n, taken: map[int]bool{}})
			g.world.owner[n] = 0
		}
		fails(t, "full", a.Grow(0), api.ErrFull)
		g.same(t, "full")
		if objects, e := a.FromCentral(0, size); len(objects) != size-16 || objects[0] != 4096 || e != api.OK {
			t.Fatalf("FromCentral = %d objects, %d", len(objects), e)
		}
		for page := range 16 {
			if a.Owns(page) || g.space.State(page) != 0 {
				t.Fatalf("page %d is mapped", page)
			}
		}
	}
}

// TestGreatest tests a space of the most pages, with large runs of the most pages.
func TestGreatest(t *testing.T) {
	a, _, g := alone(t, 1024, 8, several())
	for n := 1; n < 16; n++ {
		if start, e := a.TakePages(64, 16); start != 64*n || e != api.OK {
			t.Fatalf("TakePages = %d, %d", start, e)
		}
	}
	if start, e := a.TakePages(64, 1); start != 0 || e != api.ErrFull {
		t.Fatalf("TakePages = %d, %d", start, e)
	}
	if start, e := a.TakePages(32, 1); start != 32 || e != api.OK || g.space.Mapped() != 992 {
		t.Fatalf("TakePages = %d, %d", start, e)
	}
	for _, addr := range []int{256 * 960, 256*1024 - 1} {
		if class, start, e := a.Find(addr); class != -1 || start != 256*960 || e != api.OK {
			t.Fatalf("Find(%d) = %d, %d, %d", addr, class, start, e)
		}
	}
	if _, _, e := a.Find(256 * 1024); e != api.ErrWild || a.Owns(1024) || !a.Owns(1023) {
		t.Fatalf("Find: %d", e)
	}
	for n := 15; n > 0; n-- {
		fails(t, "GivePages", a.GivePages(64*n), api.OK)
	}
	if pages, e := a.Release(1024); pages != 960 || e != api.OK {
		t.Fatalf("Release = %d, %d", pages, e)
	}
	if n := a.Trim(); n != 60 || g.space.Mapped() != 32 {
		t.Fatalf("Trim = %d", n)
	}
}

// TestGivePages tests that large runs of 1 and of 64 pages, and runs next to each
// other, are given back one by one, and what is refused.
func TestGivePages(t *testing.T) {
	for _, sizes := range [][]int{{1, 1, 1, 1}, {64, 64, 1, 1}, {2, 3, 4, 5}, {16, 16, 16, 1}, {1, 64, 20, 2}} {
		for first := range sizes {
			a, x, g := alone(t, 256, 0, one())
			var starts []int
			for _, pages := range sizes {
				g.call(t, "TakePages", 0, callTakePages, pages, 1)
				starts = append(starts, x.large[len(x.large)-1].Start)
			}
			g.writeAll(t)
			for n := range starts {
				start := starts[(first+n)%len(starts)]
				g.call(t, "GivePages", 0, callGivePages, start, 0)
				fails(t, "again", a.GivePages(start), api.ErrWild)
				g.same(t, "GivePages")
			}
			if len(x.large) != 0 {
				t.Fatalf("%v are left", x.large)
			}
			g.alike(t, "given back")
		}
	}
}

// TestGivePagesErrors tests starts that are no large run's, and that nothing has
// changed then.
func TestGivePagesErrors(t *testing.T) {
	g, _ := furnished(t)
	for n, a := range g.arenas {
		starts := map[int]bool{}
		for _, run := range g.models[n].large {
			starts[run.Start] = true
		}
		for page := -100; page < 1100; page++ {
			if !starts[page] {
				fails(t, "GivePages", a.GivePages(page), api.ErrWild)
			}
		}
		for start := range starts { // an address is no page
			fails(t, "an address", a.GivePages(256*start), api.ErrWild)
		}
		for _, start := range far {
			fails(t, "far", a.GivePages(start), api.ErrWild)
		}
	}
	g.alike(t, "refused")
}

// TestManyClasses tests an arena with the most classes, each of which has spans,
// a batch and taken objects of its own.
func TestManyClasses(t *testing.T) {
	table := rising(40)
	for class := range table {
		table[class].Batch = 2
	}
	a, _, g := alone(t, 256, 1, table)
	for class := range table {
		objects := g.takes(t, "takes", 0, class, table[class].Batch)
		if found, object, e := a.Find(objects[0] + 7); found != class || object != objects[0] || e != api.OK {
			t.Fatalf("Find(%d) = %d, %d, %d, not %d", objects[0]+7, found, object, e, class)
		}
		g.toTransfer(t, "ToTransfer", 0, class, objects...)
	}
	g.call(t, "TakePages", 0, callTakePages, 2, 1)
	g.same(t, "all classes")
	g.call(t, "Tick", 0, callTick, 0, 0)
	g.call(t, "Tick", 0, callTick, 0, 0)
	if c := countsOf(a); c[0] != 0 || c[3] != 0 || c[4] != 2 {
		t.Fatalf("Counts = %v", c)
	}
	g.same(t, "no objects")
}

// TestFind tests P10.7 and IsTaken of all bytes of a space: those of objects that
// are taken and free, of tails, of large runs, of free pages, of other arenas,
// and of unmapped pages.
func TestFind(t *testing.T) {
	g, _ := furnished(t)
	for n, a := range g.arenas {
		found := map[int]int{}
		for addr := -600; addr < 256*160+600; addr++ {
			finds(t, "Find", a, g.models[n], addr)
			if class, _, e := a.Find(addr); e == api.OK {
				found[class]++
			}
		}
		if len(found) != 6 {
			t.Fatalf("bytes were found of %v", found)
		}
		for _, addr := range far {
			finds(t, "far", a, g.models[n], addr)
			if a.Owns(addr) {
				t.Fatalf("Owns(%d)", addr)
			}
		}
	}
}

// TestFindEnds tests the ends of an object, of a tail and of a large run.
func TestFindEnds(t *testing.T) {
	a, _, g := alone(t, 64, 0, several())
	objects := g.takes(t, "takes", 0, 0, 10) // the page 16: 10 objects of 24 bytes, and a tail of 16
	fails(t, "ToCentral", a.ToCentral(0, objects[3:4]), api.OK)
	start, e := a.TakePages(2, 2)
	if start != 18 || e != api.OK {
		t.Fatalf("TakePages = %d, %d", start, e)
	}
	for _, c := range []struct {
		addr, class, object int
		e                   api.Errno
		taken               bool
	}{
		{4095, 0, 0, api.ErrWild, false}, {4096, 0, 4096, api.OK, true}, {4119, 0, 4096, api.OK, false},
		{4120, 0, 4120, api.OK, true}, {4168, 0, 4168, api.OK, false}, {4169, 0, 4168, api.OK, false},
		{4191, 0, 4168, api.OK, false}, {4192, 0, 4192, api.OK, true}, {4335, 0, 4312, api.OK, false},
		{4336, 0, 0, api.ErrWild, false}, {4351, 0, 0, api.ErrWild, false}, {4352, 0, 0, api.ErrWild, false},
		{4607, 0, 0, api.ErrWild, false}, {4608, -1, 4608, api.OK, true}, {4609, -1, 4608, api.OK, false},
		{4863, -1, 4608, api.OK, false}, {4864, -1, 4608, api.OK, false}, {5119, -1, 4608, api.OK, false},
		{5120, 0, 0, api.ErrWild, false}, {0, 0, 0, api.ErrWild, false}, {-1, 0, 0, api.ErrWild, false},
	} {
		class, object, e := a.Find(c.addr)
		if class != c.class || object != c.object || e != c.e || a.IsTaken(c.addr) != c.taken {
			t.Errorf("Find(%d) = %d, %d, %d, IsTaken: %t", c.addr, class, object, e, a.IsTaken(c.addr))
		}
	}
}

// TestReleaseErrors tests numbers that are less than 0: nothing is swept then.
func TestReleaseErrors(t *testing.T) {
	g, _ := furnished(t)
	for class := range several() {
		g.call(t, "Grow", 0, callGrow, class, 0)
	}
	for _, want := range []int{math.MinInt, -1 << 62, -1 << 32, -2, -1} {
		if pages, e := g.arenas[0].Release(want); pages != 0 || e != api.ErrArg {
			t.Fatalf("Release(%d) = %d, %d", want, pages, e)
		}
	}
	g.alike(t, "refused")
}

// TestRelease tests that Release sweeps all central lists first, and then
// releases as many pages as the plan says, and that all free pages are clean
// then, if all were released, and no others are (P10.5).
func TestRelease(t *testing.T) {
	for _, want := range []int{0, 1, 2, 5, 16, 17, 30, 31, 40, 1024, math.MaxInt} {
		for written := range 3 {
			g, taken := furnished(t)
			for class := range several() {
				g.call(t, "Grow", 0, callGrow, class, 0)
			}
			g.toCentral(t, "ToCentral", 0, 3, taken[3]...)
			g.call(t, "TakePages", 0, callTakePages, 20, 1)
			g.call(t, "GivePages", 0, callGivePages, g.models[0].large[len(g.models[0].large)-1].Start, 0)
			if written == 1 {
				g.writeAll(t)
			}
			g.call(t, "Release", 0, callRelease, want, 0)
			g.same(t, "Release")
			if written == 2 {
				g.writeAll(t) // the free pages, too
				g.same(t, "Write")
			}
			g.call(t, "Release again", 0, callRelease, want, 0)
			g.alike(t, "Release again")
		}
	}
}

// TestClean tests that no free page is dirty after Release(MaxPages), and that
// all others still are, if all pages were written to as long as they were used.
func TestClean(t *testing.T) {
	for seed := range 30 {
		r := rand.New(rand.NewSource(int64(seed)))
		_, x, g := alone(t, 128, 2, several())
		for range 30 {
			class := r.Intn(5)
			switch r.Intn(5) {
			case 0:
				g.call(t, "TakePages", 0, callTakePages, 1+r.Intn(20), 1)
			case 1:
				g.call(t, "Grow", 0, callGrow, class, 0)
				g.call(t, "FromCentral", 0, callFromCentral, class, 1+r.Intn(10))
			case 2:
				g.toCentral(t, "ToCentral", 0, class, some(x, class, 10, r)...)
			case 3:
				if n := len(x.large); n > 0 {
					g.call(t, "GivePages", 0, callGivePages, x.large[r.Intn(n)].Start, 0)
				}
			case 4:
				g.call(t, "Release", 0, callRelease, r.Intn(5), 0)
			}
			for page := range 128 {
				if x.used(page) {
					g.write(t, page)
				}
			}
		}
		g.same(t, "written")
		g.call(t, "Release", 0, callRelease, 1024, 0)
		for page := range 128 {
			if used := x.used(page); x.owns(page) && used != (g.space.State(page) == 2) {
				t.Fatalf("page %d is used: %t, and its state is %d", page, used, g.space.State(page))
			}
		}
		g.alike(t, "released")
	}
}

// TestReleased tests that a page that was released, and then written to while it
// was free, is not released again, before it was used.
func TestReleased(t *testing.T) {
	a, _, g := alone(t, 32, 0, one())
	g.call(t, "TakePages", 0, callTakePages, 1, 1)
	g.write(t, 16)
	g.write(t, 20) // was never used
	g.call(t, "GivePages", 0, callGivePages, 16, 0)
	if pages, e := a.Release(1024); pages != 1 || e != api.OK || g.space.State(16) != 1 || g.space.State(20) != 2 {
		t.Fatalf("Release = %d, %d", pages, e)
	}
	if pages, e := a.Release(1024); pages != 0 || e != api.OK {
		t.Fatalf("Release again = %d, %d", pages, e)
	}
	fails(t, "Write", g.space.Write(4096, 7), api.OK)
	if pages, e := a.Release(1024); pages != 0 || e != api.OK || g.space.State(16) != 2 {
		t.Fatalf("Release of a page that was written to = %d, %d", pages, e)
	}
	if start, e := a.TakePages(8, 1); start != 16 || e != api.OK {
		t.Fatalf("TakePages = %d, %d", start, e)
	}
	if word, e := g.space.Read(4096); word != 7 || e != api.OK {
		t.Fatalf("Read = %d, %d", word, e)
	}
	fails(t, "GivePages", a.GivePages(16), api.OK)
	if pages, e := a.Release(3); pages != 8 || e != api.OK || g.space.Dirty() != 0 {
		t.Fatalf("Release = %d, %d", pages, e)
	}
}

// TestReleaseKeeps tests that the pages of spans and large runs keep what their
// words hold.
func TestReleaseKeeps(t *testing.T) {
	g, _ := furnished(t)
	g.writeAll(t)
	before := g.space.Clone()
	g.call(t, "Release", 0, callRelease, 1024, 0)
	g.call(t, "Release", 1, callRelease, 1024, 0)
	for page := 16; page < 160; page++ {
		if !g.models[0].used(page) && !g.models[1].used(page) {
			continue
		}
		was, _ := before.Words(256*page, 32)
		is, _ := g.space.Words(256*page, 32)
		if !slices.Equal(was, is) {
			t.Fatalf("page %d holds %v, not %v", page, is, was)
		}
	}
	g.same(t, "Release")
}

// TestSwept tests that spans are removed by ToCentral, by Release and by Tick,
// and that their pages are free then.
func TestSwept(t *testing.T) {
	for class, c := range several() {
		batch, pages := c.Batch, c.Pages
		for kind := range 3 {
			a, _, g := alone(t, 64, 2, several())
			objects := g.takes(t, "takes", 0, class, batch)
			spanPages := countsOf(a)[3]
			switch kind {
			case 0:
				g.toCentral(t, "ToCentral", 0, class, objects...)
			case 1:
				g.call(t, "Grow", 0, callGrow, class, 0)
				if countsOf(a)[3] != spanPages+pages {
					t.Fatalf("class %d: Counts = %v", class, countsOf(a))
				}
				g.call(t, "Release", 0, callRelease, 0, 0)
				if countsOf(a)[3] != spanPages {
					t.Fatalf("class %d: Counts = %v", class, countsOf(a))
				}
				g.toCentral(t, "ToCentral", 0, class, objects...)
			case 2:
				g.toTransfer(t, "ToTransfer", 0, class, objects...)
				g.call(t, "Tick", 0, callTick, 0, 0)
				if countsOf(a)[3] != spanPages {
					t.Fatalf("class %d: Counts = %v", class, countsOf(a))
				}
				g.call(t, "Tick", 0, callTick, 0, 0)
			}
			if c := countsOf(a); c != [6]int{0, 0, 0, 0, 0, g.space.Mapped()} {
				t.Fatalf("class %d: Counts = %v", class, c)
			}
			g.alike(t, "removed")
		}
	}
}

// TestTrim tests that none, some and all huge pages are unmapped, those without
// a page of a span or of a large run (P10.6).
func TestTrim(t *testing.T) {
	for keep := range 32 { // which of 5 huge pages have a used page
		for kind := range 3 {
			a, x, g := alone(t, 96, 0, one())
			kept := 0
			for range 5 {
				g.call(t, "TakePages", 0, callTakePages, 16, 1)
			}
			g.writeAll(t)
			for n := range 5 {
				g.call(t, "GivePages", 0, callGivePages, 16+16*n, 0)
				if keep>>n&1 == 1 {
					// The other pages of this huge page are the only free ones.
					g.call(t, "a page", 0, callTakePages, 1, 1)
					kept++
					for _, pages := range []int{1, 2, 4, 8} {
						g.call(t, "the others", 0, callTakePages, pages, 1)
					}
				} else {
					g.call(t, "all of it", 0, callTakePages, 16, 1)
				}
			}
			for _, run := range slices.Clone(x.large) {
				if run.Pages > 1 {
					g.call(t, "GivePages", 0, callGivePages, run.Start, 0)
				}
			}
			if kind > 0 {
				g.call(t, "Release", 0, callRelease, 1024*(kind-1), 0)
			}
			g.same(t, "before Trim")
			if n := a.Trim(); n != x.trim() || n != 5-kept || g.space.Mapped() != 16*kept {
				t.Fatalf("Trim = %d, but %d were kept", n, kept)
			}
			if n := a.Trim(); n != 0 {
				t.Fatalf("Trim again = %d", n)
			}
			g.alike(t, "Trim")
		}
	}
}

// TestTrimmed tests P10.6: after Release(MaxPages) and Trim each huge page of an
// arena has a page of a span or of a large run.
func TestTrimmed(t *testing.T) {
	for seed := range 20 {
		r := rand.New(rand.NewSource(int64(seed)))
		g := grouped(t, 128, 2, 2, several())
		for range 40 {
			turn(t, g, r)
		}
		for n, a := range g.arenas {
			g.call(t, "Release", n, callRelease, 1024, 0)
			g.call(t, "Trim", n, callTrim, 0, 0)
			for no := range 8 {
				if a.Owns(16*no) && g.models[n].usedPages(no) == 0 {
					t.Fatalf("huge page %d is idle", no)
				}
			}
		}
		g.same(t, "trimmed")
	}
}

// TestMappedAgain tests that a huge page that was unmapped is mapped again, by
// the arena or by another one, and that its pages are clean and released then.
func TestMappedAgain(t *testing.T) {
	for again := range 2 {
		g := grouped(t, 64, 2, 0, one())
		g.call(t, "TakePages", 0, callTakePages, 16, 1)
		g.writeAll(t)
		g.call(t, "GivePages", 0, callGivePages, 16, 0)
		g.call(t, "Trim", 0, callTrim, 0, 0)
		if g.space.Mapped() != 0 {
			t.Fatalf("%d pages are mapped", g.space.Mapped())
		}
		g.call(t, "again", again, callTakePages, 5, 1)
		if !g.arenas[again].Owns(16) || g.arenas[1-again].Owns(16) || g.space.Dirty() != 0 {
			t.Fatalf("arena %d does not own page 16", again)
		}
		g.alike(t, "mapped again")
		g.call(t, "GivePages", again, callGivePages, 16, 0)
		if pages, e := g.arenas[again].Release(1024); pages != 5 || e != api.OK { // not those that were never used
			t.Fatalf("Release = %d, %d", pages, e)
		}
	}
}

// TestTick tests that batches nobody needed are put into the central lists, the
// oldest ones first, and that five Ticks do so with all.
func TestTick(t *testing.T) {
	for room := range 9 {
		a, x, g := alone(t, 256, room, several())
		for class, c := range several() {
			for range min(room, 8-class) {
				g.toTransfer(t, "ToTransfer", 0, class, g.takes(t, "takes", 0, class, c.Batch)...)
			}
		}
		g.call(t, "the first one", 0, callTick, 0, 0)
		for n := range 5 {
			g.same(t, "Tick")
			if n == 1 {
				g.toCentral(t, "a batch", 0, 2, g.call(t, "FromTransfer", 0, callFromTransfer, 2, 0)...)
			}
			g.call(t, "Tick", 0, callTick, 0, 0)
		}
		if c := countsOf(a); c[0] != 0 || len(x.spans) > 0 {
			t.Fatalf("room %d: Counts = %v", room, c)
		}
		g.alike(t, "five Ticks")
	}
}

// TestOnlyBatch tests that a span stays as long as a batch of its objects is in a
// transfer cache, though it has no other object that is taken.
func TestOnlyBatch(t *testing.T) {
	for class, c := range several() {
		a, x, g := alone(t, 64, 1, several())
		objects := g.takes(t, "takes", 0, class, c.Batch+1)
		g.toTransfer(t, "ToTransfer", 0, class, objects[:c.Batch]...)
		g.toCentral(t, "ToCentral", 0, class, objects[c.Batch:]...)
		g.call(t, "Release", 0, callRelease, 1024, 0)
		g.call(t, "Trim", 0, callTrim, 0, 0)
		if len(x.spans) == 0 || countsOf(a)[0] != c.Batch*c.Size {
			t.Fatalf("class %d: Counts = %v", class, countsOf(a))
		}
		for _, object := range objects[:c.Batch] {
			if !a.IsTaken(object) {
				t.Fatalf("class %d: %d is not taken", class, object)
			}
		}
		g.alike(t, "only a batch")
		if got := g.call(t, "FromTransfer", 0, callFromTransfer, class, 0); !slices.Equal(got, objects[:c.Batch]) {
			t.Fatalf("class %d: FromTransfer = %v", class, got)
		}
		g.toCentral(t, "ToCentral", 0, class, objects[:c.Batch]...)
		g.alike(t, "no batch")
	}
}

// TestMisused tests objects that come twice in batches, and objects that were
// put while they are in a batch: Tick leaves those alone that cannot be put.
func TestMisused(t *testing.T) {
	_, _, g := alone(t, 64, 8, several())
	objects := g.takes(t, "takes", 0, 1, 12)
	g.toTransfer(t, "twice in a batch", 0, 1, objects[0], objects[0], objects[1], objects[2])
	g.toTransfer(t, "good", 0, 1, objects[4:8]...)
	g.toTransfer(t, "the same batch", 0, 1, objects[4:8]...)
	g.toTransfer(t, "put below", 0, 1, objects[8:12]...)
	g.same(t, "misused")
	fails(t, "in a batch", g.toCentral(t, "in a batch", 0, 1, objects[9], objects[3]), api.OK)
	for range 5 {
		g.call(t, "Tick", 0, callTick, 0, 0)
		g.same(t, "Tick")
	}
	g.alike(t, "misused")

	_, _, g = alone(t, 64, 8, one())
	objects = g.takes(t, "takes", 0, 0, 4)
	g.toTransfer(t, "put below", 0, 0, objects[:2]...)
	g.toTransfer(t, "good", 0, 0, objects[2:]...)
	fails(t, "in a batch", g.toCentral(t, "in a batch", 0, 0, objects[:2]...), api.OK)
	for range 3 { // the span of the first batch is not there any more
		g.call(t, "Tick", 0, callTick, 0, 0)
		g.same(t, "Tick")
	}
	g.alike(t, "misused")
}

// TestCounts tests what is counted after each of several calls.
func TestCounts(t *testing.T) {
	a, _, g := alone(t, 64, 2, several())
	counts := func(what string, want ...int) {
		t.Helper()
		if c := countsOf(a); !slices.Equal(c[:], want) {
			t.Fatalf("%s: Counts = %v, not %v", what, c, want)
		}
		g.same(t, what)
	}
	counts("New", 0, 0, 0, 0, 0, 0)
	g.call(t, "Grow", 0, callGrow, 0, 0)
	counts("Grow", 0, 240, 16, 1, 0, 15)
	objects := g.call(t, "FromCentral", 0, callFromCentral, 0, 4)
	counts("FromCentral", 0, 144, 16, 1, 0, 15)
	g.toTransfer(t, "ToTransfer", 0, 0, objects[1:]...)
	counts("ToTransfer", 72, 144, 16, 1, 0, 15)
	g.call(t, "Grow", 0, callGrow, 3, 0) // 600 of 768 bytes
	counts("Grow", 72, 744, 184, 4, 0, 12)
	g.call(t, "TakePages", 0, callTakePages, 5, 1)
	counts("TakePages", 72, 744, 184, 4, 5, 7)
	g.call(t, "TakePages", 0, callTakePages, 17, 1)
	counts("TakePages", 72, 744, 184, 4, 22, 22)
	g.call(t, "Release", 0, callRelease, 0, 0)
	counts("Release", 72, 144, 16, 1, 22, 25)
	g.call(t, "GivePages", 0, callGivePages, 32, 0)
	counts("GivePages", 72, 144, 16, 1, 5, 42)
	g.call(t, "Trim", 0, callTrim, 0, 0)
	counts("Trim", 72, 144, 16, 1, 5, 10)
	g.call(t, "Tick", 0, callTick, 0, 0)
	counts("Tick", 72, 144, 16, 1, 5, 10)
	g.call(t, "Tick", 0, callTick, 0, 0)
	counts("Tick", 0, 216, 16, 1, 5, 10)
	g.toCentral(t, "ToCentral", 0, 0, objects[0])
	counts("ToCentral", 0, 0, 0, 0, 5, 11)
}

// TestArenas tests several arenas on one space, which map and trim in turn: what
// they have does not overlap (P10.1), and none finds or gives back what is
// another one's.
func TestArenas(t *testing.T) {
	g := grouped(t, 512, 4, 2, several())
	for round := range 3 {
		for n := range g.arenas {
			g.takes(t, "takes", n, (n+round)%5, 3)
			g.call(t, "TakePages", n, callTakePages, 3+5*n, 1)
		}
		g.same(t, "taken")
		for n, a := range g.arenas {
			for m, x := range g.models {
				for _, span := range x.spans {
					apart(t, a, n == m, 256*span.start)
				}
				for _, run := range x.large {
					apart(t, a, n == m, 256*run.Start)
					if n != m {
						fails(t, "GivePages", a.GivePages(run.Start), api.ErrWild)
					}
				}
			}
		}
		for n := range g.arenas {
			m := (n + round) % 4
			x := g.models[m]
			g.call(t, "GivePages", m, callGivePages, x.large[len(x.large)-1].Start, 0)
			g.call(t, "Trim", m, callTrim, 0, 0)
			g.call(t, "TakePages", n, callTakePages, 16, 1)
		}
		g.alike(t, "trimmed")
	}
}

// apart tests that an arena finds its own addresses, and no others.
func apart(t *testing.T, a *Arena, own bool, addr int) {
	t.Helper()
	if _, _, e := a.Find(addr); own != (e == api.OK) {
		t.Fatalf("Find(%d): %d", addr, e)
	}
	if own != a.Owns(addr/256) || !own && a.IsTaken(addr) {
		t.Fatalf("Owns(%d), IsTaken(%d)", addr/256, addr)
	}
}

// TestClone tests P10.9 and R8: a clone is in the same state, and neither changes
// the other.
func TestClone(t *testing.T) {
	for kind := range calls + 2 {
		g, taken := furnished(t)
		change := func(g *group) {
			for class := range several() {
				switch kind {
				case calls:
					g.toTransfer(t, "change", 0, class, taken[class][:several()[class].Batch]...)
				case calls + 1:
					g.toCentral(t, "change", 0, class, taken[class][1:]...)
				case callTakePages, callFromCentral:
					g.call(t, "change", 0, kind, class, 1+class%2)
				case callGivePages:
					g.call(t, "change", 0, kind, g.models[0].large[0].Start, 0)
					return
				case callTrim:
					g.call(t, "change", 0, callTakePages, 17, 1)
					g.call(t, "change", 0, callGivePages, g.models[0].large[len(g.models[0].large)-1].Start, 0)
					g.call(t, "change", 0, kind, 0, 0)
				default:
					g.call(t, "change", 0, kind, class, 0)
				}
			}
			g.writeAll(t)
		}
		c := g.clone(t)
		c.alike(t, "the clone")
		change(c)
		g.alike(t, "the arena, after the clone was changed")
		c.alike(t, "the clone, after it was changed")
		c = g.clone(t)
		change(g)
		c.alike(t, "the clone, after the arena was changed")
		g.alike(t, "the arena, after it was changed")
		c.clone(t).alike(t, "a clone of the clone")
	}
}

// TestCloneErrors tests spaces that no clone can work on.
func TestCloneErrors(t *testing.T) {
	g, _ := furnished(t)
	for _, s := range append(spaces(t, 1, 16, 32, 112, 128, 144, 159, 161, 176, 1024), nil, &space.Space{}) {
		if c := g.arenas[0].Clone(s); c != nil {
			t.Fatalf("Clone on %d pages = %v", s.Pages(), c)
		}
	}
	g.alike(t, "no clone")
}

// TestOtherSpace tests that a clone on a space that is no clone of the arena's
// does not panic, and leaves the arena alone.
func TestOtherSpace(t *testing.T) {
	for mapped := range 3 {
		g, taken := furnished(t)
		s := spaces(t, 160)[0]
		if mapped > 0 {
			fails(t, "Map", s.Map(60*(mapped-1), 68), api.OK)
		}
		c := g.arenas[0].Clone(s)
		if c == nil {
			t.Fatalf("there is no clone")
		}
		for class := range several() {
			c.FromTransfer(class)
			c.FromCentral(class, 7)
			c.ToCentral(class, taken[class])
		}
		for n := range 20 {
			c.Grow(n % 5)
			c.TakePages(3*n, 4)
			c.Release(n)
			c.GivePages(16 + 4*n)
			c.Trim()
			c.Tick()
			c.Counts()
			for page := range 160 {
				c.Owns(page)
				c.Find(256 * page)
				c.IsTaken(256 * page)
			}
		}
		g.alike(t, "the arena")
	}
}

// spoil writes to objects, and behind them.
func spoil(objects []int) {
	clear(objects)
	_ = append(objects[:0], -1)
	_ = append(objects, -2, -3, -4)
}

// TestNewMemory tests that a table and objects that are given are neither changed
// nor retained, and that results share no memory with the arena, or with one
// another (R5).
func TestNewMemory(t *testing.T) {
	s := spaces(t, 128)[0]
	table := append(make([]api.Class, 0, 10), several()...)
	a := made(t, table, s, 3)
	w := worldOf(128)
	g := &group{space: s, world: w, arenas: []*Arena{a}, models: []*model{modelOf(several(), w, 3, 0)}}
	if !slices.Equal(table, several()) {
		t.Fatalf("New changed its argument: %v", table)
	}
	clear(table)
	_ = append(table, api.Class{Size: 520, Pages: 4, Batch: 1})
	g.alike(t, "New")
	for class, c := range several() {
		var batches [][]int
		for range 3 {
			objects := g.takes(t, "takes", 0, class, c.Batch)
			batches = append(batches, slices.Clone(objects))
			given := append(make([]int, 0, 70), objects...)
			g.toTransfer(t, "ToTransfer", 0, class, given...)
			if !slices.Equal(given, objects) {
				t.Fatalf("ToTransfer changed its argument: %v", given)
			}
			spoil(given)
			g.same(t, "ToTransfer")
		}
		for n := 2; n >= 0; n-- {
			objects, e := a.FromTransfer(class)
			if !slices.Equal(objects, batches[n]) || e != api.OK {
				t.Fatalf("FromTransfer = %v, %d, not %v", objects, e, batches[n])
			}
			g.models[0].fromTransfer(class)
			spoil(objects)
			g.same(t, "FromTransfer")
			given := append(make([]int, 0, 70), batches[n]...)
			slices.Reverse(given)
			want := slices.Clone(given)
			fails(t, "ToCentral", g.toCentral(t, "ToCentral", 0, class, given...), api.OK)
			if !slices.Equal(given, want) {
				t.Fatalf("ToCentral changed its argument: %v", given)
			}
			spoil(given)
			g.same(t, "ToCentral")
		}
		g.call(t, "Grow", 0, callGrow, class, 0)
		objects, _ := a.FromCentral(class, 2)
		g.models[0].fromCentral(class, 2)
		spoil(objects)
		g.alike(t, "FromCentral")
	}
}

// TestTogether tests that the results of several calls share no memory.
func TestTogether(t *testing.T) {
	g, _ := furnished(t)
	a := g.arenas[0]
	var all [][]int
	for class, c := range several() {
		first, _ := a.FromTransfer(class)
		second := g.takes(t, "takes", 0, class, c.Batch)
		a.ToTransfer(class, second)
		a.ToTransfer(class, second)
		third, _ := a.FromTransfer(class)
		fourth, _ := a.FromTransfer(class)
		all = append(all, first, second, third, fourth)
	}
	for n, objects := range all {
		want := make([][]int, len(all))
		for m := range want {
			want[m] = slices.Clone(all[m])
		}
		clear(want[n])
		spoil(objects)
		want[n] = objects
		for m := range want {
			if !slices.Equal(all[m], want[m]) {
				t.Fatalf("%d was changed with %d: %v, not %v", m, n, all[m], want[m])
			}
		}
	}
}

// TestNotMade tests an arena that is nil, and one that no function returned (R1).
func TestNotMade(t *testing.T) {
	good := spaces(t, 32)[0]
	for name, a := range map[string]*Arena{"nil": nil, "zero": {}} {
		for _, n := range append([]int{0, 1, 16, 64}, far...) {
			if objects, e := a.FromTransfer(n); len(objects) != 0 || e != api.ErrState {
				t.Errorf("%s: FromTransfer(%d) = %v, %d", name, n, objects, e)
			}
			if added, e := a.ToTransfer(n, []int{n}); added || e != api.ErrState {
				t.Errorf("%s: ToTransfer(%d) = %t, %d", name, n, added, e)
			}
			if objects, e := a.FromCentral(n, n); len(objects) != 0 || e != api.ErrState {
				t.Errorf("%s: FromCentral(%d) = %v, %d", name, n, objects, e)
			}
			fails(t, name, a.ToCentral(n, []int{n}), api.ErrState)
			fails(t, name, a.ToCentral(n, nil), api.ErrState)
			fails(t, name, a.Grow(n), api.ErrState)
			if start, e := a.TakePages(n, 1); start != 0 || e != api.ErrState {
				t.Errorf("%s: TakePages(%d) = %d, %d", name, n, start, e)
			}
			fails(t, name, a.GivePages(n), api.ErrState)
			if class, object, e := a.Find(n); class != 0 || object != 0 || e != api.ErrState {
				t.Errorf("%s: Find(%d) = %d, %d, %d", name, n, class, object, e)
			}
			if a.IsTaken(n) || a.Owns(n) {
				t.Errorf("%s: IsTaken(%d) = %t, Owns = %t", name, n, a.IsTaken(n), a.Owns(n))
			}
			if pages, e := a.Release(n); pages != 0 || e != api.ErrState {
				t.Errorf("%s: Release(%d) = %d, %d", name, n, pages, e)
			}
			a.Tick()
			if a.Trim() != 0 || countsOf(a) != [6]int{} {
				t.Errorf("%s: Trim = %d, Counts = %v", name, a.Trim(), countsOf(a))
			}
			for _, s := range []*space.Space{nil, {}, good} {
				if c := a.Clone(s); c != nil {
					t.Errorf("%s: Clone = %v", name, c)
				}
			}
		}
	}
}

// turn makes a call of an arena of a group, most often one that changes it.
func turn(t *testing.T, g *group, r *rand.Rand) {
	t.Helper()
	n := r.Intn(len(g.arenas))
	x := g.models[n]
	class := r.Intn(len(x.table))
	batch := x.table[class].Batch
	switch kind := r.Intn(calls + 5); kind {
	case callTakePages:
		pages := []int{1, 2, 3, 5, 8, 16, 17, 30, 40, 64, 0, 65}[r.Intn(12)]
		g.call(t, "turn", n, kind, pages, 1<<r.Intn(6))
	case callGivePages:
		start := r.Intn(len(g.world.owner))
		if len(x.large) > 0 && r.Intn(5) > 0 {
			start = x.large[r.Intn(len(x.large))].Start
		}
		g.call(t, "turn", n, kind, start, 0)
	case callFromCentral:
		g.call(t, "turn", n, kind, class, r.Intn(20))
	case callRelease:
		g.call(t, "turn", n, kind, r.Intn(1+r.Intn(40)), 0)
	case callFromTransfer, callGrow, callTrim, callTick:
		g.call(t, "turn", n, kind, class, 0)
	case calls, calls + 1:
		g.toTransfer(t, "turn", n, class, some(x, class, batch, r)...)
	case calls + 2, calls + 3:
		g.toCentral(t, "turn", n, class, some(x, class, r.Intn(2*batch+1), r)...)
	default:
		g.write(t, r.Intn(len(g.world.owner)))
	}
}

// some is objects of a class that are taken, so many if there are, and now and
// then one that is not, or that comes twice.
func some(x *model, class, many int, r *rand.Rand) []int {
	var objects []int
	for _, span := range x.spans {
		for _, object := range x.objects(span) {
			if span.class == class && (span.taken[object] || r.Intn(60) == 0) {
				objects = append(objects, object)
			}
		}
	}
	r.Shuffle(len(objects), func(i, j int) { objects[i], objects[j] = objects[j], objects[i] })
	objects = objects[:min(many, len(objects))]
	if len(objects) > 0 && r.Intn(10) == 0 {
		objects[0] = objects[len(objects)-1] + 8*r.Intn(2)
	}
	return objects
}

// TestMany compares many calls of several arenas with the model.
func TestMany(t *testing.T) {
	for seed := range 60 {
		r := rand.New(rand.NewSource(int64(seed)))
		all := tables(t)
		table := all[r.Intn(len(all))]
		table = table[:min(len(table), 6)]
		g := grouped(t, 32+16*r.Intn(8), 1+r.Intn(4), r.Intn(4), table)
		for range 150 {
			turn(t, g, r)
			g.near(t, "many calls")
			if r.Intn(30) == 0 {
				g = g.clone(t)
				g.same(t, "many calls")
			}
		}
		g.alike(t, "many calls")
	}
}
