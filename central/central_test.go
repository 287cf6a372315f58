package central

import (
	"maps"
	"math"
	"math/rand"
	"slices"
	"testing"

	"freehold/api"
)

// ok tests that a call returned no error.
func ok(t *testing.T, what string, e api.Errno) {
	t.Helper()
	if e != api.OK {
		t.Fatalf("%s: %d", what, e)
	}
}

// fails tests the error of a call.
func fails(t *testing.T, what string, e, want api.Errno) {
	t.Helper()
	if e != want {
		t.Fatalf("%s: %d, not %d", what, e, want)
	}
}

// made is a new list, with spans.
func made(t *testing.T, class api.Class, starts ...int) *List {
	t.Helper()
	l, e := New(class)
	if e != api.OK || l == nil {
		t.Fatalf("New(%v) = %v, %d", class, l, e)
	}
	for _, start := range starts {
		ok(t, "Add", l.Add(start))
	}
	return l
}

// takes tests that objects are taken in one call: the addresses in their order.
func takes(t *testing.T, what string, l *List, many int, want ...int) {
	t.Helper()
	if objects, e := l.Take(many); !slices.Equal(objects, want) || e != api.OK {
		t.Fatalf("%s: Take(%d) = %v, %d, not %v", what, many, objects, e, want)
	}
}

// puts tests that objects are put, by which runs are removed.
func puts(t *testing.T, what string, l *List, objects []int, want ...api.Run) {
	t.Helper()
	if runs, e := l.Put(objects); !slices.Equal(runs, want) || e != api.OK {
		t.Fatalf("%s: Put(%v) = %v, %d, not %v", what, objects, runs, e, want)
	}
}

// refuses tests the error of a Put.
func refuses(t *testing.T, what string, l *List, objects []int, want api.Errno) {
	t.Helper()
	if runs, e := l.Put(objects); len(runs) != 0 || e != want {
		t.Fatalf("%s: Put(%v) = %v, %d, not %d", what, objects, runs, e, want)
	}
}

// sweeps tests which runs a Sweep removes.
func sweeps(t *testing.T, what string, l *List, want ...api.Run) {
	t.Helper()
	if runs := l.Sweep(); !slices.Equal(runs, want) {
		t.Fatalf("%s: Sweep = %v, not %v", what, runs, want)
	}
}

// model is a list, read to the letter: for each span, by its first page, which
// of its objects are taken.
type model struct {
	class api.Class
	spans map[int][]bool
}

// modelOf is a list with spans.
func modelOf(class api.Class, starts ...int) *model {
	x := &model{class: class, spans: map[int][]bool{}}
	for _, start := range starts {
		x.spans[start] = make([]bool, class.Pages*256/class.Size)
	}
	return x
}

// starts is the first pages of the spans, rising.
func (x *model) starts() []int {
	return slices.Sorted(maps.Keys(x.spans))
}

// addr is the address of an object.
func (x *model) addr(start, object int) int {
	return start*256 + object*x.class.Size
}

// add is Add.
func (x *model) add(start int) api.Errno {
	if start < 0 || start > 1024 || start+x.class.Pages > 1024 {
		return api.ErrArg
	}
	for page := start; page < start+x.class.Pages; page++ {
		for other := range x.spans {
			if page >= other && page < other+x.class.Pages {
				return api.ErrTwice
			}
		}
	}
	x.spans[start] = make([]bool, x.class.Pages*256/x.class.Size)
	return api.OK
}

// count is how many objects of a span are taken.
func (x *model) count(start int) int {
	n := 0
	for _, taken := range x.spans[start] {
		if taken {
			n++
		}
	}
	return n
}

// takeOne takes one object; false, if none is free.
func (x *model) takeOne() (int, bool) {
	best := -1
	for _, start := range x.starts() {
		if !slices.Contains(x.spans[start], false) {
			continue
		}
		if best < 0 || x.count(start) > x.count(best) {
			best = start
		}
	}
	if best < 0 {
		return 0, false
	}
	object := slices.Index(x.spans[best], false)
	x.spans[best][object] = true
	return x.addr(best, object), true
}

// take is Take.
func (x *model) take(many int) []int {
	var objects []int
	for len(objects) < many {
		object, some := x.takeOne()
		if !some {
			break
		}
		objects = append(objects, object)
	}
	return objects
}

// at is the state of the object at an address; nil, if there is none.
func (x *model) at(addr int) *bool {
	for start, objects := range x.spans {
		for object := range objects {
			if x.addr(start, object) == addr {
				return &objects[object]
			}
		}
	}
	return nil
}

// put is Put.
func (x *model) put(objects []int) ([]api.Run, api.Errno) {
	for _, addr := range objects {
		if x.at(addr) == nil {
			return nil, api.ErrWild
		}
	}
	for i, addr := range objects {
		if !*x.at(addr) || slices.Contains(objects[:i], addr) {
			return nil, api.ErrTwice
		}
	}
	for _, addr := range objects {
		*x.at(addr) = false
	}
	return x.sweep(), api.OK
}

// sweep is Sweep.
func (x *model) sweep() []api.Run {
	var runs []api.Run
	for _, start := range x.starts() {
		if x.count(start) == 0 {
			runs = append(runs, api.Run{Start: start, Pages: x.class.Pages})
			delete(x.spans, start)
		}
	}
	return runs
}

// taken is the addresses of all taken objects, rising.
func (x *model) taken() []int {
	var list []int
	for _, start := range x.starts() {
		for object, taken := range x.spans[start] {
			if taken {
				list = append(list, x.addr(start, object))
			}
		}
	}
	return list
}

// clone is a model in the same state.
func (x *model) clone() *model {
	c := modelOf(x.class)
	for start, objects := range x.spans {
		c.spans[start] = slices.Clone(objects)
	}
	return c
}

// byteOf is what a list tells of an address.
type byteOf struct {
	object  int
	objectE api.Errno
	isTaken bool
	takenE  api.Errno
}

// ask is what a list tells of an address.
func ask(l *List, addr int) byteOf {
	var b byteOf
	b.object, b.objectE = l.Find(addr)
	b.isTaken, b.takenE = l.IsTaken(addr)
	return b
}

// bytes is what the model tells of all bytes of objects; of all others a list
// tells that there is no object.
func (x *model) bytes() map[int]byteOf {
	all := map[int]byteOf{}
	for start, objects := range x.spans {
		for object, taken := range objects {
			addr := x.addr(start, object)
			for n := range x.class.Size {
				all[addr+n] = byteOf{object: addr, takenE: api.ErrWild}
			}
			all[addr] = byteOf{object: addr, isTaken: taken}
		}
	}
	return all
}

// noObject is what a list tells of an address that is not within an object.
var noObject = byteOf{objectE: api.ErrWild, takenE: api.ErrWild}

// same tests that a list tells what the model does: of itself, of all bytes of
// its spans and of the pages around them, and of some bytes of all other pages.
func same(t *testing.T, what string, l *List, x *model) {
	t.Helper()
	sameCounts(t, what, l, x)
	all := x.bytes()
	check := func(addr int) {
		t.Helper()
		want, within := all[addr]
		if !within {
			want = noObject
		}
		if got := ask(l, addr); got != want {
			t.Fatalf("%s: of %d: %v, not %v", what, addr, got, want)
		}
	}
	for start := range x.spans {
		for addr := (start - 1) * 256; addr < (start+x.class.Pages+1)*256; addr++ {
			check(addr)
		}
	}
	for page := -2; page <= 1025; page++ {
		for _, addr := range []int{page * 256, page*256 + 8, page*256 + 255} {
			check(addr)
		}
	}
}

// sameCounts tests that a list tells of itself what the model does.
func sameCounts(t *testing.T, what string, l *List, x *model) {
	t.Helper()
	objects, taken := 0, len(x.taken())
	var runs []api.Run
	for _, start := range x.starts() {
		objects += len(x.spans[start])
		runs = append(runs, api.Run{Start: start, Pages: x.class.Pages})
	}
	if l.Room() != objects-taken || l.Taken() != taken {
		t.Fatalf("%s: Room = %d, Taken = %d, not %d, %d", what, l.Room(), l.Taken(), objects-taken, taken)
	}
	if got := l.Spans(); !slices.Equal(got, runs) {
		t.Fatalf("%s: Spans = %v, not %v", what, got, runs)
	}
	if got := l.Class(); got != x.class {
		t.Fatalf("%s: Class = %v, not %v", what, got, x.class)
	}
}

// classes is classes of all valid sizes and pages.
func classes() []api.Class {
	var list []api.Class
	for size := 8; size <= 512; size += 8 {
		for pages := 1; pages <= 4; pages++ {
			if pages*256 >= size {
				list = append(list, api.Class{Size: size, Pages: pages, Batch: 1 + (size/8+pages)%32})
			}
		}
	}
	return list
}

// some is some classes: the least and the greatest size, with and without a
// tail, classes of one object, with a tail and without one, and objects that
// cross from one page into the next.
func some() []api.Class {
	return []api.Class{
		{Size: 24, Pages: 1, Batch: 21},
		{Size: 64, Pages: 1, Batch: 8},
		{Size: 8, Pages: 4, Batch: 1},
		{Size: 256, Pages: 1, Batch: 2},
		{Size: 136, Pages: 1, Batch: 3},
		{Size: 512, Pages: 2, Batch: 1},
		{Size: 512, Pages: 3, Batch: 1},
		{Size: 512, Pages: 4, Batch: 32},
		{Size: 104, Pages: 3, Batch: 4},
		{Size: 248, Pages: 4, Batch: 2},
	}
}

// apart is the first pages of some runs of a class, not rising: the first and
// the last that there is, two that touch, and one that is alone.
func apart(class api.Class) []int {
	return []int{100, 1024 - class.Pages, 0, 100 + class.Pages, 50}
}

// filled is a list, and its model, of some spans of a class, of which the
// objects are taken for which the bits of a number are set, which repeat: bit n
// for all objects of which the sum of their number and that of their span is n
// modulo 10.
func filled(t *testing.T, class api.Class, bits uint) (*List, *model) {
	t.Helper()
	l, x := made(t, class, apart(class)...), modelOf(class, apart(class)...)
	if objects, e := l.Take(math.MaxInt); e != api.OK || len(objects) != 5*len(x.spans[50]) {
		t.Fatalf("Take = %v, %d", objects, e)
	}
	var back []int
	for n, start := range x.starts() {
		for object := range x.spans[start] {
			x.spans[start][object] = bits>>((n+object)%10)&1 == 1
			if !x.spans[start][object] {
				back = append(back, x.addr(start, object))
			}
		}
	}
	puts(t, "Put", l, back, x.sweep()...)
	return l, x
}

// TestExamples tests the chapter's examples, in their order.
func TestExamples(t *testing.T) {
	l := made(t, api.Class{Size: 256, Pages: 1, Batch: 2}, 16, 18)
	takes(t, "Take", l, 1, 4096)
	ok(t, "Add", l.Add(17))
	takes(t, "Take", l, 2, 4352, 4608)
	puts(t, "Put", l, []int{4096}, api.Run{Start: 16, Pages: 1})
	if runs := l.Spans(); !slices.Equal(runs, []api.Run{{Start: 17, Pages: 1}, {Start: 18, Pages: 1}}) {
		t.Errorf("Spans = %v", runs)
	}
	refuses(t, "twice", l, []int{4352, 4352}, api.ErrTwice)
	refuses(t, "inside of an object", l, []int{4353}, api.ErrWild)
	x := modelOf(api.Class{Size: 256, Pages: 1, Batch: 2}, 17, 18)
	x.take(2)
	same(t, "at the end", l, x)
}

// TestNew tests new lists of all classes: they have no spans.
func TestNew(t *testing.T) {
	for _, class := range classes() {
		l, x := made(t, class), modelOf(class)
		sameCounts(t, "New", l, x)
		takes(t, "Take", l, 0)
		takes(t, "Take", l, 1)
		takes(t, "Take", l, math.MaxInt)
		puts(t, "Put", l, nil)
		sweeps(t, "Sweep", l)
		refuses(t, "Put", l, []int{0}, api.ErrWild)
	}
	for _, class := range some() {
		same(t, "New", made(t, class), modelOf(class))
	}
}

// TestNewApart tests that lists of the same class are not one list.
func TestNewApart(t *testing.T) {
	class := api.Class{Size: 64, Pages: 1, Batch: 8}
	a, b := made(t, class, 3), made(t, class)
	same(t, "another one", b, modelOf(class))
	ok(t, "Add", b.Add(3))
	takes(t, "Take", a, 2, 768, 832)
	same(t, "another one", b, modelOf(class, 3))
	sweeps(t, "Sweep", b, api.Run{Start: 3, Pages: 1})
	x := modelOf(class, 3)
	x.take(2)
	same(t, "the first one", a, x)
}

// badClasses is classes that are not valid, each for one reason.
func badClasses() map[string]api.Class {
	return map[string]api.Class{
		"zero":            {},
		"size 0":          {Size: 0, Pages: 1, Batch: 1},
		"size -8":         {Size: -8, Pages: 1, Batch: 1},
		"size 1":          {Size: 1, Pages: 1, Batch: 1},
		"size 20":         {Size: 20, Pages: 1, Batch: 1},
		"size 520":        {Size: 520, Pages: 4, Batch: 1},
		"least size":      {Size: math.MinInt, Pages: 1, Batch: 1},
		"greatest size":   {Size: math.MaxInt - 7, Pages: 4, Batch: 1},
		"pages 0":         {Size: 8, Pages: 0, Batch: 1},
		"pages -1":        {Size: 8, Pages: -1, Batch: 1},
		"pages 5":         {Size: 8, Pages: 5, Batch: 1},
		"least pages":     {Size: 8, Pages: math.MinInt, Batch: 1},
		"greatest pages":  {Size: 8, Pages: math.MaxInt, Batch: 1},
		"pages that wrap": {Size: 8, Pages: 1<<56 + 1, Batch: 1},
		"pages too few":   {Size: 264, Pages: 1, Batch: 1},
		"batch 0":         {Size: 8, Pages: 1, Batch: 0},
		"batch -1":        {Size: 8, Pages: 1, Batch: -1},
		"batch 33":        {Size: 8, Pages: 1, Batch: 33},
	}
}

// TestNewErrors tests the error of New.
func TestNewErrors(t *testing.T) {
	for name, class := range badClasses() {
		if l, e := New(class); l != nil || e != api.ErrArg {
			t.Errorf("%s: New(%v) = %v, %d", name, class, l, e)
		}
	}
}

// outside is first pages of runs that are not within the pages.
func outside(class api.Class) []int {
	return []int{-1, -2, -4, -1024, math.MinInt, math.MinInt + 4, 1025 - class.Pages, 1024, 1025, 2048, 1 << 32, 1 << 56, math.MaxInt - 4, math.MaxInt - 1, math.MaxInt}
}

// TestAdd tests added spans, in any order: those that touch, the first one and
// the last one that there is; all their objects are free.
func TestAdd(t *testing.T) {
	for _, class := range classes() {
		l, x := made(t, class), modelOf(class)
		for _, start := range apart(class) {
			ok(t, "Add", l.Add(start))
			ok(t, "Add", x.add(start))
			sameCounts(t, "Add", l, x)
		}
		same(t, "Add", l, x)
	}
}

// TestAddAll tests as many spans as there are runs, added from the last one, and
// all of their objects.
func TestAddAll(t *testing.T) {
	for _, class := range some() {
		l, x := made(t, class), modelOf(class)
		for n := range 1024 / class.Pages {
			start := 1024 - (n+1)*class.Pages
			ok(t, "Add", l.Add(start))
			x.spans[start] = make([]bool, class.Pages*256/class.Size)
		}
		sameCounts(t, "Add", l, x)
		objects, e := l.Take(math.MaxInt)
		if e != api.OK || len(objects) != 1024/class.Pages*(class.Pages*256/class.Size) || !slices.IsSorted(objects) {
			t.Fatalf("%v: Take = %d objects, %d", class, len(objects), e)
		}
		if l.Room() != 0 || l.Taken() != len(objects) {
			t.Fatalf("%v: Room = %d, Taken = %d", class, l.Room(), l.Taken())
		}
		if runs, e := l.Put(objects); e != api.OK || len(runs) != 1024/class.Pages || len(l.Spans()) != 0 {
			t.Fatalf("%v: Put = %v, %d", class, runs, e)
		}
	}
}

// TestAddErrors tests the errors of Add: a run that is not within the pages,
// and runs that overlap a span, which neither those that touch it do, nor those
// of a span that was removed.
func TestAddErrors(t *testing.T) {
	for _, class := range classes() {
		l, x := made(t, class, 50, 1024-class.Pages), modelOf(class, 50, 1024-class.Pages)
		for _, start := range outside(class) {
			fails(t, "outside", l.Add(start), api.ErrArg)
		}
		for start := 50 - class.Pages + 1; start < 50+class.Pages; start++ {
			fails(t, "overlapping", l.Add(start), api.ErrTwice)
		}
		for start := 1024 - 2*class.Pages + 1; start <= 1024-class.Pages; start++ {
			fails(t, "overlapping the last one", l.Add(start), api.ErrTwice)
		}
		same(t, "refused", l, x)
		ok(t, "touching", l.Add(50+class.Pages))
		ok(t, "touching", l.Add(50-class.Pages))
		ok(t, "touching", l.Add(1024-2*class.Pages))
		sweeps(t, "Sweep", l, modelOf(class, 50-class.Pages, 50, 50+class.Pages, 1024-2*class.Pages, 1024-class.Pages).sweep()...)
		ok(t, "removed", l.Add(50-class.Pages+1))
	}
}

// TestAddBetween tests a run that overlaps the spans on both sides of it, or
// one of them only, while the other one touches it.
func TestAddBetween(t *testing.T) {
	class := api.Class{Size: 512, Pages: 4, Batch: 1}
	for gap := range 9 {
		for at := range gap + 5 {
			l, x := made(t, class, 200, 204+gap), modelOf(class, 200, 204+gap)
			fails(t, "between", l.Add(200+at), x.add(200+at))
			sameCounts(t, "between", l, x)
		}
	}
}

// TestFullest tests P7.2: of spans of all numbers of taken objects, whatever
// their places, those with the most are chosen, of several the lowest.
func TestFullest(t *testing.T) {
	class := api.Class{Size: 128, Pages: 1, Batch: 4}
	for a := range 3 {
		for b := range 3 {
			for c := range 3 {
				l, x := counted(t, class, a, b, c)
				same(t, "before", l, x)
				for {
					many := 1 + len(x.taken())%2
					want := x.take(many)
					takes(t, "Take", l, many, want...)
					if len(want) == 0 {
						break
					}
				}
				same(t, "all are taken", l, x)
			}
		}
	}
}

// counted is a list, and its model, of spans that have some taken objects each,
// at pages that touch.
func counted(t *testing.T, class api.Class, counts ...int) (*List, *model) {
	t.Helper()
	l, x := made(t, class), modelOf(class)
	var back []int
	for n, count := range counts {
		start := 20 + n*class.Pages
		ok(t, "Add", l.Add(start))
		ok(t, "Add", x.add(start))
		objects, e := l.Take(math.MaxInt)
		ok(t, "Take", e)
		back = append(back, objects[count:]...)
		for i := range count {
			x.spans[start][i] = true
		}
	}
	removed, e := l.Put(back)
	ok(t, "Put", e)
	for _, run := range removed {
		ok(t, "Add", l.Add(run.Start))
	}
	return l, x
}

// TestEqual tests spans with equally many taken objects, which are not the same
// ones: that with the lowest start is chosen, and of it the lowest free object.
func TestEqual(t *testing.T) {
	class := api.Class{Size: 64, Pages: 1, Batch: 8}
	l := made(t, class, 9, 5)
	takes(t, "Take", l, 8, 1280, 1344, 1408, 1472, 2304, 2368, 2432, 2496)
	puts(t, "Put", l, []int{1344, 2304, 1472, 2368})
	takes(t, "the lowest start, its lowest object", l, 1, 1344)
	takes(t, "the fullest now", l, 1, 1472)
	takes(t, "the other one", l, 3, 2304, 2368)
}

// TestTakeMost tests Take of 0 objects, of as many as there are, and of more.
func TestTakeMost(t *testing.T) {
	for _, class := range some() {
		for _, bits := range []uint{0, 1, 0b1101100101, 1023} {
			for _, more := range []int{0, 1, 2, 1000, 1 << 32, 1 << 62, math.MaxInt - 1000} {
				l, x := filled(t, class, bits)
				takes(t, "none", l, 0)
				same(t, "none", l, x)
				room := l.Room()
				want := x.take(room + more)
				if len(want) != room {
					t.Fatalf("%v: Room = %d, not %d", class, room, len(want))
				}
				takes(t, "all", l, room+more, want...)
				same(t, "all", l, x)
				takes(t, "more", l, 1)
				takes(t, "more", l, math.MaxInt)
				same(t, "more", l, x)
			}
		}
	}
}

// TestTakeErrors tests the error of Take.
func TestTakeErrors(t *testing.T) {
	for _, class := range some() {
		for _, bits := range []uint{0, 0b1101100101, 1023} {
			l, x := filled(t, class, bits)
			for _, many := range []int{-1, -2, -1 << 32, math.MinInt + 1, math.MinInt} {
				if objects, e := l.Take(many); len(objects) != 0 || e != api.ErrArg {
					t.Fatalf("Take(%d) = %v, %d", many, objects, e)
				}
			}
			same(t, "refused", l, x)
		}
	}
}

// TestTaken tests P7.1: no object is taken twice without having been put in
// between, and Room and Taken sum to the objects of all spans.
func TestTaken(t *testing.T) {
	for _, class := range classes() {
		l := made(t, class, apart(class)...)
		objects := 5 * (class.Pages * 256 / class.Size)
		live := map[int]bool{}
		takeAll := func(many int) {
			list, e := l.Take(many)
			ok(t, "Take", e)
			for _, object := range list {
				if live[object] {
					t.Fatalf("%v: %d was taken twice", class, object)
				}
				live[object] = true
			}
		}
		for many := 0; len(live) < objects; many++ {
			takeAll(many)
			if l.Taken() != len(live) || l.Room()+l.Taken() != objects {
				t.Fatalf("%v: Room = %d, Taken = %d", class, l.Room(), l.Taken())
			}
		}
		var back []int
		for object := range live {
			if object/8%3 == 0 {
				back = append(back, object)
				delete(live, object)
			}
		}
		swept, e := l.Put(back)
		ok(t, "Put", e)
		objects -= len(swept) * (class.Pages * 256 / class.Size)
		takeAll(objects)
		if len(live) != objects || l.Taken() != objects || l.Room() != 0 {
			t.Fatalf("%v: %d taken, Room = %d, Taken = %d", class, len(live), l.Room(), l.Taken())
		}
	}
}

// TestSwept tests P7.3: after Put and after Sweep each span has a taken object,
// and the runs of all others were returned, rising.
func TestSwept(t *testing.T) {
	for _, class := range some() {
		for bits := range uint(1024) {
			if class.Size < 64 && bits%32 != 5 {
				continue // they have many objects
			}
			l, x := filled(t, class, bits)
			sameCounts(t, "Put", l, x)
			sweeps(t, "all have a taken object", l)
			sameCounts(t, "Sweep", l, x)
			for _, start := range []int{60, 20, 70} {
				ok(t, "Add", l.Add(start))
			}
			run := func(start int) api.Run { return api.Run{Start: start, Pages: class.Pages} }
			if bits%2 == 0 {
				sweeps(t, "some have none", l, run(20), run(60), run(70))
			} else {
				puts(t, "none", l, nil, run(20), run(60), run(70))
			}
			sameCounts(t, "Sweep", l, x)
			puts(t, "all", l, x.taken(), modelOf(class, x.starts()...).sweep()...)
			sameCounts(t, "all", l, modelOf(class))
		}
	}
}

// TestSweepAll tests a Sweep of spans none of which has a taken object, and of
// none at all.
func TestSweepAll(t *testing.T) {
	for _, class := range classes() {
		l, x := made(t, class, apart(class)...), modelOf(class, apart(class)...)
		sweeps(t, "all", l, x.sweep()...)
		same(t, "all", l, modelOf(class))
		sweeps(t, "none", l)
		for _, start := range apart(class) {
			ok(t, "Add", l.Add(start))
		}
		puts(t, "all", l, []int{}, modelOf(class, apart(class)...).sweep()...)
		sameCounts(t, "all", l, modelOf(class))
	}
}

// TestPutSeveral tests a Put that empties several spans, but not all, and leaves
// objects of others taken.
func TestPutSeveral(t *testing.T) {
	class := api.Class{Size: 104, Pages: 1, Batch: 4} // two objects, and a tail
	l, x := made(t, class, 4, 5, 6, 7, 9), modelOf(class, 4, 5, 6, 7, 9)
	takes(t, "Take", l, 9, x.take(9)...) // all but the last one of page 9
	put := []int{7*256 + 104, 5 * 256, 4*256 + 104, 9 * 256, 7 * 256, 5*256 + 104}
	want, _ := x.put(put)
	if len(want) != 3 {
		t.Fatalf("the model removes %v", want)
	}
	puts(t, "Put", l, put, api.Run{Start: 5, Pages: 1}, api.Run{Start: 7, Pages: 1}, api.Run{Start: 9, Pages: 1})
	same(t, "Put", l, x)
	refuses(t, "removed", l, []int{5 * 256}, api.ErrWild)
	takes(t, "what is left", l, 5, 4*256+104)
}

// TestOneByOne tests P7.4: Take of m + n objects is Take of m, followed by Take
// of n, for all m and n.
func TestOneByOne(t *testing.T) {
	for _, class := range some() {
		if class.Size < 64 {
			continue // they have many objects
		}
		for _, bits := range []uint{0b1101100101, 0b10100, 0b111} {
			_, x := filled(t, class, bits)
			for _, start := range []int{60, 20} {
				ok(t, "Add", x.add(start))
			}
			for m := range 20 {
				for n := range 8 {
					one, _ := filled(t, class, bits)
					two, _ := filled(t, class, bits)
					for _, start := range []int{60, 20} {
						ok(t, "Add", one.Add(start))
						ok(t, "Add", two.Add(start))
					}
					want := x.clone().take(m + n)
					takes(t, "at once", one, m+n, want...)
					first := min(m, len(want))
					takes(t, "the first ones", two, m, want[:first]...)
					takes(t, "the others", two, n, want[first:]...)
				}
			}
		}
	}
}

// TestOrder tests P7.5: the order of the objects of a Put does not matter, also
// if it is refused.
func TestOrder(t *testing.T) {
	r := rand.New(rand.NewSource(7))
	for _, class := range some() {
		for _, bits := range []uint{1023, 0b1101100101} {
			_, y := filled(t, class, bits)
			all := y.taken()
			for round := range 12 {
				l, x := filled(t, class, bits)
				r.Shuffle(len(all), func(i, j int) { all[i], all[j] = all[j], all[i] })
				some := slices.Clone(all[:r.Intn(len(all)+1)])
				switch round % 4 {
				case 1:
					some = append(some, all[0], all[0])
				case 2:
					some = append(some, all[0]+1)
				case 3:
					some = append(some, all[0], all[0]+1, all[0])
				}
				given := slices.Clone(some)
				want, wantE := x.put(slices.Sorted(slices.Values(some)))
				if runs, e := l.Put(some); !slices.Equal(runs, want) || e != wantE {
					t.Fatalf("%v: Put(%v) = %v, %d, not %v, %d", class, given, runs, e, want, wantE)
				}
				if !slices.Equal(some, given) {
					t.Fatalf("%v: Put changed its argument: %v, not %v", class, some, given)
				}
				same(t, "Put", l, x)
			}
		}
	}
}

// TestFew tests P7.6: if objects are taken one by one, a span without taken
// objects is begun only if all others that have one are full.
func TestFew(t *testing.T) {
	for _, class := range some() {
		for _, bits := range []uint{0, 1, 0b1101100101, 1022} {
			l, x := filled(t, class, bits)
			for _, start := range []int{60, 20, 200} {
				ok(t, "Add", l.Add(start))
				ok(t, "Add", x.add(start))
			}
			for l.Room() > 0 {
				objects, e := l.Take(1)
				if e != api.OK || len(objects) != 1 {
					t.Fatalf("Take = %v, %d", objects, e)
				}
				begun(t, x, objects[0])
				*x.at(objects[0]) = true
			}
		}
	}
}

// begun tests that an object may be taken next, as P7.6 says.
func begun(t *testing.T, x *model, object int) {
	t.Helper()
	for _, start := range x.starts() {
		if object >= start*256 && object < (start+x.class.Pages)*256 && x.count(start) > 0 {
			return
		}
	}
	for _, start := range x.starts() {
		if n := x.count(start); n > 0 && n < len(x.spans[start]) {
			t.Fatalf("%v: %d was taken, though the span at %d is not full", x.class, object, start)
		}
	}
}

// far is addresses that no object has a byte at.
func far() []int {
	return []int{math.MinInt, math.MinInt + 1, math.MinInt + 255, -1 << 32, -1 << 18, -1024, -512, -257, -256, -255, -24, -8, -1, 1 << 18, 1<<18 + 1, 1 << 32, 1<<32 + 25600, 1 << 62, math.MaxInt - 255, math.MaxInt - 7, math.MaxInt}
}

// TestFar tests addresses that are outside of the pages.
func TestFar(t *testing.T) {
	for _, class := range classes() {
		l, x := filled(t, class, 0b1101100101)
		for _, addr := range far() {
			if b := ask(l, addr); b != noObject {
				t.Fatalf("%v: of %d: %v", class, addr, b)
			}
			refuses(t, "far", l, []int{addr}, api.ErrWild)
		}
		sameCounts(t, "far", l, x)
	}
}

// TestFind tests what a list tells of all bytes of the pages.
func TestFind(t *testing.T) {
	for _, class := range some() {
		l, x := filled(t, class, 0b1011001101)
		all := x.bytes()
		for addr := -300; addr < 1024*256+300; addr++ {
			want, within := all[addr]
			if !within {
				want = noObject
			}
			if got := ask(l, addr); got != want {
				t.Fatalf("%v: of %d: %v, not %v", class, addr, got, want)
			}
		}
	}
}

// badPuts is slices that Put refuses, of a list of the class of 24 bytes with
// spans at the pages 100, 101 and 50 of which the objects 0 and 2 are taken, the
// object 1 is free.
func badPuts() []struct {
	what    string
	objects []int
	want    api.Errno
} {
	return []struct {
		what    string
		objects []int
		want    api.Errno
	}{
		{"inside of an object", []int{25601}, api.ErrWild},
		{"the last byte of an object", []int{25623}, api.ErrWild},
		{"inside of a free object", []int{25632}, api.ErrWild},
		{"the tail", []int{25840}, api.ErrWild},
		{"the end of the tail", []int{25855}, api.ErrWild},
		{"before a run", []int{25599}, api.ErrWild},
		{"an object before a run", []int{25576}, api.ErrWild},
		{"behind a run", []int{26112}, api.ErrWild},
		{"outside of all runs", []int{15000}, api.ErrWild},
		{"address 0", []int{0}, api.ErrWild},
		{"negative", []int{-1}, api.ErrWild},
		{"least", []int{math.MinInt}, api.ErrWild},
		{"greatest", []int{math.MaxInt}, api.ErrWild},
		{"free", []int{25624}, api.ErrTwice},
		{"twice", []int{25600, 25600}, api.ErrTwice},
		{"twice, not next to each other", []int{25600, 25648, 25856, 25600}, api.ErrTwice},
		{"free, twice", []int{25624, 25624}, api.ErrTwice},
		{"one that is not taken, last", []int{25600, 25648, 25624}, api.ErrTwice},
		{"one that is not taken, first", []int{25624, 25600, 25648}, api.ErrTwice},
		{"wild last", []int{25600, 25648, 25601}, api.ErrWild},
		{"wild first", []int{25601, 25600, 25648}, api.ErrWild},
		{"free, then wild", []int{25624, 25601}, api.ErrWild},
		{"wild, then free", []int{25601, 25624}, api.ErrWild},
		{"twice, then wild", []int{25600, 25600, 15000}, api.ErrWild},
		{"wild, then twice", []int{15000, 25600, 25600}, api.ErrWild},
		{"wild, and twice", []int{15000, 15000}, api.ErrWild},
		{"wild in between", []int{25600, 15000, 25600}, api.ErrWild},
	}
}

// TestPutErrors tests the errors of Put, in their order, and that nothing has
// changed then (P7.7): not even spans without taken objects are removed.
func TestPutErrors(t *testing.T) {
	for _, bad := range badPuts() {
		class := api.Class{Size: 24, Pages: 1, Batch: 21}
		l, x := made(t, class, 100, 101, 50), modelOf(class, 100, 101, 50)
		takes(t, "Take", l, 30, x.take(30)...)
		puts(t, "Put", l, []int{25624, 25880, 12824})
		for _, start := range []int{100, 101, 50} {
			x.spans[start][1] = false
		}
		ok(t, "Add", l.Add(70))
		ok(t, "Add", x.add(70))
		for range 2 {
			refuses(t, bad.what, l, bad.objects, bad.want)
			same(t, bad.what, l, x)
		}
		puts(t, "Put", l, []int{25600, 25648}, api.Run{Start: 70, Pages: 1})
	}
}

// TestOne tests classes of one object: each span is full, or removed by a Put.
func TestOne(t *testing.T) {
	for _, class := range []api.Class{{Size: 256, Pages: 1, Batch: 2}, {Size: 136, Pages: 1, Batch: 1}, {Size: 512, Pages: 2, Batch: 1}, {Size: 400, Pages: 3, Batch: 1}} {
		l, x := made(t, class, apart(class)...), modelOf(class, apart(class)...)
		for _, start := range x.starts() {
			takes(t, "Take", l, 1, start*256)
			x.take(1)
			same(t, "Take", l, x)
		}
		takes(t, "Take", l, 1)
		for _, start := range apart(class) {
			puts(t, "Put", l, []int{start * 256}, api.Run{Start: start, Pages: class.Pages})
			x.put([]int{start * 256})
			same(t, "Put", l, x)
			refuses(t, "Put", l, []int{start * 256}, api.ErrWild)
		}
	}
}

// TestClone tests P7.8 and R8: a clone is in the same state, and neither
// changes the other.
func TestClone(t *testing.T) {
	for _, class := range some() {
		for _, bits := range []uint{0, 1, 0b1101100101, 1023} {
			l, x := filled(t, class, bits)
			ok(t, "Add", l.Add(70))
			ok(t, "Add", x.add(70))
			c := l.Clone()
			if c == nil || c == l {
				t.Fatalf("Clone = %v", c)
			}
			same(t, "the clone", c, x)
			turn(t, c, x)
			same(t, "the list, after the clone was changed", l, x)
			c = l.Clone()
			turn(t, l, x)
			same(t, "the clone, after the list was changed", c, x)
			same(t, "a clone of the clone", c.Clone(), x)
		}
	}
}

// turn takes all objects of a list that is in the state of the model, after
// spans were added, and puts all.
func turn(t *testing.T, l *List, x *model) {
	t.Helper()
	x = x.clone()
	for _, start := range []int{30, 80} {
		ok(t, "Add", l.Add(start))
		ok(t, "Add", x.add(start))
	}
	takes(t, "Take", l, math.MaxInt, x.take(math.MaxInt)...)
	same(t, "all are taken", l, x)
	all := x.taken()
	want, _ := x.put(all)
	puts(t, "Put", l, all, want...)
	same(t, "all were put", l, x)
}

// TestNewMemory tests that results share no memory with the list, or with one
// another (R5).
func TestNewMemory(t *testing.T) {
	class := api.Class{Size: 64, Pages: 1, Batch: 8}
	l, x := made(t, class, 4, 5), modelOf(class, 4, 5)
	takes(t, "Take", l, 5, x.take(5)...)
	spoil := func(runs []api.Run) {
		for n := range runs {
			runs[n] = api.Run{Start: -1, Pages: -1}
		}
		_ = append(runs[:0], api.Run{Start: -2, Pages: -2})
	}
	a, b := l.Spans(), l.Spans()
	spoil(a)
	if !slices.Equal(b, []api.Run{{Start: 4, Pages: 1}, {Start: 5, Pages: 1}}) {
		t.Errorf("Spans = %v", b)
	}
	same(t, "Spans", l, x)
	objects, e := l.Take(3)
	ok(t, "Take", e)
	given := slices.Clone(objects)
	clear(objects)
	x.take(3)
	same(t, "Take", l, x)
	x.put(given[:1])
	runs, e := l.Put(given[:1])
	ok(t, "Put", e)
	spoil(runs)
	clear(given)
	same(t, "Put", l, x)
	ok(t, "Add", l.Add(9))
	spoil(l.Sweep())
	same(t, "Sweep", l, x)
}

// TestNotMade tests a list that is nil, and one that no function returned (R1).
func TestNotMade(t *testing.T) {
	for name, l := range map[string]*List{"nil": nil, "zero": {}} {
		for range 2 { // nothing that was refused makes it a list
			for _, n := range []int{0, 1, 4, 1024, -1, math.MinInt, math.MaxInt} {
				fails(t, name, l.Add(n), api.ErrState)
				if objects, e := l.Take(n); len(objects) != 0 || e != api.ErrState {
					t.Errorf("%s: Take = %v, %d", name, objects, e)
				}
				refuses(t, name, l, []int{n}, api.ErrState)
				refuses(t, name, l, []int{n, n}, api.ErrState)
			}
			refuses(t, name, l, nil, api.ErrState)
			for _, addr := range append(far(), 0, 8, 256, 4096) {
				if b := ask(l, addr); b != (byteOf{objectE: api.ErrState, takenE: api.ErrState}) {
					t.Errorf("%s: of %d: %v", name, addr, b)
				}
			}
			if l.Room() != 0 || l.Taken() != 0 || len(l.Spans()) != 0 || l.Class() != (api.Class{}) {
				t.Errorf("%s: %d, %d, %v, %v", name, l.Room(), l.Taken(), l.Spans(), l.Class())
			}
			sweeps(t, name, l)
			if c := l.Clone(); c != nil {
				t.Errorf("%s: Clone = %v", name, c)
			}
		}
	}
}

// TestMany compares many calls with the model.
func TestMany(t *testing.T) {
	all := classes()
	for seed := range 200 {
		r := rand.New(rand.NewSource(int64(seed)))
		class := all[r.Intn(len(all))]
		l, x := made(t, class), modelOf(class)
		for range 100 {
			many(t, r, l, x)
			sameCounts(t, "many calls", l, x)
			if r.Intn(30) == 0 {
				same(t, "many calls", l, x)
				l = l.Clone()
			}
		}
		same(t, "many calls", l, x)
	}
}

// many makes one random call.
func many(t *testing.T, r *rand.Rand, l *List, x *model) {
	t.Helper()
	switch n := r.Intn(9); {
	case n < 3:
		start := r.Intn(40) - 1 + r.Intn(2)*990
		fails(t, "Add", l.Add(start), x.add(start))
	case n < 6:
		most := r.Intn(12)
		takes(t, "Take", l, most, x.take(most)...)
	case n < 8:
		var objects []int
		for _, object := range x.taken() {
			if r.Intn(3) == 0 {
				objects = append(objects, object)
			}
		}
		if r.Intn(6) == 0 {
			objects = append(objects, r.Intn(40*256/8)*8)
		}
		r.Shuffle(len(objects), func(i, j int) { objects[i], objects[j] = objects[j], objects[i] })
		want, wantE := x.put(objects)
		if runs, e := l.Put(objects); !slices.Equal(runs, want) || e != wantE {
			t.Fatalf("Put(%v) = %v, %d, not %v, %d", objects, runs, e, want, wantE)
		}
	case r.Intn(3) == 0:
		sweeps(t, "Sweep", l, x.sweep()...)
	}
}
