package span

import (
	"math"
	"math/rand"
	"slices"
	"testing"

	"freehold/api"
)

// ok tests that a call returned no error.
func ok(t *testing.T, what string, e api.Errno) {
	t.Helper()
	if e != api.OK {
		t.Fatalf("%s: %d", what, e)
	}
}

// fails tests the error of a call.
func fails(t *testing.T, what string, e, want api.Errno) {
	t.Helper()
	if e != want {
		t.Fatalf("%s: %d, not %d", what, e, want)
	}
}

// made is a new span.
func made(t *testing.T, start int, class api.Class) *Span {
	t.Helper()
	s, e := New(start, class)
	if e != api.OK || s == nil {
		t.Fatalf("New(%d, %v) = %v, %d", start, class, s, e)
	}
	return s
}

// takes tests that objects are taken, by their addresses, in their order.
func takes(t *testing.T, what string, s *Span, addrs ...int) {
	t.Helper()
	for _, want := range addrs {
		if addr, e := s.Take(); addr != want || e != api.OK {
			t.Fatalf("%s: Take = %d, %d, not %d", what, addr, e, want)
		}
	}
}

// puts tests that objects are put.
func puts(t *testing.T, what string, s *Span, addrs ...int) {
	t.Helper()
	for _, addr := range addrs {
		ok(t, what, s.Put(addr))
	}
}

// full tests that no object is free.
func full(t *testing.T, what string, s *Span) {
	t.Helper()
	if addr, e := s.Take(); addr != 0 || e != api.ErrFull {
		t.Fatalf("%s: Take = %d, %d", what, addr, e)
	}
}

// model is a span, read to the letter: for each object, whether it is taken.
type model struct {
	start int
	class api.Class
	taken []bool
}

// modelOf is a new span.
func modelOf(start int, class api.Class) *model {
	x := &model{start: start, class: class}
	for used := class.Size; used <= class.Pages*256; used += class.Size {
		x.taken = append(x.taken, false)
	}
	return x
}

// addrs is the addresses of all objects.
func (x *model) addrs() []int {
	var addrs []int
	for i := range x.taken {
		addrs = append(addrs, x.start*256+i*x.class.Size)
	}
	return addrs
}

// take is Take.
func (x *model) take() (int, api.Errno) {
	for i, addr := range x.addrs() {
		if !x.taken[i] {
			x.taken[i] = true
			return addr, api.OK
		}
	}
	return 0, api.ErrFull
}

// put is Put.
func (x *model) put(addr int) api.Errno {
	i := slices.Index(x.addrs(), addr)
	if i < 0 {
		return api.ErrWild
	}
	if !x.taken[i] {
		return api.ErrTwice
	}
	x.taken[i] = false
	return api.OK
}

// byteOf is what a span tells of an address.
type byteOf struct {
	index   int
	indexE  api.Errno
	isTaken bool
	takenE  api.Errno
}

// view is all that a span tells of itself. The bytes are those from around
// before its run to around behind it.
type view struct {
	objects, taken int
	bits           string
	list           []int
	run            api.Run
	class          api.Class
	bytes          []byteOf
}

// around is how many bytes are looked at before and behind a run.
const around = 520

// look is all that a span tells. The run is that of the model, lest a wrong one
// hides what is wrong.
func look(s *Span, start, pages int) view {
	v := view{objects: s.Objects(), taken: s.Taken(), bits: s.Bits(), list: s.List(), run: s.Run(), class: s.Class()}
	for addr := start*256 - around; addr < (start+pages)*256+around; addr++ {
		var b byteOf
		b.index, b.indexE = s.Index(addr)
		b.isTaken, b.takenE = s.IsTaken(addr)
		v.bytes = append(v.bytes, b)
	}
	return v
}

// view is all that the model tells.
func (x *model) view() view {
	run := api.Run{Start: x.start, Pages: x.class.Pages}
	v := view{objects: len(x.taken), run: run, class: x.class}
	v.bytes = make([]byteOf, around+run.Pages*256+around)
	for n := range v.bytes {
		v.bytes[n] = byteOf{indexE: api.ErrWild, takenE: api.ErrWild}
	}
	for i, addr := range x.addrs() {
		first := around + addr - x.start*256
		for n := range x.class.Size {
			v.bytes[first+n].index, v.bytes[first+n].indexE = i, api.OK
		}
		v.bytes[first].isTaken, v.bytes[first].takenE = x.taken[i], api.OK
		if x.taken[i] {
			v.taken++
			v.list = append(v.list, addr)
			v.bits += "1"
		} else {
			v.bits += "0"
		}
	}
	return v
}

// same tests that a span tells what is wanted.
func same(t *testing.T, what string, s *Span, want view) {
	t.Helper()
	got := look(s, want.run.Start, want.run.Pages)
	if got.objects != want.objects || got.taken != want.taken || got.bits != want.bits {
		t.Fatalf("%s: %d objects, %d taken, %q, not %d, %d, %q", what, got.objects, got.taken, got.bits, want.objects, want.taken, want.bits)
	}
	if !slices.Equal(got.list, want.list) {
		t.Fatalf("%s: List = %v, not %v", what, got.list, want.list)
	}
	if got.run != want.run || got.class != want.class {
		t.Fatalf("%s: %v, %v, not %v, %v", what, got.run, got.class, want.run, want.class)
	}
	for n, b := range got.bytes {
		if b != want.bytes[n] {
			t.Fatalf("%s: of %d: %v, not %v", what, want.run.Start*256-around+n, b, want.bytes[n])
		}
	}
}

// classes is classes of all valid sizes and pages.
func classes() []api.Class {
	var list []api.Class
	for size := 8; size <= 512; size += 8 {
		for pages := 1; pages <= 4; pages++ {
			if pages*256 >= size {
				list = append(list, api.Class{Size: size, Pages: pages, Batch: 1 + (size/8+pages)%32})
			}
		}
	}
	return list
}

// some is some classes: the least and the greatest size, with and without a
// tail, a class of one object with a tail and one without, a tail that is
// almost an object, and objects that cross from one page into the next.
func some() []api.Class {
	return []api.Class{
		{Size: 24, Pages: 1, Batch: 21},
		{Size: 8, Pages: 1, Batch: 32},
		{Size: 8, Pages: 4, Batch: 1},
		{Size: 256, Pages: 1, Batch: 2},
		{Size: 136, Pages: 1, Batch: 3},
		{Size: 264, Pages: 2, Batch: 2},
		{Size: 512, Pages: 2, Batch: 1},
		{Size: 512, Pages: 3, Batch: 1},
		{Size: 512, Pages: 4, Batch: 32},
		{Size: 104, Pages: 3, Batch: 4},
		{Size: 248, Pages: 4, Batch: 2},
	}
}

// starts is first pages of runs, the first and the last that there is for some
// number of pages among them.
func starts(pages int) []int {
	return []int{0, 1, 16, 511, 1023 - pages, 1024 - pages}
}

// TestExamples tests the chapter's examples, in their order.
func TestExamples(t *testing.T) {
	s := made(t, 16, api.Class{Size: 24, Pages: 1, Batch: 21})
	if n := s.Objects(); n != 10 {
		t.Errorf("Objects = %d", n)
	}
	takes(t, "Take", s, 4096, 4120)
	if bits := s.Bits(); bits != "1100000000" {
		t.Errorf("Bits = %q", bits)
	}
	ok(t, "Put(4096)", s.Put(4096))
	fails(t, "Put(4096)", s.Put(4096), api.ErrTwice)
	fails(t, "Put(4100)", s.Put(4100), api.ErrWild)
	if n, e := s.Index(4143); n != 1 || e != api.OK {
		t.Errorf("Index(4143) = %d, %d", n, e)
	}
	if n, e := s.Index(4336); n != 0 || e != api.ErrWild {
		t.Errorf("Index(4336) = %d, %d", n, e)
	}
	x := modelOf(16, api.Class{Size: 24, Pages: 1, Batch: 21})
	x.taken[1] = true
	same(t, "at the end", s, x.view())
}

// TestNew tests new spans of all classes: all their objects are free.
func TestNew(t *testing.T) {
	for _, class := range classes() {
		for _, start := range starts(class.Pages) {
			same(t, "New", made(t, start, class), modelOf(start, class).view())
		}
	}
}

// TestNewApart tests that spans of the same run and class are not one span.
func TestNewApart(t *testing.T) {
	class := api.Class{Size: 64, Pages: 1, Batch: 8}
	a, b := made(t, 3, class), made(t, 3, class)
	takes(t, "Take", a, 768, 832)
	same(t, "another one", b, modelOf(3, class).view())
	takes(t, "Take", b, 768)
	puts(t, "Put", b, 768)
	x := modelOf(3, class)
	x.taken[0], x.taken[1] = true, true
	same(t, "the first one", a, x.view())
}

// badClasses is classes that are not valid, each for one reason.
func badClasses() map[string]api.Class {
	return map[string]api.Class{
		"zero":            {},
		"size 0":          {Size: 0, Pages: 1, Batch: 1},
		"size -8":         {Size: -8, Pages: 1, Batch: 1},
		"size 1":          {Size: 1, Pages: 1, Batch: 1},
		"size 20":         {Size: 20, Pages: 1, Batch: 1},
		"size 520":        {Size: 520, Pages: 4, Batch: 1},
		"least size":      {Size: math.MinInt, Pages: 1, Batch: 1},
		"greatest size":   {Size: math.MaxInt - 7, Pages: 4, Batch: 1},
		"pages 0":         {Size: 8, Pages: 0, Batch: 1},
		"pages -1":        {Size: 8, Pages: -1, Batch: 1},
		"pages 5":         {Size: 8, Pages: 5, Batch: 1},
		"least pages":     {Size: 8, Pages: math.MinInt, Batch: 1},
		"greatest pages":  {Size: 8, Pages: math.MaxInt, Batch: 1},
		"pages that wrap": {Size: 8, Pages: 1<<56 + 1, Batch: 1},
		"pages too few":   {Size: 264, Pages: 1, Batch: 1},
		"batch 0":         {Size: 8, Pages: 1, Batch: 0},
		"batch -1":        {Size: 8, Pages: 1, Batch: -1},
		"batch 33":        {Size: 8, Pages: 1, Batch: 33},
	}
}

// TestNewErrors tests the error of New: of a class that is not valid, of a run
// that is not within the pages, and of both.
func TestNewErrors(t *testing.T) {
	refused := func(what string, start int, class api.Class) {
		t.Helper()
		if s, e := New(start, class); s != nil || e != api.ErrArg {
			t.Errorf("%s: New(%d, %v) = %v, %d", what, start, class, s, e)
		}
	}
	outside := []int{-1, -2, -4, -1024, math.MinInt, math.MinInt + 4, 1024, 1025, 2048, 1 << 32, 1 << 56, math.MaxInt - 4, math.MaxInt - 1, math.MaxInt}
	for name, class := range badClasses() {
		for _, start := range append(outside, 0, 1, 16, 1020, 1023) {
			refused(name, start, class)
		}
	}
	for _, class := range classes() {
		for _, start := range outside {
			refused("outside", start, class)
		}
		for after := 1; after <= class.Pages; after++ {
			refused("partly outside", 1024-class.Pages+after, class)
		}
	}
}

// TestApart tests P6.1: the objects do not overlap, are within the run, and are
// as many as fit into it.
func TestApart(t *testing.T) {
	for _, class := range classes() {
		for _, start := range starts(class.Pages) {
			s := made(t, start, class)
			owner := make([]int, class.Pages*256) // for each byte of the run: how many objects it is in
			count := 0
			for addr, e := s.Take(); e == api.OK && count <= len(owner); addr, e = s.Take() {
				count++
				first := addr - start*256
				if first < 0 || first+class.Size > len(owner) {
					t.Fatalf("%v: %d is not within the run", class, addr)
				}
				for n := range class.Size {
					owner[first+n]++
				}
			}
			if slices.Max(owner) > 1 {
				t.Fatalf("%v: overlapping objects", class)
			}
			if count != s.Objects() || count != len(owner)/class.Size {
				t.Fatalf("%v: %d objects, and %d", class, count, s.Objects())
			}
		}
	}
}

// TestTake tests P6.2: the objects are taken in the order of their addresses,
// until none is free.
func TestTake(t *testing.T) {
	for _, class := range classes() {
		for _, start := range []int{0, 1024 - class.Pages} {
			s, x := made(t, start, class), modelOf(start, class)
			for i, addr := range x.addrs() {
				takes(t, "Take", s, addr)
				x.taken[i] = true
				if list := s.List(); s.Taken() != i+1 || len(list) != i+1 || list[i] != addr {
					t.Fatalf("%v: %d taken, %v", class, s.Taken(), list)
				}
			}
			for range 2 {
				full(t, "Take", s)
				same(t, "all are taken", s, x.view())
			}
		}
	}
}

// marked is a span, and its model, some of whose objects are taken: those for
// which the bits of a number are set, which repeat.
func marked(t *testing.T, start int, class api.Class, bits uint) (*Span, *model) {
	t.Helper()
	s, x := made(t, start, class), modelOf(start, class)
	takes(t, "Take", s, x.addrs()...)
	for i, addr := range x.addrs() {
		x.taken[i] = bits>>(i%10)&1 == 1
		if !x.taken[i] {
			puts(t, "Put", s, addr)
		}
	}
	return s, x
}

// TestLowest tests P6.2: whatever is free, Take returns the lowest one.
func TestLowest(t *testing.T) {
	for _, class := range some() {
		for bits := range uint(1024) {
			s, x := marked(t, 7, class, bits)
			if bits%16 == 3 { // the others differ little, and a look at all bytes takes long
				same(t, "some are taken", s, x.view())
			}
			for {
				want, wantE := x.take()
				if addr, e := s.Take(); addr != want || e != wantE {
					t.Fatalf("%v, %b: Take = %d, %d, not %d, %d", class, bits, addr, e, want, wantE)
				}
				if wantE != api.OK {
					break
				}
			}
		}
	}
}

// TestBack tests P6.3: an object that was put is free, and Take returns it next
// if no lower one is free.
func TestBack(t *testing.T) {
	for _, class := range some() {
		s, x := marked(t, 9, class, 1023)
		addrs := x.addrs()
		for i, addr := range addrs {
			puts(t, "Put", s, addr)
			x.taken[i] = false
			same(t, "one is free", s, x.view())
			takes(t, "Take", s, addr)
			x.taken[i] = true
			same(t, "it was taken again", s, x.view())
			full(t, "Take", s)
		}
		for i, addr := range addrs {
			for _, higher := range addrs[i+1:] {
				puts(t, "Put", s, addr, higher)
				takes(t, "the lower one first", s, addr, higher)
				puts(t, "Put", s, higher, addr)
				takes(t, "the lower one was put last", s, addr, higher)
			}
		}
		same(t, "all are taken", s, x.view())
	}
}

// TestPutAll tests that all objects are free once all were put, from the last
// one to the first one.
func TestPutAll(t *testing.T) {
	for _, class := range classes() {
		s, x := marked(t, 30, class, 1023)
		addrs := x.addrs()
		for i := len(addrs) - 1; i >= 0; i-- {
			puts(t, "Put", s, addrs[i])
			if s.Taken() != i {
				t.Fatalf("%v: %d taken, not %d", class, s.Taken(), i)
			}
		}
		same(t, "all were put", s, modelOf(30, class).view())
		takes(t, "Take", s, addrs...)
	}
}

// TestAligned tests P6.4, on all classes, for all powers of two.
func TestAligned(t *testing.T) {
	for _, class := range classes() {
		for _, start := range starts(class.Pages) {
			s := made(t, start, class)
			for range modelOf(start, class).taken {
				addr, e := s.Take()
				ok(t, "Take", e)
				for align := 1; align <= 256; align *= 2 {
					if class.Size%align == 0 && addr%align != 0 {
						t.Fatalf("%v: %d is not aligned to %d", class, addr, align)
					}
				}
			}
		}
	}
}

// far is addresses that no object of most spans has a byte at.
func far() []int {
	return []int{math.MinInt, math.MinInt + 1, math.MinInt + 255, -1 << 32, -1 << 18, -1024, -512, -257, -256, -255, -24, -8, -1, 1 << 18, 1<<18 + 1, 1 << 32, 1<<32 + 4096, 1 << 62, math.MaxInt - 255, math.MaxInt - 7, math.MaxInt}
}

// wild tests that there is no object at an address.
func wild(t *testing.T, s *Span, addr int) {
	t.Helper()
	if n, e := s.Index(addr); n != 0 || e != api.ErrWild {
		t.Fatalf("Index(%d) = %d, %d", addr, n, e)
	}
	notAnObject(t, s, addr)
}

// notAnObject tests that an address is not that of an object.
func notAnObject(t *testing.T, s *Span, addr int) {
	t.Helper()
	if b, e := s.IsTaken(addr); b || e != api.ErrWild {
		t.Fatalf("IsTaken(%d) = %v, %d", addr, b, e)
	}
	fails(t, "Put", s.Put(addr), api.ErrWild)
}

// TestIndex tests P6.5: the numbers of all bytes of the objects, which the
// tail, and what is outside of the run, have not, whatever is taken.
func TestIndex(t *testing.T) {
	for _, class := range classes() {
		for _, start := range starts(class.Pages) {
			for _, bits := range []uint{0, 1023, 0b1001011010} {
				s, x := marked(t, start, class, bits)
				for i, addr := range x.addrs() {
					for n := range class.Size {
						if got, e := s.Index(addr + n); got != i || e != api.OK {
							t.Fatalf("%v: Index(%d) = %d, %d, not %d", class, addr+n, got, e, i)
						}
					}
				}
				tail := start*256 + len(x.taken)*class.Size
				for addr := tail; addr < (start+class.Pages)*256; addr++ {
					wild(t, s, addr)
				}
				for n := range around {
					wild(t, s, start*256-1-n)
					wild(t, s, (start+class.Pages)*256+n)
				}
				for _, addr := range far() {
					wild(t, s, addr)
				}
			}
		}
	}
}

// TestInside tests that addresses inside of objects are not those of objects,
// whether these are taken or free.
func TestInside(t *testing.T) {
	for _, class := range some() {
		for _, bits := range []uint{0, 1023, 0b0110100101} {
			s, x := marked(t, 1024-class.Pages, class, bits)
			for _, addr := range x.addrs() {
				for n := 1; n < class.Size; n++ {
					notAnObject(t, s, addr+n)
				}
			}
			same(t, "inside", s, x.view())
		}
	}
}

// TestIsTaken tests IsTaken of all objects.
func TestIsTaken(t *testing.T) {
	for _, class := range some() {
		for _, bits := range []uint{0, 1, 0b1000000000, 0b1010101010, 0b0101010101, 1023} {
			s, x := marked(t, 12, class, bits)
			for i, addr := range x.addrs() {
				if b, e := s.IsTaken(addr); b != x.taken[i] || e != api.OK {
					t.Errorf("%v, %b: IsTaken(%d) = %v, %d", class, bits, addr, b, e)
				}
			}
			same(t, "IsTaken", s, x.view())
		}
	}
}

// TestRefused tests P6.6: what is refused changes nothing.
func TestRefused(t *testing.T) {
	for _, class := range some() {
		for _, bits := range []uint{0, 1, 0b1110110111, 0b0000110000, 1023} {
			s, x := marked(t, 100, class, bits)
			before := look(s, 100, class.Pages)
			for i, addr := range x.addrs() {
				if !x.taken[i] {
					fails(t, "Put", s.Put(addr), api.ErrTwice)
					fails(t, "Put", s.Put(addr), api.ErrTwice)
				}
				notAnObject(t, s, addr+1)
				notAnObject(t, s, addr+class.Size-1)
			}
			if bits == 1023 {
				full(t, "Take", s)
			}
			for _, addr := range far() {
				wild(t, s, addr)
			}
			wild(t, s, 100*256-1)
			wild(t, s, 100*256-class.Size)
			wild(t, s, (100+class.Pages)*256)
			wild(t, s, 100*256+len(x.taken)*class.Size) // the tail, or what is behind the run
			same(t, "refused", s, before)
			same(t, "refused", s, x.view())
		}
	}
}

// TestOne tests classes of one object.
func TestOne(t *testing.T) {
	for _, class := range []api.Class{{Size: 256, Pages: 1, Batch: 2}, {Size: 136, Pages: 1, Batch: 1}, {Size: 512, Pages: 2, Batch: 1}, {Size: 512, Pages: 3, Batch: 1}, {Size: 400, Pages: 3, Batch: 1}, {Size: 264, Pages: 2, Batch: 1}} {
		s := made(t, 5, class)
		if s.Objects() != 1 {
			t.Fatalf("%v: %d objects", class, s.Objects())
		}
		takes(t, "Take", s, 1280)
		full(t, "Take", s)
		if s.Bits() != "1" || s.Taken() != 1 || !slices.Equal(s.List(), []int{1280}) {
			t.Errorf("%v: %q, %d, %v", class, s.Bits(), s.Taken(), s.List())
		}
		fails(t, "Put", s.Put(1280+class.Size), api.ErrWild)
		ok(t, "Put", s.Put(1280))
		fails(t, "Put", s.Put(1280), api.ErrTwice)
		if s.Bits() != "0" || s.Taken() != 0 || len(s.List()) != 0 {
			t.Errorf("%v: %q, %d, %v", class, s.Bits(), s.Taken(), s.List())
		}
		takes(t, "Take", s, 1280)
	}
}

// TestClone tests P6.7 and R8: a clone is in the same state, and neither
// changes the other.
func TestClone(t *testing.T) {
	for _, class := range some() {
		for _, bits := range []uint{0, 1, 0b1000000000, 0b1110010110, 1023} {
			s, x := marked(t, 1024-class.Pages, class, bits)
			c := s.Clone()
			if c == nil || c == s {
				t.Fatalf("Clone = %v", c)
			}
			same(t, "the clone", c, x.view())
			same(t, "the span", s, x.view())
			turn(t, c, x)
			same(t, "the span, after the clone was changed", s, x.view())
			c = s.Clone()
			turn(t, s, x)
			same(t, "the clone, after the span was changed", c, x.view())
			same(t, "a clone of the clone", c.Clone(), x.view())
		}
	}
}

// turn puts all taken objects of a span that is in the state of the model, and
// takes all that are free then.
func turn(t *testing.T, s *Span, x *model) {
	t.Helper()
	for i, addr := range x.addrs() {
		if x.taken[i] {
			puts(t, "Put", s, addr)
		}
	}
	same(t, "all were put", s, modelOf(x.start, x.class).view())
	takes(t, "Take", s, x.addrs()...)
	full(t, "Take", s)
}

// TestNewMemory tests that results share no memory with the span, or with one
// another (R5).
func TestNewMemory(t *testing.T) {
	s, x := marked(t, 2, api.Class{Size: 32, Pages: 1, Batch: 16}, 0b0011011101)
	want := x.view().list
	a, b := s.List(), s.List()
	for n := range a {
		a[n] = -1
	}
	if !slices.Equal(b, want) {
		t.Errorf("List = %v, not %v", b, want)
	}
	_ = append(b[:0], -1)
	same(t, "List", s, x.view())
}

// TestNotMade tests a span that is nil, and one that no function returned (R1).
func TestNotMade(t *testing.T) {
	for name, s := range map[string]*Span{"nil": nil, "zero": {}} {
		for range 2 { // nothing that was refused makes it a span
			if addr, e := s.Take(); addr != 0 || e != api.ErrState {
				t.Errorf("%s: Take = %d, %d", name, addr, e)
			}
			for _, addr := range append(far(), 0, 8, 256, 4096) {
				fails(t, name, s.Put(addr), api.ErrState)
				if n, e := s.Index(addr); n != 0 || e != api.ErrState {
					t.Errorf("%s: Index = %d, %d", name, n, e)
				}
				if b, e := s.IsTaken(addr); b || e != api.ErrState {
					t.Errorf("%s: IsTaken = %v, %d", name, b, e)
				}
			}
			if s.Objects() != 0 || s.Taken() != 0 || s.Bits() != "" || len(s.List()) != 0 {
				t.Errorf("%s: %d, %d, %q, %v", name, s.Objects(), s.Taken(), s.Bits(), s.List())
			}
			if s.Run() != (api.Run{}) || s.Class() != (api.Class{}) {
				t.Errorf("%s: %v, %v", name, s.Run(), s.Class())
			}
			if c := s.Clone(); c != nil {
				t.Errorf("%s: Clone = %v", name, c)
			}
		}
	}
}

// TestMany compares many calls with the model.
func TestMany(t *testing.T) {
	all := classes()
	for seed := range 200 {
		r := rand.New(rand.NewSource(int64(seed)))
		class := all[r.Intn(len(all))]
		start := r.Intn(1025 - class.Pages)
		s, x := made(t, start, class), modelOf(start, class)
		for range 80 {
			many(t, r, s, x)
			if r.Intn(10) == 0 {
				same(t, "many calls", s, x.view())
			}
			if r.Intn(20) == 0 {
				s = s.Clone()
			}
		}
		same(t, "many calls", s, x.view())
	}
}

// many makes one random call.
func many(t *testing.T, r *rand.Rand, s *Span, x *model) {
	t.Helper()
	if r.Intn(2) == 0 {
		want, wantE := x.take()
		if addr, e := s.Take(); addr != want || e != wantE {
			t.Fatalf("Take = %d, %d, not %d, %d", addr, e, want, wantE)
		}
		return
	}
	addr := x.start*256 + r.Intn(len(x.taken)+1)*x.class.Size
	if r.Intn(5) == 0 {
		addr += r.Intn(2*x.class.Size) - x.class.Size
	}
	fails(t, "Put", s.Put(addr), x.put(addr))
}
