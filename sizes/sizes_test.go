package sizes

import (
	"math"
	"slices"
	"testing"

	"freehold/api"
)

// spread is a table that Make does not return: its gaps are wide, a size is no
// multiple of 16, and a class has more pages than it needs.
func spread() []api.Class {
	return []api.Class{{Size: 8, Pages: 1, Batch: 1}, {Size: 24, Pages: 4, Batch: 32}, {Size: 64, Pages: 1, Batch: 2}, {Size: 200, Pages: 1, Batch: 3}, {Size: 256, Pages: 1, Batch: 4}}
}

// rising is a table of the first sizes.
func rising(classes int) []api.Class {
	var table []api.Class
	for n := range classes {
		table = append(table, api.Class{Size: 8 * (n + 1), Pages: 4, Batch: 1})
	}
	return table
}

// tables is all tables of Make, and some others.
func tables(t *testing.T) [][]api.Class {
	t.Helper()
	list := [][]api.Class{spread(), rising(1), rising(40), {{Size: 512, Pages: 2, Batch: 1}}}
	for waste := 2; waste <= 16; waste++ {
		list = append(list, made(t, waste))
	}
	return list
}

// made is a table of Make.
func made(t *testing.T, waste int) []api.Class {
	t.Helper()
	table, e := Make(waste)
	if e != api.OK || len(table) == 0 {
		t.Fatalf("Make(%d) = %v, %d", waste, table, e)
	}
	return table
}

// badTables is lists of classes that are no tables.
func badTables() map[string][]api.Class {
	good := api.Class{Size: 64, Pages: 1, Batch: 8}
	bad := map[string][]api.Class{
		"nil":       nil,
		"empty":     {},
		"equal":     {good, good},
		"falling":   {{Size: 72, Pages: 1, Batch: 1}, good},
		"late fall": {{Size: 8, Pages: 1, Batch: 1}, {Size: 72, Pages: 1, Batch: 1}, good},
		"too long":  rising(41),
	}
	for name, c := range badClasses() {
		bad["only "+name] = []api.Class{c}
		bad["last "+name] = []api.Class{{Size: 8, Pages: 1, Batch: 1}, c}
		bad["first "+name] = []api.Class{c, {Size: 512, Pages: 4, Batch: 1}}
	}
	return bad
}

// badClasses is classes that are not valid, each for one reason.
func badClasses() map[string]api.Class {
	return map[string]api.Class{
		"zero":            {},
		"size 0":          {Size: 0, Pages: 1, Batch: 1},
		"size -8":         {Size: -8, Pages: 1, Batch: 1},
		"size 4":          {Size: 4, Pages: 1, Batch: 1},
		"size 12":         {Size: 12, Pages: 1, Batch: 1},
		"size 511":        {Size: 511, Pages: 4, Batch: 1},
		"size 520":        {Size: 520, Pages: 4, Batch: 1},
		"least size":      {Size: math.MinInt, Pages: 1, Batch: 1},
		"greatest size":   {Size: math.MaxInt - 7, Pages: 4, Batch: 1},
		"pages 0":         {Size: 8, Pages: 0, Batch: 1},
		"pages -1":        {Size: 8, Pages: -1, Batch: 1},
		"pages 5":         {Size: 8, Pages: 5, Batch: 1},
		"least pages":     {Size: 8, Pages: math.MinInt, Batch: 1},
		"greatest pages":  {Size: 8, Pages: math.MaxInt, Batch: 1},
		"pages that wrap": {Size: 8, Pages: 1<<56 + 1, Batch: 1},
		"pages too few":   {Size: 264, Pages: 1, Batch: 1},
		"512 on a page":   {Size: 512, Pages: 1, Batch: 1},
		"batch 0":         {Size: 8, Pages: 1, Batch: 0},
		"batch -1":        {Size: 8, Pages: 1, Batch: -1},
		"batch 33":        {Size: 8, Pages: 1, Batch: 33},
		"least batch":     {Size: 8, Pages: 1, Batch: math.MinInt},
		"greatest batch":  {Size: 8, Pages: 1, Batch: math.MaxInt},
	}
}

func TestValid(t *testing.T) {
	for _, table := range [][]api.Class{
		rising(1), rising(2), rising(39), rising(40), spread(),
		{{Size: 8, Pages: 1, Batch: 32}},
		{{Size: 8, Pages: 4, Batch: 1}},
		{{Size: 256, Pages: 1, Batch: 1}},
		{{Size: 264, Pages: 2, Batch: 1}},
		{{Size: 512, Pages: 2, Batch: 2}},
		{{Size: 504, Pages: 4, Batch: 32}, {Size: 512, Pages: 4, Batch: 32}},
	} {
		if !Valid(table) {
			t.Errorf("Valid(%v) = false", table)
		}
	}
	for name, table := range badTables() {
		if Valid(table) {
			t.Errorf("%s: Valid(%v) = true", name, table)
		}
	}
}

func TestMakeErrors(t *testing.T) {
	for _, waste := range []int{math.MinInt, -2, -1, 0, 1, 17, 18, math.MaxInt} {
		if table, e := Make(waste); e != api.ErrArg || len(table) != 0 {
			t.Errorf("Make(%d) = %v, %d", waste, table, e)
		}
	}
}

func TestMakeExample(t *testing.T) {
	want := []api.Class{{Size: 8, Pages: 1, Batch: 32}, {Size: 16, Pages: 1, Batch: 32}, {Size: 24, Pages: 1, Batch: 21}, {Size: 32, Pages: 1, Batch: 16}}
	if table := made(t, 8); len(table) < 4 || !slices.Equal(table[:4], want) {
		t.Errorf("Make(8) = %v", table)
	}
}

// TestMakeWhole tests tables that were made by hand. (For the waste 2 the
// candidates are 8, 16, 24, 32, 48, 64, 96, 128, 192, 256, 384, 512; for 3 they
// are 8 to 48 by 8, 64 to 96 by 16, 128 to 192 by 32, 256 to 384 by 64, 512.)
func TestMakeWhole(t *testing.T) {
	wants := map[int][]api.Class{
		2: {{Size: 8, Pages: 1, Batch: 32}, {Size: 16, Pages: 1, Batch: 32}, {Size: 24, Pages: 1, Batch: 21}, {Size: 32, Pages: 1, Batch: 16},
			{Size: 48, Pages: 1, Batch: 10}, {Size: 64, Pages: 1, Batch: 8}, {Size: 128, Pages: 1, Batch: 4},
			{Size: 256, Pages: 1, Batch: 2}, {Size: 512, Pages: 2, Batch: 2}},
		3: {{Size: 8, Pages: 1, Batch: 32}, {Size: 16, Pages: 1, Batch: 32}, {Size: 24, Pages: 1, Batch: 21}, {Size: 32, Pages: 1, Batch: 16},
			{Size: 40, Pages: 1, Batch: 12}, {Size: 48, Pages: 1, Batch: 10}, {Size: 64, Pages: 1, Batch: 8}, {Size: 80, Pages: 1, Batch: 6},
			{Size: 128, Pages: 1, Batch: 4}, {Size: 160, Pages: 2, Batch: 3}, {Size: 256, Pages: 1, Batch: 2},
			{Size: 320, Pages: 3, Batch: 2}, {Size: 512, Pages: 2, Batch: 2}},
	}
	for waste, want := range wants {
		if table := made(t, waste); !slices.Equal(table, want) {
			t.Errorf("Make(%d) = %v, not %v", waste, table, want)
		}
	}
}

// stepSizes is step 1 of Make, read to the letter.
func stepSizes(waste int) []int {
	list := []int{8}
	for {
		size := list[len(list)-1]
		d := 8
		for power := 1; power <= size/waste; power *= 2 {
			d = max(8, power)
		}
		if size+d > 512 {
			break
		}
		list = append(list, size+d)
	}
	if list[len(list)-1] < 512 {
		list = append(list, 512)
	}
	return list
}

// stepPages is step 2 of Make, read to the letter.
func stepPages(size, waste int) int {
	pages := 1
	for pages < 4 && (pages*256 < size || waste*((pages*256)%size) > pages*256) {
		pages++
	}
	return pages
}

// TestMakeSteps tests all tables against the four steps.
func TestMakeSteps(t *testing.T) {
	for waste := 2; waste <= 16; waste++ {
		var all, want []api.Class
		for _, size := range stepSizes(waste) {
			batch := 512 / size
			if batch < 2 {
				batch = 2
			}
			if batch > 32 {
				batch = 32
			}
			all = append(all, api.Class{Size: size, Pages: stepPages(size, waste), Batch: batch})
		}
		for i, c := range all {
			if i == len(all)-1 || c.Pages != all[i+1].Pages || c.Pages*256/c.Size != all[i+1].Pages*256/all[i+1].Size {
				want = append(want, c)
			}
		}
		if table := made(t, waste); !slices.Equal(table, want) {
			t.Errorf("Make(%d) = %v, not %v", waste, table, want)
		}
	}
}

// TestMakeNew tests that a result shares no memory with a later one.
func TestMakeNew(t *testing.T) {
	first := made(t, 8)
	want := slices.Clone(first)
	for i := range first {
		first[i] = api.Class{}
	}
	if table := made(t, 8); !slices.Equal(table, want) {
		t.Errorf("Make(8) = %v, not %v", table, want)
	}
}

// TestCandidatesStop tests that the candidates can be left early.
func TestCandidatesStop(t *testing.T) {
	seen := 0
	for range candidates(2) {
		seen++
		if seen == 3 {
			break
		}
	}
	if seen != 3 {
		t.Errorf("%d candidates", seen)
	}
}

func TestClassExamples(t *testing.T) {
	table := made(t, 8)
	for _, x := range [][3]int{{1, 1, 0}, {8, 1, 0}, {9, 1, 1}, {1, 16, 1}, {512, 1, 21}, {512, 256, 21}, {257, 256, 21}, {256, 256, 17}} {
		if k, e := Class(table, x[0], x[1]); e != api.OK || k != x[2] {
			t.Errorf("Class(%d, %d) = %d, %d", x[0], x[1], k, e)
		}
	}
	if k, e := Class(table, 513, 1); e != api.ErrNone || k != 0 {
		t.Errorf("Class(513, 1) = %d, %d", k, e)
	}
}

// TestClassOther tests a table in which the next class often has no such alignment.
func TestClassOther(t *testing.T) {
	for _, x := range [][3]int{{9, 8, 1}, {9, 16, 2}, {65, 8, 3}, {65, 16, 4}, {1, 32, 2}, {1, 128, 4}, {201, 1, 4}} {
		if k, e := Class(spread(), x[0], x[1]); e != api.OK || k != x[2] {
			t.Errorf("Class(%d, %d) = %d, %d", x[0], x[1], k, e)
		}
	}
	for _, x := range [][2]int{{257, 1}, {math.MaxInt, 1}, {math.MaxInt, 256}} {
		if k, e := Class(spread(), x[0], x[1]); e != api.ErrNone || k != 0 {
			t.Errorf("Class(%d, %d) = %d, %d", x[0], x[1], k, e)
		}
	}
	if k, e := Class(rising(3), 1, 32); e != api.ErrNone || k != 0 {
		t.Errorf("Class = %d, %d", k, e)
	}
}

func TestClassErrors(t *testing.T) {
	for name, table := range badTables() {
		for _, x := range [][2]int{{8, 1}, {0, 1}, {8, 3}, {513, 1}} {
			if k, e := Class(table, x[0], x[1]); e != api.ErrForm || k != 0 {
				t.Errorf("%s: Class(%d, %d) = %d, %d", name, x[0], x[1], k, e)
			}
		}
	}
	for _, size := range []int{math.MinInt, -1, 0} {
		if k, e := Class(spread(), size, 1); e != api.ErrArg || k != 0 {
			t.Errorf("Class(%d, 1) = %d, %d", size, k, e)
		}
	}
	for _, align := range []int{math.MinInt, -8, -1, 0, 3, 6, 12, 24, 255, 257, 512, 1024, math.MaxInt} {
		for _, size := range []int{8, 513, math.MaxInt} {
			if k, e := Class(spread(), size, align); e != api.ErrArg || k != 0 {
				t.Errorf("Class(%d, %d) = %d, %d", size, align, k, e)
			}
		}
	}
}

func TestObjectsTail(t *testing.T) {
	for _, x := range []struct {
		class         api.Class
		objects, tail int
	}{
		{api.Class{Size: 24, Pages: 1, Batch: 21}, 10, 16},
		{api.Class{Size: 8, Pages: 1, Batch: 32}, 32, 0},
		{api.Class{Size: 8, Pages: 4, Batch: 1}, 128, 0},
		{api.Class{Size: 256, Pages: 1, Batch: 1}, 1, 0},
		{api.Class{Size: 136, Pages: 1, Batch: 1}, 1, 120},
		{api.Class{Size: 264, Pages: 4, Batch: 2}, 3, 232},
		{api.Class{Size: 512, Pages: 2, Batch: 2}, 1, 0},
		{api.Class{Size: 512, Pages: 3, Batch: 2}, 1, 256},
		{api.Class{Size: 504, Pages: 4, Batch: 32}, 2, 16},
	} {
		if n, e := Objects(x.class); e != api.OK || n != x.objects {
			t.Errorf("Objects(%v) = %d, %d", x.class, n, e)
		}
		if n, e := Tail(x.class); e != api.OK || n != x.tail {
			t.Errorf("Tail(%v) = %d, %d", x.class, n, e)
		}
	}
}

func TestObjectsTailErrors(t *testing.T) {
	for name, c := range badClasses() {
		if n, e := Objects(c); e != api.ErrArg || n != 0 {
			t.Errorf("%s: Objects = %d, %d", name, n, e)
		}
		if n, e := Tail(c); e != api.ErrArg || n != 0 {
			t.Errorf("%s: Tail = %d, %d", name, n, e)
		}
	}
}

func TestSlack(t *testing.T) {
	for _, x := range [][2]int{{1, 7}, {7, 1}, {8, 0}, {9, 15}, {24, 0}, {25, 39}, {65, 135}, {200, 0}, {201, 55}, {256, 0}} {
		if n, e := Slack(spread(), x[0]); e != api.OK || n != x[1] {
			t.Errorf("Slack(%d) = %d, %d", x[0], n, e)
		}
	}
}

func TestSlackErrors(t *testing.T) {
	for name, table := range badTables() {
		for _, size := range []int{-1, 0, 8, 513} {
			if n, e := Slack(table, size); e != api.ErrForm || n != 0 {
				t.Errorf("%s: Slack(%d) = %d, %d", name, size, n, e)
			}
		}
	}
	for _, size := range []int{math.MinInt, -1, 0} {
		if n, e := Slack(spread(), size); e != api.ErrArg || n != 0 {
			t.Errorf("Slack(%d) = %d, %d", size, n, e)
		}
	}
	for _, size := range []int{257, 513, math.MaxInt} {
		if n, e := Slack(spread(), size); e != api.ErrNone || n != 0 {
			t.Errorf("Slack(%d) = %d, %d", size, n, e)
		}
	}
}

// TestWorst tests single tables; in {8, 72} the size 9 has the ratio 7 of the
// size 1, in {8, 80} one that is greater by less than 1.
func TestWorst(t *testing.T) {
	for _, x := range []struct {
		sizes      []int
		size, rest int
	}{
		{[]int{8}, 1, 7},
		{[]int{256}, 1, 255},
		{[]int{8, 64}, 1, 7},
		{[]int{8, 72}, 1, 7},
		{[]int{8, 80}, 9, 71},
		{[]int{8, 16, 256}, 17, 239},
		{[]int{8, 96, 256}, 9, 87},
		{[]int{16, 256}, 1, 15},
		{[]int{8, 16, 152, 256}, 17, 135},
	} {
		var table []api.Class
		for _, size := range x.sizes {
			table = append(table, api.Class{Size: size, Pages: 1, Batch: 1})
		}
		if size, rest, e := Worst(table); e != api.OK || size != x.size || rest != x.rest {
			t.Errorf("Worst of %v = %d, %d, %d", x.sizes, size, rest, e)
		}
	}
}

func TestWorstErrors(t *testing.T) {
	for name, table := range badTables() {
		if size, rest, e := Worst(table); e != api.ErrForm || size != 0 || rest != 0 {
			t.Errorf("%s: Worst = %d, %d, %d", name, size, rest, e)
		}
	}
}

// aligns is all alignments of requests.
func aligns() []int {
	return []int{1, 2, 4, 8, 16, 32, 64, 128, 256}
}

// suits reports whether blocks of a class can be given for a request.
func suits(c api.Class, size, align int) bool {
	return c.Size >= size && c.Size%align == 0
}

// TestFits tests P1.1.
func TestFits(t *testing.T) {
	for _, table := range tables(t) {
		for size := 1; size <= api.MaxSmall+8; size++ {
			for _, align := range aligns() {
				want := slices.IndexFunc(table, func(c api.Class) bool { return suits(c, size, align) })
				k, e := Class(table, size, align)
				if want < 0 && (e != api.ErrNone || k != 0) || want >= 0 && (e != api.OK || k != want) {
					t.Fatalf("Class(%v, %d, %d) = %d, %d, not %d", table, size, align, k, e, want)
				}
			}
		}
	}
}

// place is the number of the class of a request, or that behind the last class.
func place(table []api.Class, size, align int) int {
	k, e := Class(table, size, align)
	if e != api.OK {
		return len(table)
	}
	return k
}

// TestMonotone tests P1.2.
func TestMonotone(t *testing.T) {
	for _, table := range tables(t) {
		for size := 1; size <= api.MaxSmall; size++ {
			for _, align := range aligns() {
				k := place(table, size, align)
				if k > place(table, size+1, align) {
					t.Fatalf("%v: an earlier class for a greater size than %d", table, size)
				}
				if align < api.MaxAlign && k > place(table, size, 2*align) {
					t.Fatalf("%v: an earlier class for a greater alignment than %d", table, align)
				}
			}
		}
	}
}

// TestMade tests P1.3.
func TestMade(t *testing.T) {
	for waste := 2; waste <= 16; waste++ {
		table := made(t, waste)
		if !Valid(table) || table[0].Size != 8 || table[len(table)-1].Size != api.MaxSmall {
			t.Errorf("Make(%d) = %v", waste, table)
		}
		for size := 1; size <= api.MaxSmall; size++ {
			for _, align := range []int{1, 2, 4, 8} {
				if _, e := Class(table, size, align); e != api.OK {
					t.Errorf("Make(%d): Class(%d, %d): %d", waste, size, align, e)
				}
			}
		}
	}
}

// TestSlackLess tests P1.4.
func TestSlackLess(t *testing.T) {
	for waste := 2; waste <= 16; waste++ {
		table := made(t, waste)
		for size := 8; size <= api.MaxSmall; size++ {
			if n, e := Slack(table, size); e != api.OK || n < 0 || n >= size {
				t.Errorf("Make(%d): Slack(%d) = %d, %d", waste, size, n, e)
			}
		}
	}
}

// TestTails tests P1.5.
func TestTails(t *testing.T) {
	for waste := 2; waste <= 16; waste++ {
		for _, c := range made(t, waste) {
			tail, e := Tail(c)
			if e != api.OK || c.Pages < api.MaxSpan && waste*tail > c.Pages*api.PageSize {
				t.Errorf("Make(%d): Tail(%v) = %d, %d", waste, c, tail, e)
			}
		}
	}
}

// TestDense tests P1.6.
func TestDense(t *testing.T) {
	for waste := 2; waste <= 16; waste++ {
		table := made(t, waste)
		for i, c := range table[1:] {
			n, e := Objects(table[i])
			next, f := Objects(c)
			if e != api.OK || f != api.OK || table[i].Pages == c.Pages && n <= next {
				t.Errorf("Make(%d): %v before %v", waste, table[i], c)
			}
		}
	}
}

// TestWorstOfAll tests P1.7.
func TestWorstOfAll(t *testing.T) {
	for _, table := range tables(t) {
		worst, most, e := Worst(table)
		if n, f := Slack(table, worst); e != api.OK || f != api.OK || n != most {
			t.Fatalf("Worst(%v) = %d, %d, %d", table, worst, most, e)
		}
		for size := 1; size <= table[len(table)-1].Size; size++ {
			n, f := Slack(table, size)
			if f != api.OK || n*worst > most*size || size < worst && n*worst == most*size {
				t.Errorf("%v: Worst is %d, but Slack(%d) = %d, %d", table, worst, size, n, f)
			}
		}
	}
}

// TestArguments tests that no function changes its argument.
func TestArguments(t *testing.T) {
	table := spread()
	Valid(table)
	Class(table, 9, 16)
	Slack(table, 9)
	Worst(table)
	if !slices.Equal(table, spread()) {
		t.Errorf("%v", table)
	}
}
