package arena

import (
	"iter"
	"math/bits"

	"freehold/api"
)

// unmapped is the state of an unmapped page of a space.
const unmapped = 0

// absent is the state of the pages of a huge page that is not the arena's.
const absent = 0

// spanNo returns the number that the map gives the pages of a span: it tells the
// class.
func spanNo(class int) int {
	return 1 + class
}

// largeNo returns the number that the map gives the pages of a large run: it
// tells the first page, so that each large run is a mark of its own. It is
// greater than those of spans.
func largeNo(start int) int {
	return api.MaxClasses + start
}

// isLarge reports whether a number is that of a large run.
func isLarge(no int) bool {
	return no > api.MaxClasses
}

// classOf returns the class of a span from its number.
func classOf(no int) int {
	return no - 1
}

// startOf returns the first page of a large run from its number.
func startOf(no int) int {
	return no - api.MaxClasses
}

// largeRuns yields all large runs.
func (a *Arena) largeRuns() iter.Seq[api.Run] {
	return func(yield func(api.Run) bool) {
		for _, mark := range a.owners.Marks() {
			if isLarge(mark.No) && !yield(api.Run{Start: mark.Start, Pages: mark.Pages}) {
				return
			}
		}
	}
}

// change lets layers below change the state of a run, each by a method of it.
// None refuses that, because all of them agree on what is free and mapped.
func change(run api.Run, ways ...func(start, pages int) api.Errno) {
	for _, way := range ways {
		way(run.Start, run.Pages)
	}
}

// get gets pages. Huge pages are mapped only if the free pages are not enough.
func (a *Arena) get(pages, align int) (int, api.Errno) {
	start, e := a.free.Take(pages, align)
	if e == api.ErrFull && a.extend(pages, align) {
		start, e = a.free.Take(pages, align)
	}
	if e != api.OK {
		return 0, e
	}
	a.states.Use(start, pages)
	return start, api.OK
}

// extend maps huge pages that are enough for pages with an alignment, and
// reports whether there were some.
func (a *Arena) extend(pages, align int) bool {
	size := 1 << bits.Len(uint(max(pages, align, api.HugePages)-1))
	run, found := a.unmappedRun(size)
	if !found {
		return false
	}
	for n := range size / api.HugePages {
		a.states.Add(run.Start/api.HugePages + n)
	}
	change(run, a.space.Map, a.free.Give)
	return true
}

// unmappedRun returns the first run of unmapped pages that begins at a multiple
// of its length, if there is one.
func (a *Arena) unmappedRun(pages int) (api.Run, bool) {
	for _, gap := range a.space.Runs(unmapped) {
		// The multiple 0 is left out, because the page 0 is never mapped.
		start := max((gap.Start+pages-1)/pages, 1) * pages
		if start+pages <= gap.Start+gap.Pages {
			return api.Run{Start: start, Pages: pages}, true
		}
	}
	return api.Run{}, false
}

// giveBack gives the pages of spans or large runs back.
func (a *Arena) giveBack(runs ...api.Run) {
	for _, run := range runs {
		change(run, a.owners.Clear, a.states.Unuse, a.free.Give)
	}
}

// drop unmaps a huge page without a used page, which is not the arena's then.
func (a *Arena) drop(no int) {
	a.states.Remove(no)
	run := api.Run{Start: no * api.HugePages, Pages: api.HugePages}
	change(run, a.free.TakeRun, a.space.Unmap)
}
