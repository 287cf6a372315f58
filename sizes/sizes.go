// Package sizes is layer 1, the size classes: see shared/doc/01-sizes.md.
package sizes

import (
	"iter"
	"math/bits"

	"freehold/api"
)

// The range of waste, for Make.
const (
	minWaste = 2
	maxWaste = 16
)

// minGap is the least distance of the sizes that Make chooses.
const minGap = api.WordSize

// minBatch is the least batch that Make chooses.
const minBatch = 2

// Valid reports whether a list of classes is a table.
func Valid(table []api.Class) bool {
	if len(table) < 1 || len(table) > api.MaxClasses {
		return false
	}
	last := 0
	for _, c := range table {
		if !validClass(c) || c.Size <= last {
			return false
		}
		last = c.Size
	}
	return true
}

// Make returns a table.
func Make(waste int) ([]api.Class, api.Errno) {
	if waste < minWaste || waste > maxWaste {
		return nil, api.ErrArg
	}
	var table []api.Class
	for c := range candidates(waste) {
		// The last class of the table is always the candidate before this one:
		// if it is left out, it is so before the next one is looked at.
		if last := len(table) - 1; last >= 0 && sameSpans(table[last], c) {
			table = table[:last]
		}
		table = append(table, c)
	}
	return table, api.OK
}

// Class returns the class of a request.
func Class(table []api.Class, size, align int) (int, api.Errno) {
	if !Valid(table) {
		return 0, api.ErrForm
	}
	if size < 1 || !validAlign(align) {
		return 0, api.ErrArg
	}
	for i, c := range table {
		if c.Size >= size && c.Size%align == 0 {
			return i, api.OK
		}
	}
	return 0, api.ErrNone
}

// Objects returns how many objects a span of a class has.
func Objects(c api.Class) (int, api.Errno) {
	if !validClass(c) {
		return 0, api.ErrArg
	}
	return objects(c), api.OK
}

// Tail returns how many bytes are left of a span of a class.
func Tail(c api.Class) (int, api.Errno) {
	if !validClass(c) {
		return 0, api.ErrArg
	}
	return spanBytes(c.Pages) - objects(c)*c.Size, api.OK
}

// Slack returns how many bytes of its class a request does not use.
func Slack(table []api.Class, size int) (int, api.Errno) {
	class, e := Class(table, size, 1)
	if e != api.OK {
		return 0, e
	}
	return table[class].Size - size, api.OK
}

// Worst returns the size of which the greatest share is wasted, and how much.
func Worst(table []api.Class) (int, int, api.Errno) {
	if !Valid(table) {
		return 0, 0, api.ErrForm
	}
	worst, most := 1, 0
	for n := range table[len(table)-1].Size {
		size := n + 1
		slack, e := Slack(table, size)
		// The ratios are compared as products, which are exact.
		if e == api.OK && slack*worst > most*size {
			worst, most = size, slack
		}
	}
	return worst, most, api.OK
}

// validClass reports whether a class is valid.
func validClass(c api.Class) bool {
	return c.Size >= api.WordSize && c.Size <= api.MaxSmall && c.Size%api.WordSize == 0 &&
		c.Pages >= 1 && c.Pages <= api.MaxSpan && spanBytes(c.Pages) >= c.Size &&
		c.Batch >= 1 && c.Batch <= api.MaxBatch
}

// validAlign reports whether a request may ask for an alignment.
func validAlign(align int) bool {
	return align >= 1 && align <= api.MaxAlign && align&(align-1) == 0
}

// spanBytes returns the size of a span.
func spanBytes(pages int) int {
	return pages * api.PageSize
}

// objects returns how many objects a span of a valid class has.
func objects(c api.Class) int {
	return spanBytes(c.Pages) / c.Size
}

// sameSpans reports whether the spans of two valid classes have the same pages
// and the same number of objects, so that the lesser class saves nothing.
func sameSpans(a, b api.Class) bool {
	return a.Pages == b.Pages && objects(a) == objects(b)
}

// candidates yields the classes, by their sizes, that Make chooses from.
func candidates(waste int) iter.Seq[api.Class] {
	return func(yield func(api.Class) bool) {
		size := api.WordSize
		for yield(candidate(size, waste)) && size < api.MaxSmall {
			// The greatest size ends the list, also where a gap leads beyond it.
			size = min(size+gap(size, waste), api.MaxSmall)
		}
	}
}

// gap returns the distance from a size to the next one.
func gap(size, waste int) int {
	share := size / waste
	if share < minGap {
		return minGap
	}
	return 1 << (bits.Len(uint(share)) - 1)
}

// candidate returns the class of a size.
func candidate(size, waste int) api.Class {
	batch := min(max(api.MaxSmall/size, minBatch), api.MaxBatch)
	return api.Class{Size: size, Pages: spanPages(size, waste), Batch: batch}
}

// spanPages returns the least number of pages for which little is left of a
// span, or the greatest number, if too much is left for each.
func spanPages(size, waste int) int {
	for n := range api.MaxSpan {
		span := spanBytes(n + 1)
		if span >= size && waste*(span%size) <= span {
			return n + 1
		}
	}
	return api.MaxSpan
}
