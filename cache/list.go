package cache

import (
	"slices"

	"freehold/api"
)

// maxLen is the greatest length of a list.
const maxLen = 2 * api.MaxHold

// list is what a cache holds of a class.
type list struct {
	size, batch int   // those of the class
	objects     []int // the oldest one first
	limit, low  int
}

// miss lets the limit grow since there was no object.
func (l *list) miss() {
	if l.limit < l.batch {
		l.limit++
		return
	}
	l.limit = min(l.limit+l.batch, api.MaxHold)
}

// add adds objects such that the first one is the newest one.
func (l *list) add(objects []int) api.Errno {
	if len(objects) > maxLen-len(l.objects) {
		return api.ErrFull
	}
	for _, object := range slices.Backward(objects) {
		l.objects = append(l.objects, object)
	}
	return api.OK
}

// newest removes the newest object of a list that has one.
func (l *list) newest() int {
	left := len(l.objects) - 1
	object := l.objects[left]
	l.objects = l.objects[:left]
	l.low = min(l.low, left)
	return object
}

// oldest removes some of the oldest objects.
func (l *list) oldest(many int) []int {
	objects := slices.Clone(l.objects[:many])
	l.objects = slices.Delete(l.objects, 0, many)
	l.low = min(l.low, len(l.objects))
	return objects
}

// overflow removes a batch, or what there is, since the list is too long.
func (l *list) overflow() []int {
	if l.limit < l.batch {
		l.limit++
	}
	return l.oldest(min(l.batch, len(l.objects)))
}

// scavenge removes objects that were not needed, and lets the limit shrink; from
// then on, low counts those that are left.
func (l *list) scavenge() []int {
	if l.limit > l.batch {
		l.limit = max(l.limit-l.batch, l.batch)
	}
	objects := l.oldest((l.low + 1) / 2)
	l.low = len(l.objects)
	return objects
}

// clone returns a list in the same state.
func (l *list) clone() *list {
	twin := *l
	twin.objects = slices.Clone(l.objects)
	return &twin
}
