package tune

import (
	"iter"
	"slices"
)

// choices yields all choices of one item of each list; those of the last list change fastest.
func choices[T any](lists [][]T) iter.Seq[[]T] {
	return func(yield func([]T) bool) { extend(nil, lists, yield) }
}

// extend yields the choices that begin with some items, and reports whether more are wanted.
func extend[T any](chosen []T, lists [][]T, yield func([]T) bool) bool {
	if len(lists) == 0 {
		return yield(slices.Clone(chosen))
	}
	for _, x := range lists[0] {
		if !extend(append(chosen, x), lists[1:], yield) {
			return false
		}
	}
	return true
}
