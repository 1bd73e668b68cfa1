package bands

import "iter"

// span are the elements from, .. , to - 1 of a list.
type span struct{ from, to int }

// spans are where parts with these widths are, which stand one after the other.
func spans(widths []int) []span {
	var all []span
	from := 0
	for _, width := range widths {
		all = append(all, span{from, from + width})
		from += width
	}
	return all
}

// gathered is a list's pieces, one after the other.
func gathered[T any](list []T, pieces iter.Seq[span]) []T {
	all := make([]T, 0, len(list))
	for s := range pieces {
		all = append(all, list[s.from:s.to:s.to]...)
	}
	return all
}

// scattered is the list whose pieces, one after the other, are these elements.
func scattered[T any](elements []T, pieces iter.Seq[span]) []T {
	list := make([]T, len(elements))
	next := 0
	for s := range pieces {
		next += copy(list[s.from:s.to:s.to], elements[next:])
	}
	return list
}
