package section

import (
	"shawm/api"
	"shawm/bits"
	"shawm/book"
)

// Write adds l, written in sections, to w.
func Write(w *bits.Writer, widths, l []int, s []api.Section) api.Errno {
	if w == nil {
		return api.ErrArg
	}
	cost, e := Cost(widths, l, s)
	if e != api.OK {
		return e
	}
	if cost > api.MaxBits-w.Len() {
		return api.ErrFull
	}
	for x, parts := range divided(partsOf(widths, l), s) {
		w.Put(x.Book, bookBits)
		w.Gamma(x.Bands)
		for _, part := range parts {
			book.Write(w, x.Book, part)
		}
	}
	return api.OK
}

// Read reads the values of bands with these widths, and their sections.
func Read(r *bits.Reader, widths []int) ([]int, []api.Section, api.Errno) {
	if r == nil || !areWidths(widths) {
		return nil, nil, api.ErrArg
	}
	at := r.At()
	l, s, e := read(r, widths)
	if e != api.OK {
		r.Seek(at)
		return nil, nil, e
	}
	return l, s, api.OK
}

// read reads values and sections. With an error it stops in the midst of the bits.
func read(r *bits.Reader, widths []int) ([]int, []api.Section, api.Errno) {
	var lists [][]int
	var s []api.Section
	before := -1
	for len(widths) > 0 {
		x, e := head(r)
		if e != api.OK {
			return nil, nil, e
		}
		if x.Book == before || x.Bands > len(widths) {
			return nil, nil, api.ErrForm
		}
		for _, width := range widths[:x.Bands] {
			l, e := book.Read(r, x.Book, width)
			if e != api.OK {
				return nil, nil, e
			}
			lists = append(lists, l)
		}
		s, before, widths = append(s, x), x.Book, widths[x.Bands:]
	}
	return joined(lists...), s, api.OK
}

// head reads what stands ahead of a section's values.
func head(r *bits.Reader) (api.Section, api.Errno) {
	b, e := r.Get(bookBits)
	if e != api.OK {
		return api.Section{}, e
	}
	n, e := r.Gamma()
	return api.Section{Book: b, Bands: n}, e
}
