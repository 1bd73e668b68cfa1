package rice

import (
	"cmp"
	"iter"

	"shawm/api"
	"shawm/bits"
	"shawm/pick"
)

const (
	maxPower      = 3 // the greatest order of a list
	orderBits     = 2
	parameterBits = 4
)

// Write adds l in parts to w, with its order.
func Write(w *bits.Writer, l []int) api.Errno {
	if w == nil {
		return api.ErrArg
	}
	if e := check(l); e != api.OK {
		return e
	}
	best := layoutOf(l)
	if !hasRoom(w, best.cost) {
		return api.ErrFull
	}
	w.Put(best.order, orderBits)
	for i, part := range parts(l, best.order) {
		w.Put(best.parameters[i], parameterBits)
		for _, v := range part {
			Put(w, v, best.parameters[i])
		}
	}
	return api.OK
}

// Read reads a list of count elements in parts.
func Read(r *bits.Reader, count int) ([]int, api.Errno) {
	if r == nil || count < 0 || count > api.MaxSamples {
		return nil, api.ErrArg
	}
	at := r.At()
	l, e := list(r, count)
	if e != api.OK {
		r.Seek(at)
		return nil, e
	}
	return l, api.OK
}

// list reads a list of count elements. With an error it stops in the midst of the bits.
func list(r *bits.Reader, count int) ([]int, api.Errno) {
	p, e := r.Get(orderBits)
	if e != api.OK {
		return nil, e
	}
	if !canHave(count, p) {
		return nil, api.ErrForm
	}
	l := make([]int, count)
reading:
	for _, part := range parts(l, p) {
		var k int
		if k, e = parameter(r); e != api.OK {
			break
		}
		for i := range part {
			if part[i], e = Get(r, k); e != api.OK {
				break reading
			}
		}
	}
	return l, e
}

func parameter(r *bits.Reader) (int, api.Errno) {
	k, e := r.Get(parameterBits)
	if e == api.OK && !isParameter(k) {
		return 0, api.ErrForm
	}
	return k, e
}

// canHave tells whether a list of that length can be written with the order p.
func canHave(length, p int) bool { return p == 0 || length > 0 && length%(1<<p) == 0 }

// parts gives the parts of a list that has the order p, each behind its place. What is put into a part is in the list.
func parts(l []int, p int) iter.Seq2[int, []int] {
	return func(yield func(int, []int) bool) {
		n := len(l) >> p
		for i := range 1 << p {
			if !yield(i, l[i*n:(i+1)*n]) {
				return
			}
		}
	}
}

// layout is one of the ways to write a list: its order, the parameters of its parts, and how many bits all of it has.
type layout struct {
	order      int
	parameters []int
	cost       int
}

// layoutOf is the layout of l that has the least bits.
func layoutOf(l []int) layout {
	return pick.Least(layouts(l), func(a, b layout) int { return cmp.Compare(a.cost, b.cost) })
}

// layouts gives the layouts of l with each order that it can have.
func layouts(l []int) iter.Seq[layout] {
	return func(yield func(layout) bool) {
		for p := range maxPower + 1 {
			if canHave(len(l), p) && !yield(layoutWith(l, p)) {
				return
			}
		}
	}
}

func layoutWith(l []int, p int) layout {
	x := layout{order: p, cost: orderBits}
	for _, part := range parts(l, p) {
		c := costsOf(part)
		k := c.best()
		x.parameters = append(x.parameters, k)
		x.cost += parameterBits + c[k]
	}
	return x
}
