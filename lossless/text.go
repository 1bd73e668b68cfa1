package lossless

import (
	"cmp"
	"iter"

	"shawm/api"
	"shawm/bits"
	"shawm/lift"
	"shawm/pick"
	"shawm/rice"
)

// text is what is written: fields, and behind them a list in parts, unless that is empty.
type text struct {
	fields []api.Field
	list   []int
}

// fieldsOf are numbers in so many bits each: those below 0 in two's complement.
func fieldsOf(width int, numbers ...int) []api.Field {
	var fields []api.Field
	for _, v := range numbers {
		fields = append(fields, api.Field{Value: v & (1<<width - 1), Width: width})
	}
	return fields
}

func (t text) bits() int {
	n := 0
	for _, f := range t.fields {
		n += f.Width
	}
	if len(t.list) > 0 {
		_, cost, _ := rice.Order(t.list)
		n += cost
	}
	return n
}

// write adds a text for which there is room.
func (t text) write(w *bits.Writer) {
	for _, f := range t.fields {
		w.Put(f.Value, f.Width)
	}
	if len(t.list) > 0 {
		rice.Write(w, t.list)
	}
}

// frame is texts, one after the other, and how many bits they have.
type frame struct {
	texts []text
	bits  int
}

// add adds the signals, each with its plan.
func (f *frame) add(signals ...[]int) {
	for _, x := range signals {
		p, cost := best(x)
		f.texts = append(f.texts, p.text(x))
		f.bits += cost
	}
}

// frameOf is how channels are written.
func frameOf(channels [][]int) frame {
	return pick.Least(framesOf(channels), func(a, b frame) int { return cmp.Compare(a.bits, b.bits) })
}

// framesOf gives the ways to write channels: of two as they are, and as middles and differences.
func framesOf(channels [][]int) iter.Seq[frame] {
	return func(yield func(frame) bool) {
		if len(channels) == 1 {
			var f frame
			f.add(channels[0])
			yield(f)
			return
		}
		middles, sides := coupled(channels[0], channels[1])
		for flag, signals := range [][][]int{channels, {middles, sides}} {
			f := frame{texts: []text{{fields: fieldsOf(1, flag)}}, bits: 1}
			f.add(signals...)
			if !yield(f) {
				return
			}
		}
	}
}

// coupled are the middles and the differences of two channels.
func coupled(left, right []int) (middles, sides []int) {
	for i := range left {
		m, s, _ := lift.Mid(left[i], right[i])
		middles, sides = append(middles, m), append(sides, s)
	}
	return middles, sides
}

// parted are the channels of which these are the middles and the differences.
func parted(middles, sides []int) (left, right []int) {
	for i := range middles {
		l, r, _ := lift.Sides(middles[i], sides[i])
		left, right = append(left, l), append(right, r)
	}
	return left, right
}
