package lossless

import (
	"cmp"
	"iter"

	"shawm/api"
	"shawm/linear"
	"shawm/pick"
)

// The kinds of plans.
const (
	constant = iota
	verbatim
	differences
	filter
	kinds
)

const (
	mostDiffering   = 4  // the greatest order of differences
	wide            = 17 // bits of an element
	kindBits        = 2
	differingBits   = 3 // of the order of differences
	filterBits      = 4 // of the order of a filter
	coefficientBits = 8 // of a filter
)

// plan is a way to write a signal.
type plan struct{ kind, order int }

// orders are for each kind the least and the greatest order of its plans.
func orders() [kinds]struct{ least, most int } {
	return [kinds]struct{ least, most int }{
		differences: {0, mostDiffering},
		filter:      {1, api.MaxOrder},
	}
}

// plansOf gives the plans that a signal has, in the order in which the first one of several is taken.
func plansOf(x []int) iter.Seq[plan] {
	return func(yield func(plan) bool) {
		for kind, o := range orders() {
			if kind == constant && !isConstant(x) {
				continue
			}
			for order := o.least; order <= o.most; order++ {
				if !yield(plan{kind, order}) {
					return
				}
			}
		}
	}
}

func isConstant(x []int) bool { return areWithin(x, x[0], x[0]) }

// costs are how many bits a signal has with each plan, by its kind and its order.
type costs [kinds][api.MaxOrder + 1]int

func (c *costs) of(p plan) int { return c[p.kind][p.order] }

// best is the plan of a signal, and how many bits that has.
func best(x []int) (plan, int) {
	var c costs
	for p := range plansOf(x) {
		c[p.kind][p.order] = p.text(x).bits()
	}
	p := pick.Least(plansOf(x), func(a, b plan) int { return cmp.Compare(c.of(a), c.of(b)) })
	return p, c.of(p)
}

// text is a signal, written with a plan that it has.
func (p plan) text(x []int) text {
	t := textsOf(x)[p.kind](p.order)
	t.fields = append(fieldsOf(kindBits, p.kind), t.fields...)
	return t
}

// textsOf tell for each kind what a signal has behind the kind in a plan of some order.
func textsOf(x []int) [kinds]func(order int) text {
	return [kinds]func(order int) text{
		constant: func(int) text { return text{fields: fieldsOf(wide, x[0])} },
		verbatim: func(int) text { return text{fields: fieldsOf(wide, x...)} },
		differences: func(order int) text {
			d, _ := linear.Differ(x, order)
			return text{fieldsOf(differingBits, order), d}
		},
		filter: func(order int) text {
			f, _ := linear.Reflect(x, order)
			d, _ := linear.Residual(x, f)
			return text{append(fieldsOf(filterBits, order), fieldsOf(coefficientBits, f...)...), d}
		},
	}
}
