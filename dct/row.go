package dct

// rowOf is the row of pairs whose numbers stand in two lists.
func rowOf(re, im []int) []pair {
	row := make([]pair, len(re))
	for k := range row {
		row[k] = pair{re[k], im[k]}
	}
	return row
}

// parts are the two lists of the numbers of a row.
func parts(row []pair) (re, im []int) {
	re, im = make([]int, len(row)), make([]int, len(row))
	for k, p := range row {
		re[k], im[k] = p[0], p[1]
	}
	return re, im
}

// mixer returns what makes the mixed row of a row, by such turns.
func mixer(turn turner) func(row []pair) []pair {
	var mix func(row []pair) []pair
	mix = func(row []pair) []pair {
		if len(row) == 1 {
			return row
		}
		half := len(row) / 2
		even, odd := dealt(row)
		a, b := mix(even), mix(odd)
		mixed := make([]pair, 2*half)
		for k := range half {
			other := turn(b[k], -k, 2*half)
			for i := range other {
				p := turn(pair{a[k][i], other[i]}, -1, 8)
				mixed[k][i], mixed[k+half][i] = p[0], -p[1]
			}
		}
		return mixed
	}
	return mix
}

// unmixed is the row of which this is the mixed one.
func unmixed(row []pair) []pair {
	if len(row) == 1 {
		return row
	}
	half := len(row) / 2
	a, b := make([]pair, half), make([]pair, half)
	for k := range half {
		var other pair
		for i := range other {
			p := back(pair{row[k][i], -row[k+half][i]}, -1, 8)
			a[k][i], other[i] = p[0], p[1]
		}
		b[k] = back(other, -k, 2*half)
	}
	return joined(unmixed(a), unmixed(b))
}

// dealt are the pairs at even and at odd places.
func dealt(row []pair) (even, odd []pair) {
	for k := 0; k < len(row); k += 2 {
		even, odd = append(even, row[k]), append(odd, row[k+1])
	}
	return even, odd
}

// joined is the row that is dealt to those two.
func joined(even, odd []pair) []pair {
	var row []pair
	for k := range even {
		row = append(row, even[k], odd[k])
	}
	return row
}
