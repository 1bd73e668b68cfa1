package quant

// least returns the least number from low to high that fits, where with each number all those above it do; if none fits, high.
func least[T ~int](low, high T, fits func(T) bool) T {
	for low < high {
		middle := low + (high-low)/2
		if fits(middle) {
			high = middle
		} else {
			low = middle + 1
		}
	}
	return low
}

// odd makes a function of all numbers of one of numbers from 0 on: of -v it gives the opposite of what it gives of v.
func odd(of func(int) int) func(int) int {
	return func(v int) int {
		if v < 0 {
			return -of(-v)
		}
		return of(v)
	}
}

// each is a list of what turn makes of each element of a list.
func each(list []int, turn func(int) int) []int {
	turned := make([]int, 0, len(list))
	for _, v := range list {
		turned = append(turned, turn(v))
	}
	return turned
}

// sizesOf has the absolute values of a list.
func sizesOf(list []int) []int {
	return each(list, func(v int) int { return max(v, -v) })
}

// greatest is the greatest of several numbers from 0 on, or 0.
func greatest(numbers ...int) int {
	most := 0
	for _, v := range numbers {
		most = max(most, v)
	}
	return most
}
