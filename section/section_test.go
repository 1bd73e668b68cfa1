package section_test

import (
	"math"
	"math/rand"
	"slices"
	"strconv"
	"testing"

	"shawm/api"
	"shawm/book"
	"shawm/section"
)

// example is bands with values.
type example struct{ widths, l []int }

// parts are the values of each band.
func (x example) parts() [][]int {
	var parts [][]int
	at := 0
	for _, width := range x.widths {
		parts = append(parts, x.l[at:at+width])
		at += width
	}
	return parts
}

func isIn[T comparable](t *testing.T, name string, list []T, e api.Errno, want []T) {
	t.Helper()
	if !slices.Equal(list, want) || e != api.OK {
		t.Errorf("%s: %v, %d, want %v", name, list, e, want)
	}
}

func is(t *testing.T, name string, v int, e api.Errno, want int) {
	t.Helper()
	if v != want || e != api.OK {
		t.Errorf("%s: %d, %d, want %d", name, v, e, want)
	}
}

// sections are those of pairs of a book and a number of bands.
func sections(pairs ...[2]int) []api.Section {
	var s []api.Section
	for _, p := range pairs {
		s = append(s, api.Section{Book: p[0], Bands: p[1]})
	}
	return s
}

// gammaBits is the length of the gamma code of v.
func gammaBits(v int) int { return 2*len(strconv.FormatInt(int64(v), 2)) - 1 }

// runsOf are the sections of bands with these books.
func runsOf(books []int) []api.Section {
	var s []api.Section
	for _, b := range books {
		if len(s) > 0 && s[len(s)-1].Book == b {
			s[len(s)-1].Bands++
		} else {
			s = append(s, api.Section{Book: b, Bands: 1})
		}
	}
	return s
}

// table has for each band the cost of its values in each book; -1, if they do not fit.
func (x example) table() [][8]int {
	var costs [][8]int
	for _, part := range x.parts() {
		var row [8]int
		for b := range row {
			cost, e := book.Cost(b, part)
			if e != api.OK {
				cost = -1
			}
			row[b] = cost
		}
		costs = append(costs, row)
	}
	return costs
}

// costOf is what the sections of bands with these books cost; -1, if the values of a band do not fit.
func costOf(costs [][8]int, books []int) int {
	sum := 0
	for i, b := range books {
		if costs[i][b] < 0 {
			return -1
		}
		sum += costs[i][b]
	}
	for _, x := range runsOf(books) {
		sum += 3 + gammaBits(x.Bands)
	}
	return sum
}

// allBooks are all lists of n books, the lexicographically smallest ones first.
func allBooks(n int) [][]int {
	if n == 0 {
		return [][]int{nil}
	}
	var all [][]int
	for _, books := range allBooks(n - 1) {
		for b := range 8 {
			all = append(all, append(slices.Clone(books), b))
		}
	}
	return all
}

// bestOf tries all books for few bands.
func bestOf(x example) ([]int, int) {
	costs := x.table()
	var best []int
	least := -1
	for _, books := range allBooks(len(x.widths)) {
		if cost := costOf(costs, books); cost >= 0 && (least < 0 || cost < least) {
			best, least = books, cost
		}
	}
	return best, least
}

// tail is a place in the midst of bands: the next one, the book of the one before, and how many bands its section has so far.
type tail struct{ at, book, bands int }

// slowBest finds the books of many bands: band by band the least book of those with which the rest costs least.
func slowBest(x example) ([]int, int) {
	costs := x.table()
	known := map[tail]int{}
	var rest func(p tail) int
	step := func(p tail, b int) (tail, int) {
		if b == p.book {
			return tail{p.at + 1, b, p.bands + 1}, costs[p.at][b] + gammaBits(p.bands+1) - gammaBits(p.bands)
		}
		return tail{p.at + 1, b, 1}, costs[p.at][b] + 4
	}
	rest = func(p tail) int {
		if p.at == len(costs) {
			return 0
		}
		if cost, ok := known[p]; ok {
			return cost
		}
		least := -1
		for b := range 8 {
			if costs[p.at][b] < 0 {
				continue
			}
			next, cost := step(p, b)
			if cost += rest(next); least < 0 || cost < least {
				least = cost
			}
		}
		known[p] = least
		return least
	}
	p := tail{book: -1}
	whole := rest(p)
	var books []int
	for p.at < len(costs) {
		for b := range 8 {
			if costs[p.at][b] < 0 {
				continue
			}
			if next, cost := step(p, b); cost+rest(next) == rest(p) {
				books, p = append(books, b), next
				break
			}
		}
	}
	return books, whole
}

// any makes an example of so many bands: the widths are multiples of 4, of 2, or any, and the bands are as loud as those before, or not.
func anyOf(random *rand.Rand, bands int) example {
	var x example
	even := 1 << random.Intn(3)
	most := 0
	for range bands {
		width := even * (1 + random.Intn(16/even))
		x.widths = append(x.widths, width)
		if random.Intn(3) == 0 {
			most = []int{0, 0, 1, 1, 2, 2, 3, 4, 6, 8, 12, 15, 20, 40, 300, 1023}[random.Intn(16)]
		}
		for range width {
			v := random.Intn(2*most+1) - most
			if random.Intn(3) == 0 {
				v /= 3
			}
			x.l = append(x.l, v)
		}
	}
	return x
}

// examples have few and many bands, narrow and wide ones, and the greatest values.
func examples() []example {
	random := rand.New(rand.NewSource(1))
	all := []example{
		{}, {[]int{}, []int{}}, {[]int{4, 4, 4}, make([]int, 12)}, {[]int{1}, []int{0}}, {[]int{1}, []int{-1023}}, {[]int{128}, make([]int, 128)},
		{[]int{2, 2, 4, 8, 14, 14, 28, 56}, slices.Repeat([]int{1, 0, 0, -3}, 32)}, {slices.Repeat([]int{1}, 128), make([]int, 128)},
		{[]int{3, 1, 128, 5}, slices.Repeat([]int{1023}, 137)},
	}
	for i := range 40 {
		all = append(all, anyOf(random, i))
	}
	for range 40 {
		all = append(all, anyOf(random, 1+random.Intn(24)))
	}
	return append(all, anyOf(random, 128))
}

// TestChoose is the promise P18.5.
func TestChoose(t *testing.T) {
	random := rand.New(rand.NewSource(2))
	for i := range 60 {
		x := anyOf(random, i%5)
		books, cost := bestOf(x)
		slow, least := slowBest(x)
		if !slices.Equal(books, slow) || cost != least {
			t.Fatalf("the test's own searches differ: %v, %d, and %v, %d", books, cost, slow, least)
		}
		s, c, e := section.Choose(x.widths, x.l)
		isIn(t, "Choose of few bands", s, e, runsOf(books))
		is(t, "the cost of few bands", c, e, cost)
	}
	for _, x := range examples() {
		widths, l := slices.Clone(x.widths), slices.Clone(x.l)
		books, cost := slowBest(x)
		s, c, e := section.Choose(x.widths, x.l)
		isIn(t, "Choose", s, e, runsOf(books))
		is(t, "the cost of Choose", c, e, cost)
		isIn(t, "the widths", x.widths, e, widths)
		isIn(t, "the list", x.l, e, l)
	}
	s, cost, e := section.Choose([]int{4, 4, 4}, make([]int, 12))
	isIn(t, "Choose of zeros", s, e, sections([2]int{0, 3}))
	is(t, "their cost", cost, e, 6)
	s, cost, e = section.Choose(nil, nil)
	isIn(t, "Choose of no bands", s, e, nil)
	is(t, "their cost", cost, e, 0)
}

// TestChooseTies has bands of which many lists of sections cost the same.
func TestChooseTies(t *testing.T) {
	random := rand.New(rand.NewSource(4))
	ties := 0
	for range 150 {
		x := example{widths: slices.Repeat([]int{2}, 4)}
		for range 8 {
			x.l = append(x.l, random.Intn(2)*random.Intn(9))
		}
		costs, count := x.table(), 0
		books, cost := bestOf(x)
		for _, other := range allBooks(4) {
			if costOf(costs, other) == cost {
				count++
			}
		}
		if count > 1 {
			ties++
		}
		s, c, e := section.Choose(x.widths, x.l)
		isIn(t, "Choose", s, e, runsOf(books))
		is(t, "the cost of Choose", c, e, cost)
	}
	if ties < 20 {
		t.Errorf("only %d examples have several lists that cost the least", ties)
	}
	for range 300 {
		x := example{widths: slices.Repeat([]int{1 + random.Intn(2)}, 3+random.Intn(20))}
		for range len(x.widths) * x.widths[0] {
			x.l = append(x.l, random.Intn(2)*random.Intn(34))
		}
		books, cost := slowBest(x)
		s, c, e := section.Choose(x.widths, x.l)
		isIn(t, "Choose of more bands", s, e, runsOf(books))
		is(t, "the cost of Choose", c, e, cost)
	}
}

// TestBounds is the promise P18.8.
func TestBounds(t *testing.T) {
	for _, x := range examples() {
		_, cost, _ := section.Choose(x.widths, x.l)
		sum := 0
		for _, part := range x.parts() {
			_, least, e := book.Best(part)
			if e != api.OK {
				t.Fatalf("Best: %d", e)
			}
			sum += least
		}
		if cost < sum {
			t.Errorf("Choose of %v costs %d, and the bands by themselves %d", x, cost, sum)
		}
		for b := range 8 {
			one := sections([2]int{b, len(x.widths)})
			if whole, e := section.Cost(x.widths, x.l, one); e == api.OK && cost > whole {
				t.Errorf("Choose of %v costs %d, and one section of %d costs %d", x, cost, b, whole)
			}
		}
	}
}

// anySections are right ones of an example, or nil if a band has got no book.
func anySections(random *rand.Rand, x example) []api.Section {
	var books []int
	for _, row := range x.table() {
		b := random.Intn(8)
		if len(books) > 0 && random.Intn(2) == 0 {
			b = books[len(books)-1]
		}
		for row[b] < 0 {
			b = (b + 1) % 8
		}
		books = append(books, b)
	}
	return runsOf(books)
}

func TestCost(t *testing.T) {
	random := rand.New(rand.NewSource(5))
	for _, x := range examples() {
		s, cost, _ := section.Choose(x.widths, x.l)
		c, e := section.Cost(x.widths, x.l, s)
		is(t, "Cost of Choose", c, e, cost)
		for range 10 {
			s := anySections(random, x)
			var books []int
			for _, y := range s {
				books = append(books, slices.Repeat([]int{y.Book}, y.Bands)...)
			}
			was := slices.Clone(s)
			c, e := section.Cost(x.widths, x.l, s)
			is(t, "Cost", c, e, costOf(x.table(), books))
			if c < cost {
				t.Errorf("Choose of %v costs %d, and %v costs %d", x, cost, s, c)
			}
			isIn(t, "the sections", s, e, was)
		}
	}
	c, e := section.Cost([]int{4, 2, 1}, []int{0, 1, 0, -1, 3, 0, -40}, sections([2]int{1, 1}, [2]int{3, 1}, [2]int{7, 1}))
	is(t, "Cost", c, e, 3+1+7+3+1+6+3+1+17)
	c, e = section.Cost(nil, nil, nil)
	is(t, "Cost of no bands", c, e, 0)
	c, e = section.Cost([]int{4, 4, 4}, make([]int, 12), sections([2]int{0, 3}))
	is(t, "Cost of zeros", c, e, 6)
}

// wrongSections are no right ones for these widths and values: 4 2 3, and 0 1 0 -1 5 0 0 0 0.
func wrongSections() [][]api.Section {
	var all [][]api.Section
	for _, pairs := range [][][2]int{
		nil, {{4, 2}}, {{7, 2}}, {{7, 4}}, {{7, 3}, {0, 0}}, {{7, 3}, {0, 1}}, {{7, 0}, {6, 3}}, {{7, 0}}, {{7, -1}, {6, 4}}, {{7, 4}, {6, -1}},
		{{8, 3}}, {{-1, 3}}, {{7, 2}, {8, 1}}, {{7, 2}, {-1, 1}}, {{math.MaxInt, 3}}, {{math.MinInt, 3}}, {{7, math.MaxInt}}, {{7, math.MinInt}},
		{{7, math.MaxInt}, {0, math.MaxInt}, {7, 5}}, {{7, 1 << 62}, {0, 1 << 62}, {7, 1 << 62}, {0, 1 << 62}, {7, 3}},
		{{7, 1}, {7, 2}}, {{7, 2}, {7, 1}}, {{1, 1}, {7, 1}, {7, 1}}, {{7, 1}, {7, 1}, {0, 1}},
		// The width, or a value, does not fit the book.
		{{4, 3}}, {{6, 3}}, {{0, 1}, {7, 2}}, {{1, 2}, {7, 1}}, {{7, 1}, {0, 1}, {7, 1}}, {{7, 1}, {3, 1}, {7, 1}}, {{7, 2}, {1, 1}}, {{5, 2}, {4, 1}},
	} {
		all = append(all, sections(pairs...))
	}
	return all
}

// wrong is bands, values, and the error of them.
type wrong struct {
	widths, l []int
	want      api.Errno
}

func wrongValues() []wrong {
	all := []wrong{
		{[]int{0}, nil, api.ErrArg}, {[]int{4, 0}, make([]int, 4), api.ErrArg}, {[]int{129}, make([]int, 129), api.ErrArg}, {[]int{5, -1}, make([]int, 4), api.ErrArg},
		{slices.Repeat([]int{1}, 129), make([]int, 129), api.ErrArg}, {[]int{math.MaxInt}, nil, api.ErrArg}, {[]int{math.MinInt}, nil, api.ErrArg},
		{[]int{math.MaxInt, math.MaxInt, 2}, nil, api.ErrArg}, {[]int{math.MinInt, math.MinInt}, nil, api.ErrArg},
		{nil, []int{0}, api.ErrArg}, {[]int{4}, nil, api.ErrArg}, {[]int{4}, make([]int, 3), api.ErrArg}, {[]int{4, 4}, make([]int, 9), api.ErrArg}, {[]int{2, 1}, []int{0, 0, 0, 0}, api.ErrArg},
		{[]int{4}, make([]int, 5000), api.ErrArg},
		// The wrong number of values comes before wrong values.
		{[]int{4}, []int{1024, 0, 0}, api.ErrArg}, {[]int{0}, []int{1024}, api.ErrArg}, {nil, []int{-5000}, api.ErrArg},
	}
	for _, v := range []int{1024, -1024, 1 << 40, math.MaxInt, math.MinInt} {
		all = append(all, wrong{[]int{1}, []int{v}, api.ErrRange}, wrong{[]int{4, 2, 3}, []int{0, 0, 0, 0, 0, 0, 0, 0, v}, api.ErrRange}, wrong{[]int{4, 2, 3}, []int{0, v, 0, 0, 0, 0, 0, 0, 0}, api.ErrRange})
	}
	return all
}

func TestErrors(t *testing.T) {
	for _, x := range wrongValues() {
		s, cost, e := section.Choose(x.widths, x.l)
		if len(s) != 0 || cost != 0 || e != x.want {
			t.Errorf("Choose of %v: %v, %d, %d, want the error %d", x, s, cost, e, x.want)
		}
		for _, s := range append(wrongSections(), sections([2]int{7, len(x.widths)})) {
			if cost, e := section.Cost(x.widths, x.l, s); cost != 0 || e != x.want {
				t.Errorf("Cost of %v in %v: %d, %d, want the error %d", x, s, cost, e, x.want)
			}
		}
	}
	widths, l := []int{4, 2, 3}, []int{0, 1, 0, -1, 5, 0, 0, 0, 0}
	for _, s := range wrongSections() {
		if cost, e := section.Cost(widths, l, s); cost != 0 || e != api.ErrForm {
			t.Errorf("Cost in %v: %d, %d", s, cost, e)
		}
	}
	if cost, e := section.Cost(nil, nil, sections([2]int{0, 0})); cost != 0 || e != api.ErrForm {
		t.Errorf("Cost of no bands: %d, %d", cost, e)
	}
}

// TestRuns is the promise P18.7.
func TestRuns(t *testing.T) {
	random := rand.New(rand.NewSource(6))
	for n := range 129 {
		books := make([]int, n)
		for i := range books {
			if books[i] = random.Intn(8); i > 0 && random.Intn(3) > 0 {
				books[i] = books[i-1]
			}
		}
		was := slices.Clone(books)
		s, e := section.Runs(books)
		isIn(t, "Runs", s, e, runsOf(books))
		back, e := section.Books(s)
		isIn(t, "Books of Runs", back, e, was)
		isIn(t, "the books", books, e, was)
	}
	s, e := section.Runs([]int{1, 1, 0, 2})
	isIn(t, "Runs", s, e, sections([2]int{1, 2}, [2]int{0, 1}, [2]int{2, 1}))
	s, e = section.Runs(slices.Repeat([]int{5}, 128))
	isIn(t, "Runs of one book", s, e, sections([2]int{5, 128}))
	for _, books := range [][]int{make([]int, 129), slices.Repeat([]int{8}, 129), make([]int, 5000)} {
		if s, e := section.Runs(books); len(s) != 0 || e != api.ErrArg {
			t.Errorf("Runs of %d books: %v, %d", len(books), s, e)
		}
	}
	for _, b := range []int{-1, 8, 1 << 40, math.MaxInt, math.MinInt} {
		for _, books := range [][]int{{b}, {0, b}, {b, 0}, append(make([]int, 127), b)} {
			if s, e := section.Runs(books); len(s) != 0 || e != api.ErrForm {
				t.Errorf("Runs of %v: %v, %d", books, s, e)
			}
		}
	}
}

func TestBooks(t *testing.T) {
	for _, c := range []struct {
		s    [][2]int
		want []int
	}{
		{nil, nil}, {[][2]int{{7, 1}}, []int{7}}, {[][2]int{{1, 2}, {0, 1}, {2, 1}}, []int{1, 1, 0, 2}},
		{[][2]int{{3, 1}, {3, 2}}, []int{3, 3, 3}}, {[][2]int{{0, 128}}, make([]int, 128)}, {[][2]int{{5, 127}, {5, 1}}, slices.Repeat([]int{5}, 128)},
		{slices.Repeat([][2]int{{4, 1}}, 128), slices.Repeat([]int{4}, 128)},
	} {
		s := sections(c.s...)
		was := slices.Clone(s)
		books, e := section.Books(s)
		isIn(t, "Books", books, e, c.want)
		isIn(t, "the sections", s, e, was)
	}
	for _, pairs := range [][][2]int{
		{{0, 129}}, {{0, 128}, {1, 1}}, {{0, 1}, {1, 128}}, slices.Repeat([][2]int{{4, 1}}, 129), {{0, 0}}, {{0, 1}, {1, 0}}, {{0, -1}}, {{0, -1}, {1, 2}}, {{0, 2}, {1, -1}},
		{{8, 1}}, {{-1, 1}}, {{0, 1}, {8, 1}}, {{0, math.MaxInt}}, {{0, math.MinInt}}, {{0, 1}, {1, math.MaxInt}}, {{0, math.MaxInt}, {1, math.MaxInt}, {2, 3}}, {{math.MaxInt, 1}}, {{math.MinInt, 1}},
		{{0, 1 << 62}, {1, 1 << 62}, {2, 1 << 62}, {3, 1 << 62}, {4, 1}},
	} {
		s := sections(pairs...)
		if books, e := section.Books(s); len(books) != 0 || e != api.ErrForm {
			t.Errorf("Books of %v: %v, %d", s, books, e)
		}
	}
}
