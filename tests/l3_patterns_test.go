package tests

import (
	"math"
	"slices"
	"strconv"
	"strings"
	"testing"

	"loop.example/g01286/impl"
)

// shapeByHand tells for each number its place among the sorted ones.
func shapeByHand(list []int) []int {
	sorted := slices.Sorted(slices.Values(list))
	shape := []int{}
	for _, number := range list {
		shape = append(shape, slices.Index(sorted, number)+1)
	}
	return shape
}

// placeListsByHand returns all lists of ascending places of n, the shorter ones first, and place by place then.
func placeListsByHand(n int) [][]int {
	var lists [][]int
	for bits := range 1 << n {
		places := []int{}
		for place := range n {
			if bits>>place&1 == 1 {
				places = append(places, place)
			}
		}
		lists = append(lists, places)
	}
	slices.SortFunc(lists, func(a, b []int) int {
		if len(a) != len(b) {
			return len(a) - len(b)
		}
		return slices.Compare(a, b)
	})
	return lists
}

var placeListsOfSize = func() [][][]int {
	var table [][][]int
	for n := range impl.MaxSize + 1 {
		table = append(table, placeListsByHand(n))
	}
	return table
}()

// placesByHand tries all lists of places.
func placesByHand(order []int, pattern []int) [][]int {
	var found [][]int
	for _, places := range placeListsOfSize[len(order)] {
		if len(places) != len(pattern) {
			continue
		}
		numbers := []int{}
		for _, place := range places {
			numbers = append(numbers, order[place])
		}
		if slices.Equal(shapeByHand(numbers), pattern) {
			found = append(found, places)
		}
	}
	return found
}

func avoidsByHand(order []int, patterns [][]int) bool {
	return !slices.ContainsFunc(patterns, func(pattern []int) bool { return len(placesByHand(order, pattern)) > 0 })
}

func avoidingByHand(n int, patterns [][]int) [][]int {
	return slices.DeleteFunc(ordersByHand(n), func(order []int) bool { return !avoidsByHand(order, patterns) })
}

// smallOrders returns all orders of at most n numbers.
func smallOrders(n int) [][]int {
	var small [][]int
	for size := 1; size <= n; size++ {
		small = append(small, ordersByHand(size)...)
	}
	return small
}

func orderOf(text string) []int {
	order := []int{}
	for _, digit := range text {
		order = append(order, int(digit-'0'))
	}
	return order
}

// ordersOfTexts reads orders with spaces between them; the empty text tells none.
func ordersOfTexts(texts string) [][]int {
	orders := [][]int{}
	for _, text := range strings.Fields(texts) {
		orders = append(orders, orderOf(text))
	}
	return orders
}

func textOfOrders(orders [][]int) string {
	texts := []string{}
	for _, order := range orders {
		texts = append(texts, textByHand(order))
	}
	return strings.Join(texts, " ")
}

// patternLists are lists of no pattern, of one, of several, up to MaxPatterns, and of the same one several times.
func patternLists() [][][]int {
	var lists [][][]int
	for _, texts := range []string{
		"", "1", "12", "21", "12 21", "21 1", "123", "132", "213", "231", "312", "321", "123 321", "132 312", "231 231", "231 312",
		"123 132 213", "123 132 213 231", "2413 3142", "1234", "1324", "1342", "4321 12", "231 4123", "2413 2413 2413 2413",
		"321 2341 1 12345", "35142 52413", "1234567", "7654321 2143657", "12345 54321 24135 31425", "132 132 132",
	} {
		lists = append(lists, ordersOfTexts(texts))
	}
	return lists
}

// noPatternLists have too many patterns, or one that is none.
func noPatternLists() [][][]int {
	lists := [][][]int{
		ordersOfTexts("12 12 12 12 12"), ordersOfTexts("1 12 123 1234 12345"), slices.Repeat([][]int{{1, 2}}, impl.MaxPatterns+1),
		slices.Repeat([][]int{{7, 6, 5, 4, 3, 2, 1}}, impl.MaxPatterns+1), slices.Repeat([][]int{{}}, impl.MaxPatterns+1),
		make([][]int, 1), make([][]int, impl.MaxPatterns), make([][]int, 1<<16), slices.Repeat([][]int{{2, 1}}, 1<<10),
	}
	for _, list := range noOrders() {
		lists = append(lists, [][]int{list}, [][]int{{1}, list}, [][]int{list, {1, 2}}, [][]int{{7, 6, 5, 4, 3, 2, 1}, {2, 1}, {1, 2, 3}, list})
	}
	return lists
}

func noSizes() []int {
	return []int{0, -1, impl.MaxSize + 1, 8, 9, 100, -7, 1 << 32, 1<<32 + 3, math.MaxInt, math.MinInt}
}

func TestShapeOfExamples(t *testing.T) {
	for _, c := range []struct{ list, want []int }{
		{[]int{5}, []int{1}}, {[]int{-5}, []int{1}}, {[]int{0}, []int{1}}, {[]int{5, -1, 7}, []int{2, 1, 3}}, {[]int{9, 4}, []int{2, 1}},
		{[]int{0, 1}, []int{1, 2}}, {[]int{math.MaxInt, math.MinInt}, []int{2, 1}}, {[]int{math.MinInt, 0, math.MaxInt}, []int{1, 2, 3}},
		{[]int{math.MinInt, math.MaxInt, -1, 1}, []int{1, 4, 2, 3}}, {[]int{1, 1<<32 + 1, 1 << 32}, []int{1, 3, 2}},
		{[]int{math.MinInt + 1, math.MinInt, math.MaxInt, math.MaxInt - 1}, []int{2, 1, 4, 3}},
		{[]int{30, 10, 70, 20, 60, 50, 40}, []int{3, 1, 7, 2, 6, 5, 4}}, {[]int{-1, -2, -3, -4, -5, -6, -7}, downTo1(7)},
		{[]int{2, 3, 4, 5, 6, 7, 8}, upFrom1(7)}, {[]int{0, 1000000, 999999}, []int{1, 3, 2}},
	} {
		shape, ok := impl.ShapeOf(c.list)
		wantOrder(t, "shape", shape, ok, c.want)
	}
}

func TestShapeOfEveryShortList(t *testing.T) {
	for n := range 6 {
		list := make([]int, n)
		for code := range int(math.Pow(5, float64(n))) {
			for place := range list {
				list[place] = code%5 - 2
				code /= 5
			}
			shape, ok := impl.ShapeOf(list)
			sorted := slices.Sorted(slices.Values(list))
			if n == 0 || len(slices.Compact(sorted)) < n {
				wantNoOrder(t, "numbers that stand twice", shape, ok)
			} else {
				wantOrder(t, "different numbers", shape, ok, shapeByHand(list))
			}
		}
	}
}

func TestShapeOfAnOrderIsTheOrder(t *testing.T) {
	for _, order := range smallOrders(impl.MaxSize) {
		shape, ok := impl.ShapeOf(order)
		wantOrder(t, "an order", shape, ok, order)
		spread := []int{}
		for _, number := range order {
			spread = append(spread, number*number*1000-20000)
		}
		shape, ok = impl.ShapeOf(spread)
		wantOrder(t, "numbers farther from each other", shape, ok, order)
	}
}

func TestShapeOfRefuses(t *testing.T) {
	for _, list := range [][]int{
		nil, {}, {1, 1}, {0, 0}, {3, 1, 3}, {1, 2, 2}, {-1, 5, -1, 5}, {1, 2, 3, 4, 5, 6, 1}, {1, 2, 3, 4, 5, 6, 6}, {7, 7, 7, 7, 7, 7, 7},
		{math.MaxInt, math.MaxInt}, {math.MinInt, 0, math.MinInt}, upFrom1(impl.MaxSize + 1), downTo1(impl.MaxSize + 1),
		make([]int, impl.MaxSize+1), upFrom1(100), upFrom1(1 << 20), make([]int, 1<<20),
	} {
		shape, ok := impl.ShapeOf(list)
		wantNoOrder(t, "no list of different numbers", shape, ok)
	}
}

// checkPlaces compares all that is told of the places of one pattern.
func checkPlaces(t *testing.T, order []int, pattern []int) {
	t.Helper()
	what := textByHand(pattern) + " in " + textByHand(order)
	want := placesByHand(order, pattern)
	has, ok := impl.ContainsPattern(order, pattern)
	if !ok || has != (len(want) > 0) {
		t.Errorf("%s: contained %v, %v; want %v", what, has, ok, len(want) > 0)
	}
	count, ok := impl.CountPlaces(order, pattern)
	if !ok || count != len(want) {
		t.Errorf("%s: %d places, %v; want %d", what, count, ok, len(want))
	}
	avoids, ok := impl.AvoidsAll(order, [][]int{pattern})
	if !ok || avoids == has {
		t.Errorf("%s: avoided %v, %v", what, avoids, ok)
	}
	first, ok := impl.FirstPlaces(order, pattern)
	if len(want) > 0 {
		wantOrder(t, what, first, ok, want[0])
	} else {
		wantNoOrder(t, what, first, ok)
	}
}

func TestPlacesOfEveryPattern(t *testing.T) {
	for _, order := range smallOrders(5) {
		for _, pattern := range smallOrders(5) {
			checkPlaces(t, order, pattern)
		}
	}
	for _, order := range fewOrders() {
		for _, pattern := range fewOrders() {
			checkPlaces(t, order, pattern)
		}
	}
}

func TestPlacesExamples(t *testing.T) {
	for _, c := range []struct {
		order, pattern string
		count          int
		first          []int
	}{
		{"2314", "231", 1, []int{0, 1, 2}}, {"2314", "12", 4, []int{0, 1}}, {"2314", "21", 2, []int{0, 2}}, {"2314", "321", 0, nil},
		{"1", "1", 1, []int{0}}, {"7654321", "1", 7, []int{0}}, {"7654321", "21", 21, []int{0, 1}}, {"7654321", "12", 0, nil},
		{"1234567", "123", 35, []int{0, 1, 2}}, {"1234567", "1234", 35, []int{0, 1, 2, 3}}, {"1234567", "1234567", 1, upFrom0(7)},
		{"1", "12", 0, nil}, {"1", "7654321", 0, nil}, {"123456", "1234567", 0, nil}, {"2413", "231", 1, []int{0, 1, 2}},
		{"3142", "312", 1, []int{0, 1, 3}}, {"7216543", "132", 12, []int{1, 3, 4}}, {"5137264", "2143", 3, []int{0, 1, 3, 5}},
		{"5671234", "231", 12, []int{0, 1, 3}}, {"4321567", "2134", 18, []int{0, 1, 4, 5}}, {"1726354", "1432", 6, []int{0, 1, 3, 4}},
	} {
		checkPlaces(t, orderOf(c.order), orderOf(c.pattern))
		count, ok := impl.CountPlaces(orderOf(c.order), orderOf(c.pattern))
		if !ok || count != c.count {
			t.Errorf("%s is %d times in %s, %v; want %d", c.pattern, count, c.order, ok, c.count)
		}
		first, ok := impl.FirstPlaces(orderOf(c.order), orderOf(c.pattern))
		if !slices.Equal(first, c.first) || ok != (c.count > 0) {
			t.Errorf("%s is in %s at %v, %v; want %v", c.pattern, c.order, first, ok, c.first)
		}
	}
}

func upFrom0(n int) []int {
	places := make([]int, n)
	for place := range places {
		places[place] = place
	}
	return places
}

func TestPlacesOfOneNumberAndOfAnOrderItself(t *testing.T) {
	for _, order := range smallOrders(impl.MaxSize) {
		n := len(order)
		for _, c := range []struct {
			pattern, first []int
			count          int
		}{{[]int{1}, []int{0}, n}, {order, upFrom0(n), 1}} {
			has, ok := impl.ContainsPattern(order, c.pattern)
			if !ok || !has {
				t.Errorf("%v avoids %v, %v", order, c.pattern, ok)
			}
			first, ok := impl.FirstPlaces(order, c.pattern)
			wantOrder(t, "first places", first, ok, c.first)
			if count, ok := impl.CountPlaces(order, c.pattern); !ok || count != c.count {
				t.Errorf("%v has %v at %d places, %v", order, c.pattern, count, ok)
			}
		}
	}
}

func TestPlacesOfAllPatternsOfOneSizeAreAllPlaces(t *testing.T) {
	for _, order := range fewOrders() {
		for k := 1; k <= len(order); k++ {
			sum := 0
			for _, pattern := range ordersByHand(k) {
				count, _ := impl.CountPlaces(order, pattern)
				sum += count
			}
			all := 1
			for i := range k {
				all = all * (len(order) - i) / (i + 1)
			}
			if sum != all {
				t.Errorf("patterns of %d numbers are %d times in %v, not %d", k, sum, order, all)
			}
		}
	}
}

func TestPlacesRefuse(t *testing.T) {
	refuse := func(order []int, pattern []int) {
		t.Helper()
		has, ok := impl.ContainsPattern(order, pattern)
		if has || ok {
			t.Errorf("contained: %.8v, %.8v", order, pattern)
		}
		first, ok := impl.FirstPlaces(order, pattern)
		wantNoOrder(t, "first places", first, ok)
		count, ok := impl.CountPlaces(order, pattern)
		wantNoNumber(t, "places", count, ok)
		drops, ok := impl.FewestDrops(order, pattern)
		wantNoOrder(t, "drops", drops, ok)
		avoids, ok := impl.AvoidsAll(order, [][]int{pattern})
		if avoids || ok {
			t.Errorf("avoided: %.8v, %.8v", order, pattern)
		}
	}
	for _, list := range noOrders() {
		for n := 1; n <= impl.MaxSize; n++ {
			refuse(list, downTo1(n))
			refuse(downTo1(n), list)
		}
		refuse(list, list)
	}
}

func TestPatternsIn(t *testing.T) {
	for _, order := range append(smallOrders(5), fewOrders()...) {
		for k := 1; k <= impl.MaxSize; k++ {
			want := [][]int{}
			for _, places := range placeListsOfSize[len(order)] {
				numbers := []int{}
				for _, place := range places {
					numbers = append(numbers, order[place])
				}
				if len(places) == k {
					want = append(want, shapeByHand(numbers))
				}
			}
			slices.SortFunc(want, slices.Compare)
			want = slices.CompactFunc(want, slices.Equal)
			patterns, ok := impl.PatternsIn(order, k)
			if !ok || !slices.EqualFunc(patterns, want, slices.Equal) {
				t.Errorf("PatternsIn(%v, %d) = %v, %v; want %v", order, k, patterns, ok, want)
			}
			if (len(patterns) == 0) != (k > len(order)) {
				t.Errorf("PatternsIn(%v, %d): %d patterns", order, k, len(patterns))
			}
		}
	}
}

func TestAnOrderContainsPatternsInItAndNoOthers(t *testing.T) {
	for _, order := range fewOrders() {
		for k := 1; k <= impl.MaxSize; k++ {
			patterns, ok := impl.PatternsIn(order, k)
			if !ok {
				t.Error(order, k)
			}
			contained := 0
			for _, pattern := range ordersByHand(k) {
				has, ok := impl.ContainsPattern(order, pattern)
				if !ok || has != slices.ContainsFunc(patterns, func(p []int) bool { return slices.Equal(p, pattern) }) {
					t.Errorf("%v contains %v: %v, %v", order, pattern, has, ok)
				}
				if has {
					contained++
				}
			}
			if contained != len(patterns) {
				t.Errorf("%v contains %d patterns of %d numbers, not %d", order, contained, k, len(patterns))
			}
		}
	}
}

func TestPatternsInExamples(t *testing.T) {
	for _, c := range []struct {
		order string
		k     int
		want  string
	}{
		{"2314", 2, "12 21"}, {"2314", 3, "123 213 231"}, {"2314", 4, "2314"}, {"2314", 5, ""}, {"2314", 7, ""}, {"2314", 1, "1"},
		{"1", 1, "1"}, {"1", 2, ""}, {"1", 7, ""}, {"1234567", 2, "12"}, {"7654321", 6, "654321"}, {"7654321", 7, "7654321"},
		{"25314", 3, "123 132 213 231 312 321"}, {"2413", 3, "132 213 231 312"}, {"2513746", 7, "2513746"}, {"123465", 5, "12345 12354"},
	} {
		patterns, ok := impl.PatternsIn(orderOf(c.order), c.k)
		wantText(t, "PatternsIn "+c.order+" "+strconv.Itoa(c.k), textOfOrders(patterns), ok, c.want)
	}
}

func TestPatternsInRefuses(t *testing.T) {
	refuse := func(order []int, k int) {
		t.Helper()
		if patterns, ok := impl.PatternsIn(order, k); ok || len(patterns) != 0 {
			t.Errorf("PatternsIn(%.8v, %d) = %v, %v", order, k, patterns, ok)
		}
	}
	for _, order := range fewOrders() {
		for _, k := range noSizes() {
			refuse(order, k)
		}
	}
	for _, list := range noOrders() {
		for k := 1; k <= impl.MaxSize; k++ {
			refuse(list, k)
		}
		refuse(list, 0)
	}
}

func TestAvoidsAllOfEveryList(t *testing.T) {
	for _, order := range append(smallOrders(4), fewOrders()...) {
		for _, patterns := range patternLists() {
			avoids, ok := impl.AvoidsAll(order, patterns)
			if !ok || avoids != avoidsByHand(order, patterns) {
				t.Errorf("%v avoids %v: %v, %v", order, patterns, avoids, ok)
			}
		}
		avoids, ok := impl.AvoidsAll(order, nil)
		if !ok || !avoids {
			t.Errorf("%v avoids none: %v, %v", order, avoids, ok)
		}
	}
}

func TestAvoidsAllExamples(t *testing.T) {
	for _, c := range []struct {
		order, patterns string
		want            bool
	}{
		{"2314", "321", true}, {"2314", "321 132", true}, {"2314", "321 132 231", false}, {"2314", "231 321", false}, {"2314", "", true},
		{"2314", "12345", true}, {"1", "12 21 123 321", true}, {"1", "12 21 1", false}, {"1234567", "21 132 213 1234567", false},
		{"1234567", "21 21 21 21", true}, {"2413", "321 123", true}, {"2413", "2413", false}, {"2413", "3142 4321 1234 12345", true},
	} {
		avoids, ok := impl.AvoidsAll(orderOf(c.order), ordersOfTexts(c.patterns))
		if !ok || avoids != c.want {
			t.Errorf("%s avoids %s: %v, %v", c.order, c.patterns, avoids, ok)
		}
	}
}

func TestCountAvoidingKnownNumbers(t *testing.T) {
	for texts, want := range map[string][7]int{
		"":                    {1, 2, 6, 24, 120, 720, 5040},
		"1":                   {},
		"12":                  {1, 1, 1, 1, 1, 1, 1},
		"12 21":               {1},
		"123":                 {1, 2, 5, 14, 42, 132, 429},
		"132":                 {1, 2, 5, 14, 42, 132, 429},
		"213":                 {1, 2, 5, 14, 42, 132, 429},
		"231":                 {1, 2, 5, 14, 42, 132, 429},
		"312":                 {1, 2, 5, 14, 42, 132, 429},
		"321":                 {1, 2, 5, 14, 42, 132, 429},
		"231 231 231 231":     {1, 2, 5, 14, 42, 132, 429},
		"132 312":             {1, 2, 4, 8, 16, 32, 64},
		"231 312":             {1, 2, 4, 8, 16, 32, 64},
		"132 321":             {1, 2, 4, 7, 11, 16, 22},
		"123 321":             {1, 2, 4, 4, 0, 0, 0},
		"123 132 213":         {1, 2, 3, 5, 8, 13, 21},
		"123 132 213 231":     {1, 2, 2, 2, 2, 2, 2},
		"1234":                {1, 2, 6, 23, 103, 513, 2761},
		"1342":                {1, 2, 6, 23, 103, 512, 2740},
		"1324":                {1, 2, 6, 23, 103, 513, 2762},
		"2413 3142":           {1, 2, 6, 22, 90, 394, 1806},
		"7654321":             {1, 2, 6, 24, 120, 720, 5039},
		"1234567 7654321":     {1, 2, 6, 24, 120, 720, 5038},
		"2143657 2143657":     {1, 2, 6, 24, 120, 720, 5039},
		"123456 1 1234567 12": {},
	} {
		for n := 1; n <= impl.MaxSize; n++ {
			count, ok := impl.CountAvoiding(n, ordersOfTexts(texts))
			if !ok || count != want[n-1] {
				t.Errorf("%d orders of %d numbers avoid %q, %v; want %d", count, n, texts, ok, want[n-1])
			}
		}
	}
}

func TestCountAndFirstAvoidingOfEveryList(t *testing.T) {
	for _, patterns := range patternLists() {
		for n := 1; n <= 6; n++ {
			want := avoidingByHand(n, patterns)
			count, ok := impl.CountAvoiding(n, patterns)
			if !ok || count != len(want) {
				t.Errorf("%d orders of %d numbers avoid %v, %v; want %d", count, n, patterns, ok, len(want))
			}
			first, ok := impl.FirstAvoiding(n, patterns)
			if len(want) > 0 {
				wantOrder(t, "first", first, ok, want[0])
			} else {
				wantNoOrder(t, "none is first", first, ok)
			}
		}
	}
}

func TestFirstAvoidingExamples(t *testing.T) {
	for _, c := range []struct {
		n              int
		patterns, want string
	}{
		{3, "123", "132"}, {7, "", "1234567"}, {1, "", "1"}, {1, "12 21", "1"}, {2, "12", "21"}, {7, "12", "7654321"}, {7, "1234567", "1234576"},
		{7, "123", "1765432"}, {7, "123 132", "6543217"}, {6, "123 132", "543216"}, {4, "123 321", "2143"}, {5, "1234 1243", "14325"},
		{7, "21", "1234567"}, {7, "21 21 21 21", "1234567"}, {5, "123 132 213 231", "54312"}, {6, "1234567", "123456"},
	} {
		first, ok := impl.FirstAvoiding(c.n, ordersOfTexts(c.patterns))
		if !ok || textByHand(first) != c.want {
			t.Errorf("FirstAvoiding(%d, %s) = %v, %v; want %s", c.n, c.patterns, first, ok, c.want)
		}
		if !avoidsByHand(orderOf(c.want), ordersOfTexts(c.patterns)) {
			t.Errorf("%s does not avoid %s", c.want, c.patterns)
		}
	}
	for _, texts := range []string{"1", "1 12", "12 21", "123 321", "21 1234567 12"} {
		first, ok := impl.FirstAvoiding(5, ordersOfTexts(texts))
		wantNoOrder(t, "none avoids "+texts, first, ok)
	}
}

func TestAvoidingRefuses(t *testing.T) {
	for _, patterns := range noPatternLists() {
		for n := 1; n <= impl.MaxSize; n++ {
			count, ok := impl.CountAvoiding(n, patterns)
			wantNoNumber(t, "count", count, ok)
			first, ok := impl.FirstAvoiding(n, patterns)
			wantNoOrder(t, "first", first, ok)
			avoids, ok := impl.AvoidsAll(upFrom1(n), patterns)
			if avoids || ok {
				t.Errorf("avoided by %d: %.4v", n, patterns[:min(4, len(patterns))])
			}
			children, ok := impl.CountChildren(downTo1(n), patterns)
			wantNoNumber(t, "children", children, ok)
		}
	}
	for _, n := range noSizes() {
		for _, patterns := range append(patternLists(), noPatternLists()...) {
			count, ok := impl.CountAvoiding(n, patterns)
			wantNoNumber(t, "count of "+strconv.Itoa(n), count, ok)
			first, ok := impl.FirstAvoiding(n, patterns)
			wantNoOrder(t, "first of "+strconv.Itoa(n), first, ok)
		}
	}
	for _, list := range noOrders() {
		for _, patterns := range append(patternLists(), nil) {
			avoids, ok := impl.AvoidsAll(list, patterns)
			if avoids || ok {
				t.Errorf("avoided by no order: %v", patterns)
			}
			children, ok := impl.CountChildren(list, patterns)
			wantNoNumber(t, "children of no order", children, ok)
		}
	}
}

func TestMostPlacesOfEveryPattern(t *testing.T) {
	for n := 1; n <= 5; n++ {
		orders := ordersByHand(n)
		for _, pattern := range append(smallOrders(4), fewOrders()...) {
			first, most := orders[0], 0
			for _, order := range orders {
				if count := len(placesByHand(order, pattern)); count > most {
					first, most = order, count
				}
			}
			best, count, ok := impl.MostPlaces(n, pattern)
			wantOrder(t, textByHand(pattern)+" most often", best, ok, first)
			if count != most {
				t.Errorf("%v of %d numbers at %d places, not %d", pattern, n, count, most)
			}
		}
	}
}

func TestMostPlacesExamples(t *testing.T) {
	for _, c := range []struct {
		n             int
		pattern, best string
		most          int
	}{
		{1, "1", "1", 1}, {7, "1", "1234567", 7}, {7, "12", "1234567", 21}, {7, "21", "7654321", 21}, {3, "21", "321", 3},
		{7, "321", "7654321", 35}, {6, "1234567", "123456", 0}, {1, "21", "1", 0}, {7, "2413675", "2413675", 1}, {7, "7654321", "7654321", 1},
		{3, "132", "132", 1}, {4, "132", "1432", 3}, {5, "132", "12543", 6}, {6, "132", "126543", 12}, {7, "132", "1276543", 20},
	} {
		best, most, ok := impl.MostPlaces(c.n, orderOf(c.pattern))
		if !ok || textByHand(best) != c.best || most != c.most {
			t.Errorf("MostPlaces(%d, %s) = %v, %d, %v; want %s, %d", c.n, c.pattern, best, most, ok, c.best, c.most)
		}
		if len(placesByHand(orderOf(c.best), orderOf(c.pattern))) != c.most {
			t.Errorf("%s is not %d times in %s", c.pattern, c.most, c.best)
		}
	}
}

func TestMostPlacesRefuses(t *testing.T) {
	refuse := func(n int, pattern []int) {
		t.Helper()
		if best, most, ok := impl.MostPlaces(n, pattern); ok || most != 0 || len(best) != 0 {
			t.Errorf("MostPlaces(%d, %.8v) = %v, %d, %v", n, pattern, best, most, ok)
		}
	}
	for _, n := range noSizes() {
		for _, pattern := range append(fewOrders(), noOrders()...) {
			refuse(n, pattern)
		}
	}
	for n := 1; n <= impl.MaxSize; n++ {
		for _, list := range noOrders() {
			refuse(n, list)
		}
	}
}

// dropsByHand tries all lists of places, the shorter ones first.
func dropsByHand(order []int, pattern []int) []int {
	for _, drops := range placeListsOfSize[len(order)] {
		rest := []int{}
		for place, number := range order {
			if !slices.Contains(drops, place) {
				rest = append(rest, number)
			}
		}
		if len(placesByHand(shapeByHand(rest), pattern)) == 0 {
			return drops
		}
	}
	return nil
}

func TestFewestDropsOfEveryPattern(t *testing.T) {
	for _, order := range append(smallOrders(4), fewOrders()...) {
		for _, pattern := range append(smallOrders(4), fewOrders()...) {
			drops, ok := impl.FewestDrops(order, pattern)
			if len(pattern) == 1 {
				wantNoOrder(t, "the pattern of one number", drops, ok)
				continue
			}
			wantOrder(t, textByHand(pattern)+" dropped from "+textByHand(order), drops, ok, dropsByHand(order, pattern))
		}
	}
}

func TestFewestDropsExamples(t *testing.T) {
	for _, c := range []struct {
		order, pattern string
		want           []int
	}{
		{"2314", "21", []int{2}}, {"2314", "12", []int{0, 3}}, {"1", "12", nil}, {"1", "21", nil}, {"1", "7654321", nil}, {"2314", "321", nil},
		{"1234567", "12", []int{0, 1, 2, 3, 4, 5}}, {"1234567", "21", nil}, {"1234567", "123", []int{0, 1, 2, 3, 4}}, {"1234567", "1234567", []int{0}},
		{"2413", "2413", []int{0}}, {"12345", "123456", nil}, {"7162534", "21", []int{0, 2, 4}}, {"214365", "21", []int{0, 2, 4}},
		{"3142", "12", []int{0, 1}}, {"231", "231", []int{0}}, {"3412", "12", []int{0, 2}}, {"1432", "132", []int{0}},
	} {
		drops, ok := impl.FewestDrops(orderOf(c.order), orderOf(c.pattern))
		wantOrder(t, c.pattern+" dropped from "+c.order, drops, ok, c.want)
	}
	for _, order := range smallOrders(impl.MaxSize) {
		drops, ok := impl.FewestDrops(order, []int{1})
		wantNoOrder(t, "the pattern of one number", drops, ok)
	}
}

func TestInsertLastOfEveryOrder(t *testing.T) {
	for _, order := range smallOrders(impl.MaxSize - 1) {
		n := len(order)
		for k := 1; k <= n+1; k++ {
			longer, ok := impl.InsertLast(order, k)
			if !ok || len(longer) != n+1 || longer[n] != k || !impl.IsOrder(longer) || !slices.Equal(shapeByHand(longer[:n]), order) {
				t.Fatalf("InsertLast(%v, %d) = %v, %v", order, k, longer, ok)
			}
		}
	}
	for _, c := range []struct {
		order string
		k     int
		want  string
	}{
		{"1", 1, "21"}, {"1", 2, "12"}, {"21", 1, "321"}, {"21", 2, "312"}, {"21", 3, "213"}, {"123456", 1, "2345671"},
		{"123456", 7, "1234567"}, {"654321", 4, "7653214"}, {"2413", 3, "25143"},
	} {
		longer, ok := impl.InsertLast(orderOf(c.order), c.k)
		wantOrder(t, "insert "+strconv.Itoa(c.k), longer, ok, orderOf(c.want))
	}
}

func TestInsertLastRefuses(t *testing.T) {
	for _, order := range fewOrders() {
		n := len(order)
		for _, k := range []int{0, -1, n + 2, -n, 100, 1 << 32, 1<<32 + 1, math.MaxInt, math.MinInt} {
			longer, ok := impl.InsertLast(order, k)
			wantNoOrder(t, "insert "+strconv.Itoa(k), longer, ok)
		}
		for k := -1; k <= impl.MaxSize+2; k++ {
			longer, ok := impl.InsertLast(order, k)
			if ok != (n < impl.MaxSize && k >= 1 && k <= n+1) || ok != (len(longer) > 0) {
				t.Errorf("InsertLast(%v, %d) = %v, %v", order, k, longer, ok)
			}
		}
	}
	for _, list := range noOrders() {
		for k := -1; k <= impl.MaxSize+2; k++ {
			longer, ok := impl.InsertLast(list, k)
			wantNoOrder(t, "insert in no order", longer, ok)
		}
	}
}

func TestCountChildren(t *testing.T) {
	for _, c := range []struct {
		order, patterns string
		want            int
	}{
		{"21", "231", 3}, {"12", "231", 2}, {"1", "", 2}, {"1", "1", 0}, {"1", "12", 1}, {"1", "21", 1}, {"1", "12 21", 0}, {"123456", "", 7},
		{"654321", "", 7}, {"231", "231", 0}, {"12", "12", 0}, {"123456", "231", 2}, {"654321", "231", 7}, {"123456", "1234567", 6},
		{"123456", "7654321", 7}, {"12", "231 231 231 231", 2}, {"2413", "3142", 4}, {"132", "123 321", 0}, {"213", "123 321", 2}, {"2143", "123 321", 0},
	} {
		count, ok := impl.CountChildren(orderOf(c.order), ordersOfTexts(c.patterns))
		if !ok || count != c.want {
			t.Errorf("CountChildren(%s, %s) = %d, %v; want %d", c.order, c.patterns, count, ok, c.want)
		}
	}
	for _, order := range fewOrders() {
		for _, patterns := range patternLists() {
			count, ok := impl.CountChildren(order, patterns)
			if len(order) == impl.MaxSize {
				wantNoNumber(t, "children of the greatest size", count, ok)
				continue
			}
			want := 0
			for _, longer := range childrenByHand(order) {
				if avoidsByHand(longer, patterns) {
					want++
				}
			}
			if !ok || count != want {
				t.Errorf("CountChildren(%v, %v) = %d, %v; want %d", order, patterns, count, ok, want)
			}
		}
	}
}

// childrenByHand returns the orders of one number more whose beginning has the shape of an order.
func childrenByHand(order []int) [][]int {
	var children [][]int
	for k := 1; k <= len(order)+1; k++ {
		longer := []int{}
		for _, number := range order {
			longer = append(longer, 10*number)
		}
		children = append(children, shapeByHand(append(longer, 10*k-5)))
	}
	return children
}

func TestOrdersThatAvoidAreCountedByTheirChildren(t *testing.T) {
	for _, patterns := range append(patternLists(), nil) {
		for n := 1; n < impl.MaxSize; n++ {
			sum := 0
			for _, order := range ordersByHand(n) {
				avoids, ok := impl.AvoidsAll(order, patterns)
				children, fine := impl.CountChildren(order, patterns)
				if !ok || !fine || !avoids && children != 0 {
					t.Errorf("%v avoids %v: %v, with %d children", order, patterns, avoids, children)
				}
				if avoids {
					sum += children
				}
			}
			count, ok := impl.CountAvoiding(n+1, patterns)
			if !ok || count != sum {
				t.Errorf("%d orders of %d numbers avoid %v, %v, but there are %d children", count, n+1, patterns, ok, sum)
			}
		}
	}
}

// patternsTold returns all that the functions of the chapter tell of an order and some patterns: lists, and the rest as a text.
func patternsTold(order []int, patterns [][]int, k int) ([][]int, string) {
	var lists [][]int
	told := []string{}
	add := func(ok bool, number int, list ...[]int) {
		lists = append(lists, list...)
		told = append(told, strconv.FormatBool(ok)+" "+strconv.Itoa(number)+" "+strconv.Itoa(len(list)))
	}
	report := func(is bool, ok bool) { told = append(told, strconv.FormatBool(is)+" "+strconv.FormatBool(ok)) }
	for _, pattern := range append(slices.Clone(patterns[:min(len(patterns), 5)]), order) {
		report(impl.ContainsPattern(order, pattern))
		first, ok := impl.FirstPlaces(order, pattern)
		add(ok, 0, first)
		count, ok := impl.CountPlaces(order, pattern)
		add(ok, count)
		best, most, ok := impl.MostPlaces(min(k, 4), pattern)
		add(ok, most, best)
		drops, ok := impl.FewestDrops(order, pattern)
		add(ok, 0, drops)
	}
	shape, ok := impl.ShapeOf(order)
	add(ok, 0, shape)
	in, ok := impl.PatternsIn(order, k)
	add(ok, len(in), in...)
	report(impl.AvoidsAll(order, patterns))
	count, ok := impl.CountAvoiding(min(k, 4), patterns)
	add(ok, count)
	first, ok := impl.FirstAvoiding(k, patterns)
	add(ok, 0, first)
	longer, ok := impl.InsertLast(order, k)
	add(ok, 0, longer)
	children, ok := impl.CountChildren(order, patterns)
	add(ok, children)
	return lists, strings.Join(told, "|")
}

// widened returns a copy with a number behind its end, where an append to it would write.
func widened(list []int) []int { return append(slices.Clone(list), 77)[:len(list)] }

func isAsBefore(list []int, before []int) bool {
	return slices.Equal(list, before) && list[:len(list)+1][len(list)] == 77
}

func TestPatternsKeepTheirArguments(t *testing.T) {
	for _, order := range append(fewOrders(), noOrders()...) {
		for _, patterns := range [][][]int{{}, {{1, 2, 3}}, {{2, 1}, {2, 3, 1}, order}, {{1}, {1, 1}}, {{3, 2, 1}, {2, 4, 1, 3}, {1, 3, 2}, {}, {1}}} {
			wide := widened(order)
			given := [][]int{}
			for _, pattern := range patterns {
				given = append(given, widened(pattern))
			}
			given = append(given, []int{7, 7})[:len(patterns)]
			for k := range 5 {
				patternsTold(wide, given, k)
			}
			if !isAsBefore(wide, order) || !slices.EqualFunc(given, patterns, isAsBefore) || !slices.Equal(given[:len(given)+1][len(given)], []int{7, 7}) {
				t.Errorf("changed: %.8v, %.8v", wide, given)
			}
		}
	}
}

func TestPatternsShareNoMemory(t *testing.T) {
	for _, order := range fewOrders() {
		patterns := [][]int{{2, 1}, {2, 3, 1}, {1, 3, 2}, slices.Clone(order)}
		for k := 1; k <= 5; k++ {
			before := slices.Clone(order)
			same := tellsTheSame(t, func() ([][]int, string) { return patternsTold(order, patterns, k) })
			if !same || !slices.Equal(order, before) || !slices.EqualFunc(patterns, [][]int{{2, 1}, {2, 3, 1}, {1, 3, 2}, before}, slices.Equal) {
				t.Fatal("results are kept, or share memory with", before)
			}
		}
	}
}

func TestListsOfPatternsInAreNewEachTime(t *testing.T) {
	order := []int{2, 5, 3, 1, 4}
	first, _ := impl.PatternsIn(order, 2)
	first[0] = nil
	_ = append(first[:1], []int{9, 9})
	second, ok := impl.PatternsIn(order, 2)
	wantText(t, "patterns of two numbers", textOfOrders(second), ok, "12 21")
}

func TestPatternsReturnTheSameForAnyArguments(t *testing.T) {
	for _, order := range append(noOrders(), fewOrders()...) {
		for _, patterns := range [][][]int{nil, {{}}, {order}, {{1, 3, 2}, {2, 1}}, {order, order, order, order, order}, {{0}}, {upFrom1(1 << 10)}} {
			for _, k := range []int{0, 1, 3, impl.MaxSize, impl.MaxSize + 1, math.MinInt, math.MaxInt} {
				if !tellsTheSame(t, func() ([][]int, string) { return patternsTold(order, patterns, k) }) {
					t.Errorf("differs: %.8v, %.8v, %d", order, patterns, k)
				}
			}
		}
	}
}
