package tests

import (
	"math"
	"slices"
	"strconv"
	"strings"
	"testing"

	"loop.example/g01286/impl"
)

var wordsOfSize = func() [][]string {
	table := [][]string{nil}
	for n := 1; n <= impl.MaxSize; n++ {
		table = append(table, wordsByHand(n))
	}
	return table
}()

// sweepByHand goes by the greatest number: what is on its left comes out first, then what is on its right, and it last.
func sweepByHand(order []int) []int {
	if len(order) == 0 {
		return []int{}
	}
	at := slices.Index(order, slices.Max(order))
	return append(append(sweepByHand(order[:at]), sweepByHand(order[at+1:])...), order[at])
}

// sweepWordByHand puts the signs in the same way: the greatest number is pushed when the left part is out, and popped last.
func sweepWordByHand(order []int) string {
	if len(order) == 0 {
		return ""
	}
	at := slices.Index(order, slices.Max(order))
	return sweepWordByHand(order[:at]) + "I" + sweepWordByHand(order[at+1:]) + "O"
}

func sweepsByHand(order []int) int {
	count := 0
	for !slices.IsSorted(order) {
		order = sweepByHand(order)
		count++
	}
	return count
}

// badTripleByHand returns no places if there are none.
func badTripleByHand(order []int) []int {
	for i := range order {
		for j := i + 1; j < len(order); j++ {
			for k := j + 1; k < len(order); k++ {
				if order[k] < order[i] && order[i] < order[j] {
					return []int{i, j, k}
				}
			}
		}
	}
	return nil
}

// sortedByWords tells which word sorts an order, for the texts of all sortable orders of n numbers: it tries all words for all orders.
func sortedByWords(n int) map[string]string {
	found := map[string]string{}
	for _, order := range ordersByHand(n) {
		if w := wordToByHand(order, upFrom1(n), wordsOfSize[n]); w != "" {
			found[textByHand(order)] = w
		}
	}
	return found
}

func TestSortableOrdersAndTheirWords(t *testing.T) {
	for n := 1; n <= impl.MaxSize; n++ {
		found := sortedByWords(n)
		for _, order := range ordersByHand(n) {
			want, wanted := found[textByHand(order)]
			can, ok := impl.IsSortable(order)
			if !ok || can != wanted {
				t.Errorf("IsSortable(%v) = %v, %v; want %v", order, can, ok, wanted)
			}
			w, ok := impl.SortingWord(order)
			if w != want || ok != wanted {
				t.Errorf("SortingWord(%v) = %q, %v; want %q", order, w, ok, want)
			}
			if ok {
				back, ok := impl.OrderOfWord(w)
				wantOrder(t, "OrderOfWord "+w, back, ok, order)
			}
		}
		count, ok := impl.CountOneStack(n)
		if !ok || count != len(found) {
			t.Errorf("CountOneStack(%d) = %d, %v; want %d", n, count, ok, len(found))
		}
	}
}

func TestOrdersOfWords(t *testing.T) {
	for n := 1; n <= impl.MaxSize; n++ {
		different := map[string]bool{}
		for _, w := range wordsOfSize[n] {
			order, ok := impl.OrderOfWord(w)
			if !ok || !impl.IsOrder(order) || len(order) != n {
				t.Fatalf("OrderOfWord(%q) = %v, %v", w, order, ok)
			}
			wantOrder(t, w+" sorts "+textByHand(order), runByHand(order, w), true, upFrom1(n))
			back, ok := impl.SortingWord(order)
			wantText(t, "SortingWord "+textByHand(order), back, ok, w)
			different[textByHand(order)] = true
		}
		if len(different) != len(wordsOfSize[n]) {
			t.Errorf("%d orders of %d words for %d numbers", len(different), len(wordsOfSize[n]), n)
		}
	}
}

func TestSortingWordExamples(t *testing.T) {
	for order, w := range map[string]string{
		"1": "IO", "12": "IOIO", "21": "IIOO", "312": "IIOIOO", "321": "IIIOOO", "213": "IIOOIO", "132": "IOIIOO", "123": "IOIOIO",
		"1234567": "IOIOIOIOIOIOIO", "7654321": "IIIIIIIOOOOOOO", "7123456": "IIOIOIOIOIOIOO", "2143657": "IIOOIIOOIIOOIO",
		"3214765": "IIIOOOIOIIIOOO", "5213476": "IIIOOIOIOOIIOO",
	} {
		got, ok := impl.SortingWord(orderOf(order))
		wantText(t, "SortingWord "+order, got, ok, w)
		back, ok := impl.OrderOfWord(w)
		wantOrder(t, "OrderOfWord "+w, back, ok, orderOf(order))
	}
	for _, order := range []string{"231", "2341", "2413", "3412", "1342", "4231", "2314567", "7234561", "1234675", "6712345", "2345671"} {
		can, ok := impl.IsSortable(orderOf(order))
		if can || !ok {
			t.Errorf("IsSortable(%s) = %v, %v", order, can, ok)
		}
		w, ok := impl.SortingWord(orderOf(order))
		wantNoText(t, "SortingWord "+order, w, ok)
	}
}

func TestSweepsOfEveryOrder(t *testing.T) {
	for _, order := range smallOrders(impl.MaxSize) {
		want := sweepByHand(order)
		sweep, ok := impl.SweepOrder(order)
		wantOrder(t, "sweep of "+textByHand(order), sweep, ok, want)
		w, ok := impl.SweepWord(order)
		wantText(t, "sweep word of "+textByHand(order), w, ok, sweepWordByHand(order))
		wantOrder(t, textByHand(order)+" by "+w, runByHand(order, w), true, want)
		count, ok := impl.CountSweeps(order)
		if !ok || count != sweepsByHand(order) || count > max(0, len(order)-1) || (count == 0) != slices.IsSorted(order) {
			t.Errorf("CountSweeps(%v) = %d, %v", order, count, ok)
		}
	}
}

func TestSweepExamples(t *testing.T) {
	for _, c := range []struct {
		order, sweep, w string
		count           int
	}{
		{"1", "1", "IO", 0}, {"12", "12", "IOIO", 0}, {"21", "12", "IIOO", 1}, {"231", "213", "IOIIOO", 2}, {"312", "123", "IIOIOO", 1},
		{"321", "123", "IIIOOO", 1}, {"2341", "2314", "IOIOIIOO", 3}, {"4123", "1234", "IIOIOIOO", 1}, {"3142", "1324", "IIOOIIOO", 2},
		{"1234567", "1234567", "IOIOIOIOIOIOIO", 0}, {"7654321", "1234567", "IIIIIIIOOOOOOO", 1}, {"2345671", "2345617", "IOIOIOIOIOIIOO", 6},
		{"5371624", "3512467", "IIOOIIOIIOIOOO", 3}, {"6712345", "6123457", "IOIIOIOIOIOIOO", 2},
	} {
		sweep, ok := impl.SweepOrder(orderOf(c.order))
		wantOrder(t, "sweep of "+c.order, sweep, ok, orderOf(c.sweep))
		w, ok := impl.SweepWord(orderOf(c.order))
		wantText(t, "sweep word of "+c.order, w, ok, c.w)
		count, ok := impl.CountSweeps(orderOf(c.order))
		if !ok || count != c.count {
			t.Errorf("CountSweeps(%s) = %d, %v; want %d", c.order, count, ok, c.count)
		}
	}
}

func TestHowManyOrdersFewSweepsSort(t *testing.T) {
	one := []int{0, 1, 2, 5, 14, 42, 132, 429}
	two := []int{0, 1, 2, 6, 22, 91, 408, 1938}
	for n := 1; n <= impl.MaxSize; n++ {
		var counts [impl.MaxSize + 1]int
		for _, order := range ordersByHand(n) {
			count, _ := impl.CountSweeps(order)
			counts[count]++
			if n > 1 && (count == n-1) != (order[n-2] == n && order[n-1] == 1) {
				t.Errorf("%d sweeps of %v", count, order)
			}
		}
		if counts[0] != 1 || counts[0]+counts[1] != one[n] || counts[0]+counts[1]+counts[2] != two[n] {
			t.Errorf("sweeps of all orders of %d numbers: %v", n, counts)
		}
	}
}

func TestAnOrderIsSortableExactlyIfItsSweepIsSorted(t *testing.T) {
	for _, order := range smallOrders(impl.MaxSize) {
		can, one := impl.IsSortable(order)
		sweep, two := impl.SweepOrder(order)
		sweepWord, three := impl.SweepWord(order)
		w, four := impl.SortingWord(order)
		triple, five := impl.BadTriple(order)
		if !one || !two || !three || can != slices.IsSorted(sweep) || can != four || can == five {
			t.Errorf("%v: sortable %v, sweep %v, word %q, bad triple %v", order, can, sweep, w, triple)
		}
		if len(sweep) != len(order) || sweep[len(sweep)-1] != len(order) {
			t.Errorf("the sweep of %v is %v", order, sweep)
		}
		if can && w != sweepWord || !can && w != "" {
			t.Errorf("%v is sorted by %q, but swept by %q", order, w, sweepWord)
		}
	}
}

func TestRanksOfWords(t *testing.T) {
	for n := 1; n <= impl.MaxSize; n++ {
		for k, w := range wordsOfSize[n] {
			rank, ok := impl.RankOfWord(w)
			if !ok || rank != k {
				t.Errorf("RankOfWord(%q) = %d, %v; want %d", w, rank, ok, k)
			}
			at, ok := impl.WordAt(n, k)
			wantText(t, "WordAt "+strconv.Itoa(n)+" "+strconv.Itoa(k), at, ok, w)
		}
	}
	for w, want := range map[string]int{
		"IO": 0, "IIOO": 0, "IOIO": 1, "IIIOOO": 0, "IIOIOO": 1, "IIOOIO": 2, "IOIIOO": 3, "IOIOIO": 4, "IIIIIIIOOOOOOO": 0, "IOIOIOIOIOIOIO": 428,
		"IOIIIIIIOOOOOO": 297, "IOIOIOIOIOIIOO": 427,
	} {
		rank, ok := impl.RankOfWord(w)
		if !ok || rank != want {
			t.Errorf("RankOfWord(%q) = %d, %v; want %d", w, rank, ok, want)
		}
		at, ok := impl.WordAt(len(w)/2, want)
		wantText(t, "WordAt "+strconv.Itoa(want), at, ok, w)
	}
}

func TestWordAtBounds(t *testing.T) {
	for n, count := range []int{0, 1, 2, 5, 14, 42, 132, 429} {
		if n == 0 {
			continue
		}
		last, ok := impl.WordAt(n, count-1)
		wantText(t, "the last word", last, ok, strings.Repeat("IO", n))
		first, ok := impl.WordAt(n, 0)
		wantText(t, "the first word", first, ok, strings.Repeat("I", n)+strings.Repeat("O", n))
		for _, k := range []int{-1, -2, -count, count, count + 1, 430, 5040, 1 << 32, 1<<32 + 1, math.MaxInt, math.MinInt} {
			w, ok := impl.WordAt(n, k)
			wantNoText(t, strconv.Itoa(n)+" numbers at "+strconv.Itoa(k), w, ok)
		}
	}
	for _, n := range noSizes() {
		for _, k := range []int{0, 1, -1, 428, 429, 1429, math.MaxInt} {
			w, ok := impl.WordAt(n, k)
			wantNoText(t, strconv.Itoa(n)+" numbers at "+strconv.Itoa(k), w, ok)
		}
	}
}

func TestCountOneStack(t *testing.T) {
	for n, want := range []int{0, 1, 2, 5, 14, 42, 132, 429} {
		count, ok := impl.CountOneStack(n)
		if ok != (n > 0) || count != want {
			t.Errorf("CountOneStack(%d) = %d, %v; want %d", n, count, ok, want)
		}
		if n == 0 {
			continue
		}
		if avoiding, ok := impl.CountAvoiding(n, [][]int{{2, 3, 1}}); !ok || avoiding != count {
			t.Errorf("%d orders of %d numbers are sortable, but %d avoid 231", count, n, avoiding)
		}
	}
	for _, n := range noSizes() {
		count, ok := impl.CountOneStack(n)
		wantNoNumber(t, "orders of "+strconv.Itoa(n), count, ok)
	}
}

func wantTriple(t *testing.T, order []int, want []int) {
	t.Helper()
	triple, ok := impl.BadTriple(order)
	if ok != (want != nil) || !ok && triple != [3]int{} || ok && !slices.Equal(triple[:], want) {
		t.Errorf("BadTriple(%.8v) = %v, %v; want %v", order, triple, ok, want)
	}
}

func TestBadTriple(t *testing.T) {
	for _, order := range smallOrders(impl.MaxSize) {
		wantTriple(t, order, badTripleByHand(order))
	}
	for _, c := range []struct {
		order string
		want  []int
	}{
		{"231", []int{0, 1, 2}}, {"1342", []int{1, 2, 3}}, {"2413", []int{0, 1, 2}}, {"3421", []int{0, 1, 2}}, {"2341", []int{0, 1, 3}},
		{"4231", []int{1, 2, 3}}, {"7123564", []int{4, 5, 6}}, {"7234561", []int{1, 2, 6}}, {"2567341", []int{0, 1, 6}}, {"3764512", []int{0, 1, 5}},
		{"1", nil}, {"12", nil}, {"21", nil}, {"312", nil}, {"1234567", nil}, {"7654321", nil}, {"7123456", nil},
	} {
		wantTriple(t, orderOf(c.order), c.want)
	}
}

func TestRecordPlaces(t *testing.T) {
	for _, order := range smallOrders(impl.MaxSize) {
		want := []int{}
		for place, number := range order {
			if !slices.ContainsFunc(order[:place], func(ahead int) bool { return ahead > number }) {
				want = append(want, place)
			}
		}
		places, ok := impl.RecordPlaces(order)
		wantOrder(t, "record places of "+textByHand(order), places, ok, want)
	}
	for order, want := range map[string][]int{
		"1": {0}, "12": {0, 1}, "21": {0}, "231": {0, 1}, "312": {0}, "1234567": upFrom0(7), "7654321": {0}, "2143657": {0, 2, 4, 6}, "3127456": {0, 3},
	} {
		places, ok := impl.RecordPlaces(orderOf(order))
		wantOrder(t, "record places of "+order, places, ok, want)
	}
}

func TestSweptFromEveryOrder(t *testing.T) {
	for n := 1; n <= impl.MaxSize; n++ {
		from := map[string][][]int{}
		for _, order := range ordersByHand(n) {
			sweep := textByHand(sweepByHand(order))
			from[sweep] = append(from[sweep], order)
		}
		for k, order := range ordersByHand(n) {
			// Looking at each order of MaxSize numbers takes long.
			if n == impl.MaxSize && k%7 != 0 && order[n-1] < n {
				continue
			}
			want := from[textByHand(order)]
			got, ok := impl.SweptFrom(order)
			wantText(t, "SweptFrom "+textByHand(order), textOfOrders(got), ok, textOfOrders(want))
			if order[n-1] != n && len(got) != 0 {
				t.Errorf("the greatest number is not the last one of %v, but %v lead to it", order, got)
			}
		}
	}
}

func TestSweptFromExamples(t *testing.T) {
	for order, want := range map[string]string{
		"1": "1", "12": "12 21", "21": "", "123": "123 132 213 312 321", "213": "231", "132": "", "231": "", "312": "", "321": "",
		"1324": "1342 3142", "2314": "2341 3241", "3214": "", "1243": "", "7654321": "", "7123456": "", "1234576": "",
		"2143657": "2416375", "2153647": "2516374", "3126457": "3612745 3612754 3621745 3621754", "6543217": "", "4321567": "4736251", "1236547": "",
	} {
		got, ok := impl.SweptFrom(orderOf(order))
		wantText(t, "SweptFrom "+order, textOfOrders(got), ok, want)
	}
}

func TestSweptFromSorted(t *testing.T) {
	for n := 1; n <= impl.MaxSize; n++ {
		got, ok := impl.SweptFrom(upFrom1(n))
		count, _ := impl.CountOneStack(n)
		if !ok || len(got) != count || !slices.IsSortedFunc(got, slices.Compare) {
			t.Errorf("%d orders of %d numbers are swept to the sorted one, %v; want %d", len(got), n, ok, count)
		}
	}
}

// blocksByHand tries all ways to cut an order and takes the one with the most parts.
func blocksByHand(order []int) []int {
	var best []int
	for bits := range 1 << (len(order) - 1) {
		lengths, from := []int{}, 0
		for place := range order {
			if place+1 < len(order) && bits>>place&1 == 0 {
				continue
			}
			part := slices.Sorted(slices.Values(order[from : place+1]))
			if part[0] != from+1 || part[len(part)-1] != place+1 {
				lengths = nil
				break
			}
			lengths = append(lengths, place+1-from)
			from = place + 1
		}
		if len(lengths) > len(best) {
			best = lengths
		}
	}
	return best
}

func TestBlocksOf(t *testing.T) {
	for _, order := range append(smallOrders(6), fewOrders()...) {
		blocks, ok := impl.BlocksOf(order)
		wantOrder(t, "blocks of "+textByHand(order), blocks, ok, blocksByHand(order))
	}
	for order, want := range map[string][]int{
		"1": {1}, "12": {1, 1}, "21": {2}, "213": {2, 1}, "132": {1, 2}, "231": {3}, "312": {3}, "1234567": {1, 1, 1, 1, 1, 1, 1},
		"7654321": {7}, "2143657": {2, 2, 2, 1}, "1765432": {1, 6}, "3124567": {3, 1, 1, 1, 1}, "2314756": {3, 1, 3}, "2345671": {7}, "6543217": {6, 1},
	} {
		blocks, ok := impl.BlocksOf(orderOf(order))
		wantOrder(t, "blocks of "+order, blocks, ok, want)
	}
}

func TestBlocksCanBeSortedOneBehindTheOther(t *testing.T) {
	for _, order := range smallOrders(impl.MaxSize) {
		blocks, ok := impl.BlocksOf(order)
		if !ok {
			t.Fatal(order)
		}
		from, all := 0, true
		for _, length := range blocks {
			shape, _ := impl.ShapeOf(order[from : from+length])
			if slices.Min(order[from:from+length]) != from+1 {
				t.Fatalf("blocks of %v: %v", order, blocks)
			}
			can, _ := impl.IsSortable(shape)
			all = all && can
			from += length
		}
		can, _ := impl.IsSortable(order)
		if from != len(order) || can != all {
			t.Errorf("%v is sortable: %v, its blocks %v: %v", order, can, blocks, all)
		}
	}
}

func TestOneStackRefusesNoOrders(t *testing.T) {
	for _, list := range noOrders() {
		can, ok := impl.IsSortable(list)
		if can || ok {
			t.Errorf("sortable: %.8v", list)
		}
		w, ok := impl.SortingWord(list)
		wantNoText(t, "sorting word", w, ok)
		sweep, ok := impl.SweepOrder(list)
		wantNoOrder(t, "sweep", sweep, ok)
		w, ok = impl.SweepWord(list)
		wantNoText(t, "sweep word", w, ok)
		count, ok := impl.CountSweeps(list)
		wantNoNumber(t, "sweeps", count, ok)
		wantTriple(t, list, nil)
		places, ok := impl.RecordPlaces(list)
		wantNoOrder(t, "record places", places, ok)
		if from, ok := impl.SweptFrom(list); ok || len(from) != 0 {
			t.Errorf("SweptFrom(%.8v) = %v, %v", list, from, ok)
		}
		blocks, ok := impl.BlocksOf(list)
		wantNoOrder(t, "blocks", blocks, ok)
	}
}

func TestOneStackRefusesNoWords(t *testing.T) {
	refuse := func(w string) {
		t.Helper()
		order, ok := impl.OrderOfWord(w)
		wantNoOrder(t, "order of no word", order, ok)
		rank, ok := impl.RankOfWord(w)
		wantNoNumber(t, "rank of no word", rank, ok)
	}
	for _, w := range noWords() {
		refuse(w)
	}
	for _, w := range allTexts("IOo", 6) {
		if depthByHand(w) == 0 {
			refuse(w)
		}
	}
	for _, w := range allTexts("IO", 2*impl.MaxSize-1) {
		if len(w) > 6 && depthByHand(w) == 0 {
			refuse(w)
		}
	}
}

// oneStackTold returns all that the functions of the chapter tell of an order, a word and a number: lists, and the rest as a text.
func oneStackTold(order []int, w string, k int) ([][]int, string) {
	var lists [][]int
	told := []string{}
	add := func(s string, ok bool, list ...[]int) {
		lists = append(lists, list...)
		told = append(told, s+" "+strconv.FormatBool(ok)+" "+strconv.Itoa(len(list)))
	}
	addNumber := func(number int, ok bool) { add(strconv.Itoa(number), ok) }
	can, ok := impl.IsSortable(order)
	add(strconv.FormatBool(can), ok)
	text, ok := impl.SortingWord(order)
	add(text, ok)
	sweep, ok := impl.SweepOrder(order)
	add("", ok, sweep)
	text, ok = impl.SweepWord(order)
	add(text, ok)
	addNumber(impl.CountSweeps(order))
	back, ok := impl.OrderOfWord(w)
	add("", ok, back)
	addNumber(impl.RankOfWord(w))
	text, ok = impl.WordAt(k, len(order))
	add(text, ok)
	text, ok = impl.WordAt(len(order), k)
	add(text, ok)
	addNumber(impl.CountOneStack(k))
	triple, ok := impl.BadTriple(order)
	add("", ok, triple[:])
	places, ok := impl.RecordPlaces(order)
	add("", ok, places)
	from, ok := impl.SweptFrom(order)
	add("", ok, from...)
	blocks, ok := impl.BlocksOf(order)
	add("", ok, blocks)
	return lists, strings.Join(told, "|")
}

// ordersWithSweeps are few orders, and sweeps of them, to which others lead.
func ordersWithSweeps() [][]int {
	orders := fewOrders()
	for _, order := range fewOrders() {
		orders = append(orders, sweepByHand(order))
	}
	return orders
}

func TestOneStackKeepsItsArguments(t *testing.T) {
	for _, order := range append(ordersWithSweeps(), noOrders()...) {
		wide := widened(order)
		for _, k := range []int{0, 1, 5} {
			oneStackTold(wide, strings.Repeat("IO", min(len(order), 10)), k)
		}
		if !isAsBefore(wide, order) {
			t.Errorf("changed: %.8v", wide)
		}
	}
}

func TestOneStackSharesNoMemory(t *testing.T) {
	for _, order := range ordersWithSweeps() {
		before, w := slices.Clone(order), strings.Repeat("IO", len(order))
		same := tellsTheSame(t, func() ([][]int, string) { return oneStackTold(order, w, 3) })
		if !same || !slices.Equal(order, before) {
			t.Fatal("results are kept, or share memory with", before)
		}
	}
}

func TestListsOfSweptFromAreNewEachTime(t *testing.T) {
	first, _ := impl.SweptFrom([]int{1, 2, 3})
	first[0] = nil
	_ = append(first[:1], []int{9, 9, 9})
	second, ok := impl.SweptFrom([]int{1, 2, 3})
	wantText(t, "SweptFrom 123", textOfOrders(second), ok, "123 132 213 312 321")
}

func TestOneStackReturnsTheSameForAnyArguments(t *testing.T) {
	for _, order := range append(noOrders(), ordersWithSweeps()...) {
		for k, w := range map[int]string{
			0: "", 1: "\xff", 2: "OI", impl.MaxSize: "IIOO", impl.MaxSize + 1: strings.Repeat("IO", 7), math.MinInt: "IO", math.MaxInt: strings.Repeat("I\u00ff", 1<<10),
		} {
			if !tellsTheSame(t, func() ([][]int, string) { return oneStackTold(order, w, k) }) {
				t.Errorf("differs: %.8v, %.8q, %d", order, w, k)
			}
		}
	}
}
