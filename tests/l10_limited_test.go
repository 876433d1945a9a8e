package tests

import (
	"math"
	"slices"
	"strconv"
	"strings"
	"testing"

	"loop.example/g01286/impl"
)

// withinByHand leaves out the words that are deeper than d.
func withinByHand(n int, d int) []string {
	return slices.DeleteFunc(slices.Clone(wordsOfSize[n]), func(w string) bool { return depthByHand(w) > d })
}

// wordsWithin has the words within each limit for each size.
var wordsWithin = func() [impl.MaxSize + 1][impl.MaxSize + 1][]string {
	var table [impl.MaxSize + 1][impl.MaxSize + 1][]string
	for n := 1; n <= impl.MaxSize; n++ {
		for d := 1; d <= impl.MaxSize; d++ {
			table[n][d] = withinByHand(n, d)
		}
	}
	return table
}()

// mostOfOrders has for the text of each order and for each limit how many of the numbers from 1 up come out first by one of the words within it.
// It runs all orders by all words: what is on the stack can always come out later, so whole words tell it.
var mostOfOrders = func() map[string][impl.MaxSize + 1]int {
	table := map[string][impl.MaxSize + 1]int{}
	for n := 1; n <= impl.MaxSize; n++ {
		for _, order := range ordersByHand(n) {
			var most [impl.MaxSize + 1]int
			for _, w := range wordsOfSize[n] {
				depth := depthByWord[w]
				most[depth] = max(most[depth], numbersFrom1(runByHand(order, w)))
			}
			for d := 1; d <= impl.MaxSize; d++ {
				most[d] = max(most[d], most[d-1])
			}
			table[textByHand(order)] = most
		}
	}
	return table
}()

var depthByWord = func() map[string]int {
	table := map[string]int{}
	for _, words := range wordsOfSize {
		for _, w := range words {
			table[w] = depthByHand(w)
		}
	}
	return table
}()

// numbersFrom1 tells how many numbers a list has ahead of the first one that is not at its own place.
func numbersFrom1(list []int) int {
	count := 0
	for count < len(list) && list[count] == count+1 {
		count++
	}
	return count
}

// limitByHand returns 0 for an order that is not sortable.
func limitByHand(order []int) int {
	for d := 1; d <= impl.MaxSize; d++ {
		if mostOfOrders[textByHand(order)][d] == len(order) {
			return d
		}
	}
	return 0
}

// limitedByHand pushes and pops as the document tells it, and returns the limited sweep and its word.
func limitedByHand(order []int, d int) ([]int, string) {
	var stack, out []int
	w := ""
	pop := func() {
		out = append(out, stack[len(stack)-1])
		stack = stack[:len(stack)-1]
		w += "O"
	}
	for _, number := range order {
		for len(stack) > 0 && stack[len(stack)-1] < number {
			pop()
		}
		if len(stack) == d {
			pop()
		}
		stack = append(stack, number)
		w += "I"
	}
	for len(stack) > 0 {
		pop()
	}
	return out, w
}

func limitedSweepsByHand(order []int, d int) int {
	count := 0
	for !slices.IsSorted(order) {
		order, _ = limitedByHand(order, d)
		count++
	}
	return count
}

// bubbleByHand carries the greatest number so far along: each lesser one behind it comes ahead of it.
func bubbleByHand(order []int) []int {
	var out []int
	carried := order[0]
	for _, number := range order[1:] {
		out = append(out, min(carried, number))
		carried = max(carried, number)
	}
	return append(out, carried)
}

// noLimits are numbers that are no limits.
func noLimits() []int {
	return []int{0, -1, -2, -impl.MaxSize, impl.MaxSize + 1, impl.MaxSize + 2, 100, 1 << 32, 1<<32 + 1, math.MaxInt, math.MaxInt - 1, math.MinInt, math.MinInt + 1}
}

func withLimit(what string, d int) string { return what + " with the limit " + strconv.Itoa(d) }

func wantBool(t *testing.T, what string, got bool, ok bool, want bool) {
	t.Helper()
	if !ok || got != want {
		t.Errorf("%s: got %v, %v; want %v", what, got, ok, want)
	}
}

func wantNoBool(t *testing.T, what string, got bool, ok bool) {
	t.Helper()
	if got || ok {
		t.Errorf("%s: got %v, %v; want none", what, got, ok)
	}
}

func TestWordsWithinEveryLimit(t *testing.T) {
	for n := 1; n <= impl.MaxSize; n++ {
		for d := 1; d <= impl.MaxSize; d++ {
			what := withLimit(strconv.Itoa(n)+" numbers", d)
			count, ok := impl.CountWithin(n, d)
			wantNumber(t, what, count, ok, len(wordsWithin[n][d]))
			for k, w := range wordsWithin[n][d] {
				at, ok := impl.WithinAt(n, d, k)
				wantText(t, what+" at "+strconv.Itoa(k), at, ok, w)
				rank, ok := impl.RankWithin(w, d)
				wantNumber(t, withLimit("rank of "+w, d), rank, ok, k)
			}
		}
	}
}

func TestCountWithinExamples(t *testing.T) {
	for i, row := range [][]int{
		{1, 1, 1, 1, 1, 1, 1}, {1, 2, 2, 2, 2, 2, 2}, {1, 4, 5, 5, 5, 5, 5}, {1, 8, 13, 14, 14, 14, 14},
		{1, 16, 34, 41, 42, 42, 42}, {1, 32, 89, 122, 131, 132, 132}, {1, 64, 233, 365, 417, 428, 429},
	} {
		for j, want := range row {
			what := withLimit(strconv.Itoa(i+1)+" numbers", j+1)
			count, ok := impl.CountWithin(i+1, j+1)
			wantNumber(t, "words for "+what, count, ok, want)
			count, ok = impl.CountSortedWithin(i+1, j+1)
			wantNumber(t, "sortable orders of "+what, count, ok, want)
		}
	}
}

func TestCountSortedWithinEveryLimit(t *testing.T) {
	for n := 1; n <= impl.MaxSize; n++ {
		for d := 1; d <= impl.MaxSize; d++ {
			want := 0
			for _, order := range ordersByHand(n) {
				want += oneIf(mostOfOrders[textByHand(order)][d] == n)
			}
			count, ok := impl.CountSortedWithin(n, d)
			wantNumber(t, withLimit("sortable orders of "+strconv.Itoa(n)+" numbers", d), count, ok, want)
		}
	}
}

func TestWordsWithinExamples(t *testing.T) {
	for _, c := range []struct {
		w       string
		d, rank int
	}{
		{"IO", 1, 0}, {"IO", 7, 0}, {"IOIO", 1, 0}, {"IIOO", 2, 0}, {"IOIO", 2, 1}, {"IOIO", 7, 1}, {"IOIOIO", 1, 0},
		{"IIOIOO", 2, 0}, {"IIOOIO", 2, 1}, {"IOIIOO", 2, 2}, {"IOIOIO", 2, 3}, {"IIIOOO", 3, 0}, {"IIOIOO", 3, 1}, {"IOIOIO", 3, 4},
		{"IOIOIOIOIOIOIO", 1, 0}, {"IOIOIOIOIOIOIO", 2, 63}, {"IOIOIOIOIOIOIO", 6, 427}, {"IOIOIOIOIOIOIO", 7, 428},
		{"IIOIOIOIOIOIOO", 2, 0}, {"IIIOIOIOIOIOOO", 3, 0}, {"IIIIIIOIOOOOOO", 6, 0}, {"IIIIIIIOOOOOOO", 7, 0}, {"IIIIIIOIOOOOOO", 7, 1},
	} {
		rank, ok := impl.RankWithin(c.w, c.d)
		wantNumber(t, withLimit("rank of "+c.w, c.d), rank, ok, c.rank)
		at, ok := impl.WithinAt(len(c.w)/2, c.d, c.rank)
		wantText(t, withLimit("word at "+strconv.Itoa(c.rank), c.d), at, ok, c.w)
	}
}

func TestWordsWithinALimitGreaterThanTheNumbers(t *testing.T) {
	for n := 1; n <= impl.MaxSize; n++ {
		for d := n; d <= impl.MaxSize; d++ {
			count, ok := impl.CountWithin(n, d)
			wantNumber(t, withLimit(strconv.Itoa(n)+" numbers", d), count, ok, len(wordsOfSize[n]))
			for k, w := range wordsOfSize[n] {
				at, ok := impl.WithinAt(n, d, k)
				all, okAll := impl.WordAt(n, k)
				wantText(t, withLimit("word", d), at, ok && okAll, all)
				rank, ok := impl.RankWithin(w, d)
				want, okWant := impl.RankOfWord(w)
				wantNumber(t, withLimit("rank of "+w, d), rank, ok && okWant, want)
			}
		}
	}
}

func TestRankWithinRefusesDeeperWords(t *testing.T) {
	for n := 1; n <= impl.MaxSize; n++ {
		for _, w := range wordsOfSize[n] {
			for d := 1; d <= impl.MaxSize; d++ {
				if depthByWord[w] > d {
					rank, ok := impl.RankWithin(w, d)
					wantNoNumber(t, withLimit("rank of "+w, d), rank, ok)
				}
			}
			for _, d := range noLimits() {
				rank, ok := impl.RankWithin(w, d)
				wantNoNumber(t, withLimit("rank of "+w, d), rank, ok)
			}
		}
	}
}

func TestRankWithinRefusesNoWords(t *testing.T) {
	refuse := func(w string) {
		t.Helper()
		for _, d := range []int{1, 2, 3, impl.MaxSize, impl.MaxSize + 1, 0} {
			rank, ok := impl.RankWithin(w, d)
			wantNoNumber(t, withLimit("rank of no word", d), rank, ok)
		}
	}
	for _, w := range noWords() {
		refuse(w)
	}
	for _, w := range append(allTexts("IOo", 6), allTexts("IO", 2*impl.MaxSize-1)...) {
		if depthByHand(w) == 0 {
			refuse(w)
		}
	}
}

func TestWithinAtBounds(t *testing.T) {
	for n := 1; n <= impl.MaxSize; n++ {
		for d := 1; d <= impl.MaxSize; d++ {
			words := wordsWithin[n][d]
			first, ok := impl.WithinAt(n, d, 0)
			wantText(t, "the first word", first, ok, words[0])
			last, ok := impl.WithinAt(n, d, len(words)-1)
			wantText(t, "the last word", last, ok, strings.Repeat("IO", n))
			for _, k := range []int{
				len(words), len(words) + 1, -1, -2, -len(words), len(wordsOfSize[n]), 429, 1429, 1 << 32, 1<<32 + 1, math.MaxInt, math.MinInt, math.MinInt + 1,
			} {
				w, ok := impl.WithinAt(n, d, k)
				wantNoText(t, withLimit(strconv.Itoa(n)+" numbers at "+strconv.Itoa(k), d), w, ok)
			}
		}
	}
}

func TestLimitedRefusesNoSizes(t *testing.T) {
	for _, n := range noSizes() {
		profile, ok := impl.LimitProfile(n)
		wantNoOrder(t, "profile of "+strconv.Itoa(n), profile, ok)
		for _, d := range append(noLimits(), 1, 2, 3, impl.MaxSize) {
			what := withLimit(strconv.Itoa(n)+" numbers", d)
			count, ok := impl.CountWithin(n, d)
			wantNoNumber(t, "words for "+what, count, ok)
			count, ok = impl.CountSortedWithin(n, d)
			wantNoNumber(t, "sortable orders of "+what, count, ok)
			for _, k := range []int{0, 1, -1, math.MaxInt, math.MinInt} {
				w, ok := impl.WithinAt(n, d, k)
				wantNoText(t, "a word for "+what, w, ok)
			}
		}
	}
}

func TestSizesRefuseNoLimits(t *testing.T) {
	for n := 1; n <= impl.MaxSize; n++ {
		for _, d := range noLimits() {
			what := withLimit(strconv.Itoa(n)+" numbers", d)
			count, ok := impl.CountWithin(n, d)
			wantNoNumber(t, "words for "+what, count, ok)
			count, ok = impl.CountSortedWithin(n, d)
			wantNoNumber(t, "sortable orders of "+what, count, ok)
			for _, k := range []int{0, 1, -1, math.MaxInt, math.MinInt} {
				w, ok := impl.WithinAt(n, d, k)
				wantNoText(t, "a word for "+what, w, ok)
			}
		}
	}
}

func TestLimitsOfEveryOrder(t *testing.T) {
	for _, order := range smallOrders(impl.MaxSize) {
		text, want := textByHand(order), limitByHand(order)
		limit, ok := impl.LimitOf(order)
		if want == 0 {
			wantNoNumber(t, "limit of "+text, limit, ok)
		} else {
			wantNumber(t, "limit of "+text, limit, ok, want)
		}
		for d := 1; d <= impl.MaxSize; d++ {
			can, ok := impl.IsSortableWithin(order, d)
			wantBool(t, withLimit(text+" is sortable", d), can, ok, want > 0 && want <= d)
			most, ok := impl.MostWithin(order, d)
			wantNumber(t, withLimit("the most of "+text, d), most, ok, mostOfOrders[text][d])
		}
	}
}

func TestLimitExamples(t *testing.T) {
	for order, want := range map[string]int{
		"1": 1, "12": 1, "21": 2, "123": 1, "132": 2, "213": 2, "312": 2, "321": 3, "1432": 3, "3214765": 3, "5213476": 3, "7123456": 2,
		"2143657": 2, "1234567": 1, "7654321": 7, "1765432": 6, "6543217": 6, "7612345": 3, "1234576": 2,
	} {
		limit, ok := impl.LimitOf(orderOf(order))
		wantNumber(t, "limit of "+order, limit, ok, want)
		for d := 1; d <= impl.MaxSize; d++ {
			can, ok := impl.IsSortableWithin(orderOf(order), d)
			wantBool(t, withLimit(order+" is sortable", d), can, ok, d >= want)
		}
	}
	for _, order := range []string{"231", "2341", "2413", "3412", "1342", "4231", "2314567", "7234561", "1234675", "6712345", "2345671"} {
		limit, ok := impl.LimitOf(orderOf(order))
		wantNoNumber(t, "limit of "+order, limit, ok)
		for d := 1; d <= impl.MaxSize; d++ {
			can, ok := impl.IsSortableWithin(orderOf(order), d)
			wantBool(t, withLimit(order+" is sortable", d), can, ok, false)
		}
	}
}

func TestMostWithinExamples(t *testing.T) {
	for _, c := range []struct {
		order string
		// most has a number for each limit from 1 on.
		most [impl.MaxSize]int
	}{
		{"1", [7]int{1, 1, 1, 1, 1, 1, 1}}, {"12", [7]int{2, 2, 2, 2, 2, 2, 2}}, {"21", [7]int{0, 2, 2, 2, 2, 2, 2}},
		{"321", [7]int{0, 0, 3, 3, 3, 3, 3}}, {"231", [7]int{0, 0, 1, 1, 1, 1, 1}}, {"312", [7]int{0, 3, 3, 3, 3, 3, 3}},
		{"1342", [7]int{1, 1, 2, 2, 2, 2, 2}}, {"2314", [7]int{0, 0, 1, 1, 1, 1, 1}}, {"1243567", [7]int{2, 7, 7, 7, 7, 7, 7}},
		{"7654321", [7]int{0, 0, 0, 0, 0, 0, 7}}, {"1234567", [7]int{7, 7, 7, 7, 7, 7, 7}}, {"2345671", [7]int{0, 0, 0, 0, 0, 0, 1}},
		{"1276543", [7]int{2, 2, 2, 2, 7, 7, 7}}, {"4123765", [7]int{0, 4, 7, 7, 7, 7, 7}}, {"4127365", [7]int{0, 2, 3, 3, 3, 3, 3}},
		{"6123574", [7]int{0, 3, 3, 4, 4, 4, 4}}, {"3216547", [7]int{0, 0, 7, 7, 7, 7, 7}},
	} {
		for i, want := range c.most {
			most, ok := impl.MostWithin(orderOf(c.order), i+1)
			wantNumber(t, withLimit("the most of "+c.order, i+1), most, ok, want)
		}
	}
}

func TestLimitedSweepsOfEveryOrder(t *testing.T) {
	for _, order := range smallOrders(impl.MaxSize) {
		text := textByHand(order)
		for d := 1; d <= impl.MaxSize; d++ {
			want, wantWord := limitedByHand(order, d)
			w, ok := impl.LimitedWord(order, d)
			wantText(t, withLimit("limited word of "+text, d), w, ok, wantWord)
			sweep, ok := impl.LimitedSweep(order, d)
			wantOrder(t, withLimit("limited sweep of "+text, d), sweep, ok, want)
			if depthByWord[w] == 0 || depthByWord[w] > d || !slices.Equal(runByHand(order, w), sweep) {
				t.Errorf("%v by %s: %v with the limit %d", order, w, sweep, d)
			}
			count, ok := impl.CountLimitedSweeps(order, d)
			what := withLimit("limited sweeps of "+text, d)
			if d == 1 && !slices.IsSorted(order) {
				wantNoNumber(t, what, count, ok)
				continue
			}
			wantNumber(t, what, count, ok, limitedSweepsByHand(order, d))
			if count > max(0, len(order)-1) || (count == 0) != slices.IsSorted(order) {
				t.Errorf("%s: %d", what, count)
			}
		}
	}
}

func TestLimitedSweepExamples(t *testing.T) {
	for _, c := range []struct {
		order    string
		d        int
		sweep, w string
		// count is -1 where there is none.
		count int
	}{
		{"1", 1, "1", "IO", 0}, {"1", 7, "1", "IO", 0}, {"12", 1, "12", "IOIO", 0}, {"21", 1, "21", "IOIO", -1}, {"21", 2, "12", "IIOO", 1}, {"21", 7, "12", "IIOO", 1},
		{"321", 1, "321", "IOIOIO", -1}, {"321", 2, "213", "IIOIOO", 2}, {"321", 3, "123", "IIIOOO", 1}, {"321", 4, "123", "IIIOOO", 1},
		{"231", 1, "231", "IOIOIO", -1}, {"231", 2, "213", "IOIIOO", 2}, {"231", 3, "213", "IOIIOO", 2}, {"312", 2, "123", "IIOIOO", 1},
		{"4321", 2, "3214", "IIOIOIOO", 3}, {"4321", 3, "2134", "IIIOIOOO", 2}, {"4321", 4, "1234", "IIIIOOOO", 1}, {"2341", 2, "2314", "IOIOIIOO", 3},
		{"1234567", 1, "1234567", "IOIOIOIOIOIOIO", 0}, {"1234567", 7, "1234567", "IOIOIOIOIOIOIO", 0}, {"7654321", 1, "7654321", "IOIOIOIOIOIOIO", -1},
		{"7654321", 2, "6543217", "IIOIOIOIOIOIOO", 6}, {"7654321", 3, "5432167", "IIIOIOIOIOIOOO", 3}, {"7654321", 4, "4321567", "IIIIOIOIOIOOOO", 2},
		{"7654321", 5, "3214567", "IIIIIOIOIOOOOO", 2}, {"7654321", 6, "2134567", "IIIIIIOIOOOOOO", 2}, {"7654321", 7, "1234567", "IIIIIIIOOOOOOO", 1},
		{"5371624", 2, "3516247", "IIOOIIOIOIOIOO", 4}, {"5371624", 3, "3512467", "IIOOIIOIIOIOOO", 3}, {"2345671", 7, "2345617", "IOIOIOIOIOIIOO", 6},
		{"6543217", 3, "4321567", "IIIOIOIOIOOOIO", 3}, {"7436521", 3, "3452167", "IIIOOIIOIOIOOO", 4}, {"1765432", 2, "1654327", "IOIIOIOIOIOIOO", 5},
	} {
		what := withLimit(c.order, c.d)
		sweep, ok := impl.LimitedSweep(orderOf(c.order), c.d)
		wantOrder(t, "sweep of "+what, sweep, ok, orderOf(c.sweep))
		w, ok := impl.LimitedWord(orderOf(c.order), c.d)
		wantText(t, "word of "+what, w, ok, c.w)
		count, ok := impl.CountLimitedSweeps(orderOf(c.order), c.d)
		if c.count < 0 {
			wantNoNumber(t, "sweeps of "+what, count, ok)
		} else {
			wantNumber(t, "sweeps of "+what, count, ok, c.count)
		}
	}
}

func TestLimitedSweepsSortInAsManyAsAreTold(t *testing.T) {
	for _, order := range smallOrders(impl.MaxSize) {
		for d := 1; d <= impl.MaxSize; d++ {
			count, ok := impl.CountLimitedSweeps(order, d)
			if !ok {
				continue
			}
			swept := order
			for made := range count {
				if slices.IsSorted(swept) {
					t.Errorf("%v is sorted by %d sweeps with the limit %d; %d are told", order, made, d, count)
				}
				swept, _ = impl.LimitedSweep(swept, d)
			}
			wantOrder(t, withLimit("sweeps of "+textByHand(order), d), swept, true, upFrom1(len(order)))
		}
	}
}

func TestAnOrderIsSortableWithinItsLimitAndNotWithinLess(t *testing.T) {
	for _, order := range smallOrders(impl.MaxSize) {
		n := len(order)
		sortable, one := impl.IsSortable(order)
		limit, two := impl.LimitOf(order)
		if !one || two != sortable || sortable && (limit < 1 || limit > n) {
			t.Errorf("%v: limit %d, %v", order, limit, two)
		}
		for d := 1; d <= impl.MaxSize; d++ {
			can, three := impl.IsSortableWithin(order, d)
			sweep, four := impl.LimitedSweep(order, d)
			most, five := impl.MostWithin(order, d)
			if !three || !four || !five || can != (sortable && d >= limit) || can != slices.IsSorted(sweep) || can != (most == n) {
				t.Errorf("%v with the limit %d, sortable from %d on: %v, %v, %d", order, d, limit, can, sweep, most)
			}
		}
	}
}

func TestLimitedSweepsOfTheLimits(t *testing.T) {
	for _, order := range smallOrders(impl.MaxSize) {
		text := textByHand(order)
		bubbled, okBubble := impl.BubbleOrder(order)
		sweep, okSweep := impl.SweepOrder(order)
		sweepWord, okWord := impl.SweepWord(order)
		one, ok := impl.LimitedSweep(order, 1)
		wantOrder(t, withLimit(text, 1), one, ok, order)
		two, ok := impl.LimitedSweep(order, 2)
		wantOrder(t, withLimit(text, 2), two, ok && okBubble, bubbled)
		for d := len(order); d <= impl.MaxSize; d++ {
			all, ok := impl.LimitedSweep(order, d)
			wantOrder(t, withLimit(text, d), all, ok && okSweep, sweep)
			w, ok := impl.LimitedWord(order, d)
			wantText(t, withLimit(text, d), w, ok && okWord, sweepWord)
		}
	}
}

func TestAGreaterLimitSortsAllThatALessOneDoes(t *testing.T) {
	for _, order := range smallOrders(impl.MaxSize) {
		sorts, most := false, 0
		for d := 1; d <= impl.MaxSize; d++ {
			can, one := impl.IsSortableWithin(order, d)
			more, two := impl.MostWithin(order, d)
			sweep, three := impl.LimitedSweep(order, d)
			if !one || !two || !three || sorts && !(can && slices.IsSorted(sweep)) || more < most {
				t.Errorf("%v with the limit %d: %v, %v, %d; with less %v, %d", order, d, can, sweep, more, sorts, most)
			}
			sorts, most = can, more
		}
	}
}

func TestLimitProfiles(t *testing.T) {
	for i, want := range [][]int{{1}, {1, 1}, {1, 3, 1}, {1, 7, 5, 1}, {1, 15, 18, 7, 1}, {1, 31, 57, 33, 9, 1}, {1, 63, 169, 132, 52, 11, 1}} {
		n := i + 1
		profile, ok := impl.LimitProfile(n)
		wantOrder(t, "profile of "+strconv.Itoa(n), profile, ok, want)
		byHand := make([]int, n)
		for _, w := range wordsOfSize[n] {
			byHand[depthByWord[w]-1]++
		}
		wantOrder(t, "profile of "+strconv.Itoa(n), profile, ok, byHand)
		for d := 1; d <= n; d++ {
			count, ok := impl.CountWithin(n, d)
			wantNumber(t, withLimit("profile of "+strconv.Itoa(n), d), sumOf(profile[:d]), ok, count)
		}
	}
}

func TestBubbleOrder(t *testing.T) {
	for _, order := range smallOrders(impl.MaxSize) {
		bubbled, ok := impl.BubbleOrder(order)
		wantOrder(t, "bubble of "+textByHand(order), bubbled, ok, bubbleByHand(order))
	}
	for order, want := range map[string]string{
		"1": "1", "12": "12", "21": "12", "321": "213", "231": "213", "312": "123", "132": "123", "213": "123", "4321": "3214", "2413": "2134",
		"1234567": "1234567", "7654321": "6543217", "2345671": "2345617", "7123456": "1234567", "5371624": "3516247", "1234576": "1234567",
	} {
		bubbled, ok := impl.BubbleOrder(orderOf(order))
		wantOrder(t, "bubble of "+order, bubbled, ok, orderOf(want))
	}
}

func wantNoLimited(t *testing.T, list []int, d int) {
	t.Helper()
	what := "no order, or no limit"
	can, ok := impl.IsSortableWithin(list, d)
	wantNoBool(t, withLimit(what, d), can, ok)
	w, ok := impl.LimitedWord(list, d)
	wantNoText(t, withLimit(what, d), w, ok)
	sweep, ok := impl.LimitedSweep(list, d)
	wantNoOrder(t, withLimit(what, d), sweep, ok)
	count, ok := impl.CountLimitedSweeps(list, d)
	wantNoNumber(t, withLimit(what, d), count, ok)
	most, ok := impl.MostWithin(list, d)
	wantNoNumber(t, withLimit(what, d), most, ok)
}

func TestLimitedRefusesNoOrders(t *testing.T) {
	for _, list := range noOrders() {
		limit, ok := impl.LimitOf(list)
		wantNoNumber(t, "limit of no order", limit, ok)
		bubbled, ok := impl.BubbleOrder(list)
		wantNoOrder(t, "bubble of no order", bubbled, ok)
		for _, d := range append(noLimits(), 1, 2, 3, impl.MaxSize) {
			wantNoLimited(t, list, d)
		}
	}
	for _, order := range [][]int{upFrom1(impl.MaxSize + 1), downTo1(impl.MaxSize + 1), {2, 1, 3, 4, 5, 6, 7, 8}, {8, 1, 2, 3, 4, 5, 6, 7}, {1, 2, 3, 4, 5, 6, 8, 7}} {
		limit, ok := impl.LimitOf(order)
		wantNoNumber(t, "limit of too many numbers", limit, ok)
		bubbled, ok := impl.BubbleOrder(order)
		wantNoOrder(t, "bubble of too many numbers", bubbled, ok)
		for d := 1; d <= impl.MaxSize+1; d++ {
			wantNoLimited(t, order, d)
		}
	}
}

func TestOrdersRefuseNoLimits(t *testing.T) {
	for _, order := range append(smallOrders(5), fewOrders()...) {
		for _, d := range noLimits() {
			wantNoLimited(t, order, d)
		}
	}
}

// limitedTold returns all that the functions of the chapter tell of an order, a word, a size, a limit and a rank: lists, and the rest as a text.
func limitedTold(order []int, w string, n int, d int, k int) ([][]int, string) {
	var lists [][]int
	told := []string{}
	add := func(s string, ok bool) { told = append(told, s+" "+strconv.FormatBool(ok)) }
	addNumber := func(number int, ok bool) { add(strconv.Itoa(number), ok) }
	addBool := func(is bool, ok bool) { add(strconv.FormatBool(is), ok) }
	addList := func(list []int, ok bool) {
		lists = append(lists, list)
		add("", ok)
	}
	addNumber(impl.CountWithin(n, d))
	addBool(impl.IsSortableWithin(order, d))
	addNumber(impl.CountSortedWithin(n, d))
	addNumber(impl.LimitOf(order))
	add(impl.LimitedWord(order, d))
	addList(impl.LimitedSweep(order, d))
	addNumber(impl.CountLimitedSweeps(order, d))
	add(impl.WithinAt(n, d, k))
	addNumber(impl.RankWithin(w, d))
	addNumber(impl.MostWithin(order, d))
	addList(impl.LimitProfile(n))
	addList(impl.BubbleOrder(order))
	return lists, strings.Join(told, "|")
}

func TestLimitedKeepsItsArguments(t *testing.T) {
	for i, order := range append(fewOrders(), noOrders()...) {
		wide := widened(order)
		for d := range impl.MaxSize + 2 {
			limitedTold(wide, strings.Repeat("IO", min(len(order), 10)), 1+i%7, d, i%3)
		}
		if !isAsBefore(wide, order) {
			t.Errorf("changed: %.8v", wide)
		}
	}
}

func TestLimitedSharesNoMemory(t *testing.T) {
	for i, order := range fewOrders() {
		before, w := slices.Clone(order), strings.Repeat("IO", len(order))
		for d := 1; d <= impl.MaxSize; d++ {
			same := tellsTheSame(t, func() ([][]int, string) { return limitedTold(order, w, 1+i%7, d, 0) })
			if !same || !slices.Equal(order, before) {
				t.Fatal("results are kept, or share memory with", before)
			}
		}
		// What was told of another order that stood in the same memory is not kept.
		slices.Reverse(order)
		_, told := limitedTold(order, w, 3, 2, 1)
		_, wanted := limitedTold(slices.Clone(order), w, 3, 2, 1)
		if told != wanted {
			t.Errorf("%v backward: told %s; want %s", before, told, wanted)
		}
	}
}

func TestLimitedReturnsTheSameForAnyArguments(t *testing.T) {
	numbers := []int{0, 1, 3, impl.MaxSize, impl.MaxSize + 1, -1, math.MinInt, math.MaxInt}
	for i, order := range append(noOrders(), fewOrders()...) {
		for j, w := range []string{"", "\xff", "OI", "IO", "IIOO", "IIIOOO", strings.Repeat("IO", 7), strings.Repeat("I\u00ff", 1<<10)} {
			n, d, k := numbers[(i+3*j)%len(numbers)], numbers[(i+j)%len(numbers)], numbers[j]
			if !tellsTheSame(t, func() ([][]int, string) { return limitedTold(order, w, n, d, k) }) {
				t.Errorf("differs: %.8v, %.8q, %d, %d, %d", order, w, n, d, k)
			}
		}
	}
}
