package tests

import (
	"math"
	"slices"
	"strconv"
	"testing"

	"loop.example/g01286/impl"
)

// wantLists compares lists of numbers, and the ok with true.
func wantLists(t *testing.T, what string, got [][]int, ok bool, want [][]int) {
	t.Helper()
	if !ok || !slices.EqualFunc(got, want, slices.Equal) {
		t.Errorf("%s: got %v, %v; want %v", what, got, ok, want)
	}
}

func wantNoLists(t *testing.T, what string, got [][]int, ok bool) {
	t.Helper()
	if ok || len(got) != 0 {
		t.Errorf("%s: got %.8v, %v; want none", what, got, ok)
	}
}

func wantNumber(t *testing.T, what string, got int, ok bool, want int) {
	t.Helper()
	if !ok || got != want {
		t.Errorf("%s: got %d, %v; want %d", what, got, ok, want)
	}
}

// longestByHand tries all lists of places, and takes the least one of the longest lists of numbers that are sorted by compare.
func longestByHand(order []int, compare func(a, b int) int) []int {
	var best []int
	for _, places := range placeListsOfSize[len(order)] {
		numbers := []int{}
		for _, place := range places {
			numbers = append(numbers, order[place])
		}
		if slices.IsSortedFunc(numbers, compare) && (len(numbers) > len(best) || len(numbers) == len(best) && slices.Compare(numbers, best) < 0) {
			best = numbers
		}
	}
	return best
}

func upward(a, b int) int   { return a - b }
func downward(a, b int) int { return b - a }

// fewestQueuesByHand tries all ways for the numbers to go into queues whose last numbers are told.
func fewestQueuesByHand(order []int, lasts []int) int {
	if len(order) == 0 {
		return len(lasts)
	}
	fewest := fewestQueuesByHand(order[1:], append(slices.Clone(lasts), order[0]))
	for i, last := range lasts {
		if last < order[0] {
			longer := slices.Clone(lasts)
			longer[i] = order[0]
			fewest = min(fewest, fewestQueuesByHand(order[1:], longer))
		}
	}
	return fewest
}

// queueWaysByHand tries all lists of queues, one for each number.
func queueWaysByHand(order []int, k int) int {
	count := 0
	for code := range int(math.Pow(float64(k), float64(len(order)))) {
		var lasts [impl.MaxQueues]int
		ascends := true
		for _, number := range order {
			ascends = ascends && lasts[code%k] < number
			lasts[code%k] = number
			code /= k
		}
		if ascends {
			count++
		}
	}
	return count
}

func TestLongestRiseAndFallOfEveryOrder(t *testing.T) {
	for _, order := range smallOrders(impl.MaxSize) {
		rise, ok := impl.LongestRise(order)
		wantOrder(t, "rise of "+textByHand(order), rise, ok, longestByHand(order, upward))
		fall, ok := impl.LongestFall(order)
		wantOrder(t, "fall of "+textByHand(order), fall, ok, longestByHand(order, downward))
	}
}

func TestLongestRiseAndFallExamples(t *testing.T) {
	for order, want := range map[string][2]string{
		"1": {"1", "1"}, "12": {"12", "1"}, "21": {"1", "21"}, "3142": {"12", "31"}, "2413": {"13", "21"}, "2143": {"13", "21"}, "3412": {"12", "31"},
		"1234567": {"1234567", "1"}, "7654321": {"1", "7654321"}, "4567123": {"4567", "41"}, "5671234": {"1234", "51"}, "4561237": {"1237", "41"},
		"3216547": {"147", "321"}, "6357142": {"357", "6542"}, "2471356": {"1356", "21"}, "3517246": {"1246", "31"}, "6735241": {"24", "6321"},
	} {
		rise, ok := impl.LongestRise(orderOf(order))
		wantText(t, "rise of "+order, textByHand(rise), ok, want[0])
		fall, ok := impl.LongestFall(orderOf(order))
		wantText(t, "fall of "+order, textByHand(fall), ok, want[1])
	}
}

func TestFewestQueuesOfEveryOrder(t *testing.T) {
	for _, order := range smallOrders(impl.MaxSize) {
		fewest, ok := impl.FewestQueues(order)
		wantNumber(t, "queues of "+textByHand(order), fewest, ok, fewestQueuesByHand(order, nil))
		fall, one := impl.LongestFall(order)
		queues, two := impl.QueuesOf(order)
		if !one || !two || len(fall) != fewest || len(queues) != fewest {
			t.Errorf("%v needs %d queues; a longest fall is %v, the queues are %v", order, fewest, fall, queues)
		}
	}
	for n := 1; n <= impl.MaxSize; n++ {
		fewest, ok := impl.FewestQueues(upFrom1(n))
		wantNumber(t, "queues of an order that ascends", fewest, ok, 1)
		fewest, ok = impl.FewestQueues(downTo1(n))
		wantNumber(t, "queues of an order that descends", fewest, ok, n)
	}
}

// queuesByHand fills one queue after the other: each takes, of the numbers that are left, those that are greater than all ahead of them.
func queuesByHand(order []int) [][]int {
	rest, queues := slices.Clone(order), [][]int{}
	for len(rest) > 0 {
		queue, left := []int{}, []int{}
		for _, number := range rest {
			if len(queue) == 0 || number > slices.Max(queue) {
				queue = append(queue, number)
			} else {
				left = append(left, number)
			}
		}
		queues, rest = append(queues, queue), left
	}
	return queues
}

func TestQueuesOfEveryOrder(t *testing.T) {
	for _, order := range smallOrders(impl.MaxSize) {
		queues, ok := impl.QueuesOf(order)
		wantLists(t, "queues of "+textByHand(order), queues, ok, queuesByHand(order))
	}
	for order, want := range map[string]string{
		"1": "1", "12": "12", "21": "2 1", "3142": "34 12", "4213": "4 23 1", "1234567": "1234567", "7654321": "7 6 5 4 3 2 1",
		"2413756": "247 1356", "5162734": "567 1234", "3617254": "367 125 4", "6543217": "67 5 4 3 2 1", "5713264": "57 136 24",
	} {
		queues, ok := impl.QueuesOf(orderOf(order))
		wantText(t, "queues of "+order, textOfOrders(queues), ok, want)
	}
}

func TestCountQueueWaysOfEveryOrder(t *testing.T) {
	for _, order := range append(smallOrders(5), fewOrders()...) {
		fewest, _ := impl.FewestQueues(order)
		for k := 1; k <= impl.MaxQueues; k++ {
			ways, ok := impl.CountQueueWays(order, k)
			wantNumber(t, strconv.Itoa(k)+" queues of "+textByHand(order), ways, ok, queueWaysByHand(order, k))
			if (ways > 0) != (fewest <= k) {
				t.Errorf("%d ways for %v to go into %d queues, but it needs %d", ways, order, k, fewest)
			}
		}
	}
}

func TestCountQueueWaysExamples(t *testing.T) {
	for n := 1; n <= impl.MaxSize; n++ {
		power, falling := [impl.MaxQueues + 1]int{}, [impl.MaxQueues + 1]int{}
		for k := 1; k <= impl.MaxQueues; k++ {
			power[k], falling[k] = 1, 1
			for i := range n {
				power[k] *= k
				falling[k] *= max(0, k-i)
			}
			ways, ok := impl.CountQueueWays(upFrom1(n), k)
			wantNumber(t, "an order that ascends", ways, ok, power[k])
			ways, ok = impl.CountQueueWays(downTo1(n), k)
			wantNumber(t, "an order that descends", ways, ok, falling[k])
		}
	}
	for _, c := range []struct {
		order   string
		k, want int
	}{
		{"1", 1, 1}, {"1", 4, 4}, {"21", 1, 0}, {"21", 2, 2}, {"3142", 1, 0}, {"3142", 2, 2}, {"3142", 3, 24}, {"2143", 2, 4}, {"2143", 4, 144},
		{"213", 2, 4}, {"1234567", 4, 16384}, {"4321", 4, 24}, {"54321", 4, 0}, {"7123456", 2, 2}, {"2345671", 3, 192}, {"2345671", 2, 2},
	} {
		ways, ok := impl.CountQueueWays(orderOf(c.order), c.k)
		wantNumber(t, strconv.Itoa(c.k)+" queues of "+c.order, ways, ok, c.want)
	}
}

// noQueueNumbers are no numbers of queues that are counted with.
func noQueueNumbers() []int {
	return []int{0, -1, -4, impl.MaxQueues + 1, 6, impl.MaxSize, 100, 1 << 32, 1<<32 + 1, math.MaxInt, math.MinInt}
}

func TestCountQueueWaysRefuses(t *testing.T) {
	for _, order := range fewOrders() {
		for _, k := range noQueueNumbers() {
			ways, ok := impl.CountQueueWays(order, k)
			wantNoNumber(t, strconv.Itoa(k)+" queues", ways, ok)
		}
	}
	for _, list := range noOrders() {
		for _, k := range append(noQueueNumbers(), 1, 2, 3, 4) {
			ways, ok := impl.CountQueueWays(list, k)
			wantNoNumber(t, "no order", ways, ok)
		}
	}
}

func TestCountQueueable(t *testing.T) {
	for k, counts := range [][]int{
		nil, {0, 1, 1, 1, 1, 1, 1, 1}, {0, 1, 2, 5, 14, 42, 132, 429}, {0, 1, 2, 6, 23, 103, 513, 2761}, {0, 1, 2, 6, 24, 119, 694, 4582},
	} {
		for n, want := range counts {
			count, ok := impl.CountQueueable(n, k)
			if n == 0 {
				wantNoNumber(t, "orders of no numbers", count, ok)
				continue
			}
			wantNumber(t, strconv.Itoa(n)+" numbers in "+strconv.Itoa(k)+" queues", count, ok, want)
			byHand := 0
			for _, order := range ordersByHand(n) {
				if len(queuesByHand(order)) <= k {
					byHand++
				}
			}
			if byHand != want {
				t.Errorf("%d orders of %d numbers go into %d queues by hand", byHand, n, k)
			}
		}
	}
	for _, n := range append(noSizes(), 1, 4, impl.MaxSize) {
		for _, k := range noQueueNumbers() {
			count, ok := impl.CountQueueable(n, k)
			wantNoNumber(t, strconv.Itoa(n)+" numbers in "+strconv.Itoa(k)+" queues", count, ok)
		}
	}
	for _, n := range noSizes() {
		for k := 1; k <= impl.MaxQueues; k++ {
			count, ok := impl.CountQueueable(n, k)
			wantNoNumber(t, strconv.Itoa(n)+" numbers in "+strconv.Itoa(k)+" queues", count, ok)
		}
	}
}

// runsByHand cuts a list ahead of each number that is less than the one before it, from the last place on.
func runsByHand(list []int) [][]int {
	for place := len(list) - 1; place > 0; place-- {
		if list[place] < list[place-1] {
			return append(runsByHand(list[:place]), list[place:])
		}
	}
	return [][]int{list}
}

func mergeByHand(order []int) []int {
	runs, merged := runsByHand(order), []int{}
	for i := 0; i < len(runs); i += 2 {
		pair := slices.Clone(runs[i])
		if i+1 < len(runs) {
			pair = append(pair, runs[i+1]...)
		}
		merged = append(merged, slices.Sorted(slices.Values(pair))...)
	}
	return merged
}

func TestRunsAndPassesOfEveryOrder(t *testing.T) {
	for _, order := range smallOrders(impl.MaxSize) {
		text := textByHand(order)
		runs, ok := impl.RunsOf(order)
		wantLists(t, "runs of "+text, runs, ok, runsByHand(order))
		merged, ok := impl.MergePass(order)
		wantOrder(t, "pass of "+text, merged, ok, mergeByHand(order))
		want := 0
		for rest := order; !slices.IsSorted(rest); rest = mergeByHand(rest) {
			want++
		}
		passes, ok := impl.CountPasses(order)
		wantNumber(t, "passes of "+text, passes, ok, want)
		bound := 0
		for 1<<bound < len(runs) {
			bound++
		}
		if passes > bound || (passes == 0) != slices.IsSorted(order) {
			t.Errorf("%d passes of %s with %d runs", passes, text, len(runs))
		}
	}
}

func TestRunsAndPassesExamples(t *testing.T) {
	for _, c := range []struct {
		order, runs, merged string
		passes              int
	}{
		{"1", "1", "1", 0}, {"12", "12", "12", 0}, {"21", "2 1", "12", 1}, {"3142", "3 14 2", "1342", 2}, {"321", "3 2 1", "231", 2},
		{"4321", "4 3 2 1", "3412", 2}, {"54321", "5 4 3 2 1", "45231", 3}, {"2413", "24 13", "1234", 1}, {"1234567", "1234567", "1234567", 0},
		{"7654321", "7 6 5 4 3 2 1", "6745231", 3}, {"2143657", "2 14 36 57", "1243567", 2}, {"2143765", "2 14 37 6 5", "1243675", 3},
		{"3274165", "3 27 4 16 5", "2371465", 3}, {"5671234", "567 1234", "1234567", 1}, {"4675123", "467 5 123", "4567123", 2},
	} {
		runs, ok := impl.RunsOf(orderOf(c.order))
		wantText(t, "runs of "+c.order, textOfOrders(runs), ok, c.runs)
		merged, ok := impl.MergePass(orderOf(c.order))
		wantText(t, "pass of "+c.order, textByHand(merged), ok, c.merged)
		passes, ok := impl.CountPasses(orderOf(c.order))
		wantNumber(t, "passes of "+c.order, passes, ok, c.passes)
	}
}

// insertByHand puts a number into the first row, and what makes room for it into the rows below.
func insertByHand(rows [][]int, number int) [][]int {
	if len(rows) == 0 {
		return [][]int{{number}}
	}
	first := slices.Clone(rows[0])
	for place, other := range first {
		if other > number {
			first[place] = number
			return append([][]int{first}, insertByHand(rows[1:], other)...)
		}
	}
	return append([][]int{append(first, number)}, rows[1:]...)
}

func rowsByHand(order []int) [][]int {
	rows := [][]int{}
	for _, number := range order {
		rows = insertByHand(rows, number)
	}
	return rows
}

// twinByHand looks for the place that the rows of one number more have beside those of one less.
func twinByHand(order []int) [][]int {
	twin := rowsByHand(order)
	for i := range order {
		less, more := rowsByHand(order[:i]), rowsByHand(order[:i+1])
		for at, row := range more {
			if at == len(less) || len(less[at]) < len(row) {
				twin[at][len(row)-1] = i + 1
			}
		}
	}
	return twin
}

func lengthsOf(rows [][]int) []int {
	lengths := []int{}
	for _, row := range rows {
		lengths = append(lengths, len(row))
	}
	return lengths
}

func TestRowsAndTwinRowsOfEveryOrder(t *testing.T) {
	for _, order := range smallOrders(impl.MaxSize) {
		text := textByHand(order)
		rows, ok := impl.RowsOf(order)
		wantLists(t, "rows of "+text, rows, ok, rowsByHand(order))
		twin, ok := impl.TwinRowsOf(order)
		wantLists(t, "twin rows of "+text, twin, ok, twinByHand(order))
		if !impl.AreRows(rows) || !impl.AreRows(twin) || !slices.Equal(lengthsOf(rows), lengthsOf(twin)) {
			t.Errorf("%s has the rows %v and %v", text, rows, twin)
		}
		back, ok := impl.OrderOfRows(rows, twin)
		wantOrder(t, "order of the rows of "+text, back, ok, order)
		rise, _ := impl.LongestRise(order)
		fall, _ := impl.LongestFall(order)
		if len(rows[0]) != len(rise) || len(rows) != len(fall) {
			t.Errorf("%s has the rows %v, the rise %v and the fall %v", text, rows, rise, fall)
		}
		inverse, _ := impl.InverseOrder(order)
		exchanged, ok := impl.RowsOf(inverse)
		wantLists(t, "rows of the inverse of "+text, exchanged, ok, twin)
		exchanged, ok = impl.TwinRowsOf(inverse)
		wantLists(t, "twin rows of the inverse of "+text, exchanged, ok, rows)
	}
}

func TestRowsExamples(t *testing.T) {
	for _, c := range []struct{ order, rows, twin string }{
		{"1", "1", "1"}, {"12", "12", "12"}, {"21", "1 2", "1 2"}, {"3142", "12 34", "13 24"}, {"231", "13 2", "12 3"}, {"312", "12 3", "13 2"},
		{"2413", "13 24", "12 34"}, {"1234567", "1234567", "1234567"}, {"7654321", "1 2 3 4 5 6 7", "1 2 3 4 5 6 7"}, {"5671234", "1234 567", "1237 456"},
		{"2143657", "1357 246", "1357 246"}, {"6351742", "127 34 5 6", "135 26 4 7"}, {"4125736", "1236 457", "1345 267"},
	} {
		rows, ok := impl.RowsOf(orderOf(c.order))
		wantText(t, "rows of "+c.order, textOfOrders(rows), ok, c.rows)
		twin, ok := impl.TwinRowsOf(orderOf(c.order))
		wantText(t, "twin rows of "+c.order, textOfOrders(twin), ok, c.twin)
		back, ok := impl.OrderOfRows(ordersOfTexts(c.rows), ordersOfTexts(c.twin))
		wantText(t, c.rows+" with "+c.twin, textByHand(back), ok, c.order)
	}
}

// areRowsByHand goes by the document's words: it looks for each of 1..n, and at the neighbours of each place.
func areRowsByHand(rows [][]int) bool {
	all := slices.Concat(rows...)
	if len(all) == 0 || len(all) > impl.MaxSize {
		return false
	}
	for number := 1; number <= len(all); number++ {
		if !slices.Contains(all, number) {
			return false
		}
	}
	for at, row := range rows {
		if len(row) == 0 || at > 0 && len(row) > len(rows[at-1]) {
			return false
		}
		for place := range row {
			if place > 0 && row[place] < row[place-1] || at > 0 && row[place] < rows[at-1][place] {
				return false
			}
		}
	}
	return true
}

// cutsOf returns all ways to cut a list into parts.
func cutsOf(list []int) [][][]int {
	var cuts [][][]int
	for bits := range 1 << max(0, len(list)-1) {
		parts := [][]int{{}}
		for place, number := range list {
			if place > 0 && bits>>(place-1)&1 == 1 {
				parts = append(parts, []int{})
			}
			parts[len(parts)-1] = append(parts[len(parts)-1], number)
		}
		cuts = append(cuts, parts)
	}
	return cuts
}

// allRowsOf returns all rows that are filled by 1..n.
func allRowsOf(n int) [][][]int {
	var all [][][]int
	for _, order := range ordersByHand(n) {
		for _, parts := range cutsOf(order) {
			if areRowsByHand(parts) {
				all = append(all, parts)
			}
		}
	}
	return all
}

var allRowsOfSize = func() [][][][]int {
	table := [][][][]int{nil}
	for n := 1; n <= impl.MaxSize; n++ {
		table = append(table, allRowsOf(n))
	}
	return table
}()

func TestAreRowsOfEveryList(t *testing.T) {
	// As many as there are orders that are their own inverses.
	for n, want := range []int{0, 1, 2, 4, 10, 26, 76, 232} {
		count := 0
		for _, order := range ordersByHand(n) {
			for _, parts := range cutsOf(order) {
				if impl.AreRows(parts) {
					count++
				}
			}
		}
		if n > 0 && count != want {
			t.Errorf("%d of all lists of %d numbers are rows; want %d", count, n, want)
		}
		for _, rows := range allRowsOfSize[n] {
			if !impl.AreRows(rows) {
				t.Error("no rows:", rows)
			}
		}
	}
	for n := range 5 {
		list := make([]int, n)
		for code := range int(math.Pow(6, float64(n))) {
			for place := range list {
				list[place] = code%6 - 1
				code /= 6
			}
			for _, parts := range cutsOf(list) {
				if impl.AreRows(parts) != areRowsByHand(parts) {
					t.Error("wrong about", parts)
				}
			}
		}
	}
}

// noRows are lists that are no rows.
func noRows() [][][]int {
	long := upFrom1(1 << 16)
	lists := [][][]int{
		nil, {}, {{}}, {nil}, {{}, {}}, {{}, {1}}, {{1}, {}}, {{1, 2}, nil}, {{1}, {}, {2}}, {{1, 2}, {}, {3}}, {{2, 1}}, {{2}, {1}}, {{1}, {1}}, {{1, 1}},
		{{1}, {2, 3}}, {{1, 2}, {3, 4, 5}}, {{1, 2}, {3}, {4, 5}}, {{1, 3, 2}}, {{1, 4}, {2, 3}}, {{1, 2}, {2, 3}}, {{1, 2}, {3, 3}}, {{1, 2, 3}, {4, 6}},
		{{1, 2}, {4, 3}}, {{3, 4}, {1, 2}}, {{1, 5}, {3, 4}, {6}}, {{0}}, {{2}}, {{-1}}, {{0, 1}}, {{1, 3}}, {{1, 2}, {4}}, {{0, 2}, {3}}, {{1, 2, 4}, {5}},
		{{math.MaxInt}}, {{math.MinInt}}, {{1, math.MaxInt}}, {{math.MinInt, 1}}, {{1}, {math.MaxInt}}, {{1}, {1<<32 + 2}}, {{1}, {258}},
		{upFrom1(8)}, {upFrom1(7), {8}}, {upFrom1(7), upFrom1(7)}, {{1, 2, 3, 4}, {5, 6, 7, 8}}, {{1}, {2}, {3}, {4}, {5}, {6}, {7}, {8}},
		{{1, 2, 3}, {4, 5, 6}, {7, 8}}, {{1, 3, 5, 7}, {2, 4, 6, 8}}, slices.Repeat([][]int{{1}}, 1<<16), make([][]int, 1<<16), {long}, {{1}, long},
		// Memory would not do for all their numbers together.
		slices.Repeat([][]int{long}, 1<<20), slices.Repeat([][]int{long}, impl.MaxSize),
	}
	for _, list := range noOrders() {
		lists = append(lists, [][]int{list}, [][]int{upFrom1(4), list})
	}
	return lists
}

func TestAreRowsExamples(t *testing.T) {
	for _, texts := range []string{
		"1", "12", "1 2", "123", "12 3", "13 2", "1 2 3", "1234567", "1 2 3 4 5 6 7", "135 246 7", "1357 246", "14 25 36 7", "12 34 56 7", "1237 456",
	} {
		if !impl.AreRows(ordersOfTexts(texts)) {
			t.Error("no rows:", texts)
		}
	}
	for _, rows := range noRows() {
		if impl.AreRows(rows) {
			t.Errorf("rows: %.8v", rows[:min(8, len(rows))])
		}
	}
}

func TestOrdersOfAllRowsAndTwinRows(t *testing.T) {
	orders := 1
	for n := 1; n <= impl.MaxSize; n++ {
		orders *= n
		found := map[string]bool{}
		for _, rows := range allRowsOfSize[n] {
			for _, twin := range allRowsOfSize[n] {
				order, ok := impl.OrderOfRows(rows, twin)
				if !slices.Equal(lengthsOf(rows), lengthsOf(twin)) {
					wantNoOrder(t, "rows and twin rows of different lengths", order, ok)
					continue
				}
				found[textByHand(order)] = true
				// The order of the same rows the other way round is its inverse.
				inverse, good := impl.InverseOrder(order)
				exchanged, fine := impl.OrderOfRows(twin, rows)
				if !ok || !good || !fine || !slices.Equal(inverse, exchanged) {
					t.Errorf("OrderOfRows(%v, %v) = %v, %v; the other way round %v", rows, twin, order, ok, exchanged)
				}
				again, ok := impl.RowsOf(order)
				wantLists(t, "rows of "+textByHand(order), again, ok, rows)
				again, ok = impl.TwinRowsOf(order)
				wantLists(t, "twin rows of "+textByHand(order), again, ok, twin)
			}
		}
		if len(found) != orders {
			t.Errorf("%d orders of rows of %d numbers", len(found), n)
		}
	}
}

func TestOrderOfRowsRefuses(t *testing.T) {
	for _, c := range [][2]string{
		{"1", "12"}, {"1", "1 2"}, {"12", "1 2"}, {"12 3", "1 2 3"}, {"12 3", "123"}, {"13 2", "12 34"}, {"12 34", "123 4"}, {"12 3 4", "12 34"},
		{"1234567", "123456"}, {"1 2 3 4 5 6 7", "1234567"}, {"123 456 7", "123 45 67"},
	} {
		order, ok := impl.OrderOfRows(ordersOfTexts(c[0]), ordersOfTexts(c[1]))
		wantNoOrder(t, c[0]+" with "+c[1], order, ok)
		order, ok = impl.OrderOfRows(ordersOfTexts(c[1]), ordersOfTexts(c[0]))
		wantNoOrder(t, c[1]+" with "+c[0], order, ok)
	}
	for _, list := range noRows() {
		order, ok := impl.OrderOfRows(list, list)
		wantNoOrder(t, "no rows and no twin rows", order, ok)
		for n := 1; n <= 4; n++ {
			for _, rows := range allRowsOfSize[n] {
				order, ok = impl.OrderOfRows(rows, list)
				wantNoOrder(t, "no twin rows", order, ok)
				order, ok = impl.OrderOfRows(list, rows)
				wantNoOrder(t, "no rows", order, ok)
			}
		}
	}
}

func TestQueuesRefuseNoOrders(t *testing.T) {
	for _, list := range noOrders() {
		rise, ok := impl.LongestRise(list)
		wantNoOrder(t, "rise", rise, ok)
		fall, ok := impl.LongestFall(list)
		wantNoOrder(t, "fall", fall, ok)
		fewest, ok := impl.FewestQueues(list)
		wantNoNumber(t, "queues", fewest, ok)
		queues, ok := impl.QueuesOf(list)
		wantNoLists(t, "queues", queues, ok)
		runs, ok := impl.RunsOf(list)
		wantNoLists(t, "runs", runs, ok)
		merged, ok := impl.MergePass(list)
		wantNoOrder(t, "pass", merged, ok)
		passes, ok := impl.CountPasses(list)
		wantNoNumber(t, "passes", passes, ok)
		rows, ok := impl.RowsOf(list)
		wantNoLists(t, "rows", rows, ok)
		twin, ok := impl.TwinRowsOf(list)
		wantNoLists(t, "twin rows", twin, ok)
	}
}

// queuesTold returns all that the functions of the chapter tell of an order, rows, twin rows and a number: lists, and the rest as a text.
func queuesTold(order []int, rows [][]int, twin [][]int, k int) ([][]int, string) {
	var lists [][]int
	told := ""
	add := func(number int, ok bool, list ...[]int) {
		lists = append(lists, list...)
		told += strconv.Itoa(number) + " " + strconv.FormatBool(ok) + " " + strconv.Itoa(len(list)) + "|"
	}
	for _, tell := range []func([]int) ([]int, bool){impl.LongestRise, impl.LongestFall, impl.MergePass} {
		list, ok := tell(order)
		add(0, ok, list)
	}
	for _, tell := range []func([]int) ([][]int, bool){impl.QueuesOf, impl.RunsOf, impl.RowsOf, impl.TwinRowsOf} {
		several, ok := tell(order)
		add(0, ok, several...)
	}
	for _, tell := range []func([]int) (int, bool){impl.FewestQueues, impl.CountPasses} {
		number, ok := tell(order)
		add(number, ok)
	}
	ways, ok := impl.CountQueueWays(order, k)
	add(ways, ok)
	count, ok := impl.CountQueueable(min(k, 4), k)
	add(count, ok)
	add(0, impl.AreRows(rows))
	back, ok := impl.OrderOfRows(rows, twin)
	add(0, ok, back)
	return lists, told
}

// widenedLists returns copies with a number, or a list, behind each end, where an append would write.
func widenedLists(lists [][]int) [][]int {
	wide := [][]int{}
	for _, list := range lists {
		wide = append(wide, widened(list))
	}
	return append(wide, []int{7, 7})[:len(lists)]
}

func areAsBefore(lists [][]int, before [][]int) bool {
	return slices.EqualFunc(lists, before, isAsBefore) && slices.Equal(lists[:len(lists)+1][len(lists)], []int{7, 7})
}

func TestQueuesKeepTheirArguments(t *testing.T) {
	for _, order := range append(fewOrders(), noOrders()...) {
		before, twinBefore := [][]int{order}, [][]int{order}
		if impl.IsOrder(order) {
			before, twinBefore = rowsByHand(order), twinByHand(order)
		}
		wide, rows, twin := widened(order), widenedLists(before), widenedLists(twinBefore)
		for _, k := range []int{0, 1, 4, 5} {
			queuesTold(wide, rows, twin, k)
		}
		queuesTold(wide, rows, rows, 3)
		queuesTold(wide, twin, [][]int{{1}, {2}}, 3)
		queuesTold(wide, [][]int{{1, 2}}, rows, 3)
		if !isAsBefore(wide, order) || !areAsBefore(rows, before) || !areAsBefore(twin, twinBefore) {
			t.Errorf("changed: %.8v, %.8v, %.8v", wide, rows, twin)
		}
	}
}

func TestQueuesShareNoMemory(t *testing.T) {
	for _, order := range append(fewOrders(), smallOrders(5)...) {
		before, rows, twin := slices.Clone(order), rowsByHand(order), twinByHand(order)
		same := tellsTheSame(t, func() ([][]int, string) { return queuesTold(order, rows, twin, 3) })
		if !same || !slices.Equal(order, before) || !slices.EqualFunc(rows, rowsByHand(before), slices.Equal) || !slices.EqualFunc(twin, twinByHand(before), slices.Equal) {
			t.Fatal("results are kept, or share memory with an argument:", before)
		}
	}
}

func TestListsOfQueuesAreNewEachTime(t *testing.T) {
	order := []int{3, 1, 4, 2}
	for want, tell := range map[string]func([]int) ([][]int, bool){
		"34 12": impl.QueuesOf, "3 14 2": impl.RunsOf, "12 34": impl.RowsOf, "13 24": impl.TwinRowsOf,
	} {
		first, _ := tell(order)
		first[0] = nil
		_ = append(first[:1], []int{9, 9})
		second, ok := tell(order)
		wantText(t, "lists of 3142", textOfOrders(second), ok, want)
	}
}

func TestQueuesReturnTheSameForAnyArguments(t *testing.T) {
	none := noRows()
	for i, order := range append(noOrders(), fewOrders()...) {
		for _, rows := range [][][]int{nil, {order}, none[i%len(none)], {{1, 2}, {3}}, allRowsOfSize[impl.MaxSize][i]} {
			for _, k := range []int{0, 1, 3, impl.MaxQueues, impl.MaxQueues + 1, math.MinInt, math.MaxInt} {
				if !tellsTheSame(t, func() ([][]int, string) { return queuesTold(order, rows, [][]int{{1, 3}, {2}}, k) }) {
					t.Errorf("differs: %.8v, %.8v, %d", order, rows, k)
				}
			}
		}
	}
}
