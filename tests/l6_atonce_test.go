package tests

import (
	"math"
	"slices"
	"strconv"
	"strings"
	"testing"

	"loop.example/g01286/impl"
)

// cutsByHand returns all cuts for n numbers, in order: it tries all ways to cut n numbers into parts.
func cutsByHand(n int) [][]int {
	var all [][]int
	for _, parts := range cutsOf(upFrom1(n)) {
		all = append(all, lengthsOf(parts))
	}
	slices.SortFunc(all, slices.Compare)
	return all
}

var allCutsOfSize = func() [][][]int {
	table := [][][]int{nil}
	for n := 1; n <= impl.MaxSize; n++ {
		table = append(table, cutsByHand(n))
	}
	return table
}()

// runCutsByHand keeps a stack, and pops all of it behind each part.
func runCutsByHand(order []int, cuts []int) []int {
	var stack, out []int
	for _, part := range cuts {
		for range part {
			stack, order = append(stack, order[0]), order[1:]
		}
		for len(stack) > 0 {
			out = append(out, stack[len(stack)-1])
			stack = stack[:len(stack)-1]
		}
	}
	return out
}

// fallsByHand tries all ways to cut an order into parts that descend, and takes that of the fewest parts.
func fallsByHand(order []int) []int {
	var best []int
	for _, parts := range cutsOf(order) {
		descend := !slices.ContainsFunc(parts, func(part []int) bool { return !slices.IsSortedFunc(part, downward) })
		if descend && (best == nil || len(parts) < len(best)) {
			best = lengthsOf(parts)
		}
	}
	return best
}

func fallSweepByHand(order []int) []int { return runCutsByHand(order, fallsByHand(order)) }

func fallSweepsByHand(order []int) int {
	count := 0
	for ; !slices.IsSorted(order); order = fallSweepByHand(order) {
		count++
	}
	return count
}

// fallSweepsOfOrders has the fall sweep of each order, by the text of the order.
var fallSweepsOfOrders = func() map[string][]int {
	table := map[string][]int{}
	for _, order := range smallOrders(impl.MaxSize) {
		table[textByHand(order)] = fallSweepByHand(order)
	}
	return table
}()

// twoCutsByHand returns for each order that comes out of an order by two cuts the first ones, as texts, with a space between them.
func twoCutsByHand(order []int) map[string]string {
	first := map[string]string{}
	for _, a := range allCutsOfSize[len(order)] {
		for _, b := range allCutsOfSize[len(order)] {
			out := textByHand(runCutsByHand(runCutsByHand(order, a), b))
			if first[out] == "" {
				first[out] = textByHand(a) + " " + textByHand(b)
			}
		}
	}
	return first
}

// noCuts are lists that are not cuts for any number of numbers from 1 to MaxSize.
func noCuts() [][]int {
	return [][]int{
		nil, {}, {0}, {-1}, {0, 0}, {0, 1}, {1, 0}, {3, 0}, {0, 3}, {1, 0, 2}, {-1, 2}, {2, -1}, {4, -1}, {-1, 4}, {1, -1, 3}, {5, -2, 1}, {-3, -4},
		{8}, {9}, {4, 4}, {7, 1}, {1, 7}, {1, 1, 1, 1, 1, 1, 2}, {1, 1, 1, 1, 1, 1, 1, 1}, {7, 0}, {0, 7}, {8, -1}, {-1, 8}, {1, 2, 3, 4}, {7, 7, 7, 7, 7, 7, 7},
		{math.MaxInt}, {math.MinInt}, {math.MinInt, math.MaxInt, 4}, {math.MaxInt, math.MaxInt, 3}, {math.MaxInt, math.MaxInt, 5}, {1, math.MaxInt, math.MaxInt, 3},
		{math.MinInt, math.MinInt, 3}, {math.MinInt, 3, math.MinInt}, {3, math.MinInt, math.MinInt}, {1 << 62, 1 << 62, 1 << 62, 1 << 62, 3}, {2, 1 << 62, 1 << 62, 1 << 62, 1 << 62},
		{1 << 32}, {1<<32 + 3}, {1, 1<<32 + 2}, {256 + 3}, slices.Repeat([]int{1}, 100), slices.Repeat([]int{1}, 1<<16), make([]int, 3), make([]int, 1<<16),
	}
}

func TestAreCutsOfEveryList(t *testing.T) {
	for n := 1; n <= impl.MaxSize; n++ {
		if len(allCutsOfSize[n]) != 1<<(n-1) {
			t.Errorf("%d cuts for %d numbers", len(allCutsOfSize[n]), n)
		}
		for _, cuts := range allCutsOfSize[n] {
			for other := -1; other <= impl.MaxSize+2; other++ {
				if impl.AreCuts(other, cuts) != (other == n) {
					t.Errorf("AreCuts(%d, %v) is wrong", other, cuts)
				}
			}
		}
	}
	for size := range 5 {
		list := make([]int, size)
		for code := range int(math.Pow(10, float64(size))) {
			for place := range list {
				list[place] = code%10 - 1
				code /= 10
			}
			for n := -1; n <= impl.MaxSize+1; n++ {
				want := slices.ContainsFunc(allCutsOfSize[min(max(n, 0), impl.MaxSize)], func(cuts []int) bool { return slices.Equal(cuts, list) })
				if impl.AreCuts(n, list) != (want && n <= impl.MaxSize) {
					t.Errorf("AreCuts(%d, %v) is wrong", n, list)
				}
			}
		}
	}
}

func TestAreCutsRefuses(t *testing.T) {
	for _, cuts := range noCuts() {
		sum := 0
		for _, part := range cuts {
			sum += part
		}
		for n := range impl.MaxSize + 2 {
			if impl.AreCuts(n, cuts) {
				t.Errorf("AreCuts(%d, %.8v)", n, cuts)
			}
		}
		if impl.AreCuts(sum, cuts) || impl.AreCuts(len(cuts), cuts) {
			t.Errorf("AreCuts of their sum %d, or of their number: %.8v", sum, cuts)
		}
	}
	for _, n := range noSizes() {
		for _, cuts := range [][]int{nil, {}, {n}, {1}, {7}, {1, n - 1}, {n - 1, 1}, slices.Repeat([]int{1}, min(max(0, n), 1<<10))} {
			if impl.AreCuts(n, cuts) {
				t.Errorf("AreCuts(%d, %.8v)", n, cuts)
			}
		}
	}
}

func TestRunCutsOfEveryOrder(t *testing.T) {
	for _, order := range smallOrders(impl.MaxSize) {
		for _, cuts := range allCutsOfSize[len(order)] {
			what := textByHand(order) + " by " + textByHand(cuts)
			out, ok := impl.RunCuts(order, cuts)
			wantOrder(t, what, out, ok, runCutsByHand(order, cuts))
			back, ok := impl.RunCuts(out, cuts)
			wantOrder(t, "twice, "+what, back, ok, order)
			told, ok := impl.CutsTo(order, out)
			wantOrder(t, "cuts for "+what, told, ok, cuts)
			w, _ := impl.CutsWord(cuts)
			run, ok := impl.RunWord(order, w)
			wantOrder(t, "by the word, "+what, run, ok, out)
		}
	}
}

func TestRunCutsExamples(t *testing.T) {
	for _, c := range []struct{ order, cuts, out string }{
		{"1", "1", "1"}, {"12", "11", "12"}, {"12", "2", "21"}, {"21", "2", "12"}, {"312", "21", "132"}, {"312", "12", "321"}, {"312", "3", "213"}, {"312", "111", "312"},
		{"3142", "22", "1324"}, {"3142", "4", "2413"}, {"3142", "1111", "3142"}, {"3142", "13", "3241"}, {"2413567", "1222", "2145376"},
		{"1234567", "7", "7654321"}, {"1234567", "1111111", "1234567"}, {"1234567", "61", "6543217"}, {"1234567", "16", "1765432"}, {"7654321", "313", "5674123"},
	} {
		out, ok := impl.RunCuts(orderOf(c.order), orderOf(c.cuts))
		wantText(t, c.order+" by "+c.cuts, textByHand(out), ok, c.out)
		cuts, ok := impl.CutsTo(orderOf(c.order), orderOf(c.out))
		wantText(t, c.order+" to "+c.out, textByHand(cuts), ok, c.cuts)
	}
}

func TestRunCutsRefuses(t *testing.T) {
	for _, order := range fewOrders() {
		for _, cuts := range noCuts() {
			out, ok := impl.RunCuts(order, cuts)
			wantNoOrder(t, "by no cuts", out, ok)
		}
		for n, all := range allCutsOfSize {
			for _, cuts := range all {
				out, ok := impl.RunCuts(order, cuts)
				if n != len(order) {
					wantNoOrder(t, textByHand(order)+" by "+textByHand(cuts), out, ok)
				} else if !ok {
					t.Errorf("RunCuts(%v, %v) fails", order, cuts)
				}
			}
		}
	}
	for _, list := range noOrders() {
		for _, cuts := range slices.Concat(noCuts(), allCutsOfSize[1], allCutsOfSize[2], allCutsOfSize[3], allCutsOfSize[impl.MaxSize]) {
			out, ok := impl.RunCuts(list, cuts)
			wantNoOrder(t, "no order", out, ok)
		}
		out, ok := impl.RunCuts(list, []int{len(list)})
		wantNoOrder(t, "no order, in one part", out, ok)
	}
}

func TestCutsToEveryOrder(t *testing.T) {
	for n := 1; n <= impl.MaxSize; n++ {
		orders := ordersByHand(n)
		for _, order := range orders[:min(len(orders), 120)] {
			lead := map[string][]int{}
			for _, cuts := range allCutsOfSize[n] {
				lead[textByHand(runCutsByHand(order, cuts))] = cuts
			}
			if len(lead) != 1<<(n-1) {
				t.Errorf("%d orders come out of %v by hand", len(lead), order)
			}
			for _, target := range orders {
				cuts, ok := impl.CutsTo(order, target)
				if want := lead[textByHand(target)]; want != nil {
					wantOrder(t, "cuts", cuts, ok, want)
				} else {
					wantNoOrder(t, textByHand(order)+" to "+textByHand(target), cuts, ok)
				}
			}
		}
	}
}

func TestCutsToRefuses(t *testing.T) {
	for _, c := range [][2]string{
		{"123", "231"}, {"123", "312"}, {"312", "123"}, {"231", "123"}, {"1234", "2143567"}, {"1234", "2413"}, {"1234", "3214567"}, {"1234567", "3124567"},
		{"1", "12"}, {"1", "21"}, {"12", "123"}, {"12", "213"}, {"123", "1234"}, {"213", "12"}, {"123456", "1234567"}, {"1234567", "654321"}, {"1234567", "2345671"},
	} {
		for _, pair := range [][2]string{c, {c[1], c[0]}} {
			cuts, ok := impl.CutsTo(orderOf(pair[0]), orderOf(pair[1]))
			wantNoOrder(t, pair[0]+" to "+pair[1], cuts, ok)
		}
	}
	for _, list := range noOrders() {
		cuts, ok := impl.CutsTo(list, list)
		wantNoOrder(t, "no orders", cuts, ok)
		for _, order := range fewOrders() {
			cuts, ok = impl.CutsTo(list, order)
			wantNoOrder(t, "no order", cuts, ok)
			cuts, ok = impl.CutsTo(order, list)
			wantNoOrder(t, "no target", cuts, ok)
		}
	}
}

func TestFallsAndFallSweepsOfEveryOrder(t *testing.T) {
	for _, order := range smallOrders(impl.MaxSize) {
		text := textByHand(order)
		falls, ok := impl.FallsOf(order)
		wantOrder(t, "falls of "+text, falls, ok, fallsByHand(order))
		sweep, ok := impl.FallSweep(order)
		wantOrder(t, "fall sweep of "+text, sweep, ok, fallSweepsOfOrders[text])
		want := 0
		for rest := order; !slices.IsSorted(rest); rest = fallSweepsOfOrders[textByHand(rest)] {
			want++
		}
		count, ok := impl.CountFallSweeps(order)
		wantNumber(t, "fall sweeps of "+text, count, ok, want)
		if count > len(order)-1 || (count == 0) != slices.IsSorted(order) || !impl.AreCuts(len(order), falls) {
			t.Errorf("%s has the falls %v and %d fall sweeps", text, falls, count)
		}
	}
}

func TestFallsExamples(t *testing.T) {
	for _, c := range []struct {
		order, falls, sweep string
		count               int
	}{
		{"1", "1", "1", 0}, {"12", "11", "12", 0}, {"21", "2", "12", 1}, {"312", "21", "132", 2}, {"231", "12", "213", 2}, {"321", "3", "123", 1}, {"213", "21", "123", 1},
		{"3142", "22", "1324", 2}, {"2413", "121", "2143", 2}, {"4123", "211", "1423", 3}, {"2341", "112", "2314", 3}, {"1234567", "1111111", "1234567", 0},
		{"7654321", "7", "1234567", 1}, {"2143657", "2221", "1234567", 1}, {"7123456", "211111", "1723456", 6}, {"2345671", "111112", "2345617", 6}, {"4321765", "43", "1234567", 1},
		{"3217654", "34", "1234567", 1}, {"5671234", "112111", "5617234", 6},
	} {
		falls, ok := impl.FallsOf(orderOf(c.order))
		wantText(t, "falls of "+c.order, textByHand(falls), ok, c.falls)
		sweep, ok := impl.FallSweep(orderOf(c.order))
		wantText(t, "fall sweep of "+c.order, textByHand(sweep), ok, c.sweep)
		count, ok := impl.CountFallSweeps(orderOf(c.order))
		wantNumber(t, "fall sweeps of "+c.order, count, ok, c.count)
	}
}

func TestIsLayeredForEveryOrder(t *testing.T) {
	counts := [impl.MaxSize + 1]int{}
	for _, order := range smallOrders(impl.MaxSize) {
		want := slices.ContainsFunc(allCutsOfSize[len(order)], func(cuts []int) bool { return slices.IsSorted(runCutsByHand(order, cuts)) })
		layered, ok := impl.IsLayered(order)
		sweep, _ := impl.FallSweep(order)
		if !ok || layered != want || layered != slices.IsSorted(sweep) {
			t.Errorf("IsLayered(%v) = %v, %v; its fall sweep is %v", order, layered, ok, sweep)
		}
		if layered {
			counts[len(order)]++
		}
	}
	if want := [impl.MaxSize + 1]int{0, 1, 2, 4, 8, 16, 32, 64}; counts != want {
		t.Errorf("layered orders are counted as %v", counts)
	}
	for text, want := range map[string]bool{"1": true, "12": true, "21": true, "231": false, "312": false, "2143": true, "3142": false, "2413": false, "3215476": true, "3216547": true, "7654321": true, "2345671": false} {
		if layered, ok := impl.IsLayered(orderOf(text)); !ok || layered != want {
			t.Errorf("IsLayered(%s) = %v, %v", text, layered, ok)
		}
	}
}

func TestCutsAtEveryRank(t *testing.T) {
	for n := 1; n <= impl.MaxSize; n++ {
		for k, want := range allCutsOfSize[n] {
			cuts, ok := impl.CutsAt(n, k)
			wantOrder(t, strconv.Itoa(n)+" numbers, rank "+strconv.Itoa(k), cuts, ok, want)
			rank, ok := impl.RankOfCuts(want)
			wantNumber(t, "rank of "+textByHand(want), rank, ok, k)
		}
		behind := 1 << (n - 1)
		for _, k := range []int{behind, behind + 1, 2 * behind, -1, -behind, 64, 100, 1 << 32, math.MaxInt, math.MinInt} {
			cuts, ok := impl.CutsAt(n, k)
			wantNoOrder(t, strconv.Itoa(n)+" numbers, rank "+strconv.Itoa(k), cuts, ok)
		}
	}
	for _, n := range noSizes() {
		for _, k := range []int{0, 1, 63, 64, -1, math.MaxInt, math.MinInt} {
			cuts, ok := impl.CutsAt(n, k)
			wantNoOrder(t, strconv.Itoa(n)+" numbers, rank "+strconv.Itoa(k), cuts, ok)
		}
	}
}

func TestRankOfCutsExamples(t *testing.T) {
	for _, c := range []struct {
		cuts string
		rank int
	}{
		{"1", 0}, {"11", 0}, {"2", 1}, {"111", 0}, {"12", 1}, {"21", 2}, {"3", 3}, {"1111", 0}, {"112", 1}, {"121", 2}, {"13", 3}, {"211", 4}, {"22", 5}, {"31", 6}, {"4", 7},
		{"1111111", 0}, {"111112", 1}, {"16", 31}, {"211111", 32}, {"61", 62}, {"7", 63},
	} {
		rank, ok := impl.RankOfCuts(orderOf(c.cuts))
		wantNumber(t, "rank of "+c.cuts, rank, ok, c.rank)
		cuts, ok := impl.CutsAt(sumOf(orderOf(c.cuts)), c.rank)
		wantText(t, "cuts of rank "+strconv.Itoa(c.rank), textByHand(cuts), ok, c.cuts)
	}
}

func sumOf(list []int) int {
	sum := 0
	for _, number := range list {
		sum += number
	}
	return sum
}

func TestCutsWordOfAllCuts(t *testing.T) {
	for n := 1; n <= impl.MaxSize; n++ {
		for _, cuts := range allCutsOfSize[n] {
			want := ""
			for _, part := range cuts {
				want += "IIIIIII"[:part] + "OOOOOOO"[:part]
			}
			w, ok := impl.CutsWord(cuts)
			wantText(t, "word of "+textByHand(cuts), w, ok, want)
			depth, ok := impl.DepthOf(w)
			wantNumber(t, "depth of "+w, depth, ok, slices.Max(cuts))
		}
	}
	for cuts, want := range map[string]string{"1": "IO", "2": "IIOO", "11": "IOIO", "21": "IIOOIO", "12": "IOIIOO", "313": "IIIOOOIOIIIOOO", "7": "IIIIIIIOOOOOOO", "1111111": "IOIOIOIOIOIOIO"} {
		w, ok := impl.CutsWord(orderOf(cuts))
		wantText(t, "word of "+cuts, w, ok, want)
	}
}

func TestCutsRefuseNoCuts(t *testing.T) {
	for _, cuts := range noCuts() {
		rank, ok := impl.RankOfCuts(cuts)
		wantNoNumber(t, "rank of no cuts", rank, ok)
		w, ok := impl.CutsWord(cuts)
		wantNoText(t, "word of no cuts", w, ok)
	}
}

// checkTwoCuts compares cuts and further cuts with those of a text, which is empty where there are none.
func checkTwoCuts(t *testing.T, order []int, target []int, want string) {
	t.Helper()
	first, second, ok := impl.TwoCuts(order, target)
	got := strings.TrimSpace(textByHand(first) + " " + textByHand(second))
	if ok != (want != "") || got != want {
		t.Errorf("TwoCuts(%v, %v) = %v, %v, %v; want %q", order, target, first, second, ok, want)
	}
}

func TestTwoCutsToEveryOrder(t *testing.T) {
	for _, order := range smallOrders(4) {
		byHand := twoCutsByHand(order)
		for _, target := range smallOrders(5) {
			checkTwoCuts(t, order, target, byHand[textByHand(target)])
		}
	}
	for n := 5; n <= impl.MaxSize; n++ {
		orders := ordersByHand(n)
		for _, order := range [][]int{upFrom1(n), downTo1(n), orders[len(orders)/3]} {
			byHand := twoCutsByHand(order)
			// Of the orders of six and seven numbers, some hundreds will do.
			for k := 0; k < len(orders); k += max(1, len(orders)/240) {
				checkTwoCuts(t, order, orders[k], byHand[textByHand(orders[k])])
			}
		}
	}
}

func TestTwoCutsExamples(t *testing.T) {
	for _, c := range []struct{ order, target, want string }{
		{"1", "1", "1 1"}, {"12", "12", "11 11"}, {"12", "21", "11 2"}, {"21", "12", "11 2"}, {"231", "123", "12 21"}, {"312", "123", "12 3"}, {"123", "321", "111 3"},
		{"123", "123", "111 111"}, {"1234", "2413", "22 121"}, {"12345", "24135", "221 1211"}, {"2345671", "1234567", "16 25"}, {"7123456", "1234567", "16 7"},
		{"4567123", "1234567", "16 43"}, {"1234567", "1234567", "1111111 1111111"}, {"1234567", "7654321", "1111111 7"}, {"2461357", "1234567", ""},
	} {
		if first := twoCutsByHand(orderOf(c.order))[c.target]; first != c.want {
			t.Errorf("%s to %s: %q by hand", c.order, c.target, first)
		}
		checkTwoCuts(t, orderOf(c.order), orderOf(c.target), c.want)
	}
}

func TestTwoCutsRefuse(t *testing.T) {
	for _, list := range noOrders() {
		checkTwoCuts(t, list, list, "")
		for _, order := range append(smallOrders(3), upFrom1(impl.MaxSize)) {
			checkTwoCuts(t, order, list, "")
			checkTwoCuts(t, list, order, "")
		}
	}
	for a := 1; a <= impl.MaxSize; a++ {
		for b := 1; b <= impl.MaxSize; b++ {
			if a != b {
				checkTwoCuts(t, upFrom1(a), upFrom1(b), "")
				checkTwoCuts(t, downTo1(a), upFrom1(b), "")
			}
		}
	}
}

func TestCountTwoCuts(t *testing.T) {
	counts := []int{0, 1, 2, 6, 24, 102, 414, 1598}
	for n := 1; n <= impl.MaxSize; n++ {
		if byHand := len(twoCutsByHand(upFrom1(n))); byHand != counts[n] {
			t.Errorf("%d orders come out of %d numbers by two cuts by hand", byHand, n)
		}
	}
	// What stands where does not change how many come out.
	for _, order := range append(smallOrders(5), fewOrders()...) {
		count, ok := impl.CountTwoCuts(order)
		wantNumber(t, "orders from "+textByHand(order), count, ok, counts[len(order)])
	}
}

func TestMostFallSweeps(t *testing.T) {
	for i, want := range []string{"1", "21", "231", "2341", "23451", "234561"} {
		n := i + 1
		most, order, ok := impl.MostFallSweeps(n)
		wantText(t, "most fall sweeps of "+strconv.Itoa(n)+" numbers", textByHand(order), ok, want)
		wantNumber(t, "most fall sweeps of "+want, most, ok, n-1)
		for _, other := range ordersByHand(n) {
			if count := fallSweepsByHand(other); count > most || count == most && slices.Compare(other, order) < 0 {
				t.Errorf("%v has %d fall sweeps", other, count)
			}
		}
	}
	for _, n := range append(noSizes(), impl.MaxSize) {
		most, order, ok := impl.MostFallSweeps(n)
		wantNoNumber(t, "most fall sweeps of "+strconv.Itoa(n)+" numbers", most, ok)
		wantNoOrder(t, "most fall sweeps of "+strconv.Itoa(n)+" numbers", order, ok)
	}
}

func TestFallSweptFromEveryOrder(t *testing.T) {
	for n := 1; n <= impl.MaxSize; n++ {
		orders, byHand, count := ordersByHand(n), map[string][][]int{}, 0
		for _, before := range orders {
			sweep := textByHand(fallSweepsOfOrders[textByHand(before)])
			byHand[sweep] = append(byHand[sweep], before)
		}
		for _, order := range orders {
			from, ok := impl.FallSweptFrom(order)
			wantLists(t, "orders whose fall sweep is "+textByHand(order), from, ok, byHand[textByHand(order)])
			count += len(from)
		}
		if count != len(orders) {
			t.Errorf("%d orders of %d numbers have a fall sweep", count, n)
		}
	}
	for order, want := range map[string]string{"1": "1", "12": "12 21", "21": "", "123": "123 132 213 321", "132": "312", "213": "231", "231": "", "312": "", "321": "", "1324": "1342 3124 3142", "7654321": ""} {
		from, ok := impl.FallSweptFrom(orderOf(order))
		wantText(t, "orders whose fall sweep is "+order, textOfOrders(from), ok, want)
	}
}

func TestCutsRefuseNoOrders(t *testing.T) {
	for _, list := range noOrders() {
		falls, ok := impl.FallsOf(list)
		wantNoOrder(t, "falls", falls, ok)
		sweep, ok := impl.FallSweep(list)
		wantNoOrder(t, "fall sweep", sweep, ok)
		count, ok := impl.CountFallSweeps(list)
		wantNoNumber(t, "fall sweeps", count, ok)
		count, ok = impl.CountTwoCuts(list)
		wantNoNumber(t, "orders by two cuts", count, ok)
		from, ok := impl.FallSweptFrom(list)
		wantNoLists(t, "orders with a fall sweep", from, ok)
		if layered, ok := impl.IsLayered(list); layered || ok {
			t.Errorf("IsLayered(%.8v) = %v, %v", list, layered, ok)
		}
	}
}

// cutsTold returns all that the functions of the chapter tell of an order, a target, cuts and a number: lists, and the rest as a text.
func cutsTold(order []int, target []int, cuts []int, k int) ([][]int, string) {
	var lists [][]int
	told := []string{}
	add := func(what string, ok bool, list ...[]int) {
		lists = append(lists, list...)
		told = append(told, what+" "+strconv.FormatBool(ok)+" "+strconv.Itoa(len(list)))
	}
	addNumber := func(number int, ok bool) { add(strconv.Itoa(number), ok) }
	addList := func(list []int, ok bool) { add("", ok, list) }
	add("", impl.AreCuts(len(order), cuts))
	add("", impl.AreCuts(k, cuts))
	addList(impl.RunCuts(order, cuts))
	addList(impl.CutsTo(order, target))
	addList(impl.FallsOf(order))
	addList(impl.FallSweep(order))
	addNumber(impl.CountFallSweeps(order))
	layered, ok := impl.IsLayered(order)
	add(strconv.FormatBool(layered), ok)
	addList(impl.CutsAt(len(order), k))
	addList(impl.CutsAt(k, len(cuts)))
	addNumber(impl.RankOfCuts(cuts))
	first, second, ok := impl.TwoCuts(order, target)
	add("", ok, first, second)
	addNumber(impl.CountTwoCuts(order))
	most, best, ok := impl.MostFallSweeps(min(k, 4))
	add(strconv.Itoa(most), ok, best)
	from, ok := impl.FallSweptFrom(order)
	add("", ok, from...)
	w, ok := impl.CutsWord(cuts)
	add(w, ok)
	return lists, strings.Join(told, "|")
}

// ordersWithFallSweeps are few orders, and fall sweeps of them, to which others lead.
func ordersWithFallSweeps() [][]int {
	orders := fewOrders()
	for _, order := range fewOrders() {
		orders = append(orders, fallSweepByHand(order))
	}
	return orders
}

func TestCutsKeepTheirArguments(t *testing.T) {
	none := noCuts()
	for i, order := range append(ordersWithFallSweeps(), noOrders()...) {
		target, falls := []int{2, 1}, []int{1, 2}
		if impl.IsOrder(order) {
			target, falls = fallSweepByHand(order), fallsByHand(order)
		}
		for k, cuts := range [][]int{falls, {len(order)}, none[i%len(none)]} {
			wide, wideTarget, wideCuts := widened(order), widened(target), widened(cuts)
			cutsTold(wide, wideTarget, wideCuts, k)
			cutsTold(wideTarget, wide, wideCuts, impl.MaxSize)
			if !isAsBefore(wide, order) || !isAsBefore(wideTarget, target) || !isAsBefore(wideCuts, cuts) {
				t.Errorf("changed: %.8v, %.8v, %.8v", wide, wideTarget, wideCuts)
			}
		}
	}
}

func TestCutsShareNoMemory(t *testing.T) {
	for _, order := range ordersWithFallSweeps() {
		before, target, cuts := slices.Clone(order), fallSweepByHand(order), fallsByHand(order)
		same := tellsTheSame(t, func() ([][]int, string) { return cutsTold(order, target, cuts, 3) })
		if !same || !slices.Equal(order, before) || !slices.Equal(target, fallSweepByHand(before)) || !slices.Equal(cuts, fallsByHand(before)) {
			t.Fatal("results are kept, or share memory with an argument:", before)
		}
		// Here one list is both orders, and all cuts that are told are the same.
		same = tellsTheSame(t, func() ([][]int, string) { return cutsTold(order, order, slices.Repeat([]int{1}, len(order)), 1) })
		if !same || !slices.Equal(order, before) {
			t.Fatal("results are kept, or share memory with", before)
		}
	}
}

func TestListsOfFallSweptFromAreNewEachTime(t *testing.T) {
	first, _ := impl.FallSweptFrom([]int{1, 2, 3})
	first[0] = nil
	_ = append(first[:1], []int{9, 9, 9})
	second, ok := impl.FallSweptFrom([]int{1, 2, 3})
	wantText(t, "FallSweptFrom 123", textOfOrders(second), ok, "123 132 213 321")
}

func TestCutsReturnTheSameForAnyArguments(t *testing.T) {
	none, bad := noOrders(), noCuts()
	for i, order := range append(noOrders(), ordersWithFallSweeps()...) {
		targets := [][]int{nil, none[i%len(none)], upFrom1(len(order)), downTo1(4)}
		lists := [][]int{nil, {len(order)}, bad[i%len(bad)], {2, 2}, {3, 4}, upFrom1(1 << 10)}
		for j, k := range []int{0, 1, impl.MaxSize, impl.MaxSize + 1, math.MinInt, math.MaxInt} {
			target, cuts := targets[(i+j)%len(targets)], lists[j]
			if !tellsTheSame(t, func() ([][]int, string) { return cutsTold(order, target, cuts, k) }) {
				t.Errorf("differs: %.8v, %.8v, %.8v, %d", order, target, cuts, k)
			}
		}
	}
}
