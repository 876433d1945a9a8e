package tests

import (
	"math"
	"math/big"
	"slices"
	"strconv"
	"strings"
	"testing"

	"loop.example/g01286/impl"
)

// fractionByHand leaves it to math/big to find the common divisor.
func fractionByHand(sum int, drawn int) [2]int {
	rat := big.NewRat(int64(sum), int64(drawn))
	return [2]int{int(rat.Num().Int64()), int(rat.Denom().Int64())}
}

func ratOf(fraction [2]int) *big.Rat { return big.NewRat(int64(fraction[0]), int64(fraction[1])) }

func textOfFraction(fraction [2]int) string {
	return strconv.Itoa(fraction[0]) + "/" + strconv.Itoa(fraction[1])
}

func wantFraction(t *testing.T, what string, got [2]int, ok bool, want [2]int) {
	t.Helper()
	if !ok || got != want {
		t.Errorf("%s: got %v, %v; want %v", what, got, ok, want)
	}
}

func wantNoFraction(t *testing.T, what string, got [2]int, ok bool) {
	t.Helper()
	if ok || got != [2]int{} {
		t.Errorf("%s: got %v, %v; want none", what, got, ok)
	}
}

// ordersMeanByHand goes through all orders of n numbers.
func ordersMeanByHand(n int, tell func(order []int) int) [2]int {
	orders, sum := ordersByHand(n), 0
	for _, order := range orders {
		sum += tell(order)
	}
	return fractionByHand(sum, len(orders))
}

// wordsMeanByHand goes through all words for n numbers.
func wordsMeanByHand(n int, tell func(w string) int) [2]int {
	sum := 0
	for _, w := range wordsOfSize[n] {
		sum += tell(w)
	}
	return fractionByHand(sum, len(wordsOfSize[n]))
}

func oneIf(isSo bool) int {
	if isSo {
		return 1
	}
	return 0
}

func inversionsByHand(order []int) int {
	return len(placesByHand(order, []int{2, 1}))
}

func passesByHand(order []int) int {
	count := 0
	for !slices.IsSorted(order) {
		order = mergeByHand(order)
		count++
	}
	return count
}

func keptByHand(w string) int {
	n := len(w) / 2
	count := 0
	for i, number := range runByHand(upFrom1(n), w) {
		count += oneIf(number == upFrom1(n)[i])
	}
	return count
}

// noDrawnSizes are sizes of which no orders, and no words, are drawn.
func noDrawnSizes() []int { return append(noSizes(), impl.MaxDrawn+1, -impl.MaxDrawn) }

// noDrawnNumbers are no depths, and no numbers of queues, that a chance is told of.
func noDrawnNumbers() []int {
	return []int{0, -1, -6, impl.MaxDrawn + 1, impl.MaxDrawn + 2, 100, 1 << 32, 1<<32 + 1, math.MaxInt, math.MinInt}
}

// sizeChances are the functions of the chapter that go by a size alone, with what they return found by hand.
var sizeChances = []struct {
	what   string
	tell   func(n int) ([2]int, bool)
	byHand func(n int) [2]int
	// want has the fractions for 1 to MaxDrawn numbers.
	want string
}{
	{"sorts", impl.ChanceSorts, func(n int) [2]int {
		return ordersMeanByHand(n, func(order []int) int { return oneIf(wordToByHand(order, upFrom1(n), wordsOfSize[n]) != "") })
	}, "1/1 1/1 5/6 7/12 7/20 11/60"},
	{"rise", impl.MeanRise, func(n int) [2]int {
		return ordersMeanByHand(n, func(order []int) int { return len(longestByHand(order, upward)) })
	}, "1/1 3/2 2/1 29/12 67/24 2261/720"},
	{"runs", impl.MeanRuns, func(n int) [2]int {
		return ordersMeanByHand(n, func(order []int) int { return len(runsByHand(order)) })
	}, "1/1 3/2 2/1 5/2 3/1 7/2"},
	{"passes", impl.MeanPasses, func(n int) [2]int { return ordersMeanByHand(n, passesByHand) }, "0/1 1/2 1/1 35/24 71/40 1439/720"},
	{"inversions", impl.MeanInversions, func(n int) [2]int { return ordersMeanByHand(n, inversionsByHand) }, "0/1 1/2 3/2 3/1 5/1 15/2"},
	{"depth", impl.MeanDepth, func(n int) [2]int { return wordsMeanByHand(n, depthByHand) }, "1/1 3/2 2/1 17/7 59/21 139/44"},
	{"kept", impl.MeanKept, func(n int) [2]int { return wordsMeanByHand(n, keptByHand) }, "1/1 1/1 6/5 9/7 29/21 16/11"},
	{"conflicts", impl.MeanConflicts, func(n int) [2]int {
		return ordersMeanByHand(n, func(order []int) int { return len(conflictsByHand(order)) })
	}, "0/1 0/1 1/6 7/12 13/10 47/20"},
}

func TestChancesAndMeansOfEverySize(t *testing.T) {
	for _, c := range sizeChances {
		fractions := strings.Fields(c.want)
		if len(fractions) != impl.MaxDrawn {
			t.Fatal("not a fraction for each size:", c.what)
		}
		for n := 1; n <= impl.MaxDrawn; n++ {
			what := c.what + " of " + strconv.Itoa(n) + " numbers"
			fraction, ok := c.tell(n)
			wantFraction(t, what, fraction, ok, c.byHand(n))
			wantText(t, what, textOfFraction(fraction), ok, fractions[n-1])
		}
		for _, n := range noDrawnSizes() {
			fraction, ok := c.tell(n)
			wantNoFraction(t, c.what+" of "+strconv.Itoa(n)+" numbers", fraction, ok)
		}
	}
}

// numberChances are the functions that go by a size and a number.
var numberChances = []struct {
	what   string
	tell   func(n int, k int) ([2]int, bool)
	byHand func(n int, k int) [2]int
	most   int
	// want has a row for each size, with a fraction for each number from 1 up to the most.
	want []string
}{
	{"queues", impl.ChanceQueues, func(n int, k int) [2]int {
		return ordersMeanByHand(n, func(order []int) int { return oneIf(fewestQueuesByHand(order, nil) == k) })
	}, impl.MaxDrawn, []string{
		"1/1 0/1 0/1 0/1 0/1 0/1", "1/2 1/2 0/1 0/1 0/1 0/1", "1/6 2/3 1/6 0/1 0/1 0/1",
		"1/24 13/24 3/8 1/24 0/1 0/1", "1/120 41/120 61/120 2/15 1/120 0/1", "1/720 131/720 127/240 181/720 5/144 1/720",
	}},
	{"stacks", impl.ChanceStacks, func(n int, k int) [2]int {
		return ordersMeanByHand(n, func(order []int) int { return oneIf(fewestStacksOfOrders[textByHand(order)] == k) })
	}, impl.MaxStacks, []string{
		"1/1 0/1 0/1 0/1", "1/1 0/1 0/1 0/1", "5/6 1/6 0/1 0/1", "7/12 3/8 1/24 0/1", "7/20 61/120 2/15 1/120", "11/60 127/240 181/720 5/144",
	}},
	{"depth", impl.ChanceDepth, func(n int, depth int) [2]int {
		return wordsMeanByHand(n, func(w string) int { return oneIf(depthByHand(w) <= depth) })
	}, impl.MaxDrawn, []string{
		"1/1 1/1 1/1 1/1 1/1 1/1", "1/2 1/1 1/1 1/1 1/1 1/1", "1/5 4/5 1/1 1/1 1/1 1/1",
		"1/14 4/7 13/14 1/1 1/1 1/1", "1/42 8/21 17/21 41/42 1/1 1/1", "1/132 8/33 89/132 61/66 131/132 1/1",
	}},
}

func TestChancesOfEverySizeAndNumber(t *testing.T) {
	for _, c := range numberChances {
		for n := 1; n <= impl.MaxDrawn; n++ {
			fractions := strings.Fields(c.want[n-1])
			if len(fractions) != c.most {
				t.Fatal("not a fraction for each number:", c.what, n)
			}
			for k := 1; k <= c.most; k++ {
				what := c.what + " " + strconv.Itoa(k) + " of " + strconv.Itoa(n) + " numbers"
				fraction, ok := c.tell(n, k)
				wantFraction(t, what, fraction, ok, c.byHand(n, k))
				wantText(t, what, textOfFraction(fraction), ok, fractions[k-1])
			}
		}
	}
}

func TestChancesRefuseNumbers(t *testing.T) {
	for _, c := range numberChances {
		none := append(noDrawnNumbers(), c.most+1)
		for n := 1; n <= impl.MaxDrawn; n++ {
			for _, k := range none {
				fraction, ok := c.tell(n, k)
				wantNoFraction(t, c.what+" "+strconv.Itoa(k)+" of "+strconv.Itoa(n)+" numbers", fraction, ok)
			}
		}
		for _, n := range noDrawnSizes() {
			for _, k := range append(none, 1, 2, 3, c.most) {
				fraction, ok := c.tell(n, k)
				wantNoFraction(t, c.what+" "+strconv.Itoa(k)+" of "+strconv.Itoa(n)+" numbers", fraction, ok)
			}
		}
	}
}

func TestChanceOutputOfEveryOrder(t *testing.T) {
	for _, order := range smallOrders(impl.MaxDrawn) {
		n := len(order)
		chance, ok := impl.ChanceOutput(order)
		want := wordsMeanByHand(n, func(w string) int { return oneIf(slices.IsSorted(runByHand(order, w))) })
		wantFraction(t, "output of "+textByHand(order), chance, ok, want)
		// No more than one word sorts an order.
		if sortable, _ := impl.IsSortable(order); sortable {
			wantFraction(t, "output of "+textByHand(order), chance, ok, [2]int{1, len(wordsOfSize[n])})
		} else {
			wantFraction(t, "output of "+textByHand(order), chance, ok, [2]int{0, 1})
		}
	}
}

func TestChanceOutputExamples(t *testing.T) {
	for order, want := range map[string]string{
		"1": "1/1", "12": "1/2", "21": "1/2", "123": "1/5", "321": "1/5", "312": "1/5", "231": "0/1", "1234": "1/14", "2413": "0/1", "3142": "0/1", "4321": "1/14", "3214": "1/14",
		"12345": "1/42", "54321": "1/42", "23451": "0/1", "52134": "1/42", "123456": "1/132", "654321": "1/132", "165432": "1/132", "234561": "0/1", "612345": "1/132", "134256": "0/1",
	} {
		chance, ok := impl.ChanceOutput(orderOf(order))
		wantText(t, "output of "+order, textOfFraction(chance), ok, want)
	}
}

func TestChanceOutputRefuses(t *testing.T) {
	for _, list := range noOrders() {
		chance, ok := impl.ChanceOutput(list)
		wantNoFraction(t, "output of no order", chance, ok)
	}
	for _, order := range ordersByHand(impl.MaxDrawn + 1) {
		chance, ok := impl.ChanceOutput(order)
		wantNoFraction(t, "output of "+textByHand(order), chance, ok)
	}
}

func TestChanceAvoidsEveryList(t *testing.T) {
	for _, patterns := range patternLists() {
		for n := 1; n <= impl.MaxDrawn; n++ {
			chance, ok := impl.ChanceAvoids(n, patterns)
			want := ordersMeanByHand(n, func(order []int) int { return oneIf(avoidsByHand(order, patterns)) })
			wantFraction(t, strconv.Itoa(n)+" numbers avoid "+textOfOrders(patterns), chance, ok, want)
		}
	}
	for _, pattern := range smallOrders(4) {
		for n := 1; n <= impl.MaxDrawn; n++ {
			chance, ok := impl.ChanceAvoids(n, [][]int{pattern})
			want := ordersMeanByHand(n, func(order []int) int { return oneIf(avoidsByHand(order, [][]int{pattern})) })
			wantFraction(t, strconv.Itoa(n)+" numbers avoid "+textByHand(pattern), chance, ok, want)
		}
	}
}

func TestChanceAvoidsExamples(t *testing.T) {
	for patterns, want := range map[string]string{
		"":                                "1/1 1/1 1/1 1/1 1/1 1/1",
		"1":                               "0/1 0/1 0/1 0/1 0/1 0/1",
		"12":                              "1/1 1/2 1/6 1/24 1/120 1/720",
		"21":                              "1/1 1/2 1/6 1/24 1/120 1/720",
		"12 21":                           "1/1 0/1 0/1 0/1 0/1 0/1",
		"231":                             "1/1 1/1 5/6 7/12 7/20 11/60",
		"231 231 231 231":                 "1/1 1/1 5/6 7/12 7/20 11/60",
		"231 123":                         "1/1 1/1 2/3 7/24 11/120 1/45",
		"123 321":                         "1/1 1/1 2/3 1/6 0/1 0/1",
		"123 132 213 231":                 "1/1 1/1 1/3 1/12 1/60 1/360",
		"2413 3142":                       "1/1 1/1 1/1 11/12 3/4 197/360",
		"1234":                            "1/1 1/1 1/1 23/24 103/120 57/80",
		"12345 54321":                     "1/1 1/1 1/1 1/1 59/60 167/180",
		"123456":                          "1/1 1/1 1/1 1/1 1/1 719/720",
		"1234567":                         "1/1 1/1 1/1 1/1 1/1 1/1",
		"7654321 1234567 2143657 1726354": "1/1 1/1 1/1 1/1 1/1 1/1",
		"7654321 1234567 21":              "1/1 1/2 1/6 1/24 1/120 1/720",
	} {
		for i, fraction := range strings.Fields(want) {
			chance, ok := impl.ChanceAvoids(i+1, ordersOfTexts(patterns))
			wantText(t, strconv.Itoa(i+1)+" numbers avoid "+patterns, textOfFraction(chance), ok, fraction)
		}
	}
	for n := 1; n <= impl.MaxDrawn; n++ {
		chance, ok := impl.ChanceAvoids(n, nil)
		wantFraction(t, "no patterns", chance, ok, [2]int{1, 1})
	}
}

func TestChanceAvoidsRefuses(t *testing.T) {
	for _, patterns := range noPatternLists() {
		for _, n := range append(noDrawnSizes(), 1, 2, 3, 4, 5, impl.MaxDrawn) {
			chance, ok := impl.ChanceAvoids(n, patterns)
			wantNoFraction(t, strconv.Itoa(n)+" numbers avoid no patterns", chance, ok)
		}
	}
	for _, patterns := range append(patternLists(), nil) {
		for _, n := range noDrawnSizes() {
			chance, ok := impl.ChanceAvoids(n, patterns)
			wantNoFraction(t, strconv.Itoa(n)+" numbers avoid "+textOfOrders(patterns), chance, ok)
		}
	}
}

func TestChancesOfQueuesAreOneTogether(t *testing.T) {
	for n := 1; n <= impl.MaxDrawn; n++ {
		together, mean := new(big.Rat), new(big.Rat)
		for k := 1; k <= impl.MaxDrawn; k++ {
			chance, ok := impl.ChanceQueues(n, k)
			if !ok || (chance == [2]int{0, 1}) != (k > n) {
				t.Fatalf("ChanceQueues(%d, %d) = %v, %v", n, k, chance, ok)
			}
			together.Add(together, ratOf(chance))
			mean.Add(mean, new(big.Rat).Mul(ratOf(chance), big.NewRat(int64(k), 1)))
		}
		if together.Cmp(big.NewRat(1, 1)) != 0 {
			t.Errorf("chances of queues of %d numbers are %v together", n, together)
		}
		// An order read from right to left has its falls as rises.
		rise, ok := impl.MeanRise(n)
		if !ok || mean.Cmp(ratOf(rise)) != 0 {
			t.Errorf("%d numbers need %v queues, but a rise has %v", n, mean, rise)
		}
	}
}

func TestChancesOfStacksAreThatOfSorting(t *testing.T) {
	for n := 1; n <= impl.MaxDrawn; n++ {
		sorts, ok := impl.ChanceSorts(n)
		stacks, okStacks := impl.ChanceStacks(n, 1)
		wantFraction(t, "one stack for "+strconv.Itoa(n), stacks, ok && okStacks, sorts)
		avoids, okAvoids := impl.ChanceAvoids(n, [][]int{{2, 3, 1}})
		wantFraction(t, "without the pattern 231 of "+strconv.Itoa(n), avoids, ok && okAvoids, sorts)
		sortable, _ := impl.CountOneStack(n)
		wantFraction(t, "sortable orders of "+strconv.Itoa(n), sorts, ok, fractionByHand(sortable, len(ordersByHand(n))))
		together := new(big.Rat)
		for k := 1; k <= impl.MaxStacks; k++ {
			chance, ok := impl.ChanceStacks(n, k)
			if !ok {
				t.Fatal("no chance of stacks:", n, k)
			}
			together.Add(together, ratOf(chance))
		}
		want := big.NewRat(1, 1)
		if n == 6 {
			// There is an order that needs more than MaxStacks stacks: 234561.
			want.SetFrac64(719, 720)
		}
		if together.Cmp(want) != 0 {
			t.Errorf("chances of stacks of %d numbers are %v together", n, together)
		}
	}
}

func TestMeansOfRunsAndOfInversions(t *testing.T) {
	for n := 1; n <= impl.MaxDrawn; n++ {
		runs, ok := impl.MeanRuns(n)
		wantFraction(t, "runs of "+strconv.Itoa(n), runs, ok, fractionByHand(n+1, 2))
		inversions, ok := impl.MeanInversions(n)
		wantFraction(t, "inversions of "+strconv.Itoa(n), inversions, ok, fractionByHand(n*(n-1), 4))
	}
}

func TestChanceDepthDoesNotFall(t *testing.T) {
	for n := 1; n <= impl.MaxDrawn; n++ {
		last := [2]int{0, 1}
		// The mean adds up how often each depth is passed.
		mean := new(big.Rat)
		for depth := 1; depth <= impl.MaxDrawn; depth++ {
			chance, ok := impl.ChanceDepth(n, depth)
			if !ok || ratOf(chance).Cmp(ratOf(last)) < 0 || (chance == [2]int{1, 1}) != (depth >= n) {
				t.Errorf("ChanceDepth(%d, %d) = %v, %v behind %v", n, depth, chance, ok, last)
			}
			mean.Add(mean, new(big.Rat).Sub(big.NewRat(1, 1), ratOf(last)))
			last = chance
		}
		depth, ok := impl.MeanDepth(n)
		if !ok || mean.Cmp(ratOf(depth)) != 0 {
			t.Errorf("MeanDepth(%d) = %v, %v; by chances %v", n, depth, ok, mean)
		}
	}
}

// chancesTold returns all that the functions of the chapter tell of an order, patterns, a size and a number: fractions as lists, and the rest as a text.
func chancesTold(order []int, patterns [][]int, n int, k int) ([][]int, string) {
	var lists [][]int
	told := ""
	add := func(fraction [2]int, ok bool) {
		lists = append(lists, fraction[:])
		told += textOfFraction(fraction) + " " + strconv.FormatBool(ok) + "|"
	}
	add(impl.ChanceOutput(order))
	add(impl.ChanceAvoids(n, patterns))
	for _, c := range sizeChances {
		add(c.tell(n))
	}
	for _, c := range numberChances {
		add(c.tell(n, k))
	}
	return lists, told
}

func TestChancesKeepTheirArguments(t *testing.T) {
	lists := append(patternLists(), noPatternLists()...)
	for i, order := range append(fewOrders(), noOrders()...) {
		for j, patterns := range [][][]int{{order}, lists[i%len(lists)], lists[(7*i+3)%len(lists)]} {
			wide, widePatterns := widened(order), widenedLists(patterns)
			chancesTold(wide, widePatterns, 1+(i+j)%4, 1+i%4)
			chancesTold(wide, append(widePatterns[:0:0], wide), 3, j)
			if !isAsBefore(wide, order) || !areAsBefore(widePatterns, patterns) {
				t.Errorf("changed: %.8v, %.8v", wide, widePatterns[:min(8, len(widePatterns))])
			}
		}
	}
}

func TestChancesShareNoMemory(t *testing.T) {
	for i, order := range fewOrders() {
		before, patterns := slices.Clone(order), [][]int{{2, 3, 1}, order}
		same := tellsTheSame(t, func() ([][]int, string) { return chancesTold(order, patterns, 1+i%5, 1+i%4) })
		if !same || !slices.Equal(order, before) || !slices.Equal(patterns[0], []int{2, 3, 1}) || !slices.Equal(patterns[1], before) {
			t.Fatal("results are kept, or share memory with an argument:", before)
		}
		// What was told of other arguments that stood in the same memory is not kept.
		slices.Reverse(order)
		patterns[0] = []int{1, 2}
		_, told := chancesTold(order, patterns, 3, 2)
		_, wanted := chancesTold(slices.Clone(order), [][]int{{1, 2}, slices.Clone(order)}, 3, 2)
		if told != wanted {
			t.Errorf("%v backward: told %s; want %s", before, told, wanted)
		}
	}
}

func TestChancesReturnTheSameForAnyArguments(t *testing.T) {
	lists := append(patternLists(), noPatternLists()...)
	numbers := []int{0, 1, 3, impl.MaxStacks, impl.MaxStacks + 1, impl.MaxDrawn, impl.MaxDrawn + 1, math.MinInt, math.MaxInt}
	for i, order := range append(noOrders(), fewOrders()...) {
		for j, k := range numbers {
			n := numbers[(i+2*j)%len(numbers)]
			patterns := lists[(i+j)%len(lists)]
			if !tellsTheSame(t, func() ([][]int, string) { return chancesTold(order, patterns, n, k) }) {
				t.Errorf("differs: %.8v, %d, %d", order, n, k)
			}
		}
	}
}
