package tests

import (
	"math"
	"slices"
	"strconv"
	"strings"
	"testing"

	"loop.example/g01286/impl"
)

// conflictsByHand tries all three places that the document's words name.
func conflictsByHand(order []int) [][2]int {
	var conflicts [][2]int
	for i := range order {
		for j := i + 1; j < len(order); j++ {
			for behind := j + 1; behind < len(order); behind++ {
				pair := [2]int{i, j}
				if order[j] > order[i] && order[behind] < order[i] && !slices.Contains(conflicts, pair) {
					conflicts = append(conflicts, pair)
				}
			}
		}
	}
	return conflicts
}

func textOfConflicts(conflicts [][2]int) string {
	texts := []string{}
	for _, pair := range conflicts {
		texts = append(texts, textByHand(pair[:]))
	}
	return strings.Join(texts, " ")
}

// sharingsByHand returns all lists of n of the first k stacks, in order.
func sharingsByHand(n int, k int) [][]int {
	sharings := [][]int{{}}
	for range n {
		var longer [][]int
		for _, begun := range sharings {
			for stack := range k {
				longer = append(longer, append(slices.Clone(begun), stack))
			}
		}
		sharings = longer
	}
	return sharings
}

// sharingsOfSize has all lists of n of the first k stacks, by n and k.
var sharingsOfSize = func() [impl.MaxSize + 1][impl.MaxStacks + 1][][]int {
	var table [impl.MaxSize + 1][impl.MaxStacks + 1][][]int
	for n := 1; n <= impl.MaxSize; n++ {
		for k := 1; k <= impl.MaxStacks; k++ {
			table[n][k] = sharingsByHand(n, k)
		}
	}
	return table
}()

func fitsByHand(conflicts [][2]int, sharing []int) bool {
	return !slices.ContainsFunc(conflicts, func(pair [2]int) bool { return sharing[pair[0]] == sharing[pair[1]] })
}

// canComeOutSorted tries to push as well as to pop, each time that both can be done.
func canComeOutSorted(order []int, sharing []int, pushed int, stacks [impl.MaxStacks]string, least int) bool {
	if least > len(order) {
		return true
	}
	for at, stack := range stacks {
		if strings.HasSuffix(stack, strconv.Itoa(least)) {
			popped := stacks
			popped[at] = stack[:len(stack)-1]
			if canComeOutSorted(order, sharing, pushed, popped, least+1) {
				return true
			}
		}
	}
	if pushed == len(order) {
		return false
	}
	stacks[sharing[pushed]] += strconv.Itoa(order[pushed])
	return canComeOutSorted(order, sharing, pushed+1, stacks, least)
}

// movesByHand returns the moves, what comes out, and the depths: ahead of each push, and at last, it pops what can come out.
func movesByHand(order []int, sharing []int) (string, []int, [impl.MaxStacks]int) {
	moves, out, depths := "", []int{}, [impl.MaxStacks]int{}
	stacks := make([][]int, impl.MaxStacks)
	for place := range len(order) + 1 {
		for least := 1; least <= len(order); least++ {
			at := slices.IndexFunc(stacks, func(stack []int) bool { return len(stack) > 0 && stack[len(stack)-1] == least })
			if at >= 0 && len(out) == least-1 {
				stacks[at] = stacks[at][:len(stacks[at])-1]
				moves, out = moves+"abcd"[at:at+1], append(out, least)
			}
		}
		if place < len(order) {
			at := sharing[place]
			stacks[at] = append(stacks[at], order[place])
			moves, depths[at] = moves+"ABCD"[at:at+1], max(depths[at], len(stacks[at]))
		}
	}
	return moves, out, depths
}

// fewestStacksByHand tries for each number all stacks that have numbers, and a new one.
func fewestStacksByHand(conflicts [][2]int, size int, begun []int) int {
	if len(begun) == size {
		return slices.Max(begun) + 1
	}
	fewest := size
	for stack := range slices.Max(append([]int{-1}, begun...)) + 2 {
		longer := append(slices.Clone(begun), stack)
		if fitsByHand(conflictsUpTo(conflicts, len(begun)), longer) {
			fewest = min(fewest, fewestStacksByHand(conflicts, size, longer))
		}
	}
	return fewest
}

// conflictsUpTo leaves out the conflicts with places behind a last one.
func conflictsUpTo(conflicts [][2]int, last int) [][2]int {
	return slices.DeleteFunc(slices.Clone(conflicts), func(pair [2]int) bool { return pair[1] > last })
}

// fewestStacksOfOrders has the fewest stacks of each order, by the text of the order.
var fewestStacksOfOrders = func() map[string]int {
	table := map[string]int{}
	for _, order := range smallOrders(impl.MaxSize) {
		table[textByHand(order)] = fewestStacksByHand(conflictsByHand(order), len(order), nil)
	}
	return table
}()

// firstSharingByHand returns the first sharing with the first k stacks that fits, or nil.
func firstSharingByHand(order []int, k int) []int {
	conflicts, sharings := conflictsByHand(order), sharingsOfSize[len(order)][k]
	at := slices.IndexFunc(sharings, func(sharing []int) bool { return fitsByHand(conflicts, sharing) })
	if at < 0 {
		return nil
	}
	return sharings[at]
}

// greedyByHand returns nil where there is no stack for some number.
func greedyByHand(order []int) []int {
	conflicts, sharing := conflictsByHand(order), []int{}
	for place := range order {
		stack := 0
		for stack < impl.MaxStacks && !fitsByHand(conflictsUpTo(conflicts, place), append(slices.Clone(sharing), stack)) {
			stack++
		}
		if stack == impl.MaxStacks {
			return nil
		}
		sharing = append(sharing, stack)
	}
	return sharing
}

// noSharings are lists that are no sharings of orders of n numbers.
func noSharings(n int) [][]int {
	lists := [][]int{nil, {}, make([]int, n+1), make([]int, n-1), make([]int, 2*n), make([]int, n+256), make([]int, 1<<16), slices.Repeat([]int{-1}, n), slices.Repeat([]int{impl.MaxStacks}, n)}
	for _, stack := range []int{-1, impl.MaxStacks, impl.MaxStacks + 1, -impl.MaxStacks, impl.MaxSize, 256, 1 << 32, 1<<32 + 1, math.MaxInt, math.MinInt} {
		for place := range n {
			list := make([]int, n)
			list[place] = stack
			lists = append(lists, list)
		}
	}
	return lists
}

func TestConflictsOfEveryOrder(t *testing.T) {
	for _, order := range smallOrders(impl.MaxSize) {
		conflicts, ok := impl.ConflictsOf(order)
		if !ok || !slices.Equal(conflicts, conflictsByHand(order)) {
			t.Errorf("ConflictsOf(%v) = %v, %v", order, conflicts, ok)
		}
		sortable, _ := impl.IsSortable(order)
		avoids, _ := impl.AvoidsAll(order, [][]int{{2, 3, 1}})
		fewest, _ := impl.FewestStacks(order)
		if none := len(conflicts) == 0; none != sortable || none != avoids || none != (fewest == 1) {
			t.Errorf("%v has the conflicts %v; sortable %v, avoids 231 %v, needs %d stacks", order, conflicts, sortable, avoids, fewest)
		}
	}
}

func TestConflictsExamples(t *testing.T) {
	for order, want := range map[string]string{
		"1": "", "12": "", "21": "", "231": "01", "312": "", "132": "", "3142": "02", "2413": "01", "24153": "01 13", "34512": "01 02 12", "25314": "01 02", "352614": "01 03 13 23",
		"1234567": "", "7654321": "", "1234576": "", "2345671": "01 02 03 04 05 12 13 14 15 23 24 25 34 35 45", "4567123": "01 02 03 12 13 23", "1234675": "45", "4152637": "02 04 24",
	} {
		conflicts, ok := impl.ConflictsOf(orderOf(order))
		wantText(t, "conflicts of "+order, textOfConflicts(conflicts), ok, want)
	}
}

func TestIsSharingOfEveryList(t *testing.T) {
	for size := range 5 {
		list := make([]int, size)
		for code := range int(math.Pow(7, float64(size))) {
			inRange := true
			for place := range list {
				list[place] = code%7 - 1
				inRange = inRange && list[place] >= 0 && list[place] <= 3
				code /= 7
			}
			for n := 1; n <= 5; n++ {
				for _, order := range [][]int{upFrom1(n), downTo1(n)} {
					if impl.IsSharing(order, list) != (inRange && n == size) {
						t.Errorf("IsSharing(%v, %v) is wrong", order, list)
					}
				}
			}
		}
	}
	for _, order := range fewOrders() {
		for stack := range impl.MaxStacks {
			if !impl.IsSharing(order, slices.Repeat([]int{stack}, len(order))) {
				t.Errorf("all numbers of %v cannot go on the stack %d", order, stack)
			}
		}
	}
}

// checkSharing compares all that is told of an order and a sharing with what is found by hand.
func checkSharing(t *testing.T, order []int, sharing []int) {
	t.Helper()
	what := textByHand(order) + " by " + textByHand(sharing)
	wantFits := fitsByHand(conflictsByHand(order), sharing)
	if canComeOutSorted(order, sharing, 0, [impl.MaxStacks]string{}, 1) != wantFits {
		t.Error("the document is wrong about", what)
	}
	fits, ok := impl.FitsSharing(order, sharing)
	if !ok || fits != wantFits || !impl.IsSharing(order, sharing) {
		t.Errorf("%s: fits %v, %v", what, fits, ok)
	}
	wantMoves, wantOut, wantDepths := movesByHand(order, sharing)
	moves, ok := impl.MovesOf(order, sharing)
	wantText(t, "moves of "+what, moves, ok, wantMoves)
	out, ok := impl.ComesOut(order, sharing)
	wantOrder(t, "what comes out of "+what, out, ok, wantOut)
	if fits != slices.Equal(out, upFrom1(len(order))) {
		t.Errorf("%s: fits %v, but %v comes out", what, fits, out)
	}
	depths, ok := impl.DepthsOf(order, sharing)
	if !ok || depths != wantDepths {
		t.Errorf("%s: depths %v, %v; want %v", what, depths, ok, wantDepths)
	}
}

func TestSharingsOfOrders(t *testing.T) {
	for _, order := range smallOrders(5) {
		for _, sharing := range sharingsOfSize[len(order)][impl.MaxStacks] {
			checkSharing(t, order, sharing)
		}
	}
	for _, order := range fewOrders() {
		// Of the sharings of longer orders, some will do; by an odd step, each stack stands at each place.
		sharings := sharingsOfSize[len(order)][impl.MaxStacks]
		for k := 0; k < len(sharings); k += 1 + len(sharings)/64*2 {
			checkSharing(t, order, sharings[k])
		}
		for k := 1; k <= impl.MaxStacks; k++ {
			checkSharing(t, order, slices.Repeat([]int{k - 1}, len(order)))
			if first := firstSharingByHand(order, k); first != nil {
				checkSharing(t, order, first)
			}
		}
	}
}

func TestMovesExamples(t *testing.T) {
	for _, c := range []struct {
		order, sharing, moves, out, depths string
		fits                               bool
	}{
		{"1", "0", "Aa", "1", "1000", true}, {"1", "3", "Dd", "1", "0001", true}, {"12", "00", "AaAa", "12", "1000", true}, {"21", "00", "AAaa", "12", "2000", true},
		{"21", "10", "BAab", "12", "1100", true}, {"231", "010", "ABAaab", "123", "2100", true}, {"231", "000", "AAAa", "1", "3000", false}, {"231", "001", "AABb", "1", "2100", false},
		{"231", "321", "DCBbdc", "123", "0111", true}, {"3142", "0010", "AAaBAaab", "1234", "2100", true}, {"3142", "0000", "AAaAAa", "12", "3000", false},
		{"2413", "0000", "AAAaA", "1", "3000", false}, {"2413", "0123", "ABCcaDdb", "1234", "1111", true}, {"2413", "0001", "AAAaB", "1", "3100", false},
		{"34512", "01200", "ABCAaAaabc", "12345", "2110", true}, {"34512", "01101", "ABBAaBba", "123", "2300", false}, {"25314", "01100", "ABBAaabAab", "12345", "2200", true},
		{"7654321", "0000000", "AAAAAAAaaaaaaa", "1234567", "7000", true}, {"7654321", "0123012", "ABCDABCcbadcba", "1234567", "2221", true}, {"1234567", "3333333", "DdDdDdDdDdDdDd", "1234567", "0001", true},
		{"2345671", "0123000", "ABCDAAAa", "1", "4111", false}, {"2345671", "0123330", "ABCDDDAaabc", "1234", "2113", false}, {"4567123", "0123000", "ABCDAaAaAaabcd", "1234567", "2111", true},
		{"1234675", "0000010", "AaAaAaAaABAaab", "1234567", "2100", true}, {"1234675", "0000000", "AaAaAaAaAAAa", "12345", "3000", false}, {"1234675", "1111112", "BbBbBbBbBBCc", "12345", "0210", false},
	} {
		what := c.order + " by " + c.sharing
		order, sharing := orderOf(c.order), orderOf(c.sharing)
		checkSharing(t, order, sharing)
		moves, ok := impl.MovesOf(order, sharing)
		wantText(t, "moves of "+what, moves, ok, c.moves)
		out, ok := impl.ComesOut(order, sharing)
		wantText(t, "what comes out of "+what, textByHand(out), ok, c.out)
		depths, ok := impl.DepthsOf(order, sharing)
		wantText(t, "depths of "+what, textByHand(depths[:]), ok, c.depths)
		if fits, ok := impl.FitsSharing(order, sharing); !ok || fits != c.fits {
			t.Errorf("%s: fits %v, %v", what, fits, ok)
		}
	}
}

func TestFewestStacksAndFirstSharingOfEveryOrder(t *testing.T) {
	for _, order := range smallOrders(impl.MaxSize) {
		text := textByHand(order)
		fewest, ok := impl.FewestStacks(order)
		wantNumber(t, "stacks of "+text, fewest, ok, fewestStacksOfOrders[text])
		first, ok := impl.FirstSharing(order)
		if fewestStacksOfOrders[text] > impl.MaxStacks {
			wantNoOrder(t, "first sharing of "+text, first, ok)
			continue
		}
		wantOrder(t, "first sharing of "+text, first, ok, firstSharingByHand(order, fewestStacksOfOrders[text]))
		if fits, ok := impl.FitsSharing(order, first); !ok || !fits {
			t.Errorf("FitsSharing(%v, %v) = %v, %v", order, first, fits, ok)
		}
	}
}

func TestGreedySharingOfEveryOrder(t *testing.T) {
	for _, order := range smallOrders(impl.MaxSize) {
		greedy, ok := impl.GreedySharing(order)
		want := greedyByHand(order)
		if want == nil {
			wantNoOrder(t, "greedy sharing of "+textByHand(order), greedy, ok)
			continue
		}
		wantOrder(t, "greedy sharing of "+textByHand(order), greedy, ok, want)
		if fits, ok := impl.FitsSharing(order, greedy); !ok || !fits {
			t.Errorf("FitsSharing(%v, %v) = %v, %v", order, greedy, fits, ok)
		}
	}
}

func TestFewestStacksExamples(t *testing.T) {
	for _, c := range []struct {
		order         string
		fewest        int
		first, greedy string
	}{
		{"1", 1, "0", "0"}, {"12", 1, "00", "00"}, {"21", 1, "00", "00"}, {"231", 2, "010", "010"}, {"2341", 3, "0120", "0120"}, {"23451", 4, "01230", "01230"},
		{"3142", 2, "0010", "0010"}, {"2413", 2, "0100", "0100"}, {"24153", 2, "01000", "01000"}, {"34512", 3, "01200", "01200"}, {"1234567", 1, "0000000", "0000000"},
		{"7654321", 1, "0000000", "0000000"}, {"352614", 3, "010200", "010200"}, {"3627514", 3, "0102100", "0102100"}, {"4567123", 4, "0123000", "0123000"},
		// Here the first stack without a conflict is not always the one to take.
		{"251463", 2, "010100", "010020"}, {"524163", 2, "010010", "001020"}, {"1362574", 2, "0010100", "0010020"}, {"2461573", 3, "0120200", "0120030"}, {"2517463", 2, "0100100", "0100020"},
		// These are more stacks than there are for sharings.
		{"234561", 5, "", ""}, {"2345671", 6, "", ""}, {"3245671", 5, "", ""}, {"2345617", 5, "", ""}, {"1345672", 5, "", ""},
	} {
		fewest, ok := impl.FewestStacks(orderOf(c.order))
		wantNumber(t, "stacks of "+c.order, fewest, ok, c.fewest)
		first, okFirst := impl.FirstSharing(orderOf(c.order))
		greedy, okGreedy := impl.GreedySharing(orderOf(c.order))
		if c.first == "" {
			wantNoOrder(t, "first sharing of "+c.order, first, okFirst)
			wantNoOrder(t, "greedy sharing of "+c.order, greedy, okGreedy)
			continue
		}
		wantText(t, "first sharing of "+c.order, textByHand(first), okFirst, c.first)
		wantText(t, "greedy sharing of "+c.order, textByHand(greedy), okGreedy, c.greedy)
	}
}

func TestCountSharingsOfEveryOrder(t *testing.T) {
	for _, order := range append(smallOrders(5), fewOrders()...) {
		conflicts := conflictsByHand(order)
		for k := 1; k <= impl.MaxStacks; k++ {
			want := 0
			for _, sharing := range sharingsOfSize[len(order)][k] {
				if fitsByHand(conflicts, sharing) {
					want++
				}
			}
			count, ok := impl.CountSharings(order, k)
			wantNumber(t, strconv.Itoa(k)+" stacks of "+textByHand(order), count, ok, want)
		}
	}
	for _, order := range smallOrders(impl.MaxSize) {
		fewest, _ := impl.FewestStacks(order)
		for k := 1; k <= min(fewest, impl.MaxStacks); k++ {
			count, ok := impl.CountSharings(order, k)
			if !ok || (count > 0) != (fewest <= k) {
				t.Errorf("%d sharings of %v with %d stacks, %v, but it needs %d", count, order, k, ok, fewest)
			}
		}
	}
}

func TestCountSharingsExamples(t *testing.T) {
	for n := 1; n <= impl.MaxSize; n++ {
		inConflict := append(upFrom1(n)[1:], 1)
		for k := 1; k <= impl.MaxStacks; k++ {
			power, falling := 1, k
			for i := range n {
				power *= k
				if i < n-1 {
					falling *= max(0, k-i)
				}
			}
			for _, order := range [][]int{upFrom1(n), downTo1(n)} {
				count, ok := impl.CountSharings(order, k)
				wantNumber(t, "an order without conflicts", count, ok, power)
			}
			count, ok := impl.CountSharings(inConflict, k)
			wantNumber(t, "an order whose numbers but the last one are in conflict", count, ok, falling)
		}
	}
	for order, counts := range map[string][impl.MaxStacks]int{
		"1": {1, 2, 3, 4}, "21": {1, 4, 9, 16}, "231": {0, 4, 18, 48}, "3142": {0, 8, 54, 192}, "24153": {0, 8, 108, 576}, "34512": {0, 0, 54, 384}, "352614": {0, 0, 108, 1152},
		"1234567": {1, 128, 2187, 16384}, "4567123": {0, 0, 0, 1536}, "2345671": {0, 0, 0, 0}, "3627514": {0, 0, 162, 2688},
	} {
		for i, want := range counts {
			count, ok := impl.CountSharings(orderOf(order), i+1)
			wantNumber(t, strconv.Itoa(i+1)+" stacks of "+order, count, ok, want)
		}
	}
}

// noStackNumbers are no numbers of stacks that are counted with.
func noStackNumbers() []int {
	return []int{0, -1, -4, impl.MaxStacks + 1, 6, impl.MaxSize, 100, 1 << 32, 1<<32 + 1, math.MaxInt, math.MinInt}
}

func TestCountSharingsRefuses(t *testing.T) {
	for _, order := range fewOrders() {
		for _, k := range noStackNumbers() {
			count, ok := impl.CountSharings(order, k)
			wantNoNumber(t, strconv.Itoa(k)+" stacks", count, ok)
		}
	}
	for _, list := range noOrders() {
		for _, k := range append(noStackNumbers(), 1, 2, 3, 4) {
			count, ok := impl.CountSharings(list, k)
			wantNoNumber(t, "no order", count, ok)
		}
	}
}

func TestCountBeside(t *testing.T) {
	for k, counts := range [][]int{
		nil, {0, 1, 2, 5, 14, 42, 132, 429}, {0, 1, 2, 6, 23, 103, 513, 2760}, {0, 1, 2, 6, 24, 119, 694, 4582}, {0, 1, 2, 6, 24, 120, 719, 5003},
	} {
		for n := 1; n < len(counts); n++ {
			count, ok := impl.CountBeside(n, k)
			wantNumber(t, strconv.Itoa(n)+" numbers on "+strconv.Itoa(k)+" stacks", count, ok, counts[n])
			byHand := 0
			for _, order := range ordersByHand(n) {
				if fewestStacksOfOrders[textByHand(order)] <= k {
					byHand++
				}
			}
			if byHand != counts[n] {
				t.Errorf("%d orders of %d numbers come out of %d stacks by hand", byHand, n, k)
			}
		}
	}
	for n := 1; n <= impl.MaxSize; n++ {
		sortable, _ := impl.CountOneStack(n)
		count, ok := impl.CountBeside(n, 1)
		wantNumber(t, strconv.Itoa(n)+" numbers on one stack", count, ok, sortable)
	}
	for _, n := range append(noSizes(), 1, 4, impl.MaxSize) {
		for _, k := range noStackNumbers() {
			count, ok := impl.CountBeside(n, k)
			wantNoNumber(t, strconv.Itoa(n)+" numbers on "+strconv.Itoa(k)+" stacks", count, ok)
		}
	}
	for _, n := range noSizes() {
		for k := 1; k <= impl.MaxStacks; k++ {
			count, ok := impl.CountBeside(n, k)
			wantNoNumber(t, strconv.Itoa(n)+" numbers on "+strconv.Itoa(k)+" stacks", count, ok)
		}
	}
}

func TestHardestOrder(t *testing.T) {
	for i, want := range []string{"1", "12", "231", "2341", "23451", "234561", "2345671"} {
		n := i + 1
		order, most, ok := impl.HardestOrder(n)
		wantText(t, "hardest order of "+strconv.Itoa(n)+" numbers", textByHand(order), ok, want)
		wantNumber(t, "stacks of "+want, most, ok, max(1, n-1))
		for _, other := range ordersByHand(n) {
			if fewest := fewestStacksOfOrders[textByHand(other)]; fewest > most || fewest == most && slices.Compare(other, order) < 0 {
				t.Errorf("%v needs %d stacks", other, fewest)
			}
		}
	}
	for _, n := range noSizes() {
		order, most, ok := impl.HardestOrder(n)
		wantNoOrder(t, "hardest order of "+strconv.Itoa(n)+" numbers", order, ok)
		wantNoNumber(t, "stacks of the hardest order of "+strconv.Itoa(n)+" numbers", most, ok)
	}
}

// wantNoSharing holds that all functions of an order and a sharing fail.
func wantNoSharing(t *testing.T, order []int, sharing []int) {
	t.Helper()
	what := textByHand(order[:min(len(order), 8)]) + " by " + textByHand(sharing[:min(len(sharing), 8)])
	if impl.IsSharing(order, sharing) {
		t.Error("a sharing:", what)
	}
	if fits, ok := impl.FitsSharing(order, sharing); fits || ok {
		t.Errorf("%s: fits %v, %v", what, fits, ok)
	}
	moves, ok := impl.MovesOf(order, sharing)
	wantNoText(t, "moves of "+what, moves, ok)
	out, ok := impl.ComesOut(order, sharing)
	wantNoOrder(t, "what comes out of "+what, out, ok)
	if depths, ok := impl.DepthsOf(order, sharing); ok || depths != [impl.MaxStacks]int{} {
		t.Errorf("%s: depths %v, %v", what, depths, ok)
	}
}

func TestSharingsRefuse(t *testing.T) {
	for _, order := range fewOrders() {
		for _, sharing := range noSharings(len(order)) {
			wantNoSharing(t, order, sharing)
		}
	}
	for _, list := range noOrders() {
		wantNoSharing(t, list, list)
		wantNoSharing(t, list, make([]int, len(list)))
		for n := range impl.MaxSize + 2 {
			wantNoSharing(t, list, make([]int, n))
		}
	}
}

func TestStacksRefuseNoOrders(t *testing.T) {
	for _, list := range noOrders() {
		if conflicts, ok := impl.ConflictsOf(list); ok || len(conflicts) != 0 {
			t.Errorf("ConflictsOf(%.8v) = %v, %v", list, conflicts, ok)
		}
		fewest, ok := impl.FewestStacks(list)
		wantNoNumber(t, "stacks", fewest, ok)
		first, ok := impl.FirstSharing(list)
		wantNoOrder(t, "first sharing", first, ok)
		greedy, ok := impl.GreedySharing(list)
		wantNoOrder(t, "greedy sharing", greedy, ok)
	}
}

// besideTold returns all that the functions of the chapter tell of an order, a sharing and a number: lists, and the rest as a text.
func besideTold(order []int, sharing []int, k int) ([][]int, string) {
	var lists [][]int
	told := []string{}
	add := func(what string, ok bool, list ...[]int) {
		lists = append(lists, list...)
		told = append(told, what+" "+strconv.FormatBool(ok)+" "+strconv.Itoa(len(list)))
	}
	addNumber := func(number int, ok bool) { add(strconv.Itoa(number), ok) }
	addList := func(list []int, ok bool) { add("", ok, list) }
	conflicts, ok := impl.ConflictsOf(order)
	add(strconv.Itoa(len(conflicts)), ok)
	for i := range conflicts {
		lists = append(lists, conflicts[i][:])
	}
	add("", impl.IsSharing(order, sharing))
	fits, ok := impl.FitsSharing(order, sharing)
	add(strconv.FormatBool(fits), ok)
	addNumber(impl.FewestStacks(order))
	addList(impl.FirstSharing(order))
	addNumber(impl.CountSharings(order, k))
	addList(impl.GreedySharing(order))
	moves, ok := impl.MovesOf(order, sharing)
	add(moves, ok)
	addList(impl.ComesOut(order, sharing))
	depths, ok := impl.DepthsOf(order, sharing)
	add(textByHand(depths[:]), ok)
	addNumber(impl.CountBeside(min(k, 4), k))
	hardest, most, ok := impl.HardestOrder(min(k, 4))
	add(strconv.Itoa(most), ok, hardest)
	return lists, strings.Join(told, "|")
}

func TestStacksKeepTheirArguments(t *testing.T) {
	for i, order := range append(fewOrders(), noOrders()...) {
		none := noSharings(max(1, min(len(order), impl.MaxSize)))
		for k, sharing := range [][]int{make([]int, len(order)), slices.Repeat([]int{3}, len(order)), order, none[i%len(none)]} {
			wide, wideSharing := widened(order), widened(sharing)
			besideTold(wide, wideSharing, k)
			besideTold(wideSharing, wide, impl.MaxStacks)
			if !isAsBefore(wide, order) || !isAsBefore(wideSharing, sharing) {
				t.Errorf("changed: %.8v, %.8v", wide, wideSharing)
			}
		}
	}
}

func TestStacksShareNoMemory(t *testing.T) {
	for _, order := range append(fewOrders(), ordersByHand(4)...) {
		sharings := [][]int{make([]int, len(order)), slices.Repeat([]int{1}, len(order))}
		if greedy := greedyByHand(order); greedy != nil {
			sharings = append(sharings, greedy)
		}
		for k, sharing := range sharings {
			before, sharingBefore := slices.Clone(order), slices.Clone(sharing)
			same := tellsTheSame(t, func() ([][]int, string) { return besideTold(order, sharing, k+1) })
			if !same || !slices.Equal(order, before) || !slices.Equal(sharing, sharingBefore) {
				t.Fatal("results are kept, or share memory with an argument:", before, sharingBefore)
			}
		}
	}
	// Here one list is both the order and its sharing.
	both := []int{3, 1, 2}
	if !tellsTheSame(t, func() ([][]int, string) { return besideTold(both, both, 2) }) || !slices.Equal(both, []int{3, 1, 2}) {
		t.Error("results are kept, or share memory with", both)
	}
}

func TestStacksReturnTheSameForAnyArguments(t *testing.T) {
	for i, order := range append(noOrders(), fewOrders()...) {
		none := noSharings(max(1, min(len(order), impl.MaxSize)))
		sharings := [][]int{nil, order, make([]int, len(order)), none[i%len(none)], upFrom0(len(order))}
		for j, k := range []int{0, 1, 3, impl.MaxStacks, impl.MaxStacks + 1, impl.MaxSize + 1, math.MinInt, math.MaxInt} {
			sharing := sharings[(i+j)%len(sharings)]
			if !tellsTheSame(t, func() ([][]int, string) { return besideTold(order, sharing, k) }) {
				t.Errorf("differs: %.8v, %.8v, %d", order, sharing, k)
			}
		}
	}
}
