package tests

import (
	"math"
	"slices"
	"strconv"
	"strings"
	"testing"

	"loop.example/g01286/impl"
)

// ordersByHand returns all orders of n numbers, in ascending order: it tries all lists of n digits.
func ordersByHand(n int) [][]int {
	orders := [][]int{{}}
	for range n {
		var longer [][]int
		for _, begun := range orders {
			for number := 1; number <= n; number++ {
				if !slices.Contains(begun, number) {
					longer = append(longer, append(slices.Clone(begun), number))
				}
			}
		}
		orders = longer
	}
	return orders
}

// wordsByHand returns all words for n numbers, in order: it tries all texts of 2n signs.
func wordsByHand(n int) []string {
	var words []string
	for bits := range 1 << (2 * n) {
		signs := make([]byte, 2*n)
		for place := range signs {
			signs[place] = "IO"[bits>>(2*n-1-place)&1]
		}
		if depth := depthByHand(string(signs)); depth > 0 {
			words = append(words, string(signs))
		}
	}
	return words
}

// depthByHand returns 0 for a text that is not a word for any number of numbers.
func depthByHand(w string) int {
	deepest := 0
	for end := range len(w) + 1 {
		pushes, pops := strings.Count(w[:end], "I"), strings.Count(w[:end], "O")
		if pushes+pops != end || pops > pushes || end == len(w) && pops < pushes {
			return 0
		}
		deepest = max(deepest, pushes-pops)
	}
	return deepest
}

func runByHand(order []int, w string) []int {
	var stack, out []int
	for i := range len(w) {
		if w[i] == 'I' {
			stack = append(stack, order[0])
			order = order[1:]
		} else {
			out = append(out, stack[len(stack)-1])
			stack = stack[:len(stack)-1]
		}
	}
	return out
}

func textByHand(order []int) string {
	s := ""
	for _, number := range order {
		s += strconv.Itoa(number)
	}
	return s
}

func upFrom1(n int) []int {
	numbers := make([]int, n)
	for i := range numbers {
		numbers[i] = i + 1
	}
	return numbers
}

func downTo1(n int) []int {
	numbers := upFrom1(n)
	slices.Reverse(numbers)
	return numbers
}

// fewOrders returns all orders of at most 4 numbers and some of each greater number, with the first and the last one.
func fewOrders() [][]int {
	var few [][]int
	for n := 1; n <= impl.MaxSize; n++ {
		orders := ordersByHand(n)
		step := max(1, len(orders)/23)
		for k := 0; k < len(orders); k += step {
			few = append(few, orders[k])
		}
		few = append(few, orders[len(orders)-1])
	}
	return few
}

// noOrders are lists that are not orders.
func noOrders() [][]int {
	return [][]int{
		nil, {}, {0}, {2}, {-1}, {1, 1}, {2, 2}, {0, 1}, {1, 3}, {3, 1}, {1, 2, 2}, {2, 3, 4}, {0, 1, 2}, {1, 2, 4},
		{1, -2, 3}, {1, 2, 3, 4, 5, 6, 6}, {1, 2, 3, 4, 5, 6, 8}, {0, 1, 2, 3, 4, 5, 6}, {7, 7, 7, 7, 7, 7, 7},
		{math.MaxInt}, {math.MinInt}, {1, math.MaxInt}, {math.MinInt, 1}, {1, 1 << 32}, {1<<32 + 1, 1<<32 + 2}, {2, 257},
		upFrom1(impl.MaxSize + 1), downTo1(impl.MaxSize + 1), upFrom1(100), make([]int, 100), upFrom1(1 << 16),
	}
}

// noWords are texts that are not words.
func noWords() []string {
	return []string{
		"", "I", "O", "OI", "II", "OO", "IOI", "IIO", "IOO", "IOOI", "OIIO", "IIOOOI", "IIIO", "OIOI", "io", "Io", "iO", "I0",
		"1O", "I O", " IO", "IO ", "IO\n", "\x00IO", "IxO", "IO\x00\x00", "I\u039f", "\u0399O", "\xc9O", "I\xcf", "IIOO\xff\xff",
		"I\u00d6", "\u0149\u014f", "\u0149O", "I\u014f", "PO", "IIO\u004f\u0301", "LO", "IOLO", "IIOP",
		strings.Repeat("I", impl.MaxSize) + strings.Repeat("O", impl.MaxSize+1), strings.Repeat("IO", impl.MaxSize) + "I",
		strings.Repeat("IO", impl.MaxSize+1), strings.Repeat("I", impl.MaxSize+1) + strings.Repeat("O", impl.MaxSize+1),
		strings.Repeat("IO", 128+1), strings.Repeat("IO", 1<<19), strings.Repeat("I", 1<<19),
	}
}

func wantOrder(t *testing.T, what string, got []int, ok bool, want []int) {
	t.Helper()
	if !ok || !slices.Equal(got, want) {
		t.Errorf("%s: got %v, %v; want %v", what, got, ok, want)
	}
}

func wantNoOrder(t *testing.T, what string, got []int, ok bool) {
	t.Helper()
	if ok || len(got) != 0 {
		t.Errorf("%s: got %v, %v; want none", what, got, ok)
	}
}

func wantNoNumber(t *testing.T, what string, got int, ok bool) {
	t.Helper()
	if ok || got != 0 {
		t.Errorf("%s: got %d, %v; want none", what, got, ok)
	}
}

func wantText(t *testing.T, what string, got string, ok bool, want string) {
	t.Helper()
	if !ok || got != want {
		t.Errorf("%s: got %q, %v; want %q", what, got, ok, want)
	}
}

func TestIsOrderTakesAllOrdersAndNoOtherList(t *testing.T) {
	for n := 1; n <= impl.MaxSize; n++ {
		for _, order := range ordersByHand(n) {
			if !impl.IsOrder(order) {
				t.Fatal("not an order:", order)
			}
		}
	}
	for _, list := range noOrders() {
		if impl.IsOrder(list) {
			t.Errorf("an order: %.8v of %d", list[:min(8, len(list))], len(list))
		}
	}
	for code := range 6 * 6 * 6 {
		list := []int{code%6 - 1, code/6%6 - 1, code/36 - 1}
		ascending := slices.Sorted(slices.Values(list))
		if impl.IsOrder(list) != slices.Equal(ascending, upFrom1(3)) {
			t.Error("wrong about", list)
		}
	}
}

func TestIsWordAndDepthOfEveryText(t *testing.T) {
	texts := append(allTexts("IO", 2*impl.MaxSize), noWords()...)
	texts = append(texts, allTexts("IO\x00i", 6)...)
	for _, w := range texts {
		want := 0
		if len(w) <= 2*impl.MaxSize {
			want = depthByHand(w)
		}
		depth, ok := impl.DepthOf(w)
		if depth != want || ok != (want > 0) || impl.IsWord(w) != ok {
			t.Errorf("%.20q: depth %d, %v; want %d", w, depth, ok, want)
		}
	}
}

func TestDepthOfKnownWords(t *testing.T) {
	for w, want := range map[string]int{"IO": 1, "IIOO": 2, "IOIO": 1, "IIOIOO": 2, "IOIIOO": 2, "IIIOOO": 3, "IOIOIOIOIOIOIO": 1, "IIIIIIIOOOOOOO": 7} {
		if depth, ok := impl.DepthOf(w); !ok || depth != want {
			t.Errorf("DepthOf(%q) = %d, %v", w, depth, ok)
		}
	}
}

func TestWordsOfEverySize(t *testing.T) {
	for n, count := range []int{0, 1, 2, 5, 14, 42, 132, 429} {
		words, ok := impl.WordsOf(n)
		if ok != (n > 0) || len(words) != count {
			t.Fatalf("WordsOf(%d): %d words, %v", n, len(words), ok)
		}
		if ok && !slices.Equal(words, wordsByHand(n)) {
			t.Errorf("WordsOf(%d) = %q", n, words)
		}
	}
	if words, ok := impl.WordsOf(3); !ok || strings.Join(words, " ") != "IIIOOO IIOIOO IIOOIO IOIIOO IOIOIO" {
		t.Errorf("WordsOf(3) = %q, %v", words, ok)
	}
	for _, n := range []int{0, -1, impl.MaxSize + 1, 8, 100, 1 << 32, 1<<32 + 3, math.MaxInt, math.MinInt} {
		if words, ok := impl.WordsOf(n); ok || len(words) != 0 {
			t.Errorf("WordsOf(%d) = %q, %v", n, words, ok)
		}
	}
}

func TestRunWordAndWordToUndoEachOther(t *testing.T) {
	for _, order := range fewOrders() {
		for _, w := range wordsByHand(len(order)) {
			out, ok := impl.RunWord(order, w)
			wantOrder(t, textByHand(order)+" by "+w, out, ok, runByHand(order, w))
			if !impl.IsOrder(out) {
				t.Fatal("not an order came out:", order, w, out)
			}
			back, ok := impl.WordTo(order, out)
			wantText(t, textByHand(order)+" to "+textByHand(out), back, ok, w)
		}
	}
}

func TestRunWordExamples(t *testing.T) {
	for _, c := range []struct{ order, w, want string }{
		{"1", "IO", "1"}, {"12", "IOIO", "12"}, {"12", "IIOO", "21"}, {"21", "IIOO", "12"}, {"312", "IIOIOO", "123"},
		{"231", "IOIIOO", "213"}, {"1234567", "IIIIIIIOOOOOOO", "7654321"}, {"7654321", "IOIOIOIOIOIOIO", "7654321"},
		{"1234567", "IIOIOOIIIOOIOO", "2316574"}, {"1234", "IIOIIOOO", "2431"}, {"1234", "IIIOOIOO", "3241"},
	} {
		order, _ := impl.ParseOrder(c.order)
		out, ok := impl.RunWord(order, c.w)
		if text := textByHand(out); !ok || text != c.want {
			t.Errorf("RunWord(%s, %s) = %s, %v", c.order, c.w, text, ok)
		}
		want, _ := impl.ParseOrder(c.want)
		w, ok := impl.WordTo(order, want)
		wantText(t, c.order+" to "+c.want, w, ok, c.w)
	}
}

func TestRunWordRefuses(t *testing.T) {
	for _, order := range noOrders() {
		for _, w := range []string{"", "IO", "IIOO", "IIIOOO", "IIIIIIIOOOOOOO", strings.Repeat("IO", 8)} {
			out, ok := impl.RunWord(order, w)
			wantNoOrder(t, "no order by "+w, out, ok)
		}
	}
	for n := 1; n <= impl.MaxSize; n++ {
		for _, w := range noWords() {
			out, ok := impl.RunWord(upFrom1(n), w)
			wantNoOrder(t, strconv.Itoa(n)+" numbers by no word", out, ok)
		}
		for m := 1; m <= impl.MaxSize; m++ {
			out, ok := impl.RunWord(upFrom1(n), strings.Repeat("IO", m))
			if ok != (n == m) || ok != (len(out) > 0) {
				t.Errorf("%d numbers by a word for %d: %v, %v", n, m, out, ok)
			}
		}
	}
}

// wordToByHand tries all words.
func wordToByHand(order []int, target []int, words []string) string {
	for _, w := range words {
		if slices.Equal(runByHand(order, w), target) {
			return w
		}
	}
	return ""
}

func TestWordToEveryTarget(t *testing.T) {
	for n := 1; n <= 4; n++ {
		words := wordsByHand(n)
		for _, order := range ordersByHand(n) {
			for _, target := range ordersByHand(n) {
				want := wordToByHand(order, target, words)
				w, ok := impl.WordTo(order, target)
				if w != want || ok != (want != "") {
					t.Errorf("WordTo(%v, %v) = %q, %v; want %q", order, target, w, ok, want)
				}
			}
		}
	}
	for n := 5; n <= impl.MaxSize; n++ {
		order := append(downTo1(n)[n/2:], downTo1(n)[:n/2]...)
		reached := 0
		for _, target := range ordersByHand(n) {
			w, ok := impl.WordTo(order, target)
			if !ok {
				wantNoText(t, "no word to "+textByHand(target), w, ok)
				continue
			}
			reached++
			if depthByHand(w) == 0 || len(w) != 2*n || !slices.Equal(runByHand(order, w), target) {
				t.Errorf("WordTo(%v, %v) = %q", order, target, w)
			}
		}
		if reached != len(wordsByHand(n)) {
			t.Errorf("%d orders come out of %v", reached, order)
		}
	}
}

func TestWordToRefuses(t *testing.T) {
	for _, c := range [][2][]int{{{1, 2, 3}, {3, 1, 2}}, {{1, 3, 2}, {2, 1, 3}}, {upFrom1(7), {7, 1, 2, 3, 4, 5, 6}}} {
		w, ok := impl.WordTo(c[0], c[1])
		wantNoText(t, "a target to which no word leads", w, ok)
	}
	for _, list := range noOrders() {
		for n := 1; n <= impl.MaxSize; n++ {
			w, ok := impl.WordTo(upFrom1(n), list)
			wantNoText(t, "no order as the target", w, ok)
			w, ok = impl.WordTo(list, upFrom1(n))
			wantNoText(t, "no order at first", w, ok)
		}
		w, ok := impl.WordTo(list, list)
		wantNoText(t, "no order to itself", w, ok)
	}
	for n := 1; n <= impl.MaxSize; n++ {
		for m := 1; m <= impl.MaxSize; m++ {
			w, ok := impl.WordTo(upFrom1(n), upFrom1(m))
			if ok != (n == m) || ok != (w != "") {
				t.Errorf("%d numbers to %d: %q, %v", n, m, w, ok)
			}
		}
	}
}

func TestOutputsOfAreAllThatWordsBringOut(t *testing.T) {
	for _, order := range fewOrders() {
		var want [][]int
		for _, w := range wordsByHand(len(order)) {
			want = append(want, runByHand(order, w))
		}
		slices.SortFunc(want, slices.Compare)
		outputs, ok := impl.OutputsOf(order)
		if !ok || !slices.EqualFunc(outputs, want, slices.Equal) {
			t.Errorf("OutputsOf(%v) = %v, %v", order, outputs, ok)
		}
		for i := range len(outputs) - 1 {
			if slices.Compare(outputs[i], outputs[i+1]) >= 0 {
				t.Errorf("of %v: %v before %v", order, outputs[i], outputs[i+1])
			}
		}
	}
	for _, list := range noOrders() {
		if outputs, ok := impl.OutputsOf(list); ok || len(outputs) != 0 {
			t.Errorf("outputs of a list of %d that is no order: %v, %v", len(list), outputs, ok)
		}
	}
}

func TestBackOtherAndInverseOfEveryOrder(t *testing.T) {
	for _, order := range fewOrders() {
		n := len(order)
		back, ok := impl.BackOrder(order)
		other, fine := impl.OtherOrder(order)
		inverse, good := impl.InverseOrder(order)
		if !ok || !fine || !good || len(back) != n || len(other) != n || len(inverse) != n {
			t.Fatal(order, back, other, inverse)
		}
		for place := range order {
			if back[n-1-place] != order[place] || other[place]+order[place] != n+1 || inverse[order[place]-1] != place+1 {
				t.Fatal(order, back, other, inverse)
			}
		}
		again, ok := impl.BackOrder(back)
		wantOrder(t, "twice back", again, ok, order)
		again, ok = impl.OtherOrder(other)
		wantOrder(t, "twice the other", again, ok, order)
		again, ok = impl.InverseOrder(inverse)
		wantOrder(t, "twice the inverse", again, ok, order)
	}
}

func TestBackOtherAndInverseExamples(t *testing.T) {
	for _, c := range []struct{ order, back, other, inverse []int }{
		{[]int{1}, []int{1}, []int{1}, []int{1}},
		{[]int{3, 1, 2}, []int{2, 1, 3}, []int{1, 3, 2}, []int{2, 3, 1}},
		{[]int{2, 4, 1, 3}, []int{3, 1, 4, 2}, []int{3, 1, 4, 2}, []int{3, 1, 4, 2}},
		{upFrom1(7), downTo1(7), downTo1(7), upFrom1(7)},
		{downTo1(7), upFrom1(7), upFrom1(7), downTo1(7)},
		{[]int{5, 7, 1, 3, 6, 2, 4}, []int{4, 2, 6, 3, 1, 7, 5}, []int{3, 1, 7, 5, 2, 6, 4}, []int{3, 6, 4, 7, 1, 5, 2}},
	} {
		got, ok := impl.BackOrder(c.order)
		wantOrder(t, "back", got, ok, c.back)
		got, ok = impl.OtherOrder(c.order)
		wantOrder(t, "other", got, ok, c.other)
		got, ok = impl.InverseOrder(c.order)
		wantOrder(t, "inverse", got, ok, c.inverse)
	}
}

func TestComposeOrders(t *testing.T) {
	for _, c := range []struct{ a, b, want []int }{
		{[]int{1}, []int{1}, []int{1}},
		{[]int{3, 1, 2}, []int{2, 3, 1}, []int{1, 2, 3}},
		{[]int{3, 1, 2}, []int{1, 3, 2}, []int{3, 2, 1}},
		{[]int{1, 3, 2}, []int{3, 1, 2}, []int{2, 1, 3}},
		{[]int{2, 4, 1, 3}, []int{4, 3, 1, 2}, []int{3, 1, 2, 4}},
	} {
		got, ok := impl.ComposeOrders(c.a, c.b)
		wantOrder(t, "composed", got, ok, c.want)
	}
	for _, order := range fewOrders() {
		n := len(order)
		inverse, _ := impl.InverseOrder(order)
		for _, pair := range [][2][]int{{order, inverse}, {inverse, order}} {
			got, ok := impl.ComposeOrders(pair[0], pair[1])
			wantOrder(t, "with its inverse", got, ok, upFrom1(n))
		}
		back, _ := impl.BackOrder(order)
		other, _ := impl.OtherOrder(order)
		for _, c := range [][3][]int{{order, upFrom1(n), order}, {upFrom1(n), order, order}, {order, downTo1(n), back}, {downTo1(n), order, other}} {
			got, ok := impl.ComposeOrders(c[0], c[1])
			wantOrder(t, "with sorted and descending", got, ok, c[2])
		}
	}
}

func TestRunWordGoesByPlaces(t *testing.T) {
	for _, order := range fewOrders() {
		for _, w := range wordsByHand(len(order)) {
			places, _ := impl.RunWord(upFrom1(len(order)), w)
			composed, ok := impl.ComposeOrders(order, places)
			wantOrder(t, "what comes out", composed, ok, runByHand(order, w))
		}
	}
}

func TestComposeOrdersRefuses(t *testing.T) {
	for _, list := range noOrders() {
		for n := 1; n <= impl.MaxSize; n++ {
			got, ok := impl.ComposeOrders(upFrom1(n), list)
			wantNoOrder(t, "no order behind", got, ok)
			got, ok = impl.ComposeOrders(list, upFrom1(n))
			wantNoOrder(t, "no order before", got, ok)
		}
		got, ok := impl.ComposeOrders(list, list)
		wantNoOrder(t, "no orders", got, ok)
	}
	for n := 1; n <= impl.MaxSize; n++ {
		for m := 1; m <= impl.MaxSize; m++ {
			got, ok := impl.ComposeOrders(downTo1(n), downTo1(m))
			if ok != (n == m) || ok != (len(got) > 0) {
				t.Errorf("%d numbers with %d: %v, %v", n, m, got, ok)
			}
		}
	}
}

func TestRanksAndTextsOfEveryOrder(t *testing.T) {
	for n := 1; n <= impl.MaxSize; n++ {
		for k, order := range ordersByHand(n) {
			rank, ok := impl.RankOfOrder(order)
			if !ok || rank != k {
				t.Fatalf("RankOfOrder(%v) = %d, %v; want %d", order, rank, ok, k)
			}
			at, ok := impl.OrderAt(n, k)
			wantOrder(t, "at "+strconv.Itoa(k), at, ok, order)
			text, ok := impl.OrderText(order)
			wantText(t, "text", text, ok, textByHand(order))
			read, ok := impl.ParseOrder(text)
			wantOrder(t, "read "+text, read, ok, order)
		}
	}
}

func TestOrderAtBounds(t *testing.T) {
	for n, count := range []int{1, 1, 2, 6, 24, 120, 720, 5040} {
		if n == 0 {
			continue
		}
		first, ok := impl.OrderAt(n, 0)
		wantOrder(t, "the first rank", first, ok, upFrom1(n))
		last, ok := impl.OrderAt(n, count-1)
		wantOrder(t, "the last rank", last, ok, downTo1(n))
		for _, k := range []int{-1, count, count + 1, -count, math.MaxInt, math.MinInt, 1 << 32} {
			got, ok := impl.OrderAt(n, k)
			wantNoOrder(t, strconv.Itoa(n)+" numbers at "+strconv.Itoa(k), got, ok)
		}
	}
	for _, n := range []int{0, -1, impl.MaxSize + 1, 21, 66, 100, math.MaxInt, math.MinInt, 1<<32 + 3} {
		for _, k := range []int{0, 1, -1, 5, 5040} {
			got, ok := impl.OrderAt(n, k)
			wantNoOrder(t, strconv.Itoa(n)+" numbers at "+strconv.Itoa(k), got, ok)
		}
	}
}

func TestCountInversionsOfEveryOrder(t *testing.T) {
	for n := 1; n <= impl.MaxSize; n++ {
		for _, order := range ordersByHand(n) {
			want := 0
			for j := range order {
				for i := range j {
					if order[i] > order[j] {
						want++
					}
				}
			}
			if count, ok := impl.CountInversions(order); !ok || count != want {
				t.Fatalf("CountInversions(%v) = %d, %v; want %d", order, count, ok, want)
			}
		}
		if count, ok := impl.CountInversions(upFrom1(n)); !ok || count != 0 {
			t.Error("sorted:", count, ok)
		}
		if count, ok := impl.CountInversions(downTo1(n)); !ok || count != n*(n-1)/2 {
			t.Error("descending:", count, ok)
		}
	}
}

func TestOneListIsNoOrderForAnyFunction(t *testing.T) {
	for _, list := range noOrders() {
		back, ok := impl.BackOrder(list)
		wantNoOrder(t, "back", back, ok)
		other, ok := impl.OtherOrder(list)
		wantNoOrder(t, "other", other, ok)
		inverse, ok := impl.InverseOrder(list)
		wantNoOrder(t, "inverse", inverse, ok)
		rank, ok := impl.RankOfOrder(list)
		wantNoNumber(t, "rank", rank, ok)
		count, ok := impl.CountInversions(list)
		wantNoNumber(t, "inversions", count, ok)
		text, ok := impl.OrderText(list)
		wantNoText(t, "text", text, ok)
	}
}

func TestMirrorWord(t *testing.T) {
	for w, want := range map[string]string{"IO": "IO", "IIOO": "IIOO", "IIOIOO": "IIOIOO", "IIOOIO": "IOIIOO", "IOIIOO": "IIOOIO", "IIIOOIOO": "IIOIIOOO", "IOIIIIIIOOOOOO": "IIIIIIOOOOOOIO"} {
		mirrored, ok := impl.MirrorWord(w)
		wantText(t, w, mirrored, ok, want)
	}
	swap := strings.NewReplacer("I", "O", "O", "I")
	for n := 1; n <= impl.MaxSize; n++ {
		for _, w := range wordsByHand(n) {
			signs := []byte(swap.Replace(w))
			slices.Reverse(signs)
			mirrored, ok := impl.MirrorWord(w)
			wantText(t, w, mirrored, ok, string(signs))
			depth, ok := impl.DepthOf(mirrored)
			if !ok || depth != depthByHand(w) || !impl.IsWord(mirrored) {
				t.Errorf("depth of %q: %d, %v", mirrored, depth, ok)
			}
			back, ok := impl.MirrorWord(mirrored)
			wantText(t, "twice mirrored", back, ok, w)
		}
	}
	for _, w := range noWords() {
		mirrored, ok := impl.MirrorWord(w)
		wantNoText(t, strconv.Quote(w[:min(20, len(w))]), mirrored, ok)
	}
}

func TestParseOrderTakesJustTexts(t *testing.T) {
	for _, s := range allTexts("01234 ", 4) {
		var want []int
		for i := range len(s) {
			want = append(want, strings.IndexByte("0123456789", s[i]))
		}
		order, ok := impl.ParseOrder(s)
		if slices.Equal(slices.Sorted(slices.Values(want)), upFrom1(len(s))) && s != "" {
			wantOrder(t, s, order, ok, want)
		} else {
			wantNoOrder(t, strconv.Quote(s), order, ok)
		}
	}
	for _, s := range []string{
		"", "0", "2", "11", "1,2", "1 2", "12 ", " 12", "+12", "-12", "12\n", "\x0012", "12\x00", "\x01", "\x01\x02", "a", "I",
		"\u0661", "\u0661\u0662", "\uff11", "1\u0662", "\u0131", "1\u0132", "\U00010032\u0131", "\xb1", "1\xb2", "12345678", "87654321", "1234567 ", "12345677", "1234566",
		"012", "021", "10", "110", "1234568", "0123456", strings.Repeat("1", 5000), "1234567" + strings.Repeat("\x00", 1<<16),
	} {
		order, ok := impl.ParseOrder(s)
		wantNoOrder(t, strconv.Quote(s[:min(20, len(s))]), order, ok)
	}
}

// ordersTold returns all that the functions of the chapter tell of a list: lists only, or numbers and texts as a text.
func ordersTold(list []int, w string) ([][]int, string) {
	told := []string{}
	add := func(s string, ok bool) { told = append(told, s, strconv.FormatBool(ok)) }
	out, okOut := impl.RunWord(list, w)
	back, okBack := impl.BackOrder(list)
	other, okOther := impl.OtherOrder(list)
	inverse, okInverse := impl.InverseOrder(list)
	composed, okComposed := impl.ComposeOrders(list, list)
	lists := [][]int{out, back, other, inverse, composed}
	for _, ok := range []bool{okOut, okBack, okOther, okInverse, okComposed, impl.IsOrder(list), impl.IsWord(w)} {
		add("", ok)
	}
	to, ok := impl.WordTo(list, list)
	add(to, ok)
	outputs, ok := impl.OutputsOf(list)
	lists = append(lists, outputs...)
	add("", ok)
	rank, ok := impl.RankOfOrder(list)
	add(strconv.Itoa(rank), ok)
	count, ok := impl.CountInversions(list)
	add(strconv.Itoa(count), ok)
	text, ok := impl.OrderText(list)
	add(text, ok)
	read, ok := impl.ParseOrder(text)
	lists = append(lists, read)
	add("", ok)
	at, ok := impl.OrderAt(len(list), rank)
	lists = append(lists, at)
	add("", ok)
	depth, ok := impl.DepthOf(w)
	add(strconv.Itoa(depth), ok)
	mirrored, ok := impl.MirrorWord(w)
	add(mirrored, ok)
	words, ok := impl.WordsOf(len(list))
	add(strings.Join(words, " "), ok)
	return lists, strings.Join(told, "|")
}

func TestOrdersKeepTheirArguments(t *testing.T) {
	for _, list := range append(fewOrders(), noOrders()...) {
		before := slices.Clone(list)
		wide := append(slices.Clone(list), 77, 78)[:len(list)]
		ordersTold(wide, strings.Repeat("IO", min(len(list), 10)))
		ordersTold(wide, strings.Repeat("I", min(len(list), 10))+strings.Repeat("O", min(len(list), 10)))
		target := append(slices.Clone(list), 79)[:len(list)]
		impl.WordTo(wide, target)
		impl.ComposeOrders(wide, target)
		if !slices.Equal(wide, before) || wide[:len(wide)+1][len(wide)] != 77 {
			t.Errorf("changed: %.8v", wide)
		}
		if !slices.Equal(target, before) || target[:len(target)+1][len(target)] != 79 {
			t.Errorf("changed: %.8v", target)
		}
	}
}

// overwriteEach fails if lists share memory, and returns what they were.
func overwriteEach(t *testing.T, what string, lists [][]int) [][]int {
	t.Helper()
	copies := [][]int{}
	for i := range lists {
		copies = append(copies, slices.Clone(lists[i]))
	}
	for i := range lists {
		for place := range lists[i] {
			lists[i][place] = -1 - i
		}
		_ = append(lists[i], -100)
	}
	for i := range lists {
		if len(lists[i]) > 0 && (slices.Max(lists[i]) != -1-i || slices.Min(lists[i]) != -1-i) {
			t.Fatal("results share memory:", what, lists)
		}
	}
	return copies
}

// tellsTheSame reports whether the same is told again behind the lists told at first being overwritten.
func tellsTheSame(t *testing.T, tell func() ([][]int, string)) bool {
	t.Helper()
	lists, told := tell()
	copies := overwriteEach(t, told, lists)
	again, toldAgain := tell()
	return told == toldAgain && slices.EqualFunc(again, copies, slices.Equal)
}

func TestOrdersShareNoMemory(t *testing.T) {
	for _, list := range fewOrders() {
		before := slices.Clone(list)
		w := strings.Repeat("IO", len(list))
		same := tellsTheSame(t, func() ([][]int, string) { return ordersTold(list, w) })
		if !same || !slices.Equal(list, before) {
			t.Fatal("results are kept, or share memory with", before)
		}
	}
}

func TestOrdersReturnTheSameForAnyArguments(t *testing.T) {
	for _, list := range append(noOrders(), fewOrders()...) {
		for _, w := range []string{"", "\xff", "OI", "IO", "IIOO", strings.Repeat("IO", 7), strings.Repeat("I\u00ff", 1<<10)} {
			if !tellsTheSame(t, func() ([][]int, string) { return ordersTold(list, w) }) {
				t.Errorf("differs: %.8v, %.8q", list, w)
			}
		}
	}
}

func TestWordsOfResultsAreNewEachTime(t *testing.T) {
	first, _ := impl.WordsOf(3)
	second, _ := impl.WordsOf(3)
	first[0] = "x"
	_ = append(first[:1], "y")
	third, ok := impl.WordsOf(3)
	if !ok || !slices.Equal(second, wordsByHand(3)) || !slices.Equal(third, wordsByHand(3)) {
		t.Error("shared:", second, third)
	}
}
