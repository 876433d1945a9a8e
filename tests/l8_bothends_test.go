package tests

import (
	"math"
	"slices"
	"strconv"
	"strings"
	"testing"

	"loop.example/g01286/impl"
)

// endsDepthByHand returns 0 for a text that is not an ends word for any number of numbers.
func endsDepthByHand(w string) int {
	deepest := 0
	for end := range len(w) + 1 {
		pushes, pops := strings.Count(w[:end], "I"), strings.Count(w[:end], "T")+strings.Count(w[:end], "B")
		if pushes+pops != end || pops > pushes || end == len(w) && pops < pushes {
			return 0
		}
		deepest = max(deepest, pushes-pops)
	}
	return deepest
}

// endsWordsByHand returns all ends words for n numbers, in order: it goes on in all ways, sign by sign.
func endsWordsByHand(n int) []string {
	begun := []string{""}
	for range 2 * n {
		var longer []string
		for _, w := range begun {
			pushes := strings.Count(w, "I")
			if pushes < n {
				longer = append(longer, w+"I")
			}
			if pushes > len(w)-pushes {
				longer = append(longer, w+"T", w+"B")
			}
		}
		begun = longer
	}
	return begun
}

var endsWordsOfSize = func() [][]string {
	table := [][]string{nil}
	for n := 1; n <= impl.MaxSize; n++ {
		table = append(table, endsWordsByHand(n))
	}
	return table
}()

// someEndsWords returns all ends words for few numbers, and some for many, by an odd step, with the last one.
func someEndsWords(n int) []string {
	var some []string
	for k := 0; k < len(endsWordsOfSize[n]); k += 1 + len(endsWordsOfSize[n])/600*2 {
		some = append(some, endsWordsOfSize[n][k])
	}
	return append(some, endsWordsOfSize[n][len(endsWordsOfSize[n])-1])
}

// runEndsByHand tells what comes out, with each pop at the bottom done at the back of the line.
func runEndsByHand(order []int, w string) []int {
	line, out, pushed := []int{}, []int{}, 0
	for _, sign := range w {
		switch sign {
		case 'I':
			line = append([]int{order[pushed]}, line...)
			pushed++
		case 'T':
			out, line = append(out, line[0]), line[1:]
		case 'B':
			out, line = append(out, line[len(line)-1]), line[:len(line)-1]
		}
	}
	return out
}

// plainByHand looks at each `B`, whether as many pops as pushes are there up to it.
func plainByHand(w string) string {
	plain := ""
	for place := range len(w) {
		if w[place] == 'B' && 2*strings.Count(w[:place+1], "I") == place+1 {
			plain += "T"
		} else {
			plain += w[place : place+1]
		}
	}
	return plain
}

// plainWordsOfSize has all plain ends words for n numbers, in order.
var plainWordsOfSize = func() [][]string {
	table := [][]string{nil}
	for n := 1; n <= impl.MaxSize; n++ {
		table = append(table, slices.DeleteFunc(slices.Clone(endsWordsOfSize[n]), func(w string) bool { return plainByHand(w) != w }))
	}
	return table
}()

// popsAhead tells for each push how many pops come ahead of it.
func popsAhead(w string) []int {
	pops := []int{}
	for place, sign := range w {
		if sign == 'I' {
			pops = append(pops, place-len(pops))
		}
	}
	return pops
}

// latestByHand returns the one of some plain ends words in which each push is as late as in any of them, or nothing.
func latestByHand(words []string) string {
	latest := slices.Clone(words)
	for _, other := range words {
		latest = slices.DeleteFunc(latest, func(w string) bool {
			for i, pops := range popsAhead(other) {
				if popsAhead(w)[i] < pops {
					return true
				}
			}
			return false
		})
	}
	if len(latest) != 1 {
		return ""
	}
	return latest[0]
}

// endsWay is what there is to a target: the plain ends word with the latest pushes, and the fewest pops at the bottom of any ends word.
type endsWay struct {
	latest string
	bottom int
}

// endsWaysOfSize has for n numbers the ways from the sorted order to each order that comes out of it, by the text of this.
var endsWaysOfSize = func() []map[string]endsWay {
	table := []map[string]endsWay{nil}
	for n := 1; n <= impl.MaxSize; n++ {
		plain, ways := map[string][]string{}, map[string]endsWay{}
		for _, w := range plainWordsOfSize[n] {
			out := textByHand(runEndsByHand(upFrom1(n), w))
			plain[out] = append(plain[out], w)
		}
		for _, w := range endsWordsOfSize[n] {
			out := textByHand(runEndsByHand(upFrom1(n), w))
			way, known := ways[out]
			if !known {
				way = endsWay{latestByHand(plain[out]), n}
			}
			ways[out] = endsWay{way.latest, min(way.bottom, strings.Count(w, "B"))}
		}
		table = append(table, ways)
	}
	return table
}()

// wayByHand tells the numbers by their places in the order: so the order is sorted.
func wayByHand(order []int, target []int) (endsWay, bool) {
	places := []int{}
	for _, number := range target {
		places = append(places, slices.Index(order, number)+1)
	}
	way, ok := endsWaysOfSize[len(order)][textByHand(places)]
	return way, ok
}

// noEndsWords are texts that are not ends words.
func noEndsWords() []string {
	texts := []string{
		"", "I", "T", "B", "TI", "BI", "TB", "II", "TT", "BB", "ITI", "IIT", "IIB", "ITT", "ITB", "IBT", "IBB", "ITTI", "IBBI", "ITBI", "TIIT", "BIIT", "IITTTI", "IITBBI",
		"IIIT", "IIIB", "IIBT ", "it", "ib", "It", "Ib", "iT", "I T", " IT", "IT ", "IB\n", "\x00IT", "IT\x00", "IT\x00\x00", "ITxB", "IxT", "IC", "IA", "IS", "IU", "HT", "JB",
		"IO", "IIOO", "IIOT", "IITO", "IIOB", "IIBO", "IOIT", "ITIO", "IBIO", "OIIT", "IITBO", "IITBIO", "IIOIOO", "II00", "I0", "I8", "1T", "lT", "|B",
		"I\u0422", "I\u03a4", "I\u0392", "I\u0412", "\u0399T", "\u0406B", "I\u0154", "I\u0142", "\u0149T", "\u0149\u0154", "\u0149\u0142", "I\u0149\u0154\u0142", "I\xd4", "I\xc2", "\xc9T", "IT\u0301", "IIT\u00df",
		"II\xff\xff", "IIB\xff", "IIT\xef\xbf\xbd", "I\ufffd", "II\ufffdT", "IIT\xe2\x82",
	}
	for _, pop := range []string{"T", "B", "TB"} {
		texts = append(texts, strings.Repeat("I", impl.MaxSize+1)+strings.Repeat(pop, impl.MaxSize+1)[:impl.MaxSize+1])
		texts = append(texts, strings.Repeat("I", impl.MaxSize)+strings.Repeat(pop, impl.MaxSize+1)[:impl.MaxSize+1])
		texts = append(texts, strings.Repeat("I", impl.MaxSize+1)+strings.Repeat(pop, impl.MaxSize)[:impl.MaxSize])
		texts = append(texts, strings.Repeat("I"+pop[:1], impl.MaxSize+1), strings.Repeat("I"+pop[:1], impl.MaxSize)+"I", strings.Repeat("I"+pop[:1], 129), strings.Repeat("I"+pop[:1], 1<<19))
	}
	return append(texts, noWords()...)
}

// someNoEndsWords has every fifth of them, and the first ones.
func someNoEndsWords() []string {
	texts := noEndsWords()
	some := slices.Clone(texts[:4])
	for k := 4; k < len(texts); k += 5 {
		some = append(some, texts[k])
	}
	return some
}

func TestIsEndsWordAndEndsDepthOfEveryText(t *testing.T) {
	texts := append(allTexts("ITB", 8), noEndsWords()...)
	texts = append(texts, allTexts("ITBO", 6)...)
	texts = append(texts, allTexts("IT\x00b", 6)...)
	for n := 1; n <= impl.MaxSize; n++ {
		texts = append(append(texts, endsWordsOfSize[n]...), wordsOfSize[n]...)
	}
	toWord := strings.NewReplacer("T", "O", "B", "O")
	for _, w := range texts {
		want := 0
		if len(w) <= 2*impl.MaxSize {
			want = endsDepthByHand(w)
		}
		depth, ok := impl.EndsDepth(w)
		if depth != want || ok != (want > 0) || impl.IsEndsWord(w) != ok {
			t.Errorf("%.20q: depth %d, %v; want %d", w, depth, ok, want)
		}
		word, ok := impl.StackWord(w)
		if want == 0 {
			wantNoText(t, "word of a text that is no ends word: "+strconv.Quote(w[:min(20, len(w))]), word, ok)
			continue
		}
		wantText(t, "word of "+w, word, ok, toWord.Replace(w))
		wordDepth, ok := impl.DepthOf(word)
		wantNumber(t, "depth of "+word, wordDepth, ok, want)
	}
}

func TestEndsDepthAndStackWordExamples(t *testing.T) {
	for _, c := range []struct {
		w, word string
		depth   int
	}{
		{"IT", "IO", 1}, {"IB", "IO", 1}, {"ITIB", "IOIO", 1}, {"IITT", "IIOO", 2}, {"IIBT", "IIOO", 2}, {"IITB", "IIOO", 2}, {"IIBITT", "IIOIOO", 2}, {"IBIITB", "IOIIOO", 2},
		{"IIIBBT", "IIIOOO", 3}, {"IITBIT", "IIOOIO", 2}, {"IIIIIIITTTTTTT", "IIIIIIIOOOOOOO", 7}, {"IIIIIIIBBBBBBB", "IIIIIIIOOOOOOO", 7}, {"IBIBIBIBIBIBIB", "IOIOIOIOIOIOIO", 1}, {"IIBIIBIIBTTITB", "IIOIIOIIOOOIOO", 4},
	} {
		depth, ok := impl.EndsDepth(c.w)
		wantNumber(t, "depth of "+c.w, depth, ok, c.depth)
		word, ok := impl.StackWord(c.w)
		wantText(t, "word of "+c.w, word, ok, c.word)
	}
}

// checkEndsWord compares what comes out by an ends word, and by the plain one, with what is found by hand.
func checkEndsWord(t *testing.T, order []int, w string) {
	t.Helper()
	want := runEndsByHand(order, w)
	out, ok := impl.RunEnds(order, w)
	wantOrder(t, textByHand(order)+" by "+w, out, ok, want)
	plain, ok := impl.PlainEnds(w)
	wantText(t, "plain "+w, plain, ok, plainByHand(w))
	out, ok = impl.RunEnds(order, plain)
	wantOrder(t, textByHand(order)+" by "+plain+" for "+w, out, ok, want)
	if !impl.IsOrder(out) {
		t.Error("no order came out:", order, w, out)
	}
	// There is a way to what comes out, which need not be this one.
	to, ok := impl.EndsTo(order, want)
	if !ok || !slices.Equal(runEndsByHand(order, to), want) || strings.Count(to, "B") > strings.Count(w, "B") {
		t.Errorf("EndsTo(%v, %v) = %q, %v; %q leads there", order, want, to, ok, w)
	}
}

func TestRunEndsByEveryWord(t *testing.T) {
	for _, order := range smallOrders(3) {
		for _, w := range endsWordsOfSize[len(order)] {
			checkEndsWord(t, order, w)
		}
	}
	for _, order := range fewOrders() {
		for _, w := range someEndsWords(len(order)) {
			checkEndsWord(t, order, w)
		}
	}
}

func TestRunEndsExamples(t *testing.T) {
	for _, c := range []struct{ order, w, out, plain string }{
		{"1", "IT", "1", "IT"}, {"1", "IB", "1", "IT"}, {"12", "ITIT", "12", "ITIT"}, {"12", "IBIB", "12", "ITIT"}, {"12", "ITIB", "12", "ITIT"}, {"12", "IBIT", "12", "ITIT"},
		{"12", "IITT", "21", "IITT"}, {"12", "IITB", "21", "IITT"}, {"12", "IIBT", "12", "IIBT"}, {"12", "IIBB", "12", "IIBT"}, {"21", "IIBB", "21", "IIBT"}, {"21", "IITB", "12", "IITT"},
		{"123", "IIBITT", "132", "IIBITT"}, {"123", "IIIBBT", "123", "IIIBBT"}, {"123", "IIIBBB", "123", "IIIBBT"}, {"123", "IIITBT", "312", "IIITBT"}, {"123", "IIIBTB", "132", "IIIBTT"},
		{"312", "IITBIB", "132", "IITTIT"}, {"312", "IIBBIB", "312", "IIBTIT"}, {"312", "IIBIBB", "312", "IIBIBT"}, {"231", "IIITTB", "132", "IIITTT"}, {"231", "IBIIBB", "231", "ITIIBT"},
		{"1234567", "IIIIIIIBBBBBBB", "1234567", "IIIIIIIBBBBBBT"}, {"1234567", "IIIIIIITTTTTTB", "7654321", "IIIIIIITTTTTTT"}, {"1234567", "IIIIIIITBTBTBT", "7162534", "IIIIIIITBTBTBT"},
		{"7654321", "IIBIIBIIBTTITB", "7652314", "IIBIIBIIBTTITT"}, {"7654321", "IBIBIBIBIBIBIB", "7654321", "ITITITITITITIT"}, {"3142567", "IITIITBTITITIB", "1234567", "IITIITBTITITIT"},
	} {
		order := orderOf(c.order)
		out, ok := impl.RunEnds(order, c.w)
		wantText(t, c.order+" by "+c.w, textByHand(out), ok, c.out)
		plain, ok := impl.PlainEnds(c.w)
		wantText(t, "plain "+c.w, plain, ok, c.plain)
		checkEndsWord(t, order, c.w)
	}
}

func TestPlainEndsOfEveryWord(t *testing.T) {
	for n := 1; n <= impl.MaxSize; n++ {
		became := map[string]bool{}
		for _, w := range endsWordsOfSize[n] {
			plain, ok := impl.PlainEnds(w)
			wantText(t, "plain "+w, plain, ok, plainByHand(w))
			again, ok := impl.PlainEnds(plain)
			wantText(t, "plain "+plain, again, ok, plain)
			became[plain] = true
		}
		if len(became) != len(plainWordsOfSize[n]) {
			t.Errorf("%d words for %d numbers are plain", len(became), n)
		}
	}
}

func TestRunEndsRefuses(t *testing.T) {
	for _, order := range noOrders() {
		for _, w := range []string{"", "IT", "IB", "IIBT", "IIIBBT", "IIIIIIITTTTTTT", strings.Repeat("IT", 8), strings.Repeat("I", 8) + strings.Repeat("B", 8)} {
			out, ok := impl.RunEnds(order, w)
			wantNoOrder(t, "no order by "+w, out, ok)
		}
	}
	for n := 1; n <= impl.MaxSize; n++ {
		for _, w := range noEndsWords() {
			out, ok := impl.RunEnds(upFrom1(n), w)
			wantNoOrder(t, strconv.Itoa(n)+" numbers by no ends word", out, ok)
		}
		for m := 1; m <= impl.MaxSize; m++ {
			out, ok := impl.RunEnds(upFrom1(n), strings.Repeat("IB", m))
			if ok != (n == m) || ok != (len(out) > 0) {
				t.Errorf("%d numbers by an ends word for %d: %v, %v", n, m, out, ok)
			}
		}
	}
	for _, w := range noEndsWords() {
		plain, ok := impl.PlainEnds(w)
		wantNoText(t, "plain no ends word", plain, ok)
	}
}

// checkEndsTo compares the ends word to a target, and its pops at the bottom, with those found by hand.
func checkEndsTo(t *testing.T, order []int, target []int) {
	t.Helper()
	what := textByHand(order) + " to " + textByHand(target)
	way, reached := wayByHand(order, target)
	w, ok := impl.EndsTo(order, target)
	bottom, okBottom := impl.BottomPops(order, target)
	if !reached {
		wantNoText(t, what, w, ok)
		wantNoNumber(t, "pops at the bottom for "+what, bottom, okBottom)
		return
	}
	wantText(t, what, w, ok, way.latest)
	wantNumber(t, "pops at the bottom for "+what, bottom, okBottom, way.bottom)
	if strings.Count(w, "B") != bottom || plainByHand(w) != w {
		t.Errorf("%s: %q, with %d pops at the bottom", what, w, bottom)
	}
	out, ok := impl.RunEnds(order, w)
	wantOrder(t, what+" by "+w, out, ok, target)
}

func TestEndsToEveryTarget(t *testing.T) {
	for n := 1; n <= impl.MaxSize; n++ {
		orders := ordersByHand(n)
		step := max(1, len(orders)/24)
		if n <= 5 {
			step = 1
		}
		for k := 0; k < len(orders); k += step {
			for _, target := range orders {
				checkEndsTo(t, orders[k], target)
			}
		}
	}
}

func TestEndsToExamples(t *testing.T) {
	for _, c := range []struct{ order, target, w string }{
		{"1", "1", "IT"}, {"12", "12", "ITIT"}, {"12", "21", "IITT"}, {"21", "12", "IITT"}, {"123", "132", "ITIITT"}, {"231", "123", "IIITBT"}, {"123", "312", "IIITBT"}, {"123", "231", "IITITT"},
		{"1234", "1423", "ITIIITBT"}, {"1234", "2413", "IITIITBT"}, {"1234", "3142", "IIITBITT"}, {"1234", "4123", "IIIITBBT"}, {"1234", "4132", "IIIITBTT"}, {"1234", "4312", "IIIITTBT"},
		{"1234", "4213", ""}, {"1234", "4231", ""}, {"3241", "1234", ""}, {"4231", "1234", ""}, {"2431", "1234", "IIIITBTT"}, {"14352", "12345", ""}, {"34251", "12345", ""},
		{"1234567", "1234567", "ITITITITITITIT"}, {"7654321", "7654321", "ITITITITITITIT"}, {"1234567", "7654321", "IIIIIIITTTTTTT"}, {"7654321", "1234567", "IIIIIIITTTTTTT"},
		{"1234567", "7123456", "IIIIIIITBBBBBT"}, {"1234567", "1726354", "ITIIIIIITBTBTT"}, {"1234567", "4132765", "IIIITBTTIIITTT"}, {"3142567", "1234567", "IITIITBTITITIT"}, {"5713624", "1234567", ""}, {"1234567", "7341256", ""},
	} {
		order, target := orderOf(c.order), orderOf(c.target)
		checkEndsTo(t, order, target)
		w, ok := impl.EndsTo(order, target)
		bottom, okBottom := impl.BottomPops(order, target)
		if c.w == "" {
			wantNoText(t, c.order+" to "+c.target, w, ok)
			wantNoNumber(t, "pops at the bottom for "+c.order+" to "+c.target, bottom, okBottom)
			continue
		}
		wantText(t, c.order+" to "+c.target, w, ok, c.w)
		wantNumber(t, "pops at the bottom for "+c.order+" to "+c.target, bottom, okBottom, strings.Count(c.w, "B"))
	}
}

func TestEndsToTheSameOrder(t *testing.T) {
	for _, order := range smallOrders(impl.MaxSize) {
		w, ok := impl.EndsTo(order, order)
		wantText(t, textByHand(order)+" to itself", w, ok, strings.Repeat("IT", len(order)))
		bottom, ok := impl.BottomPops(order, order)
		wantNumber(t, textByHand(order)+" to itself", bottom, ok, 0)
	}
}

// TestEndsToByAWordHasNoBottomPops holds that where a word leads to the target, EndsTo is this word, and that elsewhere it has pops at the bottom.
func TestEndsToByAWordHasNoBottomPops(t *testing.T) {
	for _, order := range fewOrders() {
		for _, target := range ordersByHand(len(order)) {
			byWord, isOutput := impl.WordTo(order, target)
			w, ok := impl.EndsTo(order, target)
			if isOutput {
				wantText(t, textByHand(order)+" to "+textByHand(target), w, ok, strings.ReplaceAll(byWord, "O", "T"))
				continue
			}
			if ok != strings.Contains(w, "B") {
				t.Errorf("EndsTo(%v, %v) = %q, %v", order, target, w, ok)
			}
		}
	}
}

func TestEndsToRefuses(t *testing.T) {
	wantNone := func(order []int, target []int) {
		t.Helper()
		w, ok := impl.EndsTo(order, target)
		wantNoText(t, "no ends word", w, ok)
		bottom, ok := impl.BottomPops(order, target)
		wantNoNumber(t, "no pops at the bottom", bottom, ok)
	}
	for _, list := range noOrders() {
		for n := 1; n <= impl.MaxSize; n++ {
			wantNone(upFrom1(n), list)
			wantNone(list, upFrom1(n))
		}
		wantNone(list, list)
	}
	for n := 1; n <= impl.MaxSize+1; n++ {
		for m := 1; m <= impl.MaxSize+1; m++ {
			if n != m {
				wantNone(upFrom1(n), upFrom1(m))
				wantNone(downTo1(n), downTo1(m))
			}
		}
	}
	wantNone(upFrom1(impl.MaxSize+1), upFrom1(impl.MaxSize+1))
}

func TestIsEndsSortableForEveryOrder(t *testing.T) {
	for _, order := range smallOrders(impl.MaxSize) {
		_, want := wayByHand(order, upFrom1(len(order)))
		can, ok := impl.IsEndsSortable(order)
		if !ok || can != want {
			t.Errorf("IsEndsSortable(%v) = %v, %v; want %v", order, can, ok, want)
		}
		if sortable, _ := impl.IsSortable(order); sortable && !can {
			t.Errorf("one stack sorts %v, but not one that is open at both ends", order)
		}
		// Four numbers can lie so that a stack open at both ends does not sort them.
		avoids, _ := impl.AvoidsAll(order, [][]int{{3, 2, 4, 1}, {4, 2, 3, 1}})
		if can != avoids {
			t.Errorf("IsEndsSortable(%v) = %v; avoids the patterns: %v", order, can, avoids)
		}
	}
}

func TestIsEndsSortableExamples(t *testing.T) {
	for order, want := range map[string]bool{
		"1": true, "12": true, "21": true, "231": true, "312": true, "2341": true, "3142": true, "2413": true, "3412": true, "3241": false, "4231": false, "4321": true, "2431": true,
		"14352": false, "54231": false, "23451": true, "1234567": true, "7654321": true, "2345671": true, "5713624": false, "7123465": true, "3142567": true,
	} {
		can, ok := impl.IsEndsSortable(orderOf(order))
		if !ok || can != want {
			t.Errorf("IsEndsSortable(%s) = %v, %v", order, can, ok)
		}
	}
}

// endsOutputsByHand returns what comes out by all ends words, without what comes out once more.
func endsOutputsByHand(order []int) [][]int {
	outputs := [][]int{}
	for text := range endsWaysOfSize[len(order)] {
		out := []int{}
		for _, place := range orderOf(text) {
			out = append(out, order[place-1])
		}
		outputs = append(outputs, out)
	}
	slices.SortFunc(outputs, slices.Compare)
	return outputs
}

func TestEndsOutputsAreAllThatEndsWordsBringOut(t *testing.T) {
	for _, order := range fewOrders() {
		want := endsOutputsByHand(order)
		outputs, ok := impl.EndsOutputs(order)
		wantLists(t, "outputs of "+textByHand(order), outputs, ok, want)
		count, ok := impl.CountEnds(len(order))
		wantNumber(t, "outputs of "+textByHand(order), count, ok, len(want))
		byWords := 0
		for _, w := range wordsOfSize[len(order)] {
			out := runByHand(order, w)
			if !slices.ContainsFunc(outputs, func(other []int) bool { return slices.Equal(other, out) }) {
				t.Errorf("%v comes out of %v by %s, but not by an ends word", out, order, w)
			}
			byWords++
		}
		only, ok := impl.OnlyByEnds(order)
		wantNumber(t, "outputs of "+textByHand(order)+" by no word", only, ok, len(want)-byWords)
	}
	// Here all ends words are run, for orders that are not sorted too.
	for _, order := range smallOrders(4) {
		var outs [][]int
		for _, w := range endsWordsOfSize[len(order)] {
			outs = append(outs, runEndsByHand(order, w))
		}
		slices.SortFunc(outs, slices.Compare)
		outputs, ok := impl.EndsOutputs(order)
		wantLists(t, "outputs of "+textByHand(order), outputs, ok, slices.CompactFunc(outs, slices.Equal))
	}
}

func TestEndsOutputsExamples(t *testing.T) {
	for _, c := range []struct {
		order, outputs string
		only           int
	}{
		{"1", "1", 0}, {"12", "12 21", 0}, {"21", "12 21", 0}, {"123", "123 132 213 231 312 321", 1}, {"231", "123 132 213 231 312 321", 1},
		{"1234", "1234 1243 1324 1342 1423 1432 2134 2143 2314 2341 2413 2431 3124 3142 3214 3241 3412 3421 4123 4132 4312 4321", 8},
		{"4321", "1234 1243 1423 1432 2134 2143 2314 2341 2413 2431 3124 3142 3214 3241 3412 3421 4123 4132 4213 4231 4312 4321", 8},
		{"2413", "1234 1243 1324 1342 1423 1432 2134 2143 2314 2341 2413 2431 3124 3142 3214 3241 4123 4132 4213 4231 4312 4321", 8},
	} {
		outputs, ok := impl.EndsOutputs(orderOf(c.order))
		wantText(t, "outputs of "+c.order, textOfOrders(outputs), ok, c.outputs)
		only, ok := impl.OnlyByEnds(orderOf(c.order))
		wantNumber(t, "outputs of "+c.order+" by no word", only, ok, c.only)
	}
}

func TestCountEndsAndCountPlainEnds(t *testing.T) {
	for n, c := range []struct{ ends, only, plain int }{{}, {1, 0, 1}, {2, 0, 3}, {6, 1, 13}, {22, 8, 67}, {90, 48, 381}, {394, 262, 2307}, {1806, 1377, 14589}} {
		if n == 0 {
			continue
		}
		what := strconv.Itoa(n) + " numbers"
		count, ok := impl.CountEnds(n)
		wantNumber(t, "outputs of "+what, count, ok, c.ends)
		for _, order := range [][]int{upFrom1(n), downTo1(n), append(downTo1(n)[n/2:], downTo1(n)[:n/2]...)} {
			outputs, ok := impl.EndsOutputs(order)
			wantNumber(t, "outputs of "+textByHand(order), len(outputs), ok, c.ends)
			only, ok := impl.OnlyByEnds(order)
			wantNumber(t, "outputs of "+textByHand(order)+" by no word", only, ok, c.only)
		}
		plain, ok := impl.CountPlainEnds(n)
		wantNumber(t, "plain ends words for "+what, plain, ok, c.plain)
		wantNumber(t, "plain ends words by hand for "+what, len(plainWordsOfSize[n]), true, c.plain)
	}
}

func TestAsQueue(t *testing.T) {
	for i, want := range []string{"IT", "IIBT", "IIIBBT", "IIIIBBBT", "IIIIIBBBBT", "IIIIIIBBBBBT", "IIIIIIIBBBBBBT"} {
		n := i + 1
		w, ok := impl.AsQueue(n)
		wantText(t, strconv.Itoa(n)+" numbers as they are", w, ok, want)
		for _, order := range ordersByHand(n) {
			out, ok := impl.RunEnds(order, w)
			wantOrder(t, textByHand(order)+" by "+w, out, ok, order)
		}
		first := slices.IndexFunc(endsWordsOfSize[n], func(w string) bool { return slices.Equal(runEndsByHand(upFrom1(n), w), upFrom1(n)) })
		wantText(t, strconv.Itoa(n)+" numbers as they are", w, ok, endsWordsOfSize[n][first])
	}
}

func TestEndsRefuseNumbers(t *testing.T) {
	for _, n := range noSizes() {
		count, ok := impl.CountEnds(n)
		wantNoNumber(t, "outputs of "+strconv.Itoa(n)+" numbers", count, ok)
		count, ok = impl.CountPlainEnds(n)
		wantNoNumber(t, "plain ends words for "+strconv.Itoa(n)+" numbers", count, ok)
		w, ok := impl.AsQueue(n)
		wantNoText(t, strconv.Itoa(n)+" numbers as they are", w, ok)
	}
}

func TestEndsRefuseNoOrders(t *testing.T) {
	for _, list := range noOrders() {
		if can, ok := impl.IsEndsSortable(list); can || ok {
			t.Errorf("IsEndsSortable(%.8v) = %v, %v", list, can, ok)
		}
		outputs, ok := impl.EndsOutputs(list)
		wantNoLists(t, "outputs of no order", outputs, ok)
		only, ok := impl.OnlyByEnds(list)
		wantNoNumber(t, "outputs of no order by no word", only, ok)
	}
}

// endsTold returns all that the functions of the chapter tell of an order, a target, an ends word and a number: lists, and the rest as a text.
func endsTold(order []int, target []int, w string, n int) ([][]int, string) {
	var lists [][]int
	told := []string{}
	add := func(what string, ok bool, list ...[]int) {
		lists = append(lists, list...)
		told = append(told, what+" "+strconv.FormatBool(ok)+" "+strconv.Itoa(len(list)))
	}
	addNumber := func(number int, ok bool) { add(strconv.Itoa(number), ok) }
	addText := func(text string, ok bool) { add(text, ok) }
	add("", impl.IsEndsWord(w))
	out, ok := impl.RunEnds(order, w)
	add("", ok, out)
	addText(impl.PlainEnds(w))
	addText(impl.EndsTo(order, target))
	can, ok := impl.IsEndsSortable(order)
	add(strconv.FormatBool(can), ok)
	outputs, ok := impl.EndsOutputs(order)
	add("", ok, outputs...)
	addNumber(impl.CountEnds(n))
	addNumber(impl.OnlyByEnds(order))
	addNumber(impl.BottomPops(order, target))
	addNumber(impl.CountPlainEnds(n))
	addNumber(impl.EndsDepth(w))
	addText(impl.AsQueue(n))
	addText(impl.StackWord(w))
	return lists, strings.Join(told, "|")
}

func TestEndsKeepTheirArguments(t *testing.T) {
	for i, order := range append(fewOrders(), noOrders()...) {
		size := max(1, min(len(order), impl.MaxSize))
		words := endsWordsOfSize[size]
		for n, target := range [][]int{order, upFrom1(len(order)), downTo1(len(order)), upFrom1(size + 1)} {
			wide, wideTarget := widened(order), widened(target)
			endsTold(wide, wideTarget, words[(i*37+n*11)%len(words)], n)
			endsTold(wideTarget, wide, words[len(words)-1], n)
			if !isAsBefore(wide, order) || !isAsBefore(wideTarget, target) {
				t.Errorf("changed: %.8v, %.8v", wide, wideTarget)
			}
		}
	}
}

func TestEndsShareNoMemory(t *testing.T) {
	for i, order := range append(fewOrders(), ordersByHand(3)...) {
		words := endsWordsOfSize[len(order)]
		for n, target := range [][]int{slices.Clone(order), downTo1(len(order)), order} {
			before, targetBefore := slices.Clone(order), slices.Clone(target)
			w := words[(i*53+n*17)%len(words)]
			same := tellsTheSame(t, func() ([][]int, string) { return endsTold(order, target, w, min(n+1, 4)) })
			if !same || !slices.Equal(order, before) || !slices.Equal(target, targetBefore) {
				t.Fatal("results are kept, or share memory with an argument:", before, targetBefore, w)
			}
		}
	}
}

func TestListsOfEndsOutputsAreNewEachTime(t *testing.T) {
	first, _ := impl.EndsOutputs([]int{1, 2})
	second, _ := impl.EndsOutputs([]int{1, 2})
	first[0] = []int{9}
	_ = append(first[:1], []int{8})
	third, ok := impl.EndsOutputs([]int{1, 2})
	if !ok || textOfOrders(second) != "12 21" || textOfOrders(third) != "12 21" {
		t.Error("shared:", second, third)
	}
}

func TestEndsReturnTheSameForAnyArguments(t *testing.T) {
	texts := append(someNoEndsWords(), "IT", "IB", "IIBT", "IIBITT", "IIITBB", "IIIIIIIBBBBBBB")
	for i, order := range append(noOrders(), fewOrders()...) {
		targets := [][]int{nil, order, upFrom1(len(order)), {1, 2, 3}, {2, 2}, downTo1(impl.MaxSize), downTo1(impl.MaxSize + 1)}
		for j, n := range []int{0, 1, 3, -1, impl.MaxSize + 1, math.MinInt, math.MaxInt} {
			target, w := targets[(i+j)%len(targets)], texts[(i*7+j)%len(texts)]
			if !tellsTheSame(t, func() ([][]int, string) { return endsTold(order, target, w, n) }) {
				t.Errorf("differs: %.8v, %.8v, %.20q, %d", order, target, w, n)
			}
		}
	}
}
