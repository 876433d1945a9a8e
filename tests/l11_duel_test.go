package tests

import (
	"math"
	"slices"
	"strconv"
	"strings"
	"testing"

	"loop.example/g01286/impl"
)

// beginningsOfSize has for each size all that words begin with, in order: the words are cut at each place.
var beginningsOfSize = func() [impl.MaxDuel + 1][]string {
	var table [impl.MaxDuel + 1][]string
	for n := 1; n <= impl.MaxDuel; n++ {
		for _, w := range wordsOfSize[n] {
			for end := range len(w) + 1 {
				table[n] = append(table[n], w[:end])
			}
		}
		slices.Sort(table[n])
		table[n] = slices.Compact(table[n])
	}
	return table
}()

func isBeginningByHand(n int, so string) bool {
	if n < 1 || n > impl.MaxDuel {
		return false
	}
	_, found := slices.BinarySearch(beginningsOfSize[n], so)
	return found
}

func nextSignsByHand(n int, so string) string {
	signs := ""
	for _, sign := range []string{"I", "O"} {
		if isBeginningByHand(n, so+sign) {
			signs += sign
		}
	}
	return signs
}

// stackByHand leaves out of the numbers that were pushed those that came out.
func stackByHand(order []int, so string) []int {
	out := runByHand(order, so)
	pushed := slices.Clone(order[:strings.Count(so, "I")])
	return slices.DeleteFunc(pushed, func(number int) bool { return slices.Contains(out, number) })
}

func scoresByHand(order []int, so string) [2]int {
	out := runByHand(order, so)
	scores := [2]int{}
	for place, sign := range so {
		if sign == 'O' {
			scores[place%2] += out[0]
			out = out[1:]
		}
	}
	return scores
}

// handDuel is the game for an order, played from its end.
type handDuel struct {
	order []int
	// ends has for each beginning by how much player 0 is ahead of player 1 at the end of the whole word to which both go on as well as can be.
	ends map[string]int
}

func duelByHand(order []int) handDuel {
	duel := handDuel{order, map[string]int{}}
	beginnings := slices.Clone(beginningsOfSize[len(order)])
	slices.SortFunc(beginnings, func(a, b string) int { return len(b) - len(a) })
	for _, so := range beginnings {
		if len(so) == 2*len(order) {
			scores := scoresByHand(order, so)
			duel.ends[so] = scores[0] - scores[1]
			continue
		}
		ends := []int{}
		for _, sign := range nextSignsByHand(len(order), so) {
			ends = append(ends, duel.ends[so+string(sign)])
		}
		duel.ends[so] = slices.Max(ends)
		if len(so)%2 == 1 {
			duel.ends[so] = slices.Min(ends)
		}
	}
	return duel
}

// forNext tells how much player 0 is ahead as how much the player is ahead who is to go on.
func forNext(so string, ahead int) int {
	if len(so)%2 == 1 {
		return -ahead
	}
	return ahead
}

func (duel handDuel) value(so string) int {
	scores := scoresByHand(duel.order, so)
	return forNext(so, duel.ends[so]-scores[0]+scores[1])
}

func (duel handDuel) bestSigns(so string) string {
	best := ""
	for _, sign := range nextSignsByHand(len(duel.order), so) {
		if duel.ends[so+string(sign)] == duel.ends[so] {
			best += string(sign)
		}
	}
	return best
}

// bestWords are the whole words to which best signs lead, in order.
func (duel handDuel) bestWords(so string) []string {
	words := []string{}
	for _, w := range wordsOfSize[len(duel.order)] {
		isBest := strings.HasPrefix(w, so)
		for end := len(so); isBest && end < len(w); end++ {
			isBest = duel.ends[w[:end+1]] == duel.ends[so]
		}
		if isBest {
			words = append(words, w)
		}
	}
	return words
}

// worstSign returns no sign for a whole word.
func (duel handDuel) worstSign(so string) (string, int) {
	worst, most := "", -1
	for _, sign := range nextSignsByHand(len(duel.order), so) {
		less := forNext(so, duel.ends[so]-duel.ends[so+string(sign)])
		if less > most {
			worst, most = string(sign), less
		}
	}
	return worst, max(0, most)
}

func withBeginning(order []int, so string) string {
	return textByHand(order) + " behind " + strconv.Quote(so)
}

func wantWorst(t *testing.T, what string, got string, less int, ok bool, want string, wantLess int) {
	t.Helper()
	if ok != (want != "") || got != want || less != wantLess {
		t.Errorf("%s: got %q, %d, %v; want %q, %d", what, got, less, ok, want, wantLess)
	}
}

func wantScores(t *testing.T, what string, got [2]int, ok bool, want [2]int) {
	t.Helper()
	if !ok || got != want {
		t.Errorf("%s: got %v, %v; want %v", what, got, ok, want)
	}
}

func checkDuel(t *testing.T, duel handDuel, so string) {
	t.Helper()
	what := withBeginning(duel.order, so)
	stack, ok := impl.StackAfter(duel.order, so)
	wantOrder(t, "stack of "+what, stack, ok, stackByHand(duel.order, so))
	scores, ok := impl.ScoresOf(duel.order, so)
	wantScores(t, "scores of "+what, scores, ok, scoresByHand(duel.order, so))
	value, ok := impl.DuelValue(duel.order, so)
	wantNumber(t, "value of "+what, value, ok, duel.value(so))
	best, ok := impl.BestSigns(duel.order, so)
	wantText(t, "best signs of "+what, best, ok, duel.bestSigns(so))
	words := duel.bestWords(so)
	w, ok := impl.DuelWord(duel.order, so)
	wantText(t, "word of "+what, w, ok, words[0])
	count, ok := impl.CountBestWords(duel.order, so)
	wantNumber(t, "best words of "+what, count, ok, len(words))
	worst, less, ok := impl.WorstSign(duel.order, so)
	wantSign, wantLess := duel.worstSign(so)
	wantWorst(t, "worst sign of "+what, worst, less, ok, wantSign, wantLess)
}

// someDuelOrders returns all orders of at most 4 numbers, and some of each greater number up to MaxDuel, with the first and the last one.
func someDuelOrders() [][]int {
	return slices.DeleteFunc(fewOrders(), func(order []int) bool { return len(order) > impl.MaxDuel })
}

func sumUpTo(n int) int { return sumOf(upFrom1(n)) }

// noBeginnings are texts that are no beginnings for n numbers.
func noBeginnings(n int) []string {
	return []string{
		"O", "OI", "IOO", "IOOI", "IIOOO", "IOIOO", "OO", "o", "i", "Io", "iO", "0", "1", "I0", "x", " ", "I ", " I", "I\n", "\x00", "I\x00", "\xff", "I\xff", "\xc9", "\xcf",
		"\u0399", "I\u039f", "\u0149", "\u0149\u014f", "I\u014f", "\u0149O", "A", "IA", "T", "IT", "IB", "P", "IP", "IIT", "IOx", "xIO", "IxO", "I\u0301", "H", "J", "N",
		strings.Repeat("I", n+1), strings.Repeat("I", n+1) + strings.Repeat("O", n+1), strings.Repeat("IO", n) + "I", strings.Repeat("IO", n) + "O", strings.Repeat("IO", n+1),
		strings.Repeat("IO", n-1) + "II", strings.Repeat("IO", n-1) + "OI", strings.Repeat("IO", n-1) + "OO", strings.Repeat("I", n) + strings.Repeat("O", n+1),
		strings.Repeat("I", n) + strings.Repeat("O", n) + "IO", strings.Repeat("O", n) + strings.Repeat("I", n), strings.Repeat("O", n), strings.Repeat("O", 2*n),
		strings.Repeat("IO", n-1) + "Ix", strings.Repeat("x", 2*n), strings.Repeat("\xff", 2*n), strings.Repeat("I", n) + "\xff", strings.Repeat("I", n) + "x" + strings.Repeat("O", n),
		strings.Repeat("IO", 128), strings.Repeat("IO", 1<<15) + "I", strings.Repeat("I", 1<<16), strings.Repeat("IO", 1<<19), strings.Repeat("O", 1<<16),
	}
}

// noDuelSizes are numbers of numbers of which there is no duel.
func noDuelSizes() []int { return append(noSizes(), impl.MaxDuel+1, -1<<32, 1<<32+2, math.MinInt+1) }

func TestBeginningsOfEverySize(t *testing.T) {
	for i, want := range []int{3, 8, 22, 64, 196, 625} {
		if n := i + 1; len(beginningsOfSize[n]) != want {
			t.Errorf("%d beginnings for %d numbers", len(beginningsOfSize[n]), n)
		}
	}
	for _, so := range append(allTexts("IO", 2*impl.MaxDuel+2), allTexts("IOo\xff", 6)...) {
		for n := 0; n <= impl.MaxDuel+1; n++ {
			is := isBeginningByHand(n, so)
			if got := impl.IsBeginning(n, so); got != is {
				t.Errorf("IsBeginning(%d, %q) = %v", n, so, got)
			}
			signs, ok := impl.NextSigns(n, so)
			if is {
				wantText(t, "next signs of "+strconv.Quote(so), signs, ok, nextSignsByHand(n, so))
			} else {
				wantNoText(t, "next signs of "+strconv.Quote(so), signs, ok)
			}
		}
	}
}

func TestIsBeginningExamples(t *testing.T) {
	for _, c := range []struct {
		n     int
		so    string
		signs string
	}{
		{1, "", "I"}, {1, "I", "O"}, {1, "IO", ""}, {2, "", "I"}, {2, "I", "IO"}, {2, "II", "O"}, {2, "IO", "I"}, {2, "IIO", "O"}, {2, "IOI", "O"}, {2, "IIOO", ""}, {2, "IOIO", ""},
		{3, "II", "IO"}, {3, "III", "O"}, {3, "IIOO", "I"}, {3, "IIIOO", "O"}, {3, "IIOOIO", ""}, {6, "", "I"}, {6, "IIIII", "IO"}, {6, "IIIIII", "O"}, {6, "IIIIIO", "IO"},
		{6, "IOIOIOIOIO", "I"}, {6, "IOIOIOIOIOI", "O"}, {6, "IIIIIIOOOOO", "O"}, {6, "IIIIIIOOOOOO", ""}, {6, "IOIOIOIOIOIO", ""}, {6, "IIIIIOOOOO", "I"},
	} {
		if !impl.IsBeginning(c.n, c.so) {
			t.Errorf("%q is no beginning for %d numbers", c.so, c.n)
		}
		signs, ok := impl.NextSigns(c.n, c.so)
		wantText(t, "next signs of "+strconv.Quote(c.so)+" for "+strconv.Itoa(c.n), signs, ok, c.signs)
	}
	for _, c := range []struct {
		n  int
		so string
	}{
		{1, "II"}, {1, "IOI"}, {1, "IOO"}, {1, "IOIO"}, {2, "OI"}, {2, "III"}, {2, "IIOI"}, {2, "IOO"}, {2, "IIOOI"}, {2, "IIOOIO"}, {3, "IIII"}, {3, "IIIOI"}, {5, "IIIIII"},
		{6, "IIIIIII"}, {6, "IOIOIOIOIOIOI"}, {6, "IIIIIIOOOOOOO"}, {6, "IOO"}, {6, "IOIIOOO"}, {7, ""}, {7, "I"}, {7, "IO"}, {7, "IOIOIOIOIOIOIO"}, {0, ""}, {-1, ""}, {0, "I"},
	} {
		if impl.IsBeginning(c.n, c.so) {
			t.Errorf("%q is a beginning for %d numbers", c.so, c.n)
		}
	}
}

func TestDuelsOfEveryOrder(t *testing.T) {
	for _, order := range smallOrders(impl.MaxDuel) {
		duel := duelByHand(order)
		for _, so := range beginningsOfSize[len(order)] {
			checkDuel(t, duel, so)
		}
	}
}

func TestDuelExamples(t *testing.T) {
	for _, c := range []struct {
		order, so, stack, next string
		value                  int
		best, word             string
		scores                 [2]int
		count                  int
		// worst is empty for whole words.
		worst string
		less  int
	}{
		{"1", "", "", "I", -1, "I", "IO", [2]int{0, 0}, 1, "I", 0},
		{"1", "I", "1", "O", 1, "O", "IO", [2]int{0, 0}, 1, "O", 0},
		{"1", "IO", "", "", 0, "", "IO", [2]int{0, 1}, 1, "", 0},
		{"12", "", "", "I", -3, "I", "IOIO", [2]int{0, 0}, 1, "I", 0},
		{"12", "I", "1", "IO", 3, "O", "IOIO", [2]int{0, 0}, 1, "I", 4},
		{"12", "II", "12", "O", 1, "O", "IIOO", [2]int{0, 0}, 1, "O", 0},
		{"12", "IIO", "1", "O", 1, "O", "IIOO", [2]int{2, 0}, 1, "O", 0},
		{"12", "IO", "", "I", -2, "I", "IOIO", [2]int{0, 1}, 1, "I", 0},
		{"12", "IOI", "2", "O", 2, "O", "IOIO", [2]int{0, 1}, 1, "O", 0},
		{"12", "IOIO", "", "", 0, "", "IOIO", [2]int{0, 3}, 1, "", 0},
		{"12", "IIOO", "", "", 0, "", "IIOO", [2]int{2, 1}, 1, "", 0},
		{"21", "", "", "I", -3, "I", "IOIO", [2]int{0, 0}, 1, "I", 0},
		{"21", "I", "2", "IO", 3, "O", "IOIO", [2]int{0, 0}, 1, "I", 2},
		{"21", "II", "21", "O", -1, "O", "IIOO", [2]int{0, 0}, 1, "O", 0},
		{"21", "IIO", "2", "O", 2, "O", "IIOO", [2]int{1, 0}, 1, "O", 0},
		{"21", "IOI", "1", "O", 1, "O", "IOIO", [2]int{0, 2}, 1, "O", 0},
		{"123", "", "", "I", -6, "I", "IOIOIO", [2]int{0, 0}, 1, "I", 0},
		{"123", "I", "1", "IO", 6, "O", "IOIOIO", [2]int{0, 0}, 1, "I", 4},
		{"123", "II", "12", "IO", -2, "IO", "IIIOOO", [2]int{0, 0}, 2, "I", 0},
		{"123", "III", "123", "O", 2, "O", "IIIOOO", [2]int{0, 0}, 1, "O", 0},
		{"123", "IIO", "1", "IO", 4, "O", "IIOOIO", [2]int{2, 0}, 1, "I", 6},
		{"321", "II", "32", "IO", -2, "IO", "IIIOOO", [2]int{0, 0}, 2, "I", 0},
		{"321", "IIO", "3", "IO", 4, "O", "IIOOIO", [2]int{2, 0}, 1, "I", 2},
		{"321", "IIOI", "31", "O", -2, "O", "IIOIOO", [2]int{2, 0}, 1, "O", 0},
		{"231", "IIIO", "23", "O", 1, "O", "IIIOOO", [2]int{0, 1}, 1, "O", 0},
		{"132", "III", "132", "O", 0, "O", "IIIOOO", [2]int{0, 0}, 1, "O", 0},
		{"213", "IIOO", "", "I", -3, "I", "IIOOIO", [2]int{1, 2}, 1, "I", 0},
		{"312", "IIIOO", "3", "O", 3, "O", "IIIOOO", [2]int{1, 2}, 1, "O", 0},
		{"321", "IIIOOO", "", "", 0, "", "IIIOOO", [2]int{2, 4}, 1, "", 0},
		{"2413", "II", "24", "IO", -2, "IO", "IIIOIOOO", [2]int{0, 0}, 3, "I", 0},
		{"2413", "III", "241", "IO", 2, "O", "IIIOIOOO", [2]int{0, 0}, 2, "I", 6},
		{"4321", "II", "43", "IO", -4, "IO", "IIIOIOOO", [2]int{0, 0}, 3, "I", 0},
		{"1234", "IIII", "1234", "O", 2, "O", "IIIIOOOO", [2]int{0, 0}, 1, "O", 0},
		{"4132", "IIIIO", "413", "O", 6, "O", "IIIIOOOO", [2]int{2, 0}, 1, "O", 0},
		{"3142", "IIIO", "31", "IO", -4, "IO", "IIIOIOOO", [2]int{0, 4}, 2, "I", 0},
		{"1432", "IIOIO", "1", "IO", 3, "O", "IIOIOOIO", [2]int{7, 0}, 1, "I", 4},
		{"4312", "II", "43", "IO", -4, "IO", "IIIOIOOO", [2]int{0, 0}, 3, "I", 0},
		{"2341", "IIII", "2341", "O", -2, "O", "IIIIOOOO", [2]int{0, 0}, 1, "O", 0},
		{"54312", "II", "54", "IO", -7, "IO", "IIIOIOIOOO", [2]int{0, 0}, 4, "I", 0},
		{"12345", "IIII", "1234", "IO", -3, "IO", "IIIIIOOOOO", [2]int{0, 0}, 3, "I", 0},
		{"53142", "IIIIO", "531", "IO", 5, "O", "IIIIOOIOOO", [2]int{4, 0}, 2, "I", 4},
		{"51324", "IIOI", "53", "IO", -8, "IO", "IIOIIOIOOO", [2]int{1, 0}, 3, "I", 0},
		{"54321", "IIIII", "54321", "O", 3, "O", "IIIIIOOOOO", [2]int{0, 0}, 1, "O", 0},
		{"24135", "IIIOOI", "23", "IO", -4, "IO", "IIIOOIIOOO", [2]int{4, 1}, 2, "I", 0},
		{"653124", "IIII", "6531", "IO", -9, "IO", "IIIIIOIOOOOO", [2]int{0, 0}, 6, "I", 0},
		{"653124", "", "", "I", -21, "I", "IOIOIOIOIOIO", [2]int{0, 0}, 1, "I", 0},
		{"123456", "", "", "I", -21, "I", "IOIOIOIOIOIO", [2]int{0, 0}, 1, "I", 0},
		{"654321", "", "", "I", -21, "I", "IOIOIOIOIOIO", [2]int{0, 0}, 1, "I", 0},
		{"654321", "II", "65", "IO", -11, "IO", "IIIOIOIOIOOO", [2]int{0, 0}, 5, "I", 0},
		{"123456", "IIIIII", "123456", "O", 3, "O", "IIIIIIOOOOOO", [2]int{0, 0}, 1, "O", 0},
		{"654321", "IIIIII", "654321", "O", -3, "O", "IIIIIIOOOOOO", [2]int{0, 0}, 1, "O", 0},
		{"361524", "IIIIOO", "36", "IO", -3, "IO", "IIIIOOIOIOOO", [2]int{5, 1}, 3, "I", 0},
		{"246135", "IIIOII", "2413", "IO", -1, "IO", "IIIOIIIOOOOO", [2]int{0, 6}, 3, "I", 0},
		{"145623", "IIIIIO", "1456", "IO", 1, "IO", "IIIIIOIOOOOO", [2]int{0, 2}, 3, "I", 0},
		{"165432", "IIIIO", "165", "IO", 5, "O", "IIIIOOIOIOOO", [2]int{4, 0}, 3, "I", 6},
		{"426153", "IIIIOOIIOO", "42", "O", -2, "O", "IIIIOOIIOOOO", [2]int{4, 11}, 1, "O", 0},
		{"123456", "IOIOIOIOIOI", "6", "O", 6, "O", "IOIOIOIOIOIO", [2]int{0, 15}, 1, "O", 0},
	} {
		order, what := orderOf(c.order), withBeginning(orderOf(c.order), c.so)
		stack, ok := impl.StackAfter(order, c.so)
		wantOrder(t, "stack of "+what, stack, ok, orderOf(c.stack))
		next, ok := impl.NextSigns(len(order), c.so)
		wantText(t, "next signs of "+what, next, ok, c.next)
		value, ok := impl.DuelValue(order, c.so)
		wantNumber(t, "value of "+what, value, ok, c.value)
		best, ok := impl.BestSigns(order, c.so)
		wantText(t, "best signs of "+what, best, ok, c.best)
		w, ok := impl.DuelWord(order, c.so)
		wantText(t, "word of "+what, w, ok, c.word)
		scores, ok := impl.ScoresOf(order, c.so)
		wantScores(t, "scores of "+what, scores, ok, c.scores)
		count, ok := impl.CountBestWords(order, c.so)
		wantNumber(t, "best words of "+what, count, ok, c.count)
		worst, less, ok := impl.WorstSign(order, c.so)
		wantWorst(t, "worst sign of "+what, worst, less, ok, c.worst, c.less)
	}
}

func TestStackAfterKeepsTheTopLast(t *testing.T) {
	for _, c := range []struct{ order, so, stack string }{
		{"123456", "IIIIII", "123456"}, {"654321", "IIIIII", "654321"}, {"312", "III", "312"}, {"312", "IIO", "3"}, {"312", "IIOI", "32"}, {"312", "IIOIO", "3"},
		{"246135", "IIIOII", "2413"}, {"246135", "IIIOIIOIOO", "24"}, {"426153", "IIIIOOIIOO", "42"}, {"1", "IO", ""}, {"21", "IO", ""}, {"21", "IOI", "1"},
	} {
		stack, ok := impl.StackAfter(orderOf(c.order), c.so)
		wantOrder(t, withBeginning(orderOf(c.order), c.so), stack, ok, orderOf(c.stack))
	}
}

func TestABestSignKeepsTheValue(t *testing.T) {
	for _, order := range someDuelOrders() {
		n := len(order)
		for _, so := range beginningsOfSize[n] {
			what := withBeginning(order, so)
			value, ok := impl.DuelValue(order, so)
			best, okBest := impl.BestSigns(order, so)
			next, okNext := impl.NextSigns(n, so)
			if !ok || !okBest || !okNext || (best == "") != (next == "") || next == "" && value != 0 {
				t.Fatalf("%s: value %d, best signs %q of %q", what, value, best, next)
			}
			for _, sign := range next {
				goesOn := so + string(sign)
				got := sumOf(stackByHand(order, so)) - sumOf(stackByHand(order, goesOn))
				if sign == 'I' {
					got = 0
				}
				// Behind the sign, the other player is to go on.
				other, ok := impl.DuelValue(order, goesOn)
				isBest := strings.ContainsRune(best, sign)
				if !ok || got-other > value || (got-other == value) != isBest {
					t.Errorf("%s: %c gets %d, and then the other one %d more, best signs %q of value %d", what, sign, got, other, best, value)
				}
			}
		}
	}
}

func TestTheValueIsTheScoreDifferenceOfDuelWord(t *testing.T) {
	for _, order := range someDuelOrders() {
		for _, so := range beginningsOfSize[len(order)] {
			value, one := impl.DuelValue(order, so)
			w, two := impl.DuelWord(order, so)
			before, three := impl.ScoresOf(order, so)
			scores, four := impl.ScoresOf(order, w)
			next := len(so) % 2
			difference := scores[next] - before[next] - (scores[1-next] - before[1-next])
			if !one || !two || !three || !four || !strings.HasPrefix(w, so) || !impl.IsWord(w) || value != difference {
				t.Errorf("%s: value %d, but %s has the scores %v behind %v", withBeginning(order, so), value, w, scores, before)
			}
			for end := len(so); end < len(w); end++ {
				best, ok := impl.BestSigns(order, w[:end])
				if !ok || best[:1] != w[end:end+1] {
					t.Errorf("%s goes on to %s, but has the best signs %q behind %s", withBeginning(order, so), w, best, w[:end])
				}
			}
		}
	}
}

func TestScoresOfWholeWordsAreAllNumbersTogether(t *testing.T) {
	for _, order := range append(someDuelOrders(), ordersByHand(5)...) {
		for _, w := range wordsOfSize[len(order)] {
			scores, ok := impl.ScoresOf(order, w)
			if !ok || scores[0]+scores[1] != sumUpTo(len(order)) {
				t.Errorf("%v has the scores %v of %s, %v", order, scores, w, ok)
			}
		}
		for _, so := range beginningsOfSize[len(order)] {
			scores, ok := impl.ScoresOf(order, so)
			if !ok || scores[0]+scores[1] != sumOf(runByHand(order, so)) {
				t.Errorf("%s: scores %v, %v", withBeginning(order, so), scores, ok)
			}
		}
	}
}

func TestWholeWordsOfDuels(t *testing.T) {
	for _, order := range someDuelOrders() {
		for _, w := range wordsOfSize[len(order)] {
			what := withBeginning(order, w)
			value, ok := impl.DuelValue(order, w)
			wantNumber(t, what, value, ok, 0)
			best, ok := impl.BestSigns(order, w)
			wantText(t, what, best, ok, "")
			next, ok := impl.NextSigns(len(order), w)
			wantText(t, what, next, ok, "")
			whole, ok := impl.DuelWord(order, w)
			wantText(t, what, whole, ok, w)
			count, ok := impl.CountBestWords(order, w)
			wantNumber(t, what, count, ok, 1)
			stack, ok := impl.StackAfter(order, w)
			wantOrder(t, what, stack, ok, nil)
			worst, less, ok := impl.WorstSign(order, w)
			wantWorst(t, what, worst, less, ok, "", 0)
		}
	}
}

func TestBeginningsThatGoOnInOneWayAlone(t *testing.T) {
	for _, order := range someDuelOrders() {
		for _, so := range beginningsOfSize[len(order)] {
			only := nextSignsByHand(len(order), so)
			if len(only) != 1 {
				continue
			}
			best, ok := impl.BestSigns(order, so)
			wantText(t, withBeginning(order, so), best, ok, only)
			worst, less, ok := impl.WorstSign(order, so)
			wantWorst(t, withBeginning(order, so), worst, less, ok, only, 0)
		}
		// With all numbers pushed, they come out from the top, player by player.
		n := len(order)
		pushed := strings.Repeat("I", n)
		want := 0
		for _, number := range order {
			want = number - want
		}
		value, ok := impl.DuelValue(order, pushed)
		wantNumber(t, withBeginning(order, pushed), value, ok, want)
		w, ok := impl.DuelWord(order, pushed)
		wantText(t, withBeginning(order, pushed), w, ok, pushed+strings.Repeat("O", n))
	}
}

// TestSignsWithTheSameValue has beginnings behind which both signs are best, and ones behind which one is.
func TestSignsWithTheSameValue(t *testing.T) {
	seen := map[string]int{}
	for _, order := range someDuelOrders() {
		for _, so := range beginningsOfSize[len(order)] {
			if len(nextSignsByHand(len(order), so)) < 2 {
				continue
			}
			best, one := impl.BestSigns(order, so)
			worst, less, two := impl.WorstSign(order, so)
			w, three := impl.DuelWord(order, so)
			if !one || !two || !three || (best == "IO") != (less == 0) || less < 0 || strings.Contains(best, worst) != (less == 0) || w[len(so):len(so)+1] != best[:1] {
				t.Errorf("%s: best signs %q, worst sign %q by %d, word %s", withBeginning(order, so), best, worst, less, w)
			}
			if best == "IO" && worst != "I" {
				t.Errorf("%s: worst sign %q of two that are the same", withBeginning(order, so), worst)
			}
			seen[best+strconv.Itoa(len(so)%2)]++
		}
	}
	if seen["IO0"] == 0 || seen["O1"] == 0 {
		t.Error("too few kinds of beginnings:", seen)
	}
}

// TestTheStartOfEveryDuel: player 1 can pop each number as soon as it is pushed, and so gets all of them.
func TestTheStartOfEveryDuel(t *testing.T) {
	for _, order := range smallOrders(impl.MaxDuel) {
		n := len(order)
		what := withBeginning(order, "")
		value, ok := impl.DuelValue(order, "")
		wantNumber(t, "value of "+what, value, ok, -sumUpTo(n))
		fair, ok := impl.FairStart(order)
		wantBool(t, "fair: "+what, fair, ok, value == 0)
		w, ok := impl.DuelWord(order, "")
		wantText(t, "word of "+what, w, ok, strings.Repeat("IO", n))
		scores, ok := impl.ScoresOf(order, w)
		wantScores(t, "scores of "+what, scores, ok, [2]int{0, sumUpTo(n)})
		scores, ok = impl.ScoresOf(order, "")
		wantScores(t, "scores at the start of "+what, scores, ok, [2]int{})
		stack, ok := impl.StackAfter(order, "")
		wantOrder(t, "stack at the start of "+what, stack, ok, nil)
		value, ok = impl.DuelValue(order, "I")
		wantNumber(t, "value of "+withBeginning(order, "I"), value, ok, sumUpTo(n))
	}
}

func TestMostAndLeastDuel(t *testing.T) {
	for n := 1; n <= 5; n++ {
		var mostOrder, leastOrder []int
		most, least := math.MinInt, math.MaxInt
		for _, order := range ordersByHand(n) {
			value := duelByHand(order).value("")
			if value > most {
				most, mostOrder = value, order
			}
			if value < least {
				least, leastOrder = value, order
			}
		}
		got, first, ok := impl.MostDuel(n)
		wantNumber(t, "the most of "+strconv.Itoa(n), got, ok, most)
		wantOrder(t, "the most of "+strconv.Itoa(n), first, ok, mostOrder)
		got, first, ok = impl.LeastDuel(n)
		wantNumber(t, "the least of "+strconv.Itoa(n), got, ok, least)
		wantOrder(t, "the least of "+strconv.Itoa(n), first, ok, leastOrder)
	}
	for i, want := range []int{-1, -3, -6, -10, -15} {
		for _, tell := range []func(n int) (int, []int, bool){impl.MostDuel, impl.LeastDuel} {
			value, first, ok := tell(i + 1)
			wantNumber(t, strconv.Itoa(i+1)+" numbers", value, ok, want)
			wantOrder(t, strconv.Itoa(i+1)+" numbers", first, ok, upFrom1(i+1))
		}
	}
}

func TestMostAndLeastDuelRefuseSizes(t *testing.T) {
	for _, n := range append(noDuelSizes(), impl.MaxDuel, -5, -impl.MaxDuel) {
		value, first, ok := impl.MostDuel(n)
		wantNoNumber(t, "the most of "+strconv.Itoa(n), value, ok)
		wantNoOrder(t, "the most of "+strconv.Itoa(n), first, ok)
		value, first, ok = impl.LeastDuel(n)
		wantNoNumber(t, "the least of "+strconv.Itoa(n), value, ok)
		wantNoOrder(t, "the least of "+strconv.Itoa(n), first, ok)
	}
}

func TestSizesRefuseNoBeginnings(t *testing.T) {
	refuse := func(n int, so string) {
		t.Helper()
		if impl.IsBeginning(n, so) {
			t.Errorf("%.20q is a beginning for %d numbers", so, n)
		}
		signs, ok := impl.NextSigns(n, so)
		wantNoText(t, "next signs for "+strconv.Itoa(n), signs, ok)
	}
	for n := 1; n <= impl.MaxDuel; n++ {
		for _, so := range noBeginnings(n) {
			refuse(n, so)
		}
	}
	for _, n := range noDuelSizes() {
		for _, so := range append(noBeginnings(3), "", "I", "IO", "II", "IIO", "IOIO", strings.Repeat("IO", impl.MaxDuel), strings.Repeat("IO", impl.MaxSize)) {
			refuse(n, so)
		}
	}
}

func wantNoDuel(t *testing.T, list []int, so string) {
	t.Helper()
	const what = "no order, or no beginning"
	stack, ok := impl.StackAfter(list, so)
	wantNoOrder(t, what, stack, ok)
	value, ok := impl.DuelValue(list, so)
	wantNoNumber(t, what, value, ok)
	best, ok := impl.BestSigns(list, so)
	wantNoText(t, what, best, ok)
	w, ok := impl.DuelWord(list, so)
	wantNoText(t, what, w, ok)
	scores, ok := impl.ScoresOf(list, so)
	if ok || scores != [2]int{} {
		t.Errorf("%s: got the scores %v, %v; want none", what, scores, ok)
	}
	count, ok := impl.CountBestWords(list, so)
	wantNoNumber(t, what, count, ok)
	worst, less, ok := impl.WorstSign(list, so)
	wantWorst(t, what, worst, less, ok, "", 0)
}

func TestDuelsRefuseNoOrders(t *testing.T) {
	lists := append(noOrders(), upFrom1(impl.MaxDuel+1), downTo1(impl.MaxDuel+1), []int{2, 1, 3, 4, 5, 6, 7}, []int{1, 2, 3, 4, 5, 7, 6}, []int{3, 1, 7, 2, 6, 5, 4})
	for _, list := range lists {
		n := min(len(list), 10)
		for _, so := range []string{"", "I", "IO", "II", "IIO", "O", "IOIO", strings.Repeat("I", n), strings.Repeat("IO", n), strings.Repeat("I", n) + strings.Repeat("O", n)} {
			wantNoDuel(t, list, so)
		}
		fair, ok := impl.FairStart(list)
		wantNoBool(t, "fair start of no order", fair, ok)
	}
}

func TestDuelsRefuseNoBeginnings(t *testing.T) {
	for _, order := range someDuelOrders() {
		for _, so := range noBeginnings(len(order)) {
			wantNoDuel(t, order, so)
		}
	}
	// Beginnings for other numbers of numbers.
	for n := 1; n <= impl.MaxDuel; n++ {
		for size := 1; size <= impl.MaxSize; size++ {
			for _, w := range wordsOfSize[size] {
				if size > n {
					wantNoDuel(t, upFrom1(n), w)
				} else if stack, ok := impl.StackAfter(upFrom1(n), w); !ok || len(stack) != 0 {
					t.Errorf("%s is no beginning for %d numbers", w, n)
				}
			}
		}
	}
}

// duelTold returns all that the functions of the chapter tell of an order, a beginning and a size: lists, and the rest as a text.
func duelTold(order []int, so string, n int) ([][]int, string) {
	var lists [][]int
	told := []string{strconv.FormatBool(impl.IsBeginning(n, so))}
	add := func(s string, ok bool) { told = append(told, s+" "+strconv.FormatBool(ok)) }
	addNumber := func(number int, ok bool) { add(strconv.Itoa(number), ok) }
	addList := func(number int, list []int, ok bool) {
		lists = append(lists, list)
		addNumber(number, ok)
	}
	stack, ok := impl.StackAfter(order, so)
	addList(0, stack, ok)
	add(impl.NextSigns(n, so))
	addNumber(impl.DuelValue(order, so))
	add(impl.BestSigns(order, so))
	add(impl.DuelWord(order, so))
	scores, ok := impl.ScoresOf(order, so)
	addList(0, scores[:], ok)
	fair, ok := impl.FairStart(order)
	add(strconv.FormatBool(fair), ok)
	addList(impl.MostDuel(n))
	addList(impl.LeastDuel(n))
	addNumber(impl.CountBestWords(order, so))
	worst, less, ok := impl.WorstSign(order, so)
	add(worst, ok)
	addNumber(less, ok)
	return lists, strings.Join(told, "|")
}

func TestDuelsKeepTheirArguments(t *testing.T) {
	for i, order := range append(someDuelOrders(), noOrders()...) {
		wide := widened(order)
		n := min(len(order), 10)
		for _, so := range []string{"", "I", strings.Repeat("I", n), strings.Repeat("IO", n), strings.Repeat("I", n/2), "O"} {
			duelTold(wide, so, 1+i%3)
		}
		if !isAsBefore(wide, order) {
			t.Errorf("changed: %.8v", wide)
		}
	}
}

func TestDuelsShareNoMemory(t *testing.T) {
	for i, order := range someDuelOrders() {
		before, n := slices.Clone(order), len(order)
		for _, so := range []string{"", "I", strings.Repeat("I", n), strings.Repeat("I", (n+1)/2)} {
			same := tellsTheSame(t, func() ([][]int, string) { return duelTold(order, so, 1+i%4) })
			if !same || !slices.Equal(order, before) {
				t.Fatal("results are kept, or share memory with", before)
			}
		}
		// What was told of another order that stood in the same memory is not kept.
		slices.Reverse(order)
		_, told := duelTold(order, "I", 2)
		_, wanted := duelTold(slices.Clone(order), "I", 2)
		if told != wanted {
			t.Errorf("%v backward: told %s; want %s", before, told, wanted)
		}
	}
	// The two that go through all orders return lists of their own.
	_, most, _ := impl.MostDuel(3)
	_, least, _ := impl.LeastDuel(3)
	most[0] = -1
	_, again, ok := impl.MostDuel(3)
	wantOrder(t, "the least of 3", least, ok, upFrom1(3))
	wantOrder(t, "the most of 3", again, ok, upFrom1(3))
}

func TestDuelsReturnTheSameForAnyArguments(t *testing.T) {
	numbers := []int{0, 1, 3, 4, impl.MaxDuel, impl.MaxDuel + 1, math.MinInt, math.MaxInt}
	for i, order := range append(noOrders(), someDuelOrders()...) {
		for j, so := range []string{"", "\xff", "OI", "IO", "II", "IIIO", strings.Repeat("IO", 7), strings.Repeat("I\u00ff", 1<<10)} {
			n := numbers[(i+j)%len(numbers)]
			if !tellsTheSame(t, func() ([][]int, string) { return duelTold(order, so, n) }) {
				t.Errorf("differs: %.8v, %.8q, %d", order, so, n)
			}
		}
	}
}
