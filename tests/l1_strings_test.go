package tests

import (
	"bytes"
	"math"
	"math/big"
	"regexp"
	"slices"
	"strconv"
	"strings"
	"testing"

	"loop.example/g01286/impl"
)

var decimalShape = regexp.MustCompile(`\A(0|-?[1-9][0-9]{0,5})\z`)

// allTexts returns every text of at most longest bytes that are all in alphabet.
func allTexts(alphabet string, longest int) []string {
	all := []string{""}
	for from := 0; longest > 0; longest-- {
		upTo := len(all)
		for ; from < upTo; from++ {
			for i := range len(alphabet) {
				all = append(all, all[from]+alphabet[i:i+1])
			}
		}
	}
	return all
}

// slowChecksum uses one great number instead of a remainder at each step.
func slowChecksum(s string) int {
	sum := big.NewInt(7)
	for i := range len(s) {
		sum.Mul(sum, big.NewInt(41))
		sum.Add(sum, big.NewInt(int64(s[i])+1))
	}
	return int(sum.Mod(sum, big.NewInt(999979)).Int64())
}

func sealedByHand(s string) string {
	return s + "#" + strconv.Itoa(slowChecksum(s))
}

// textSealedTo returns a text that has size bytes together with its checksum.
func textSealedTo(t *testing.T, size int) string {
	for digits := 1; digits <= 6; digits++ {
		for c := byte('a'); c <= 'z'; c++ {
			s := strings.Repeat("x", size-digits-2) + string(c)
			if len(sealedByHand(s)) == size {
				return s
			}
		}
	}
	t.Fatal("no text whose sealed size is", size)
	return ""
}

func wantNoText(t *testing.T, what string, s string, ok bool) {
	t.Helper()
	if ok || s != "" {
		t.Errorf("%s: got a text of %d bytes, %v; want none", what, len(s), ok)
	}
}

func TestFormatAndParseEveryNumber(t *testing.T) {
	for n := -impl.MaxDecimal; n <= impl.MaxDecimal; n++ {
		s, ok := impl.FormatInt(n)
		if want := strconv.Itoa(n); !ok || s != want {
			t.Fatalf("FormatInt(%d) = %q, %v", n, s, ok)
		}
		m, ok := impl.ParseInt(s)
		if !ok || m != n {
			t.Fatalf("ParseInt(%q) = %d, %v", s, m, ok)
		}
	}
}

func TestFormatIntBounds(t *testing.T) {
	for n, want := range map[int]string{0: "0", -1: "-1", -12: "-12", 999999: "999999", -999999: "-999999"} {
		if s, ok := impl.FormatInt(n); !ok || s != want {
			t.Errorf("FormatInt(%d) = %q, %v", n, s, ok)
		}
	}
	for _, n := range []int{1000000, -1000000, 1 << 32, -1 << 32, math.MaxInt, math.MinInt} {
		s, ok := impl.FormatInt(n)
		wantNoText(t, "FormatInt "+strconv.Itoa(n), s, ok)
	}
}

func TestParseIntTakesJustWhatFormatIntWrites(t *testing.T) {
	for _, s := range allTexts("-+019 _x", 5) {
		n, ok := impl.ParseInt(s)
		if ok != decimalShape.MatchString(s) {
			t.Errorf("ParseInt(%q) = %d, %v", s, n, ok)
		}
		if ok && strconv.Itoa(n) != s || !ok && n != 0 {
			t.Errorf("ParseInt(%q) = %d, %v", s, n, ok)
		}
	}
	for _, s := range []string{
		"1000000", "-1000000", "0999999", "-0999999", "+999999", "00", "0x1", "1e3", "1.0", "1\n", "\x001", "1\x00",
		"9223372036854775808", "-9223372036854775809", "18446744073709551617", "\u0661", "\xb1", "\u22121",
		strings.Repeat("0", 5000) + "1", strings.Repeat("9", 5000),
	} {
		if n, ok := impl.ParseInt(s); ok || n != 0 {
			t.Errorf("ParseInt(%q) = %d, %v", s, n, ok)
		}
	}
}

func TestSplitStringExamples(t *testing.T) {
	for _, c := range []struct {
		s, sep string
		want   []string
	}{
		{"a,,b", ",", []string{"a", "", "b"}},
		{"", ",", []string{""}},
		{",", ",", []string{"", ""}},
		{",a,", ",", []string{"", "a", ""}},
		{"no sign", ",", []string{"no sign"}},
		{"a\x00b", "\x00", []string{"a", "b"}},
		{"a\xffb\xff", "\xff", []string{"a", "b", ""}},
		{"\u00e9x", "\xc3", []string{"", "\xa9x"}},
		{"\u00e9x", "\xa9", []string{"\xc3", "x"}},
	} {
		if got, ok := impl.SplitString(c.s, c.sep); !ok || !slices.Equal(got, c.want) {
			t.Errorf("SplitString(%q, %q) = %q, %v", c.s, c.sep, got, ok)
		}
	}
}

func TestSplitAndJoinUndoEachOther(t *testing.T) {
	for _, s := range allTexts("a,;\xc3", 5) {
		for _, sep := range []string{",", ";", "a", "\xc3", "#"} {
			parts, ok := impl.SplitString(s, sep)
			if !ok || !slices.Equal(parts, strings.Split(s, sep)) {
				t.Fatalf("SplitString(%q, %q) = %q, %v", s, sep, parts, ok)
			}
			back, ok := impl.JoinStrings(parts, sep)
			if !ok || back != s {
				t.Fatalf("JoinStrings(%q, %q) = %q, %v", parts, sep, back, ok)
			}
		}
	}
}

func TestSplitAndJoinByEveryByte(t *testing.T) {
	var every []byte
	for b := range 256 {
		every = append(every, byte(b))
	}
	s := string(every) + string(every)
	for b := range 256 {
		sep := string([]byte{byte(b)})
		want := []string{s[:b], s[b+1 : b+256], s[b+257:]}
		parts, ok := impl.SplitString(s, sep)
		if !ok || !slices.Equal(parts, want) {
			t.Errorf("SplitString at byte %d = %q, %v", b, parts, ok)
		}
		if back, ok := impl.JoinStrings(want, sep); !ok || back != s {
			t.Errorf("JoinStrings at byte %d = %q, %v", b, back, ok)
		}
	}
}

func TestSplitStringLimits(t *testing.T) {
	whole := strings.Repeat("x", impl.MaxString)
	if parts, ok := impl.SplitString(whole, ","); !ok || len(parts) != 1 || parts[0] != whole {
		t.Error("a text of MaxString bytes:", len(parts), ok)
	}
	signs := strings.Repeat(",", impl.MaxString)
	parts, ok := impl.SplitString(signs, ",")
	if !ok || len(parts) != impl.MaxString+1 || strings.Join(parts, "") != "" {
		t.Error("a text of MaxString separators:", len(parts), ok)
	}
	if back, ok := impl.JoinStrings(parts, ","); !ok || back != signs {
		t.Error("MaxString separators joined:", len(back), ok)
	}
	for _, s := range []string{whole + "x", whole + ",", signs + ",", strings.Repeat("x,", 1<<20)} {
		if parts, ok := impl.SplitString(s, ","); ok || len(parts) != 0 {
			t.Error("a text of", len(s), "bytes:", len(parts), ok)
		}
	}
	for _, sep := range []string{"", ",,", "ab", "\u00e9", whole} {
		for _, s := range []string{"", "a,,b", "ab", "\u00e9"} {
			if parts, ok := impl.SplitString(s, sep); ok || len(parts) != 0 {
				t.Errorf("SplitString(%q, %q) = %q, %v", s, sep, parts, ok)
			}
		}
	}
}

func TestJoinStringsExamples(t *testing.T) {
	for _, c := range []struct {
		parts []string
		sep   string
		want  string
	}{
		{[]string{"a", "", "b"}, ";", "a;;b"},
		{[]string{""}, ";", ""},
		{[]string{"", ""}, ";", ";"},
		{[]string{"alone"}, ";", "alone"},
		{[]string{"a,b", "c"}, ";", "a,b;c"},
		{[]string{"\xff", "\x80"}, "\xfe", "\xff\xfe\x80"},
	} {
		if got, ok := impl.JoinStrings(c.parts, c.sep); !ok || got != c.want {
			t.Errorf("JoinStrings(%q, %q) = %q, %v", c.parts, c.sep, got, ok)
		}
	}
}

func TestJoinStringsRefuses(t *testing.T) {
	for _, c := range []struct {
		parts []string
		sep   string
	}{
		{nil, ";"},
		{[]string{}, ";"},
		{nil, ""},
		{[]string{"a", "b"}, ""},
		{[]string{"a", "b"}, ";;"},
		{[]string{"a", "b"}, "\u00e9"},
		{[]string{"a"}, ""},
		{[]string{";"}, ";"},
		{[]string{"a;b"}, ";"},
		{[]string{"a", "b;"}, ";"},
		{[]string{";a", "b", "c"}, ";"},
		{[]string{"a", "b;c", "d"}, ";"},
		{[]string{"a", "\u00e9"}, "\xa9"},
	} {
		got, ok := impl.JoinStrings(c.parts, c.sep)
		wantNoText(t, strconv.Quote(strings.Join(c.parts, "|"))+" by "+strconv.Quote(c.sep), got, ok)
	}
}

func TestJoinStringsLimits(t *testing.T) {
	half := strings.Repeat("x", impl.MaxString/2)
	long := strings.Repeat("x", impl.MaxString)
	for _, parts := range [][]string{{long}, {half, half[1:]}, {half[1:], half}, {"", long[1:]}, {long[1:], ""}, make([]string, impl.MaxString+1)} {
		want := strings.Join(parts, ";")
		if got, ok := impl.JoinStrings(parts, ";"); !ok || got != want || len(got) != impl.MaxString {
			t.Error(len(parts), "elements to MaxString bytes:", len(got), ok)
		}
	}
	for _, parts := range [][]string{{long + "x"}, {half, half}, {"", long}, {long, ""}, make([]string, impl.MaxString+2), make([]string, 1<<20), slices.Repeat([]string{long}, 1000)} {
		got, ok := impl.JoinStrings(parts, ";")
		wantNoText(t, strconv.Itoa(len(parts))+" elements beyond MaxString bytes", got, ok)
	}
}

func TestLessStringComparesBytes(t *testing.T) {
	texts := append(allTexts("a\x00\x7f\x80\xff", 3), "ab", "b", "B", "\u00e9", "e", "10", "9", strings.Repeat("a", 5000), strings.Repeat("a", 5000)+"b")
	for _, a := range texts {
		for _, b := range texts {
			if got := impl.LessString(a, b); got != (bytes.Compare([]byte(a), []byte(b)) < 0) {
				t.Errorf("LessString(%.20q, %.20q) = %v", a, b, got)
			}
		}
	}
}

func TestChecksumOfKnownTexts(t *testing.T) {
	for s, want := range map[string]int{"": 7, "a": 385, "ab": 15884, "abc": 651344, "abcd": 705751, "\x00": 288, "\xff": 543, "\u00e9": 19973, "#": 323} {
		if sum, ok := impl.Checksum(s); !ok || sum != want {
			t.Errorf("Checksum(%q) = %d, %v", s, sum, ok)
		}
	}
	for _, s := range []string{strings.Repeat("\xff", 1000), strings.Repeat("ab#\n\x80", 300), strings.Repeat("\xff", impl.MaxString), strings.Repeat("a", impl.MaxString)} {
		if sum, ok := impl.Checksum(s); !ok || sum != slowChecksum(s) {
			t.Error("a text of", len(s), "bytes:", sum, ok)
		}
	}
	for _, size := range []int{impl.MaxString + 1, 1 << 20} {
		if sum, ok := impl.Checksum(strings.Repeat("a", size)); ok || sum != 0 {
			t.Error("a text of", size, "bytes:", sum, ok)
		}
	}
}

func TestAppendAndVerifyUndoEachOther(t *testing.T) {
	texts := append(allTexts("a0 \n\x80\xff", 4), strings.Repeat("\xfe", 3000), "0 push@none", "385")
	for _, s := range texts {
		sealed, ok := impl.AppendChecksum(s)
		if !ok || sealed != sealedByHand(s) {
			t.Fatalf("AppendChecksum(%.40q) = %.40q, %v", s, sealed, ok)
		}
		back, ok := impl.VerifyChecksum(sealed)
		if !ok || back != s {
			t.Fatalf("VerifyChecksum(%.40q) = %.40q, %v", sealed, back, ok)
		}
	}
}

func TestAppendChecksumLimits(t *testing.T) {
	just := textSealedTo(t, impl.MaxString)
	sealed, ok := impl.AppendChecksum(just)
	if !ok || len(sealed) != impl.MaxString || sealed != sealedByHand(just) {
		t.Error("just MaxString bytes:", len(sealed), ok)
	}
	if back, ok := impl.VerifyChecksum(sealed); !ok || back != just {
		t.Error("just MaxString bytes opened:", len(back), ok)
	}
	beyond := textSealedTo(t, impl.MaxString+1)
	sealed, ok = impl.AppendChecksum(beyond)
	wantNoText(t, "one byte beyond", sealed, ok)
	back, ok := impl.VerifyChecksum(sealedByHand(beyond))
	wantNoText(t, "one byte beyond opened", back, ok)
	for _, size := range []int{impl.MaxString - 1, impl.MaxString, impl.MaxString + 1, 1 << 20} {
		sealed, ok := impl.AppendChecksum(strings.Repeat("a", size))
		wantNoText(t, strconv.Itoa(size)+" bytes", sealed, ok)
	}
}

func TestAppendChecksumRefusesItsSign(t *testing.T) {
	for _, s := range []string{"#", "a#", "#a", "a#b", "a#385", "##", "\xff#\xff"} {
		sealed, ok := impl.AppendChecksum(s)
		wantNoText(t, strconv.Quote(s), sealed, ok)
		back, ok := impl.VerifyChecksum(sealedByHand(s))
		wantNoText(t, "opened "+strconv.Quote(s), back, ok)
	}
}

func TestVerifyChecksumRefuses(t *testing.T) {
	for _, s := range []string{
		"", "#", "a", "a#", "385", "a385", "a#384", "a#0385", "a#+385", "a#-385", "a# 385", "a#385 ", "a#385\n", " a#385",
		"a#385#", "a##385", "a#385#1", "b#385", "A#385", "#a#385", "a#1000364", "#07", "#8", "7", strings.Repeat("#", 5000), strings.Repeat("a", 1<<20),
	} {
		back, ok := impl.VerifyChecksum(s)
		wantNoText(t, strconv.Quote(s[:min(len(s), 20)]), back, ok)
	}
}

// wantChangeFound changes the byte at a place of a sealed text to each byte that is step from the one before.
func wantChangeFound(t *testing.T, sealed string, place int, step int) {
	changed := []byte(sealed)
	for b := 0; b < 256; b += step {
		if byte(b) == sealed[place] {
			continue
		}
		changed[place] = byte(b)
		if back, ok := impl.VerifyChecksum(string(changed)); ok || back != "" {
			t.Fatalf("byte %d of a text of %d changed to %d: %.20q, %v", place, len(sealed), b, back, ok)
		}
	}
}

func TestAnyChangedByteIsFound(t *testing.T) {
	for _, s := range []string{"", "a", "\x00", "\xff\xff", "0 start 3 5@none", "\u00e9\u00e8", "385", strings.Repeat("z", 60)} {
		sealed, ok := impl.AppendChecksum(s)
		if !ok {
			t.Fatal("not sealed:", s)
		}
		for place := range len(sealed) {
			wantChangeFound(t, sealed, place, 1)
		}
	}
	sealed, ok := impl.AppendChecksum(textSealedTo(t, impl.MaxString))
	if !ok {
		t.Fatal("the longest text is not sealed")
	}
	for place := 0; place < len(sealed); place += 61 {
		wantChangeFound(t, sealed, place, 15)
	}
	for place := len(sealed) - 8; place < len(sealed); place++ {
		wantChangeFound(t, sealed, place, 15)
	}
}

func TestStringsKeepTheirArguments(t *testing.T) {
	for _, parts := range [][]string{{"a", "", "b"}, {"a;b", "c"}, {strings.Repeat("x", impl.MaxString), "y"}, {""}} {
		before := slices.Clone(parts)
		wide := append(slices.Clone(parts), "behind")[:len(parts)]
		for _, sep := range []string{";", "", ";;"} {
			impl.JoinStrings(wide, sep)
		}
		if !slices.Equal(wide, before) || wide[:len(wide)+1][len(wide)] != "behind" {
			t.Errorf("changed: %.40q", wide)
		}
	}
}

func TestSplitResultsAreNewEachTime(t *testing.T) {
	first, _ := impl.SplitString("a,b,c", ",")
	second, _ := impl.SplitString("a,b,c", ",")
	first[0], first[2] = "x", "y"
	_ = append(first[:1], "z")
	third, ok := impl.SplitString("a,b,c", ",")
	want := []string{"a", "b", "c"}
	if !ok || !slices.Equal(second, want) || !slices.Equal(third, want) {
		t.Error("shared:", second, third)
	}
}

func TestStringsReturnTheSameForAnyArguments(t *testing.T) {
	long := strings.Repeat("#,\xff0", 1<<18)
	texts := []string{"", "#", "-", ",", "\x00", "\xff", "\xc3\x28", "a#385", long[:impl.MaxString], long[:impl.MaxString+1], long}
	for _, s := range texts {
		n, parsed := impl.ParseInt(s)
		sum, summed := impl.Checksum(s)
		sealed, closed := impl.AppendChecksum(s)
		opened, verified := impl.VerifyChecksum(s)
		if m, ok := impl.ParseInt(s); m != n || ok != parsed {
			t.Error("ParseInt differs")
		}
		if x, ok := impl.Checksum(s); x != sum || ok != summed {
			t.Error("Checksum differs")
		}
		if x, ok := impl.AppendChecksum(s); x != sealed || ok != closed {
			t.Error("AppendChecksum differs")
		}
		if x, ok := impl.VerifyChecksum(s); x != opened || ok != verified {
			t.Error("VerifyChecksum differs")
		}
		for _, sep := range texts {
			parts, ok := impl.SplitString(s, sep)
			again, fine := impl.SplitString(s, sep)
			if ok != fine || !slices.Equal(parts, again) || ok != (len(sep) == 1 && len(s) <= impl.MaxString) {
				t.Errorf("SplitString(%.20q, %.20q): %v, %v", s, sep, ok, fine)
			}
			joined, ok := impl.JoinStrings([]string{s, sep}, sep)
			wantNoText(t, "an element that is the separator", joined, ok)
			if impl.LessString(s, sep) && impl.LessString(sep, s) {
				t.Errorf("less both ways: %.20q, %.20q", s, sep)
			}
		}
	}
}
