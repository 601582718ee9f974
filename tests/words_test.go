package tests

import (
	"encoding/hex"
	"math"
	"slices"
	"strconv"
	"strings"
	"testing"

	"loop.example/g00195/impl"
)

// Promise 1: what VarText, ShortText, Hex and Decimal write is read back (within their limits).

// everyByte has each byte once.
func everyByte() string {
	all := make([]byte, 256)
	for i := range all {
		all[i] = byte(i)
	}
	return string(all)
}

// someNumbers are the numbers round each power of two within the limit, and some between.
func someNumbers() []int {
	numbers := []int{0, 300, 999999999, impl.MaxNumber}
	for unit := 1; unit <= impl.MaxNumber; unit *= 2 {
		numbers = append(numbers, unit-1, unit, unit+1)
	}
	for n := 0; n <= impl.MaxNumber; n += 1234567 {
		numbers = append(numbers, n)
	}
	return numbers
}

func TestLimitsOfWords(t *testing.T) {
	if impl.MaxText != 20000 || impl.MaxNumber != 1000000000 || impl.MaxWords != 600 || impl.MaxParts != 10 {
		t.Error("a limit of chapter 1 is not what the document says")
	}
}

func TestVarTextWrites(t *testing.T) {
	cases := []struct {
		n    int
		want string
	}{
		{0, "\x00"},
		{1, "\x01"},
		{127, "\x7f"},
		{128, "\x80\x01"},
		{129, "\x81\x01"},
		{255, "\xff\x01"},
		{256, "\x80\x02"},
		{300, "\xac\x02"},
		{16383, "\xff\x7f"},
		{16384, "\x80\x80\x01"},
		{2097151, "\xff\xff\x7f"},
		{2097152, "\x80\x80\x80\x01"},
		{268435455, "\xff\xff\xff\x7f"},
		{268435456, "\x80\x80\x80\x80\x01"},
		{impl.MaxNumber, "\x80\x94\xeb\xdc\x03"},
	}
	for _, c := range cases {
		if got, ok := impl.VarText(c.n); !ok || got != c.want {
			t.Errorf("VarText(%d) = %q, %v; want %q", c.n, got, ok, c.want)
		}
	}
}

func TestVarTextRefuses(t *testing.T) {
	for _, n := range []int{-1, -128, impl.MaxNumber + 1, math.MinInt, math.MaxInt} {
		if got, ok := impl.VarText(n); ok || got != "" {
			t.Errorf("VarText(%d) = %q, %v; want it refused", n, got, ok)
		}
	}
}

func TestVarTextIsReadBack(t *testing.T) {
	for _, n := range someNumbers() {
		text, ok := impl.VarText(n)
		if !ok {
			t.Fatalf("VarText(%d) is refused", n)
		}
		for _, ahead := range []string{"", "\x00", "\x80", "\xff\xff\xff"} {
			for _, behind := range []string{"", "\x00", "\x80", "\x7f\x01"} {
				got, at, right := impl.ReadVar(ahead+text+behind, len(ahead))
				if !right || got != n || at != len(ahead)+len(text) {
					t.Errorf("ReadVar(%q, %d) = %d, %d, %v; want %d", ahead+text+behind, len(ahead), got, at, right, n)
				}
			}
		}
	}
}

// Every text of two bytes is held against all numbers that could stand in it.
func TestReadVarOfEveryTwoBytes(t *testing.T) {
	numbers := map[string]int{}
	for n := range 16384 {
		text, _ := impl.VarText(n)
		numbers[text] = n
	}
	for pair := range 65536 {
		text := string([]byte{byte(pair / 256), byte(pair % 256)})
		size := 1
		want, there := numbers[text[:1]]
		if !there {
			size = 2
			want, there = numbers[text]
		}
		if !there {
			size = 0
		}
		n, at, ok := impl.ReadVar(text, 0)
		if ok != there || n != want || at != size {
			t.Errorf("ReadVar(%q, 0) = %d, %d, %v; want %d, %d, %v", text, n, at, ok, want, size, there)
		}
	}
}

func TestReadVarRefuses(t *testing.T) {
	cases := []struct {
		why  string
		text string
		at   int
	}{
		{"place below 0", "\x05\x06", -1},
		{"place far below 0", "\x05\x06", math.MinInt},
		{"place at the end", "\x05\x06", 2},
		{"place past the end", "\x05\x06", 3},
		{"place far past the end", "\x05\x06", math.MaxInt},
		{"nothing", "", 0},
		{"place past nothing", "", 1},
		{"ends too early", "\x80", 0},
		{"ends too early behind others", "\x05\xff\xff", 1},
		{"four bytes without an end", "\xff\xff\xff\xff", 0},
		{"five bytes without an end", "\x80\x94\xeb\xdc\x83", 0},
		{"longer form of 0", "\x80\x00", 0},
		{"much longer form of 0", "\x80\x80\x80\x80\x00", 0},
		{"longer form of 127", "\xff\x00", 0},
		{"longer form of 300", "\xac\x82\x00", 0},
		{"longer form of 300 behind others", "\x00\xac\x82\x00\x01", 1},
		{"longer form of MaxNumber", "\x80\x94\xeb\xdc\x83\x00", 0},
		{"one beyond MaxNumber", "\x81\x94\xeb\xdc\x03", 0},
		{"five bytes beyond MaxNumber", "\xff\xff\xff\xff\x7f", 0},
		{"six bytes", "\x80\x80\x80\x80\x80\x01", 0},
		{"wraps round to 0", strings.Repeat("\x80", 10) + "\x01", 0},
		{"wraps round below 0", strings.Repeat("\x80", 9) + "\x01", 0},
		{"wraps round by 64 bits", "\x85" + strings.Repeat("\x80", 9) + "\x02", 0},
		{"all bits", strings.Repeat("\xff", 30) + "\x01", 0},
	}
	for _, c := range cases {
		if n, at, ok := impl.ReadVar(c.text, c.at); ok || n != 0 || at != 0 {
			t.Errorf("%s: ReadVar(%q, %d) = %d, %d, %v; want it refused", c.why, c.text, c.at, n, at, ok)
		}
	}
}

func TestShortTextWrites(t *testing.T) {
	cases := []struct{ s, ahead string }{
		{"", "\x00"},
		{"a", "\x01"},
		{"two words", "\x09"},
		{strings.Repeat("x", 127), "\x7f"},
		{strings.Repeat("x", 128), "\x80\x01"},
		{everyByte(), "\x80\x02"},
		{strings.Repeat("\xff", impl.MaxText), "\xa0\x9c\x01"},
	}
	for _, c := range cases {
		if got, ok := impl.ShortText(c.s); !ok || got != c.ahead+c.s {
			t.Errorf("ShortText of %d bytes is not its length and it (%v)", len(c.s), ok)
		}
	}
	if got, ok := impl.ShortText(strings.Repeat("x", impl.MaxText+1)); ok || got != "" {
		t.Errorf("ShortText of one byte too many answers %d bytes, %v", len(got), ok)
	}
}

func TestShortTextIsReadBack(t *testing.T) {
	texts := []string{"", "a", "\x00", "\x80", "two words", everyByte()}
	for _, size := range []int{126, 127, 128, 129, 16383, 16384, impl.MaxText - 1, impl.MaxText} {
		texts = append(texts, strings.Repeat("\x9a", size))
	}
	for _, s := range texts {
		text, ok := impl.ShortText(s)
		if !ok {
			t.Fatalf("ShortText of %d bytes is refused", len(s))
		}
		for _, ahead := range []string{"", "\x03", "\xff\xff"} {
			for _, behind := range []string{"", "\x00", "more"} {
				got, at, right := impl.ReadShort(ahead+text+behind, len(ahead))
				if !right || got != s || at != len(ahead)+len(text) {
					t.Errorf("ReadShort of %d bytes at %d answers %d bytes, %d, %v", len(s), len(ahead), len(got), at, right)
				}
			}
		}
	}
}

func TestReadShortRefuses(t *testing.T) {
	cases := []struct {
		why  string
		text string
		at   int
	}{
		{"place below 0", "\x01a", -1},
		{"place far below 0", "\x01a", math.MinInt},
		{"place at the end", "\x01a", 2},
		{"place past the end", "\x01a", 3},
		{"place far past the end", "\x01a", math.MaxInt},
		{"nothing", "", 0},
		{"no bytes behind the length", "\x01", 0},
		{"one byte too few", "\x03ab", 0},
		{"one byte too few behind others", "\x00\x03ab", 1},
		{"length ends too early", "\x80", 0},
		{"longer form of the length", "\x81\x00a", 0},
		{"longer form of the length 0", "\x80\x00", 0},
		{"MaxText and one byte too few", "\xa0\x9c\x01" + strings.Repeat("x", impl.MaxText-1), 0},
		{"longer than MaxText", "\xa1\x9c\x01" + strings.Repeat("x", impl.MaxText+1), 0},
		{"length MaxNumber", "\x80\x94\xeb\xdc\x03abc", 0},
		{"length beyond MaxNumber", "\xff\xff\xff\xff\x7fabc", 0},
	}
	for _, c := range cases {
		if s, at, ok := impl.ReadShort(c.text, c.at); ok || s != "" || at != 0 {
			t.Errorf("%s: ReadShort answers %q, %d, %v; want it refused", c.why, s, at, ok)
		}
	}
}

func TestHexWrites(t *testing.T) {
	cases := []struct{ text, want string }{
		{"", ""},
		{"\x00", "00"},
		{"\x0f", "0f"},
		{"\xf0", "f0"},
		{"\xff", "ff"},
		{"az", "617a"},
		{"\x01\x23\x45\x67\x89\xab\xcd\xef", "0123456789abcdef"},
	}
	for _, c := range cases {
		if got, ok := impl.Hex(c.text); !ok || got != c.want {
			t.Errorf("Hex(%q) = %q, %v; want %q", c.text, got, ok, c.want)
		}
	}
	if got, ok := impl.Hex(strings.Repeat("x", impl.MaxText+1)); ok || got != "" {
		t.Errorf("Hex of one byte too many answers %d bytes, %v", len(got), ok)
	}
}

func TestHexIsReadBack(t *testing.T) {
	for _, text := range []string{"", "\x00", "a", "two words", everyByte(), strings.Repeat("\xfe", impl.MaxText)} {
		figures, ok := impl.Hex(text)
		if !ok || figures != hex.EncodeToString([]byte(text)) {
			t.Errorf("Hex of %d bytes is wrong (%v)", len(text), ok)
		}
		if got, right := impl.Unhex(figures); !right || got != text {
			t.Errorf("Unhex of the Hex of %d bytes answers %d bytes, %v", len(text), len(got), right)
		}
	}
}

// Of all bytes just sixteen are figures, in the higher place as in the lower one.
func TestUnhexOfEveryByte(t *testing.T) {
	const figures = "0123456789abcdef"
	for c := range 256 {
		one := string([]byte{byte(c)})
		value := strings.Index(figures, one)
		high, highOk := impl.Unhex(one + "5")
		low, lowOk := impl.Unhex("5" + one)
		if value < 0 {
			if highOk || lowOk || high != "" || low != "" {
				t.Errorf("Unhex takes the byte %d for a figure", c)
			}
			continue
		}
		wantHigh, wantLow := string([]byte{byte(16*value + 5)}), string([]byte{byte(80 + value)})
		if !highOk || !lowOk || high != wantHigh || low != wantLow {
			t.Errorf("Unhex with %q = %q, %q; want %q, %q", one, high, low, wantHigh, wantLow)
		}
	}
}

func TestUnhexRefuses(t *testing.T) {
	cases := []struct{ why, text string }{
		{"one figure", "0"},
		{"three figures", "abc"},
		{"capitals", "AB"},
		{"one capital at the end", "00aF"},
		{"a letter that is no figure", "0g"},
		{"a blank", "0 "},
		{"a sign", "-1"},
		{"0x ahead", "0x00"},
		{"no figure at the end", strings.Repeat("ab", 100) + "zz"},
		{"one byte more than MaxText", strings.Repeat("00", impl.MaxText+1)},
		{"one figure more than MaxText", strings.Repeat("0", 2*impl.MaxText+1)},
	}
	for _, c := range cases {
		if got, ok := impl.Unhex(c.text); ok || got != "" {
			t.Errorf("%s: Unhex answers %q, %v; want it refused", c.why, got, ok)
		}
	}
}

func TestDecimalWrites(t *testing.T) {
	cases := []struct {
		n    int
		want string
	}{
		{0, "0"},
		{7, "7"},
		{10, "10"},
		{-5, "-5"},
		{-10, "-10"},
		{impl.MaxNumber, "1000000000"},
		{impl.MaxNumber + 1, "1000000001"},
		{-impl.MaxNumber, "-1000000000"},
		{math.MaxInt, "9223372036854775807"},
		{math.MinInt, "-9223372036854775808"},
		{math.MinInt + 1, "-9223372036854775807"},
	}
	for _, c := range cases {
		if got := impl.Decimal(c.n); got != c.want {
			t.Errorf("Decimal(%d) = %q; want %q", c.n, got, c.want)
		}
	}
}

func TestDecimalIsReadBack(t *testing.T) {
	for _, n := range someNumbers() {
		text := impl.Decimal(n)
		if text != strconv.Itoa(n) {
			t.Errorf("Decimal(%d) = %q", n, text)
		}
		if got, ok := impl.ReadDecimal(text); !ok || got != n {
			t.Errorf("ReadDecimal(%q) = %d, %v; want %d", text, got, ok, n)
		}
	}
}

func TestReadDecimalRefuses(t *testing.T) {
	cases := []struct{ why, text string }{
		{"nothing", ""},
		{"a sign alone", "-"},
		{"below 0", "-1"},
		{"far below 0", impl.Decimal(math.MinInt)},
		{"0 with a sign", "-0"},
		{"plus", "+1"},
		{"two noughts", "00"},
		{"a needless nought", "01"},
		{"many needless noughts", "0000000001"},
		{"a needless nought ahead of MaxNumber", "01000000000"},
		{"one beyond MaxNumber", "1000000001"},
		{"most of ten figures", "9999999999"},
		{"eleven figures", "10000000000"},
		{"MaxInt", "9223372036854775807"},
		{"wraps round to 0", "18446744073709551616"},
		{"wraps round to 1", "18446744073709551617"},
		{"a thousand figures", strings.Repeat("9", 1000)},
		{"a blank ahead", " 1"},
		{"a blank behind", "1 "},
		{"a blank alone", " "},
		{"a figure of base 16", "1a"},
		{"a figure of base 16 alone", "a"},
		{"0x ahead", "0x1"},
		{"a line between", "1_0"},
		{"a point", "1.0"},
		{"an exponent", "1e3"},
		{"a byte 0", "1\x00"},
		{"a figure beyond ASCII", "\u0661"},
	}
	for _, c := range cases {
		if n, ok := impl.ReadDecimal(c.text); ok || n != 0 {
			t.Errorf("%s: ReadDecimal(%q) = %d, %v; want it refused", c.why, c.text, n, ok)
		}
	}
}

// Of all bytes just ten are figures, at the end as at the beginning.
func TestReadDecimalOfEveryByte(t *testing.T) {
	for c := range 256 {
		one := string([]byte{byte(c)})
		value := strings.Index("0123456789", one)
		last, lastOk := impl.ReadDecimal("7" + one)
		first, firstOk := impl.ReadDecimal(one + "7")
		if lastOk != (value >= 0) || firstOk != (value > 0) {
			t.Errorf("ReadDecimal with %q: %v, %v", one, lastOk, firstOk)
		}
		if lastOk && last != 70+value || firstOk && first != 10*value+7 {
			t.Errorf("ReadDecimal with %q = %d, %d", one, last, first)
		}
	}
}

func TestPartsOfLines(t *testing.T) {
	ten := []string{"0", "1", "2", "3", "4", "5", "6", "7", "8", "9"}
	long := strings.Repeat("w", impl.MaxWords)
	cases := []struct {
		line string
		want []string
	}{
		{"", nil},
		{" ", nil},
		{"    ", nil},
		{strings.Repeat(" ", impl.MaxWords), nil},
		{"tick", []string{"tick"}},
		{" tick  1 2 ", []string{"tick", "1", "2"}},
		{"   a", []string{"a"}},
		{"a   ", []string{"a"}},
		{"a a a", []string{"a", "a", "a"}},
		{"! ~", []string{"!", "~"}},
		{"write 1 2 a,b;c#\"d\"", []string{"write", "1", "2", "a,b;c#\"d\""}},
		{"0 1 2 3 4 5 6 7 8 9", ten},
		{"  0 1 2 3 4 5 6 7 8   9   ", ten},
		{long, []string{long}},
		{long[:299] + "  " + long[:299], []string{long[:299], long[:299]}},
	}
	for _, c := range cases {
		if got, ok := impl.PartsOf(c.line); !ok || !slices.Equal(got, c.want) {
			t.Errorf("PartsOf(%q) = %q, %v; want %q", c.line, got, ok, c.want)
		}
	}
}

func TestPartsOfRefuses(t *testing.T) {
	cases := []struct{ why, line string }{
		{"one byte too many", strings.Repeat("w", impl.MaxWords+1)},
		{"one blank too many", strings.Repeat(" ", impl.MaxWords+1)},
		{"one part too many", "0 1 2 3 4 5 6 7 8 9 10"},
		{"one part too many between blanks", "  0 1 2 3 4  5 6 7 8 9 a "},
		{"as many parts as bytes allow", strings.Repeat("a ", impl.MaxWords/2)},
		{"an end of line", "tick 1\n"},
		{"a tab between", "tick\t1"},
		{"a tab alone", "\t"},
		{"a byte 0", "\x00"},
		{"a wrong byte among blanks", "   \x7f   "},
		{"a letter beyond ASCII", "gr\u00fcn"},
		{"a blank beyond ASCII", "a\u00a0b"},
		{"bytes that are no UTF-8", "a \xff b"},
	}
	for _, c := range cases {
		if got, ok := impl.PartsOf(c.line); ok || len(got) != 0 {
			t.Errorf("%s: PartsOf(%q) = %q, %v; want it refused", c.why, c.line, got, ok)
		}
	}
}

func TestPartsOfEveryByte(t *testing.T) {
	for c := range 256 {
		one := string([]byte{byte(c)})
		for _, line := range []string{one, one + "a", "a" + one, "a" + one + "b"} {
			want := strings.FieldsFunc(line, func(r rune) bool { return r == ' ' })
			got, ok := impl.PartsOf(line)
			if c < 32 || c > 126 {
				if ok || len(got) != 0 {
					t.Errorf("PartsOf(%q) = %q, %v; want it refused", line, got, ok)
				}
			} else if !ok || !slices.Equal(got, want) {
				t.Errorf("PartsOf(%q) = %q, %v; want %q", line, got, ok, want)
			}
		}
	}
}

// What an answer's holder does to it is not seen in another answer.
func TestPartsOfIsNewMemory(t *testing.T) {
	const line = "a b c"
	first, _ := impl.PartsOf(line)
	second, _ := impl.PartsOf(line)
	first[0] = "changed"
	_ = append(first[:1], "changed")
	third, _ := impl.PartsOf(line)
	want := []string{"a", "b", "c"}
	if !slices.Equal(second, want) || !slices.Equal(third, want) {
		t.Errorf("answers share memory: %q, %q", second, third)
	}
}
