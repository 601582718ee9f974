package tests

import (
	"math"
	"slices"
	"strings"
	"testing"
	"unsafe"

	"loop.example/g00195/impl"
)

// Promise 4: what is packed is unpacked; it is at most one byte longer.

func textOf(s string) impl.Token { return impl.Token{Text: s} }

func matchOf(back, size int) impl.Token { return impl.Token{Back: back, Size: size} }

// unlike is so many bytes, no two of them alike.
func unlike(size int) string { return everyByte()[48 : 48+size] }

// sameBeginning is how many bytes two texts begin with alike.
func sameBeginning(a, b string) int {
	size := 0
	for size < len(a) && size < len(b) && a[size] == b[size] {
		size++
	}
	return size
}

// tokensByRule is the document's rule for TokensOf: each place ahead is tried.
func tokensByRule(s string) []impl.Token {
	var tokens []impl.Token
	open := false // the last token is a Text that takes more
	for here := 0; here < len(s); {
		best := matchOf(0, 0)
		for place := range here {
			size := min(31, sameBeginning(s[place:], s[here:]))
			if size >= 4 && size >= best.Size {
				best = matchOf(here-place, size)
			}
		}
		switch {
		case best.Size > 0:
			tokens = append(tokens, best)
			here += best.Size
			open = false
			continue
		case open:
			tokens[len(tokens)-1].Text += s[here : here+1]
		default:
			tokens = append(tokens, textOf(s[here:here+1]))
		}
		here++
		open = len(tokens[len(tokens)-1].Text) < 31
	}
	return tokens
}

// bytesByRule is what comes behind the byte z.
func bytesByRule(tokens []impl.Token) string {
	out := ""
	for _, k := range tokens {
		if k.Back == 0 {
			out += string([]byte{byte(len(k.Text))}) + k.Text
		} else {
			out += string([]byte{128 + byte(k.Size), byte(k.Back)})
		}
	}
	return out
}

func packByRule(s string) string {
	raw, packed := "r"+s, "z"+bytesByRule(tokensByRule(s))
	if len(raw) <= len(packed) {
		return raw
	}
	return packed
}

// tellByRule is the text that bytes tell, be they what PackText writes for it or not.
func tellByRule(packed string) (string, bool) {
	if packed == "" || packed[0] != 'r' && packed[0] != 'z' {
		return "", false
	}
	out, rest := "", packed[1:]
	if packed[0] == 'r' {
		return rest, len(rest) <= 64
	}
	for rest != "" && len(out) <= 64 {
		first := int(rest[0])
		switch {
		case first >= 1 && first <= 31 && len(rest) > first:
			out += rest[1 : 1+first]
			rest = rest[1+first:]
		case first >= 129 && first <= 159 && len(rest) > 1 && rest[1] > 0 && int(rest[1]) <= len(out):
			for range first - 128 {
				out += string([]byte{out[len(out)-int(rest[1])]})
			}
			rest = rest[2:]
		default:
			return "", false
		}
	}
	return out, len(out) <= 64
}

func unpackByRule(packed string) (string, bool) {
	plain, ok := tellByRule(packed)
	if !ok || packByRule(plain) != packed {
		return "", false
	}
	return plain, true
}

// textsOver is every text of so many bytes, each of them one of letters.
func textsOver(letters string, size int) []string {
	out := []string{""}
	for range size {
		var longer []string
		for _, s := range out {
			for i := range len(letters) {
				longer = append(longer, s+letters[i:i+1])
			}
		}
		out = longer
	}
	return out
}

// drawnTexts are of every size up to MaxPlain, of few letters and of many, and of pieces that come again.
func drawnTexts() []string {
	var out []string
	draw := mixedText(200000)
	next := func(below int) int {
		n := int(draw[0])<<8 | int(draw[1])
		draw = draw[2:]
		return n % below
	}
	for size := range impl.MaxPlain + 1 {
		for _, letters := range []int{1, 2, 3, 5, 256} {
			for range 4 {
				var s []byte
				for len(s) < size {
					s = append(s, byte(next(letters)))
				}
				out = append(out, string(s))
			}
		}
		for range 12 {
			s := unlike(1 + next(8))
			for len(s) < size {
				from := next(len(s))
				s += s[from:min(len(s), from+1+next(12))]
				if next(3) == 0 {
					s += string([]byte{byte(next(256))})
				}
			}
			out = append(out, s[:size])
		}
	}
	return out
}

// someTexts are the texts that the promise is held against.
func someTexts() []string {
	out := drawnTexts()
	for size := range 12 {
		out = append(out, textsOver("ab", size)...)
	}
	for size := range 8 {
		out = append(out, textsOver("abc", size)...)
	}
	for period := 1; period <= 40; period++ {
		for size := range impl.MaxPlain + 1 {
			out = append(out, strings.Repeat(unlike(period), impl.MaxPlain)[:size])
		}
	}
	return out
}

func wantTokens(t *testing.T, s string, want []impl.Token) {
	t.Helper()
	if got := impl.TokensOf(s); !slices.Equal(got, want) {
		t.Errorf("TokensOf(%q) = %#v; want %#v", s, got, want)
	}
}

func wantPlain(t *testing.T, list []impl.Token, want string) {
	t.Helper()
	if got, ok := impl.PlainOf(list); !ok || got != want {
		t.Errorf("PlainOf(%#v) = %q, %v; want %q, true", list, got, ok, want)
	}
}

func wantPacked(t *testing.T, s, want string) {
	t.Helper()
	if got, ok := impl.PackText(s); !ok || got != want {
		t.Errorf("PackText(%q) = %q, %v; want %q, true", s, got, ok, want)
	}
	if got, ok := impl.UnpackText(want); !ok || got != s {
		t.Errorf("UnpackText(%q) = %q, %v; want %q, true", want, got, ok, s)
	}
}

func refusesToUnpack(t *testing.T, why, packed string) {
	t.Helper()
	if got, ok := impl.UnpackText(packed); ok || got != "" {
		t.Errorf("%s: UnpackText(%q) = %q, %v; want it refused", why, packed, got, ok)
	}
}

func TestLimitsOfPacking(t *testing.T) {
	if impl.MaxPlain != 64 || impl.MinMatch != 4 {
		t.Errorf("MaxPlain, MinMatch = %d, %d; want 64, 4", impl.MaxPlain, impl.MinMatch)
	}
}

func TestTokensOfKnownTexts(t *testing.T) {
	cases := []struct {
		why, text string
		want      []impl.Token
	}{
		{"nothing", "", nil},
		{"one byte", "a", []impl.Token{textOf("a")}},
		{"a byte 0", "\x00", []impl.Token{textOf("\x00")}},
		{"bytes that don't come again", "abcdefgh", []impl.Token{textOf("abcdefgh")}},
		{"one byte again, one short of a match", "aaaa", []impl.Token{textOf("aaaa")}},
		{"one byte again, just a match", "aaaaa", []impl.Token{textOf("a"), matchOf(1, 4)}},
		{"bytes 0 again", "\x00\x00\x00\x00\x00", []impl.Token{textOf("\x00"), matchOf(1, 4)}},
		{"bytes 255 again", "\xff\xff\xff\xff\xff\xff", []impl.Token{textOf("\xff"), matchOf(1, 5)}},
		{"two bytes again, one short of a match", "ababa", []impl.Token{textOf("ababa")}},
		{"two bytes again, just a match", "ababab", []impl.Token{textOf("ab"), matchOf(2, 4)}},
		{"two bytes again and again", "abababababab", []impl.Token{textOf("ab"), matchOf(2, 10)}},
		{"three bytes again, broken off", "abcabcabcab", []impl.Token{textOf("abc"), matchOf(3, 8)}},
		{"three bytes again, then others", "abcabcabX", []impl.Token{textOf("abc"), matchOf(3, 5), textOf("X")}},
		{"a match that ends where it began", "abcdabcd", []impl.Token{textOf("abcd"), matchOf(4, 4)}},
		{"a match one byte short", "abcd.abc", []impl.Token{textOf("abcd.abc")}},
		{"a match of MinMatch", "abcd.abcd", []impl.Token{textOf("abcd."), matchOf(5, 4)}},
		{"a match one byte short, then others", "abcd.abc!", []impl.Token{textOf("abcd.abc!")}},
		{"a match, then what goes on", "abcd.abcd!x", []impl.Token{textOf("abcd."), matchOf(5, 4), textOf("!x")}},
		{"a match right behind a match", "abcdabcdefghefgh", []impl.Token{textOf("abcd"), matchOf(4, 4), textOf("efgh"), matchOf(4, 4)}},
		{"two matches without a Text", "abcd1234-1234abcd", []impl.Token{textOf("abcd1234-"), matchOf(5, 4), matchOf(13, 4)}},
		{"a match that begins inside a match", "abcdeabcdebcde", []impl.Token{textOf("abcde"), matchOf(5, 5), matchOf(4, 4)}},
		{"a match from inside a match", "abcdabcdXcdXabcdXc", []impl.Token{textOf("abcd"), matchOf(4, 4), textOf("XcdX"), matchOf(8, 6)}},
		{"from the begin on, not the best of all", "abcd-bcdefg-abcdefg", []impl.Token{textOf("abcd-bcdefg-"), matchOf(12, 4), textOf("efg")}},
	}
	for _, c := range cases {
		t.Run(c.why, func(t *testing.T) {
			wantTokens(t, c.text, c.want)
			wantPlain(t, c.want, c.text)
		})
	}
}

func TestTokensTakeTheLongestMatch(t *testing.T) {
	cases := []struct {
		why, text string
		want      []impl.Token
	}{
		{"the farthest is the longest", "abcdef1abcde2abcd3abcdef", []impl.Token{textOf("abcdef1"), matchOf(7, 5), textOf("2"), matchOf(6, 4), textOf("3"), matchOf(18, 6)}},
		{"the one in the middle is", "abcd1abcdef2abcde3abcdef", []impl.Token{textOf("abcd1"), matchOf(5, 4), textOf("ef2"), matchOf(7, 5), textOf("3"), matchOf(13, 6)}},
		{"the nearest is", "abcd1abcde2abcdef3abcdef", []impl.Token{textOf("abcd1"), matchOf(5, 4), textOf("e2"), matchOf(6, 5), textOf("f3"), matchOf(7, 6)}},
		{"the first of places in a row is", "aaaaaXaaaaaa", []impl.Token{textOf("a"), matchOf(1, 4), textOf("X"), matchOf(6, 5), textOf("a")}},
		{"one that reaches on is", "abcd1abcdeabcdeabcde", []impl.Token{textOf("abcd1"), matchOf(5, 4), textOf("e"), matchOf(5, 10)}},
	}
	for _, c := range cases {
		t.Run(c.why, func(t *testing.T) { wantTokens(t, c.text, c.want) })
	}
}

func TestTokensTakeTheNearestOfAsLongMatches(t *testing.T) {
	cases := []struct {
		why, text string
		want      []impl.Token
	}{
		{"two places", "abcd1abcd2abcd3", []impl.Token{textOf("abcd1"), matchOf(5, 4), textOf("2"), matchOf(5, 4), textOf("3")}},
		{"three places", "abcd1abcd2abcd3abcd", []impl.Token{textOf("abcd1"), matchOf(5, 4), textOf("2"), matchOf(5, 4), textOf("3"), matchOf(5, 4)}},
		{"the nearest of the longest, beyond a shorter one", "abcde1abcde2abcd3abcde", []impl.Token{textOf("abcde1"), matchOf(6, 5), textOf("2"), matchOf(6, 4), textOf("3"), matchOf(11, 5)}},
		{"places in a row", "aaaaaaXaaaa", []impl.Token{textOf("a"), matchOf(1, 5), textOf("X"), matchOf(5, 4)}},
		{"both of 31 bytes", strings.Repeat("a", 36), []impl.Token{textOf("a"), matchOf(1, 31), matchOf(1, 4)}},
	}
	for _, c := range cases {
		t.Run(c.why, func(t *testing.T) { wantTokens(t, c.text, c.want) })
	}
}

func TestTokensOfOneByteAgainAndAgain(t *testing.T) {
	a := textOf("a")
	cases := []struct {
		size int
		want []impl.Token
	}{
		{31, []impl.Token{a, matchOf(1, 30)}},
		{32, []impl.Token{a, matchOf(1, 31)}},
		{33, []impl.Token{a, matchOf(1, 31), a}},
		{35, []impl.Token{a, matchOf(1, 31), textOf("aaa")}},
		{36, []impl.Token{a, matchOf(1, 31), matchOf(1, 4)}},
		{62, []impl.Token{a, matchOf(1, 31), matchOf(1, 30)}},
		{63, []impl.Token{a, matchOf(1, 31), matchOf(1, 31)}},
		{64, []impl.Token{a, matchOf(1, 31), matchOf(1, 31), a}},
	}
	for _, c := range cases {
		wantTokens(t, strings.Repeat("a", c.size), c.want)
	}
}

func TestMatchesOf31BytesAndMore(t *testing.T) {
	cases := []struct {
		again int
		want  []impl.Token
	}{
		{30, []impl.Token{textOf(unlike(31)), textOf("!"), matchOf(32, 30)}},
		{31, []impl.Token{textOf(unlike(31)), textOf("!"), matchOf(32, 31)}},
	}
	for _, c := range cases {
		wantTokens(t, unlike(31)+"!"+unlike(31)[:c.again], c.want)
	}
	wantTokens(t, unlike(32)+unlike(32), []impl.Token{textOf(unlike(31)), textOf(unlike(32)[31:]), matchOf(32, 31), textOf(unlike(32)[31:])})
	wantTokens(t, strings.Repeat(unlike(8), 8), []impl.Token{textOf(unlike(8)), matchOf(8, 31), matchOf(8, 25)})
	wantTokens(t, strings.Repeat(unlike(28), 3)[:64], []impl.Token{textOf(unlike(28)), matchOf(28, 31), matchOf(28, 5)})
}

func TestTextsOf31BytesAndMore(t *testing.T) {
	cases := []struct {
		size int
		want []int
	}{
		{1, []int{1}}, {30, []int{30}}, {31, []int{31}}, {32, []int{31, 1}}, {33, []int{31, 2}},
		{61, []int{31, 30}}, {62, []int{31, 31}}, {63, []int{31, 31, 1}}, {64, []int{31, 31, 2}},
	}
	for _, c := range cases {
		var want []impl.Token
		rest := unlike(c.size)
		for _, size := range c.want {
			want = append(want, textOf(rest[:size]))
			rest = rest[size:]
		}
		wantTokens(t, unlike(c.size), want)
		wantPlain(t, want, unlike(c.size))
	}
	// A match begins a Text anew, however few bytes the one ahead had.
	wantTokens(t, "abcdabcd"+unlike(31), []impl.Token{textOf("abcd"), matchOf(4, 4), textOf(unlike(31))})
}

func TestTokensFollowTheRule(t *testing.T) {
	for _, s := range someTexts() {
		wantTokens(t, s, tokensByRule(s))
		wantPlain(t, tokensByRule(s), s)
	}
}

func TestPackingFollowsTheRule(t *testing.T) {
	for _, s := range someTexts() {
		wantPacked(t, s, packByRule(s))
	}
}

func TestPackedIsUnpackedAndAtMostOneByteLonger(t *testing.T) {
	texts := someTexts()
	for a := range 256 {
		for b := range 256 {
			texts = append(texts, string([]byte{byte(a), byte(b)}))
		}
		texts = append(texts, string([]byte{byte(a)}), strings.Repeat(string([]byte{byte(a)}), impl.MaxPlain))
	}
	for _, s := range texts {
		packed, ok := impl.PackText(s)
		if !ok || len(packed) > len(s)+1 {
			t.Errorf("PackText(%q) = %q, %v; want at most %d bytes, true", s, packed, ok, len(s)+1)
		}
		if got, ok := impl.UnpackText(packed); !ok || got != s {
			t.Errorf("UnpackText(%q) = %q, %v; want %q, true", packed, got, ok, s)
		}
	}
}

func TestPackTextWrites(t *testing.T) {
	cases := []struct{ text, want string }{
		{"", "r"},
		{"a", "ra"},
		{"r", "rr"},
		{"z", "rz"},
		{"ra", "rra"},
		{"z\x02ab\x8a\x02", "rz\x02ab\x8a\x02"},
		{"aaaa", "raaaa"},
		{"aaaaa", "z\x01a\x84\x01"},
		{"abababababab", "z\x02ab\x8a\x02"},
		{"abcdabcd", "z\x04abcd\x84\x04"},
		{"the sea and the seas", "z\x0cthe sea and \x87\x0c\x01s"},
		{"the sea and the sea", "z\x0cthe sea and \x87\x0c"},
		{strings.Repeat("a", 32), "z\x01a\x9f\x01"},
		{strings.Repeat("a", 64), "z\x01a\x9f\x01\x9f\x01\x01a"},
		{unlike(32) + unlike(32), "z\x1f" + unlike(31) + "\x01O\x9f\x20\x01O"},
		{unlike(64), "r" + unlike(64)},
		{unlike(60) + "0123", "r" + unlike(60) + "0123"},
	}
	for _, c := range cases {
		wantPacked(t, c.text, c.want)
	}
}

// Each Text costs a byte, each match saves all but two of its own.
func TestAsLongIsNotPacked(t *testing.T) {
	cases := []struct {
		why, text string
		saved     int
	}{
		{"nothing at all", "", 0},
		{"a match of 4, two Texts", "abcdabcd!", 0},
		{"a match of 4 from inside, two Texts", "XabcdabcdY", 0},
		{"a match of 5, two Texts", "abcdeabcde!", 1},
		{"a match of 4, one Text", "abcdabcd", 1},
		{"two matches of 4, three Texts", "abcd1abcd2abcd3", 1},
		{"no match, one Text", "abcdefgh", -1},
		{"a match of 4, three Texts", unlike(31) + "!" + "0123" + "?", -1},
		{"a match of 5, three Texts", unlike(31) + "!" + "01234" + "?", 0},
		{"a match of 6, three Texts", unlike(31) + "!" + "012345" + "?", 1},
		{"MaxPlain bytes, a match of 5, three Texts", unlike(59) + "01234", 1},
		{"MaxPlain bytes, a match of 4, two Texts", unlike(60) + "0123", 0},
	}
	for _, c := range cases {
		t.Run(c.why, func(t *testing.T) {
			packed := "z" + bytesByRule(tokensByRule(c.text))
			if saved := 1 + len(c.text) - len(packed); saved != c.saved {
				t.Fatalf("the packed form of %q saves %d; the case is of %d", c.text, saved, c.saved)
			}
			if c.saved > 0 {
				wantPacked(t, c.text, packed)
				refusesToUnpack(t, "could be packed", "r"+c.text)
			} else {
				wantPacked(t, c.text, "r"+c.text)
				refusesToUnpack(t, "is not to be packed", packed)
			}
		})
	}
}

func TestPackingHoldsItsLimit(t *testing.T) {
	for _, s := range []string{unlike(65), strings.Repeat("a", 65), strings.Repeat("ab", 33), strings.Repeat("a", impl.MaxText), mixedText(300)} {
		if got := impl.TokensOf(s); len(got) != 0 {
			t.Errorf("TokensOf of %d bytes = %v; want nothing", len(s), got)
		}
		if got, ok := impl.PackText(s); ok || got != "" {
			t.Errorf("PackText of %d bytes = %q, %v; want it refused", len(s), got, ok)
		}
	}
	for _, s := range []string{unlike(64), strings.Repeat("a", 64), strings.Repeat("ab", 32), mixedText(64)} {
		wantTokens(t, s, tokensByRule(s))
		wantPacked(t, s, packByRule(s))
	}
	refusesToUnpack(t, "a text of 65 bytes", "r"+unlike(65))
	refusesToUnpack(t, "a long text", "r"+strings.Repeat("a", impl.MaxText))
	refusesToUnpack(t, "matches of 65 bytes", "z\x01a\x9f\x01\x9f\x01\x02aa")
	refusesToUnpack(t, "matches without an end", "z\x01a"+strings.Repeat("\x9f\x01", impl.MaxText))
}

func TestPlainOfKnownLists(t *testing.T) {
	cases := []struct {
		why  string
		list []impl.Token
		want string
	}{
		{"no token", nil, ""},
		{"no token, not nil", []impl.Token{}, ""},
		{"one Text", []impl.Token{textOf("abc")}, "abc"},
		{"Texts that could be one", []impl.Token{textOf("a"), textOf("b"), textOf("cd")}, "abcd"},
		{"a match that reaches on", []impl.Token{textOf("a"), matchOf(1, 4)}, "aaaaa"},
		{"a match that reaches on, of two bytes", []impl.Token{textOf("ab"), matchOf(2, 5)}, "abababa"},
		{"a match that stops ahead of here", []impl.Token{textOf("abcdef"), matchOf(6, 2)}, "abcdefab"},
		{"a match just up to here", []impl.Token{textOf("abcd"), matchOf(4, 4)}, "abcdabcd"},
		{"a match shorter than MinMatch", []impl.Token{textOf("ab"), matchOf(2, 1), matchOf(1, 3)}, "abaaaa"},
		{"a Back of all there is", []impl.Token{textOf("ab"), matchOf(2, 2), matchOf(4, 4)}, "abababab"},
		{"a match not the nearest", []impl.Token{textOf("abab"), matchOf(4, 2)}, "ababab"},
		{"a Size of 31", []impl.Token{textOf("a"), matchOf(1, 31)}, strings.Repeat("a", 32)},
		{"a Text of 31 bytes", []impl.Token{textOf(unlike(31))}, unlike(31)},
		{"MaxPlain bytes by a Text", []impl.Token{textOf(unlike(31)), textOf(unlike(31)), textOf("ab")}, unlike(31) + unlike(31) + "ab"},
		{"MaxPlain bytes by a match", []impl.Token{textOf(unlike(31)), textOf(unlike(31)), matchOf(62, 2)}, unlike(31) + unlike(31) + unlike(2)},
		{"a Back of 63", []impl.Token{textOf(unlike(31)), textOf(unlike(31)), textOf("z"), matchOf(63, 1)}, unlike(31) + unlike(31) + "z0"},
	}
	for _, c := range cases {
		t.Run(c.why, func(t *testing.T) { wantPlain(t, c.list, c.want) })
	}
}

func TestPlainOfRefuses(t *testing.T) {
	cases := []struct {
		why string
		bad impl.Token // behind a Text of two bytes
	}{
		{"Back below 0", matchOf(-1, 1)},
		{"Back far below 0", matchOf(math.MinInt, 1)},
		{"Back below 0 with a Text", impl.Token{Back: -1, Text: "a"}},
		{"Back above what there is", matchOf(3, 1)},
		{"Back far above what there is", matchOf(math.MaxInt, 1)},
		{"Size 0 with Back", matchOf(1, 0)},
		{"Size below 0 with Back", matchOf(1, -1)},
		{"Size far below 0 with Back", matchOf(1, math.MinInt)},
		{"Size of 32 with Back", matchOf(1, 32)},
		{"a great Size with Back", matchOf(1, math.MaxInt)},
		{"Size without Back", matchOf(0, 4)},
		{"Size without Back, with a Text", impl.Token{Size: 1, Text: "a"}},
		{"Size below 0 without Back, with a Text", impl.Token{Size: -1, Text: "a"}},
		{"no Text without Back", impl.Token{}},
		{"a Text of 32 bytes", textOf(unlike(32))},
		{"a long Text", textOf(strings.Repeat("a", impl.MaxText))},
		{"a Text with Back", impl.Token{Back: 1, Size: 1, Text: "a"}},
		{"a Text with Back, without Size", impl.Token{Back: 1, Text: "a"}},
	}
	for _, c := range cases {
		t.Run(c.why, func(t *testing.T) {
			for _, list := range [][]impl.Token{{textOf("ab"), c.bad}, {textOf("ab"), c.bad, textOf("c")}, {textOf("a"), matchOf(1, 1), c.bad}, {c.bad}, {c.bad, textOf("ab")}} {
				if got, ok := impl.PlainOf(list); ok || got != "" {
					t.Errorf("PlainOf(%#v) = %q, %v; want it refused", list, got, ok)
				}
			}
		})
	}
}

// What there is counts when the token comes, not what there will be.
func TestPlainOfCountsWhatThereIsThen(t *testing.T) {
	for there := 1; there <= 62; there++ {
		var list []impl.Token
		rest := unlike(there)
		for len(rest) > 31 {
			list = append(list, textOf(rest[:31]))
			rest = rest[31:]
		}
		list = append(list, textOf(rest))
		for back := 1; back <= there; back++ {
			wantPlain(t, append(slices.Clone(list), matchOf(back, 1)), unlike(there)+unlike(there)[there-back:there-back+1])
		}
		for _, back := range []int{there + 1, 64, 255} {
			if got, ok := impl.PlainOf(append(slices.Clone(list), matchOf(back, 1), textOf("a"))); ok || got != "" {
				t.Errorf("PlainOf with a Back of %d behind %d bytes = %q, %v; want it refused", back, there, got, ok)
			}
		}
	}
	for _, list := range [][]impl.Token{{matchOf(1, 1)}, {matchOf(1, 1), textOf("a")}} {
		if got, ok := impl.PlainOf(list); ok || got != "" {
			t.Errorf("PlainOf(%#v) = %q, %v; want it refused", list, got, ok)
		}
	}
}

func TestPlainOfRefusesMoreThanMaxPlainBytes(t *testing.T) {
	full := []impl.Token{textOf(unlike(31)), textOf(unlike(31)), textOf("ab")}
	lists := [][]impl.Token{
		{full[0], full[1], textOf("abc")},
		{full[0], full[1], matchOf(1, 3)},
		{full[0], full[1], matchOf(62, 31)},
		{full[0], full[1], full[2], textOf("a")},
		{full[0], full[1], full[2], matchOf(1, 1)},
		{full[0], full[1], full[2], full[0], matchOf(1, 1)},
		{textOf("a"), matchOf(1, 31), matchOf(1, 31), matchOf(1, 2)},
	}
	lists = append(lists, slices.Repeat([]impl.Token{textOf("a")}, 65), slices.Repeat(full, 1000))
	for _, list := range lists {
		if got, ok := impl.PlainOf(list); ok || got != "" {
			t.Errorf("PlainOf of %d tokens = %q, %v; want it refused", len(list), got, ok)
		}
	}
	wantPlain(t, slices.Repeat([]impl.Token{textOf("a")}, 64), strings.Repeat("a", 64))
}

func TestUnpackTextRefusesBytesThatTellNoText(t *testing.T) {
	cases := []struct{ why, packed string }{
		{"nothing", ""},
		{"neither r nor z", "aaaaaa"},
		{"a capital", "R"},
		{"a capital", "Z\x01a\x84\x01"},
		{"a byte 0", "\x00"},
		{"the tokens alone", "\x01a\x84\x01"},
		{"a Text of no bytes", "z\x00"},
		{"a Text of no bytes, then more", "z\x00\x01a\x84\x01"},
		{"a Text of no bytes at the end", "z\x01a\x84\x01\x00"},
		{"a Text that is cut off", "z\x05abcd"},
		{"a Text whose bytes are all missing", "z\x01a\x84\x01\x01"},
		{"a Text of 32 bytes", "z\x20" + strings.Repeat("a", 32)},
		{"a Text of 127 bytes", "z\x7f" + strings.Repeat("a", 127)},
		{"a match without Back", "z\x01a\x84"},
		{"a match of 0 bytes", "z\x01a\x84\x01\x80\x01"},
		{"a match of 32 bytes", "z\x01a\xa0\x01"},
		{"a match of 127 bytes", "z\x01a\xff\x01"},
		{"a Back of 0", "z\x01a\x84\x00"},
		{"a Back and a Size of 0", "z\x01a\x84\x01\x80\x00"},
		{"a Back above what there is", "z\x01a\x84\x02"},
		{"a Back of 255", "z\x01a\x84\xff"},
		{"a match at the begin", "z\x84\x01"},
		{"more than MaxPlain bytes", "z\x01a\x9f\x01\x9f\x01\x02aa"},
	}
	for _, c := range cases {
		refusesToUnpack(t, c.why, c.packed)
	}
}

func TestUnpackTextRefusesOtherFormsOfAText(t *testing.T) {
	cases := []struct{ why, packed, tells string }{
		{"nothing, packed", "z", ""},
		{"a Text that is not to be packed", "z\x01a", "a"},
		{"a match that saves nothing", "z\x04abcd\x84\x04\x01!", "abcdabcd!"},
		{"what could be packed", "raaaaa", "aaaaa"},
		{"what could be packed, MaxPlain bytes", "r" + strings.Repeat("a", 64), strings.Repeat("a", 64)},
		{"a Text in two", "z\x01a\x01b\x8a\x02", "abababababab"},
		{"a Text that could be a match", "z\x0aaaaaaaaaaa\x9f\x01", strings.Repeat("a", 41)},
		{"a match that begins too late", "z\x03aba\x89\x02", "abababababab"},
		{"a match that ends too early", "z\x02ab\x88\x02\x02ab", "abababababab"},
		{"a match in two", "z\x02ab\x85\x02\x85\x02", "abababababab"},
		{"a match that is not the nearest", "z\x05abcd1\x84\x05\x01!\x84\x0a", "abcd1abcd!abcd"},
		{"a match that is not the longest", "z\x06abcdef\x01.\x84\x07\x02..\x84\x06\x02ef", "abcdef.abcd..abcdef"},
		{"a match one short of MinMatch", "z\x02ab\x88\x02\x01c\x83\x02", "abababababcbcb"},
	}
	for _, c := range cases {
		if got, ok := tellByRule(c.packed); !ok || got != c.tells {
			t.Errorf("%s: %q tells %q, %v; the case is of %q", c.why, c.packed, got, ok, c.tells)
		}
		refusesToUnpack(t, c.why, c.packed)
	}
}

// Every short text of some bytes is held against all that PackText writes.
func TestUnpackTextOfAllShortBytes(t *testing.T) {
	for size := range 7 {
		for _, packed := range textsOver("rza\x00\x01\x02\x84\x85", size) {
			wantUnpacked(t, packed)
		}
		for _, behind := range textsOver("a\x01\x80\x81\x84\x9f\xa0", size) {
			wantUnpacked(t, "z\x01a"+behind)
		}
	}
}

func TestUnpackTextOfTurnedBytes(t *testing.T) {
	texts := []string{"abababababab", "the sea and the seas", strings.Repeat("a", 64), unlike(32) + unlike(32), "abcd1abcd2abcd3abcd", "abcde1abcde2abcd3abcde"}
	for _, s := range texts {
		packed := packByRule(s)
		for at := range len(packed) {
			for mask := range 256 {
				wantUnpacked(t, turned(packed, at, byte(mask)))
			}
			wantUnpacked(t, packed[:at])
		}
		for b := range 256 {
			wantUnpacked(t, packed+string([]byte{byte(b)}))
			wantUnpacked(t, packed+string([]byte{byte(b), 1}))
		}
	}
}

func wantUnpacked(t *testing.T, packed string) {
	t.Helper()
	want, right := unpackByRule(packed)
	if got, ok := impl.UnpackText(packed); got != want || ok != right {
		t.Errorf("UnpackText(%q) = %q, %v; want %q, %v", packed, got, ok, want, right)
	}
}

// sharesMemory asks whether any byte of a is one of b.
func sharesMemory(a, b string) bool {
	if a == "" || b == "" {
		return false
	}
	from, there := uintptr(unsafe.Pointer(unsafe.StringData(a))), uintptr(unsafe.Pointer(unsafe.StringData(b)))
	return from < there+uintptr(len(b)) && there < from+uintptr(len(a))
}

func TestPackedTextsAreNewMemory(t *testing.T) {
	for _, s := range []string{"abcdabcd" + unlike(40), unlike(32), strings.Repeat("ab", 20)} {
		s = strings.Clone(s)
		for _, token := range impl.TokensOf(s) {
			if sharesMemory(token.Text, s) {
				t.Errorf("TokensOf(%q) shares %q", s, token.Text)
			}
		}
		if got, _ := impl.PlainOf([]impl.Token{textOf(s[:20])}); sharesMemory(got, s) {
			t.Errorf("PlainOf shares the Text of its one token")
		}
		packed, _ := impl.PackText(s)
		if sharesMemory(packed, s) {
			t.Errorf("PackText(%q) shares its text", s)
		}
		if plain, _ := impl.UnpackText(packed); sharesMemory(plain, packed) {
			t.Errorf("UnpackText(%q) shares its text", packed)
		}
	}
}

func TestListsOfTokensAreNewMemory(t *testing.T) {
	s := "abcdabcd" + unlike(32)
	first, second := impl.TokensOf(s), impl.TokensOf(s)
	for i := range first {
		first[i] = matchOf(9, 9)
	}
	if !slices.Equal(second, tokensByRule(s)) {
		t.Errorf("a list of TokensOf changes with another: %v", second)
	}
	room := append(tokensByRule(s), matchOf(7, 7))
	list := room[:len(room)-1]
	wantPlain(t, list, s)
	if !slices.Equal(list, tokensByRule(s)) || room[len(list)] != matchOf(7, 7) {
		t.Errorf("PlainOf changes its list: %v", room)
	}
}
