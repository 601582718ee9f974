package tests

import (
	"strings"
	"testing"

	"loop.example/g00195/impl"
)

// Promise 2: a text with one byte turned is never Unsealed as sealed; SumMore goes on where SumOf stopped.

// sumByBits is the document's rule for SumMore, bit by bit.
func sumByBits(sum uint32, text string) uint32 {
	for i := range len(text) {
		sum ^= uint32(text[i])
		for range 8 {
			odd := sum%2 == 1
			sum /= 2
			if odd {
				sum ^= 3558460437
			}
		}
	}
	return sum
}

// mixedText has bytes that follow no short rule, the same at every call.
func mixedText(size int) string {
	out := make([]byte, size)
	state := uint32(1)
	for i := range out {
		state = state*1664525 + 1013904223
		out[i] = byte(state >> 24)
	}
	return string(out)
}

// turned is text with the bits of mask turned in its byte at a place.
func turned(text string, at int, mask byte) string {
	out := []byte(text)
	out[at] ^= mask
	return string(out)
}

func sealedText(t *testing.T, text string) string {
	t.Helper()
	sealed, ok := impl.Sealed(text)
	if !ok {
		t.Fatalf("a text of %d bytes is not sealed", len(text))
	}
	return sealed
}

func refusesToUnseal(t *testing.T, why, text string) {
	t.Helper()
	if got, ok := impl.Unsealed(text); ok || got != "" {
		t.Errorf("%s: Unsealed answers %q, %v; want it refused", why, got, ok)
	}
}

func TestSumOfKnownTexts(t *testing.T) {
	cases := []struct {
		text string
		want uint32
	}{
		{"", 0xffffffff},
		{"\x00", 0x81a5c7dc},
		{"a", 0x9f7e6496},
		{"abc", 0xa7cd0a81},
		{"123456789", 0x78ceaa89},
		{"\xff\xff\xff\xff", 0},
		{everyByte(), 0x9e9affc1},
		{strings.Repeat("a", impl.MaxText), 0x49a32b84},
	}
	for _, c := range cases {
		if got := impl.SumOf(c.text); got != c.want {
			t.Errorf("SumOf of %d bytes = %08x; want %08x", len(c.text), got, c.want)
		}
	}
}

func TestSumMoreOfKnownTexts(t *testing.T) {
	cases := []struct {
		sum  uint32
		text string
		want uint32
	}{
		{0, "", 0},
		{0, "\x00", 0},
		{0, strings.Repeat("\x00", 100), 0},
		{0, "\x80", 3558460437},
		{0, "\x01", 0x2bddd04f},
		{5, "", 5},
		{0x12345678, "", 0x12345678},
		{0x12345678, "abc", 0xccb999a0},
		{4294967295, "", 4294967295},
		{4294967295, "abc", 0xa7cd0a81},
	}
	for _, c := range cases {
		if got := impl.SumMore(c.sum, c.text); got != c.want {
			t.Errorf("SumMore(%08x, %q) = %08x; want %08x", c.sum, c.text, got, c.want)
		}
	}
}

// A sum has no limit of its own: a text longer than MaxText has one, too.
func TestSumsFollowTheRuleOfBits(t *testing.T) {
	for c := range 256 {
		one := string([]byte{byte(c)})
		for _, sum := range []uint32{0, 1, 15, 16, 240, 255, 256, 0x12345678, 0x80000000, 0xffffff00, 0xffffffff} {
			if got, want := impl.SumMore(sum, one), sumByBits(sum, one); got != want {
				t.Errorf("SumMore(%08x, %q) = %08x; want %08x", sum, one, got, want)
			}
		}
	}
	for _, size := range []int{2, 3, 255, 256, 5000, impl.MaxText, impl.MaxText + 1, 3 * impl.MaxText} {
		text := mixedText(size)
		if got, want := impl.SumOf(text), sumByBits(4294967295, text); got != want {
			t.Errorf("SumOf of %d bytes = %08x; want %08x", size, got, want)
		}
	}
}

func TestSumMoreGoesOnAtEveryCut(t *testing.T) {
	for _, text := range []string{"", "a", "two words", everyByte(), mixedText(700)} {
		whole := impl.SumOf(text)
		for cut := 0; cut <= len(text); cut++ {
			if got := impl.SumMore(impl.SumOf(text[:cut]), text[cut:]); got != whole {
				t.Errorf("SumMore behind the cut at %d of %d bytes = %08x; want %08x", cut, len(text), got, whole)
			}
		}
	}
}

func TestSumMoreGoesOnByteByByte(t *testing.T) {
	text := mixedText(impl.MaxText)
	sum := impl.SumOf("")
	for i := range len(text) {
		sum = impl.SumMore(sum, text[i:i+1])
	}
	if want := impl.SumOf(text); sum != want {
		t.Errorf("byte by byte the sum is %08x; want %08x", sum, want)
	}
}

func TestSealedWrites(t *testing.T) {
	cases := []struct{ text, behind string }{
		{"", "\xff\xff\xff\xff"},
		{"\x00", "\x81\xa5\xc7\xdc"},
		{"a", "\x9f\x7e\x64\x96"},
		{"abc", "\xa7\xcd\x0a\x81"},
		{"123456789", "\x78\xce\xaa\x89"},
		{"\xff\xff\xff\xff", "\x00\x00\x00\x00"},
		{strings.Repeat("a", impl.MaxText), "\x49\xa3\x2b\x84"},
	}
	for _, c := range cases {
		if got := sealedText(t, c.text); got != c.text+c.behind {
			t.Errorf("Sealed of %d bytes is not it and %q", len(c.text), c.behind)
		}
	}
}

func TestSealedIsUnsealed(t *testing.T) {
	texts := []string{"", "\x00", "\xff\xff\xff\xff", "abc", "two words", everyByte()}
	for _, size := range []int{1, 2, 3, 4, 5, 1000, impl.MaxText - 1, impl.MaxText} {
		texts = append(texts, mixedText(size))
	}
	for _, text := range texts {
		sealed := sealedText(t, text)
		if got, ok := impl.Unsealed(sealed); !ok || got != text {
			t.Errorf("a sealed text of %d bytes is unsealed as %d bytes, %v", len(text), len(got), ok)
		}
		twice := len(sealed) <= impl.MaxText
		again, ok := impl.Sealed(sealed)
		if ok != twice {
			t.Errorf("a sealed text of %d bytes is sealed again: %v", len(sealed), ok)
		}
		if got, right := impl.Unsealed(again); right != twice || twice && got != sealed {
			t.Errorf("a text of %d bytes that is sealed twice is unsealed as %d bytes, %v", len(text), len(got), right)
		}
	}
}

func TestSealedHoldsItsLimit(t *testing.T) {
	for _, size := range []int{impl.MaxText + 1, impl.MaxText + 4, 2 * impl.MaxText} {
		text := mixedText(size)
		if got, ok := impl.Sealed(text); ok || got != "" {
			t.Errorf("Sealed of %d bytes answers %d bytes, %v", size, len(got), ok)
		}
		sum := sumByBits(4294967295, text)
		behind := string([]byte{byte(sum >> 24), byte(sum >> 16), byte(sum >> 8), byte(sum)})
		refusesToUnseal(t, "too long, with its right sum", text+behind)
	}
}

// Every other value of every byte, those of the sum among them.
func TestOneTurnedByteIsToldInShortTexts(t *testing.T) {
	for _, text := range []string{"", "a", "abc", "\x00\x00\x00\x00\x00", "\xff\xff\xff\xff", "two words", mixedText(40)} {
		sealed := sealedText(t, text)
		for at := range len(sealed) {
			for mask := 1; mask < 256; mask++ {
				refusesToUnseal(t, "one byte is turned", turned(sealed, at, byte(mask)))
			}
		}
	}
}

func TestOneTurnedByteIsToldInLongTexts(t *testing.T) {
	sealed := sealedText(t, mixedText(1000))
	for at := range len(sealed) {
		for bit := range 8 {
			refusesToUnseal(t, "one bit is turned", turned(sealed, at, 1<<bit))
		}
		refusesToUnseal(t, "all bits of a byte are turned", turned(sealed, at, 255))
	}
	longest := sealedText(t, mixedText(impl.MaxText))
	for _, at := range []int{0, 1, impl.MaxText / 2, impl.MaxText - 1, impl.MaxText, impl.MaxText + 3} {
		for mask := 1; mask < 256; mask += 2 {
			refusesToUnseal(t, "one byte of the longest text is turned", turned(longest, at, byte(mask)))
		}
	}
}

func TestUnsealedRefusesTooFewBytes(t *testing.T) {
	for _, text := range []string{"", "\x00", "\xff", "\xff\xff", "\xff\xff\xff", "\x00\x00\x00", "abc"} {
		refusesToUnseal(t, "fewer than four bytes", text)
	}
	refusesToUnseal(t, "four noughts", "\x00\x00\x00\x00")
	sealed := sealedText(t, "abc")
	for size := range len(sealed) {
		refusesToUnseal(t, "the end is missing", sealed[:size])
	}
	for from := 1; from < len(sealed); from++ {
		refusesToUnseal(t, "the beginning is missing", sealed[from:])
	}
}

// The four bytes of this sum differ, so each other order is another sum.
func TestUnsealedRefusesAnotherOrderOfTheSum(t *testing.T) {
	const text = "abc"
	sum := sealedText(t, text)[len(text):]
	orders := 0
	for n := range 256 {
		a, b, c, d := n/64, n/16%4, n/4%4, n%4
		if a == b || a == c || a == d || b == c || b == d || c == d {
			continue
		}
		orders++
		mixed := text + string([]byte{sum[a], sum[b], sum[c], sum[d]})
		if a == 0 && b == 1 && c == 2 {
			if got, ok := impl.Unsealed(mixed); !ok || got != text {
				t.Errorf("the right order is unsealed as %q, %v", got, ok)
			}
			continue
		}
		refusesToUnseal(t, "another order of the sum", mixed)
	}
	if orders != 24 {
		t.Errorf("%d orders of four bytes were held", orders)
	}
}

func TestUnsealedRefusesAddedBytes(t *testing.T) {
	sealed := sealedText(t, "two words")
	for c := range 256 {
		one := string([]byte{byte(c)})
		refusesToUnseal(t, "a byte behind", sealed+one)
		refusesToUnseal(t, "a byte ahead", one+sealed)
	}
	sum := sealed[len(sealed)-4:]
	refusesToUnseal(t, "the sum ahead", sum+"two words")
	refusesToUnseal(t, "the sum twice", sealed+sum)
}
