package tests

import (
	"crypto/sha256"
	"encoding/hex"
	"math"
	"math/big"
	"strings"
	"testing"

	"loop.example/g00195/impl"
)

// Promise 3: a digest of a text that comes in parts is that of the text.

// firstPrimes tries each number by the primes ahead of it.
func firstPrimes(count int) []int {
	var primes []int
next:
	for n := 2; len(primes) < count; n++ {
		for _, p := range primes {
			if n%p == 0 {
				continue next
			}
		}
		primes = append(primes, n)
	}
	return primes
}

// rootFraction is the first 32 bits of the fraction of the root of n, of that power.
func rootFraction(n, power int) uint32 {
	whole := new(big.Int).Lsh(big.NewInt(int64(n)), uint(32*power))
	root := new(big.Int)
	for bit := 40; bit >= 0; bit-- {
		try := new(big.Int).SetBit(root, bit, 1)
		if new(big.Int).Exp(try, big.NewInt(int64(power)), nil).Cmp(whole) <= 0 {
			root = try
		}
	}
	return uint32(root.Uint64())
}

func rootFractions(count, power int) []uint32 {
	var out []uint32
	for _, p := range firstPrimes(count) {
		out = append(out, rootFraction(p, power))
	}
	return out
}

// digestRule is the document's rule for digests, with the numbers it names worked out.
type digestRule struct{ first, k []uint32 }

func newDigestRule() digestRule {
	return digestRule{first: rootFractions(8, 2), k: rootFractions(64, 3)}
}

func turnRight(x uint32, by int) uint32 { return x>>by | x<<(32-by) }

func (r digestRule) round(state []uint32, block string) []uint32 {
	w := wordsOf(block)
	for t := 16; t < 64; t++ {
		x, y := w[t-15], w[t-2]
		s0 := turnRight(x, 7) ^ turnRight(x, 18) ^ x>>3
		s1 := turnRight(y, 17) ^ turnRight(y, 19) ^ y>>10
		w = append(w, s1+w[t-7]+s0+w[t-16])
	}
	v := append([]uint32(nil), state...)
	for t := range 64 {
		s1 := turnRight(v[4], 6) ^ turnRight(v[4], 11) ^ turnRight(v[4], 25)
		s0 := turnRight(v[0], 2) ^ turnRight(v[0], 13) ^ turnRight(v[0], 22)
		ch := v[4]&v[5] ^ ^v[4]&v[6]
		maj := v[0]&v[1] ^ v[0]&v[2] ^ v[1]&v[2]
		t1 := v[7] + s1 + ch + r.k[t] + w[t]
		v = []uint32{t1 + s0 + maj, v[0], v[1], v[2], v[3] + t1, v[4], v[5], v[6]}
	}
	for i := range v {
		v[i] += state[i]
	}
	return v
}

func (r digestRule) rounds(state []uint32, blocks string) []uint32 {
	for at := 0; at+64 <= len(blocks); at += 64 {
		state = r.round(state, blocks[at:at+64])
	}
	return state
}

// end is the digest when this state has taken count bytes but for rest.
func (r digestRule) end(state []uint32, rest string, count int) string {
	out := append([]byte(rest), 128)
	for len(out)%64 != 56 {
		out = append(out, 0)
	}
	for shift := 56; shift >= 0; shift -= 8 {
		out = append(out, byte(uint64(8*count)>>shift))
	}
	return bytesOf(r.rounds(state, string(out)))
}

// hasher is what all that came makes of a new one.
func (r digestRule) hasher(text string) impl.Hasher {
	whole := len(text) / 64 * 64
	return impl.Hasher{State: bytesOf(r.rounds(r.first, text)), Rest: text[whole:], Count: len(text)}
}

func wordsOf(text string) []uint32 {
	var out []uint32
	for at := 0; at < len(text); at += 4 {
		word := uint32(0)
		for i := range 4 {
			word = word*256 + uint32(text[at+i])
		}
		out = append(out, word)
	}
	return out
}

func bytesOf(words []uint32) string {
	var out []byte
	for _, word := range words {
		out = append(out, byte(word>>24), byte(word>>16), byte(word>>8), byte(word))
	}
	return string(out)
}

func libraryDigest(text string) string {
	sum := sha256.Sum256([]byte(text))
	return string(sum[:])
}

// hasherAt is a right hasher that has taken count bytes.
func hasherAt(count int) impl.Hasher {
	return impl.Hasher{State: mixedText(32), Rest: mixedText(count % 64), Count: count}
}

type wrongHasher struct {
	why, state, rest string
	count            int
}

func (w wrongHasher) hasher() impl.Hasher {
	return impl.Hasher{State: w.state, Rest: w.rest, Count: w.count}
}

func wrongHashers() []wrongHasher {
	state := mixedText(32)
	return []wrongHasher{
		{"the zero value", "", "", 0},
		{"no state", "", "abc", 3},
		{"a state of 31 bytes", state[:31], "", 0},
		{"a state of 33 bytes", state + "a", "", 0},
		{"a state of 64 bytes", state + state, "abc", 3},
		{"a rest of 64 bytes, counted as 64", state, mixedText(64), 64},
		{"a rest of 64 bytes, counted as 0", state, mixedText(64), 0},
		{"a rest of 64 bytes, counted as 128", state, mixedText(64), 128},
		{"a rest of 65 bytes, counted as 65", state, mixedText(65), 65},
		{"a rest of 65 bytes, counted as 1", state, mixedText(65), 1},
		{"a rest one byte too long", state, "abcd", 67},
		{"a rest one byte too short", state, "ab", 67},
		{"no rest, counted as 63", state, "", 63},
		{"a rest, counted as none", state, "a", 0},
		{"a rest of 63 bytes, counted as a block", state, mixedText(63), 64},
		{"a count of -1", state, "", -1},
		{"a count of -1, and a rest", state, mixedText(63), -1},
		{"a count of -1, and a rest of one byte", state, "a", -1},
		{"a count of a block below 0", state, "", -64},
		{"the least count", state, "", math.MinInt},
		{"a count of one above the limit", state, "a", impl.MaxNumber + 1},
		{"a count of a block above the limit", state, "", impl.MaxNumber + 64},
		{"the greatest count", state, mixedText(63), math.MaxInt},
		{"the greatest count of whole blocks", state, "", math.MaxInt - 63},
		{"a count whose 32 lowest bits are a block", state, "", 1<<32 + 64},
	}
}

func wantHasher(t *testing.T, why string, got, want impl.Hasher) {
	t.Helper()
	if got != want {
		t.Errorf("%s: the hasher is %x, %q, %d; want %x, %q, %d", why, got.State, got.Rest, got.Count, want.State, want.Rest, want.Count)
	}
}

func TestDigestsOfKnownTexts(t *testing.T) {
	const alphabets = "abcdbcdecdefdefgefghfghighijhijkijkljklmklmnlmnomnopnopq"
	cases := []struct{ text, want string }{
		{"", "e3b0c44298fc1c149afbf4c8996fb92427ae41e4649b934ca495991b7852b855"},
		{"a", "ca978112ca1bbdcafac231b39a23dc4da786eff8147c4e72b9807785afee48bb"},
		{"abc", "ba7816bf8f01cfea414140de5dae2223b00361a396177a9cb410ff61f20015ad"},
		{alphabets, "248d6a61d20638b8e5c026930c3e6039a33ce45964ff2167f6ecedd419db06c1"},
		{strings.Repeat("a", 1000000), "cdc76e5c9914fb9281a1c7e284d73e67f1809a48a497200e046d39ccc7112cd0"},
	}
	for _, c := range cases {
		if got := hex.EncodeToString([]byte(impl.DigestOf(c.text))); got != c.want {
			t.Errorf("DigestOf of %d bytes = %s; want %s", len(c.text), got, c.want)
		}
	}
}

// Each length up to some blocks: those that fill a block among them, and those
// one byte short of it or nine, where the length still fits and does not any more.
func TestDigestsOfEveryLength(t *testing.T) {
	rule := newDigestRule()
	for size := range 5 * 64 {
		for _, text := range []string{mixedText(size), strings.Repeat("\x00", size), strings.Repeat("\xff", size)} {
			got := impl.DigestOf(text)
			if want := rule.end(rule.rounds(rule.first, text), text[size/64*64:], size); got != want {
				t.Errorf("DigestOf of %d bytes = %x; the rule's is %x", size, got, want)
			}
			if want := libraryDigest(text); got != want {
				t.Errorf("DigestOf of %d bytes = %x; the library's is %x", size, got, want)
			}
		}
	}
}

// A digest has no limit of its own: a text longer than MaxText has one, too.
func TestDigestsOfLongTexts(t *testing.T) {
	for _, size := range []int{4096, impl.MaxText - 1, impl.MaxText, impl.MaxText + 1, 1<<20 - 9, 1<<20 - 1, 1 << 20} {
		text := mixedText(size)
		want := libraryDigest(text)
		if got := impl.DigestOf(text); got != want {
			t.Errorf("DigestOf of %d bytes = %x; want %x", size, got, want)
		}
		if got := impl.HashEnd(impl.HashMore(impl.HasherNew(), text)); got != want {
			t.Errorf("HashEnd of %d bytes = %x; want %x", size, got, want)
		}
	}
}

func TestDigestTellsTextsApart(t *testing.T) {
	seen := map[string]string{}
	take := func(text string) {
		digest := impl.DigestOf(text)
		if len(digest) != 32 {
			t.Errorf("a digest has %d bytes", len(digest))
		}
		if other, there := seen[digest]; there {
			t.Errorf("%q and %q have one digest", text, other)
		}
		seen[digest] = text
	}
	for size := range 130 {
		take(strings.Repeat("\x00", size))
		take("\x80" + strings.Repeat("\x00", size))
	}
	text := "a" + mixedText(99)
	take(text)
	for at := range len(text) {
		take(turned(text, at, 1))
		take(turned(text, at, 128))
	}
}

func TestHasherNewIsTheFirstState(t *testing.T) {
	const first = "6a09e667bb67ae853c6ef372a54ff53a510e527f9b05688c1f83d9ab5be0cd19"
	h := impl.HasherNew()
	if hex.EncodeToString([]byte(h.State)) != first || h.Rest != "" || h.Count != 0 {
		t.Errorf("HasherNew is %x, %q, %d", h.State, h.Rest, h.Count)
	}
	wantHasher(t, "by the roots of the primes", h, newDigestRule().hasher(""))
	if !impl.HasherOk(h) {
		t.Error("a new hasher is not right")
	}
	if got := impl.HashEnd(h); got != impl.DigestOf("") {
		t.Errorf("HashEnd of a new hasher = %x", got)
	}
}

func TestHashMoreKeepsBlocksAndRest(t *testing.T) {
	rule := newDigestRule()
	text := mixedText(4*64 + 1)
	for size := 0; size <= len(text); size++ {
		h := impl.HashMore(impl.HasherNew(), text[:size])
		wantHasher(t, "all at once", h, rule.hasher(text[:size]))
		if !impl.HasherOk(h) {
			t.Errorf("a hasher of %d bytes is not right", size)
		}
	}
}

func TestDigestOfTwoPartsAtEveryCut(t *testing.T) {
	rule := newDigestRule()
	for _, size := range []int{0, 1, 2, 9, 54, 55, 56, 57, 63, 64, 65, 118, 119, 120, 127, 128, 129, 191, 192, 193, 300} {
		text := mixedText(size)
		want, all := impl.DigestOf(text), rule.hasher(text)
		for cut := 0; cut <= size; cut++ {
			first := impl.HashMore(impl.HasherNew(), text[:cut])
			both := impl.HashMore(first, text[cut:])
			wantHasher(t, "ahead of the cut", first, rule.hasher(text[:cut]))
			wantHasher(t, "behind the cut", both, all)
			if got := impl.HashEnd(both); got != want {
				t.Errorf("cut at %d of %d bytes the digest is %x; want %x", cut, size, got, want)
			}
			if got := impl.HashEnd(first); got != libraryDigest(text[:cut]) {
				t.Errorf("the digest of %d bytes ahead of more is %x", cut, got)
			}
		}
	}
}

func TestDigestOfManyParts(t *testing.T) {
	text := mixedText(3000)
	want := impl.DigestOf(text)
	for part := 1; part <= 200; part++ {
		h := impl.HasherNew()
		for at := 0; at < len(text); at += part {
			end := min(at+part, len(text))
			h = impl.HashMore(h, text[at:end])
			if h.Count != end || !impl.HasherOk(h) {
				t.Fatalf("in parts of %d: behind %d bytes the hasher counts %d, right: %v", part, end, h.Count, impl.HasherOk(h))
			}
		}
		if got := impl.HashEnd(h); got != want {
			t.Errorf("in parts of %d the digest is %x; want %x", part, got, want)
		}
	}
}

func TestDigestOfPartsOfAllSizes(t *testing.T) {
	h, text := impl.HasherNew(), ""
	for size := range 150 {
		part := strings.Repeat(string([]byte{byte(size)}), size)
		h, text = impl.HashMore(h, part), text+part
		if got, want := impl.HashEnd(h), libraryDigest(text); got != want {
			t.Errorf("behind a part of %d bytes the digest is %x; want %x", size, got, want)
		}
	}
}

func TestHashMoreOfNothing(t *testing.T) {
	for _, count := range []int{0, 1, 55, 56, 63, 64, 65, 640, impl.MaxNumber - 1, impl.MaxNumber} {
		h := hasherAt(count)
		wantHasher(t, "nothing came", impl.HashMore(h, ""), h)
		wantHasher(t, "nothing came twice", impl.HashMore(impl.HashMore(h, ""), ""), h)
	}
	wantHasher(t, "nothing came to a new one", impl.HashMore(impl.HasherNew(), ""), impl.HasherNew())
}

// One hasher may go on with several texts; none of them is seen in another.
func TestHashersAreKeptApart(t *testing.T) {
	h := impl.HashMore(impl.HasherNew(), "the beginning, ")
	was := h
	one := impl.HashMore(h, "one end")
	two := impl.HashMore(h, mixedText(100))
	impl.HashEnd(h)
	wantHasher(t, "behind both", h, was)
	if impl.HashEnd(one) != impl.DigestOf("the beginning, one end") || impl.HashEnd(two) != impl.DigestOf("the beginning, "+mixedText(100)) {
		t.Error("the ends are mixed up")
	}
	if impl.HashEnd(one) != impl.HashEnd(one) {
		t.Error("HashEnd changes the hasher")
	}
}

func TestHashMoreReachesItsLimit(t *testing.T) {
	rule := newDigestRule()
	for short := range 200 {
		h, more := hasherAt(impl.MaxNumber-short), mixedText(short)
		want := impl.Hasher{State: bytesOf(rule.rounds(wordsOf(h.State), h.Rest+more)), Count: impl.MaxNumber}
		full := impl.HashMore(h, more)
		wantHasher(t, "the limit is reached", full, want)
		if !impl.HasherOk(h) || !impl.HasherOk(full) {
			t.Errorf("%d bytes below the limit a hasher is not right", short)
		}
		for _, beyond := range []string{more + "a", more + mixedText(64), more + mixedText(impl.MaxText)} {
			wantHasher(t, "the limit would be passed", impl.HashMore(h, beyond), h)
		}
		wantHasher(t, "one byte behind the limit", impl.HashMore(full, "a"), full)
		wantHasher(t, "nothing behind the limit", impl.HashMore(full, ""), full)
	}
}

// From 2^29 bytes on the length in bits needs more than 32 of them.
func TestHashEndOfGreatCounts(t *testing.T) {
	rule := newDigestRule()
	for _, count := range []int{1<<29 - 10, 1<<29 - 1, 1 << 29, 1<<29 + 1, 1<<29 + 55, 1<<29 + 56, impl.MaxNumber - 9, impl.MaxNumber - 8, impl.MaxNumber - 1, impl.MaxNumber} {
		h := hasherAt(count)
		if got, want := impl.HashEnd(h), rule.end(wordsOf(h.State), h.Rest, count); got != want {
			t.Errorf("HashEnd of %d bytes = %x; want %x", count, got, want)
		}
	}
}

func TestRightHashers(t *testing.T) {
	for count := range 200 {
		for _, state := range []string{mixedText(32), strings.Repeat("\x00", 32), strings.Repeat("\xff", 32)} {
			h := impl.Hasher{State: state, Rest: mixedText(count % 64), Count: count}
			if !impl.HasherOk(h) || len(impl.HashEnd(h)) != 32 {
				t.Errorf("a hasher of %d bytes is not right", count)
			}
		}
	}
}

func TestHashersThatAreNotRight(t *testing.T) {
	for _, wrong := range wrongHashers() {
		h := wrong.hasher()
		if impl.HasherOk(h) {
			t.Errorf("%s: the hasher is right", wrong.why)
		}
		if got := impl.HashEnd(h); got != "" {
			t.Errorf("%s: HashEnd = %x; want nothing", wrong.why, got)
		}
		for _, more := range []string{"", "a", mixedText(63), mixedText(64), mixedText(200)} {
			wantHasher(t, wrong.why, impl.HashMore(h, more), h)
		}
	}
}

// Of all lengths of Rest just one goes with a Count.
func TestRestGoesWithCount(t *testing.T) {
	for count := range 130 {
		for size := range 200 {
			h := impl.Hasher{State: mixedText(32), Rest: mixedText(size), Count: count}
			if got, want := impl.HasherOk(h), size == count%64; got != want {
				t.Errorf("a rest of %d bytes with a count of %d is right: %v", size, count, got)
			}
		}
	}
}
