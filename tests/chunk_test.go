package tests

import (
	"fmt"
	"math"
	"slices"
	"strings"
	"testing"

	"loop.example/g00195/impl"
)

// Promise 13: a chunk that was written is found by its text.

// packedLeaf is a Full leaf with a page of a chunk that has these bytes for its
// Text.
func packedLeaf(seq, chunk int, packed string) impl.Leaf {
	return fullLeaf(pageBytes(dataPage(seq, chunk, packed)))
}

// chunkLeaf is a Full leaf with a page of a chunk that has this text, packed.
func chunkLeaf(seq, chunk int, text string) impl.Leaf {
	return packedLeaf(seq, chunk, packByRule(text))
}

// metaLeaf is a Full leaf with a page of a transaction. Its Text is one that a
// chunk could have.
func metaLeaf(seq, tx int) impl.Leaf {
	return fullLeaf(pageBytes(metaPage(seq, tx, 0, 1, packByRule("meta"))))
}

// storeWith has a volume with these chunks, at most 16, in its first sectors.
func storeWith(chunks ...int) impl.Store {
	numbers := append(slices.Clone(chunks), make([]int, 16-len(chunks))...)
	arena := arenaOf(leafKnot(numbers[:4]...), leafKnot(numbers[4:8]...), leafKnot(numbers[8:12]...),
		leafKnot(numbers[12:]...), rootKnot(0, 1, 2, 3))
	return storeOf(slices.Max(numbers)+1, arena, volOf(1, 4))
}

// newestByRule is chapter 13's rule of the PageData with the greatest Seq. Of one
// Seq it is the last one, as a scan has them.
func newestByRule(f impl.Flash, chunk int) (impl.Found, bool) {
	var newest impl.Found
	isThere := false
	for b, block := range f.Blocks {
		for i, leaf := range block.Leaves {
			page, ok := readPageByRule(leaf.Text)
			if !ok || leaf.Is != 1 || page.Kind != 1 || page.Tx != chunk {
				continue
			}
			if !isThere || page.Seq >= newest.Page.Seq {
				newest, isThere = impl.Found{Block: b, Leaf: i, Page: page}, true
			}
		}
	}
	return newest, isThere
}

func chunkTextByRule(f impl.Flash, chunk int) (string, bool) {
	newest, ok := newestByRule(f, chunk)
	if !ok {
		return "", false
	}
	return unpackByRule(newest.Page.Text)
}

func findByRule(f impl.Flash, live []int, text string) int {
	for _, chunk := range live {
		if got, ok := chunkTextByRule(f, chunk); ok && got == text {
			return chunk
		}
	}
	return 0
}

func neededByRule(f impl.Flash, s impl.Store, base, b int) int {
	if b < 0 || b >= len(f.Blocks) {
		return 0
	}
	live := chunksByRule(s)
	count := 0
	for i, leaf := range f.Blocks[b].Leaves {
		page, ok := readPageByRule(leaf.Text)
		if !ok || leaf.Is != 1 {
			continue
		}
		newest, _ := newestByRule(f, page.Tx)
		isSpot := page.Kind == 1 && newest.Block == b && newest.Leaf == i
		if isSpot && slices.Contains(live, page.Tx) || page.Kind == 2 && page.Tx >= base {
			count++
		}
	}
	return count
}

func wantChunkText(t *testing.T, why string, f impl.Flash, chunk int, want string, wantOk bool) {
	t.Helper()
	keepsFlash(t, why+": ChunkText", f, func(f impl.Flash) impl.Flash {
		got, ok := impl.ChunkText(f, chunk)
		if got != want || ok != wantOk {
			t.Errorf("%s: ChunkText of %d on %#v is %q, %v, not %q, %v", why, chunk, f, got, ok, want, wantOk)
		}
		return impl.Flash{Blocks: []impl.Block{{Leaves: []impl.Leaf{fullLeaf(got)}}}}
	})
}

func hasNoText(t *testing.T, why string, f impl.Flash, chunk int) {
	t.Helper()
	wantChunkText(t, why, f, chunk, "", false)
}

func wantFindSame(t *testing.T, why string, f impl.Flash, live []int, text string, want int) {
	t.Helper()
	given := append(slices.Clone(live), -77, 77)
	keepsFlash(t, why+": FindSame", f, func(f impl.Flash) impl.Flash {
		if got := impl.FindSame(f, given[:len(live)], text); got != want {
			t.Errorf("%s: FindSame of %q in %v on %#v is %d, not %d", why, text, live, f, got, want)
		}
		return impl.Flash{}
	})
	if !slices.Equal(given, append(slices.Clone(live), -77, 77)) {
		t.Errorf("%s: FindSame has written into the list: %v, was %v", why, given, live)
	}
}

func wantSpot(t *testing.T, why string, f impl.Flash, chunk, wantBlock, wantLeaf int, wantOk bool) {
	t.Helper()
	keepsFlash(t, why+": SpotOf", f, func(f impl.Flash) impl.Flash {
		if b, leaf, ok := impl.SpotOf(f, chunk); b != wantBlock || leaf != wantLeaf || ok != wantOk {
			t.Errorf("%s: SpotOf %d on %#v is %d, %d, %v, not %d, %d, %v", why, chunk, f, b, leaf, ok, wantBlock, wantLeaf, wantOk)
		}
		return impl.Flash{}
	})
}

func hasNoSpot(t *testing.T, why string, f impl.Flash, chunk int) {
	t.Helper()
	wantSpot(t, why, f, chunk, 0, 0, false)
}

func wantNeeded(t *testing.T, why string, f impl.Flash, s impl.Store, base, b, want int) {
	t.Helper()
	keepsFlash(t, why+": NeededOn", f, func(f impl.Flash) impl.Flash {
		keepsStore(t, why+": NeededOn", s, func(s impl.Store) impl.Store {
			if got := impl.NeededOn(f, s, base, b); got != want {
				t.Errorf("%s: NeededOn block %d of %#v\nwith %v, base %d, is %d, not %d", why, b, f, s, base, got, want)
			}
			return impl.Store{}
		})
		return impl.Flash{}
	})
}

// wantNeededAll asks for each block, and for none on blocks that are none.
func wantNeededAll(t *testing.T, why string, f impl.Flash, s impl.Store, base int, want ...int) {
	t.Helper()
	for _, b := range placesBeside(len(f.Blocks)) {
		needed := 0
		if b >= 0 && b < len(want) {
			needed = want[b]
		}
		wantNeeded(t, why, f, s, base, b, needed)
	}
}

// chunksOn are the numbers that pages of a flash have, of either Kind, and some
// that none has.
func chunksOn(f impl.Flash) []int {
	out := []int{math.MinInt, -1, 0, 1, 2, impl.MaxNumber, impl.MaxNumber + 1, math.MaxInt}
	for _, found := range scanByRule(f) {
		out = append(out, found.Page.Tx)
	}
	slices.Sort(out)
	return slices.Compact(out)
}

// wantChunksByRule holds all that is told of each chunk of a flash against the
// rule.
func wantChunksByRule(t *testing.T, why string, f impl.Flash) {
	t.Helper()
	chunks := chunksOn(f)
	texts := []string{"", "none", strings.Repeat("x", 65)}
	for _, chunk := range chunks {
		text, ok := chunkTextByRule(f, chunk)
		wantChunkText(t, why, f, chunk, text, ok)
		newest, isThere := newestByRule(f, chunk)
		wantSpot(t, why, f, chunk, newest.Block, newest.Leaf, isThere)
		texts = append(texts, text, text+"\x00")
	}
	down := slices.Clone(chunks)
	slices.Reverse(down)
	for _, text := range texts {
		for _, live := range [][]int{nil, chunks, down, chunks[len(chunks)/2:]} {
			wantFindSame(t, why, f, live, text, findByRule(f, live, text))
		}
	}
}

func wantNeededByRule(t *testing.T, why string, f impl.Flash, s impl.Store, base int) {
	t.Helper()
	for _, b := range placesBeside(len(f.Blocks)) {
		wantNeeded(t, why, f, s, base, b, neededByRule(f, s, base, b))
	}
}

// written packs a text, makes a page of it and programs it at the next place.
func written(t *testing.T, f impl.Flash, seq, chunk int, text string) impl.Flash {
	t.Helper()
	packed, ok := impl.PackText(text)
	if !ok {
		t.Fatalf("PackText of %q is refused", text)
	}
	page, ok := impl.PageText(dataPage(seq, chunk, packed))
	if !ok {
		t.Fatalf("PageText of Seq %d, chunk %d is refused", seq, chunk)
	}
	b, leaf, ok := impl.PlaceOf(f)
	if !ok {
		t.Fatal("there is no room")
	}
	f, ok = impl.Program(f, b, leaf, page)
	if !ok {
		t.Fatalf("Program at %d, %d is refused", b, leaf)
	}
	return f
}

func TestAChunkThatWasWrittenIsFoundByItsText(t *testing.T) {
	for i, text := range drawnTexts() {
		f, _ := impl.FlashNew(3)
		chunk := 1 + i*i
		f = written(t, f, i+1, chunk, text)
		if got, ok := impl.ChunkText(f, chunk); !ok || got != text {
			t.Errorf("ChunkText of %q is %q, %v", text, got, ok)
		}
		if got := impl.FindSame(f, []int{chunk + 1, chunk, chunk + 2}, text); got != chunk {
			t.Errorf("FindSame of %q is %d, not %d", text, got, chunk)
		}
		if got := impl.FindSame(f, []int{chunk}, text+"\x00"); got != 0 {
			t.Errorf("FindSame of %q and one byte more is %d", text, got)
		}
	}
}

// As many chunks as leaves, each with a text of its own: each is found among all.
func TestManyChunksAreFoundByTheirTexts(t *testing.T) {
	f, _ := impl.FlashNew(impl.MaxBlocks)
	var live []int
	var texts []string
	for i := range impl.MaxBlocks * impl.PagesPer {
		live = append(live, 1000-7*i)
		texts = append(texts, mixedText(200)[i:i+1+i])
		f = written(t, f, i+1, live[i], texts[i])
	}
	for i, text := range texts {
		wantFindSame(t, "many", f, live, text, live[i])
		wantFindSame(t, "many, but this one", f, slices.Concat(live[:i], live[i+1:]), text, 0)
		wantChunkText(t, "many", f, live[i], text, true)
		wantSpot(t, "many", f, live[i], i/4, i%4, true)
	}
}

func TestChunkTextOfOnePage(t *testing.T) {
	for _, chunk := range []int{1, 2, 127, 128, 300, impl.MaxNumber} {
		for _, seq := range []int{1, 128, impl.MaxNumber} {
			for b := range 3 {
				for leaf := range impl.PagesPer {
					ahead := slices.Repeat([]impl.Leaf{fullLeaf("x")}, leaf)
					f := withBlock(flashOf(), b, blockOf(0, append(ahead, chunkLeaf(seq, chunk, "abab"))...))
					wantChunkText(t, "one page", f, chunk, "abab", true)
					wantSpot(t, "one page", f, chunk, b, leaf, true)
					for _, other := range []int{-chunk, 0, chunk - 1, chunk + 1, chunk + 256, chunk + 1<<32, math.MaxInt, math.MinInt} {
						hasNoText(t, "another chunk", f, other)
						hasNoSpot(t, "another chunk", f, other)
					}
				}
			}
		}
	}
}

func TestTextsOfTheLimits(t *testing.T) {
	for _, text := range []string{"", "\x00", "r", "z", unlike(64), strings.Repeat("a", 64), strings.Repeat("\xff", 63)} {
		f := flashOf(blockOf(0, chunkLeaf(1, 7, text)))
		wantChunkText(t, "limit", f, 7, text, true)
		wantFindSame(t, "limit", f, []int{7}, text, 7)
	}
}

// textOfSeq is the text of a chunk's page with this Seq.
func textOfSeq(seq int) string { return fmt.Sprintf("text of %d", seq) }

// Bytes of a Seq don't ascend as the number does, nor do its figures: the newest
// is first, in the middle and last.
func TestChunkTextIsTheNewestOfOneBlock(t *testing.T) {
	for _, seqs := range [][]int{{1, 2, 3}, {9, 10, 128}, {255, 256, 300}, {127, 16384, impl.MaxNumber}} {
		for _, order := range ordersOf(seqs) {
			var leaves []impl.Leaf
			for _, seq := range order {
				leaves = append(leaves, chunkLeaf(seq, 5, textOfSeq(seq)))
			}
			for b := range 3 {
				f := withBlock(flashOf(), b, blockOf(0, leaves...))
				wantChunkText(t, "one block", f, 5, textOfSeq(seqs[2]), true)
				wantSpot(t, "one block", f, 5, b, slices.Index(order, seqs[2]), true)
				wantFindSame(t, "one block", f, []int{5}, textOfSeq(seqs[2]), 5)
				wantFindSame(t, "one block, before", f, []int{5}, textOfSeq(seqs[0]), 0)
				wantFindSame(t, "one block, before", f, []int{5}, textOfSeq(seqs[1]), 0)
			}
		}
	}
}

func TestChunkTextIsTheNewestOfSeveralBlocks(t *testing.T) {
	for _, seqs := range [][]int{{1, 2, 3, 4, 5}, {2, 9, 10, 128, 300}, {255, 256, 16383, 16384, impl.MaxNumber}} {
		for _, order := range ordersOf(seqs) {
			blocks := make([][]impl.Leaf, 3)
			for i, seq := range order {
				blocks[i%3] = append(blocks[i%3], chunkLeaf(seq, 5, textOfSeq(seq)))
			}
			f := flashOf(blockOf(0, blocks[0]...), blockOf(0, blocks[1]...), blockOf(0, blocks[2]...))
			at := slices.Index(order, seqs[4])
			wantChunkText(t, "several blocks", f, 5, textOfSeq(seqs[4]), true)
			wantSpot(t, "several blocks", f, 5, at%3, at/3, true)
			wantFindSame(t, "several blocks", f, []int{5}, textOfSeq(seqs[4]), 5)
			wantFindSame(t, "several blocks, before", f, []int{5}, textOfSeq(seqs[3]), 0)
		}
	}
}

// Several chunks stand there several times, among pages of others.
func TestEachChunkHasItsOwnNewest(t *testing.T) {
	f := flashOf(
		blockOf(0, chunkLeaf(40, 1, "one new"), chunkLeaf(3, 2, "two old"), metaLeaf(90, 1), chunkLeaf(7, 3, "three")),
		blockOf(5, chunkLeaf(1, 1, "one old"), chunkLeaf(50, 2, "two new"), chunkLeaf(2, 4, "four old")),
		blockOf(2, chunkLeaf(20, 1, "one"), metaLeaf(91, 2), chunkLeaf(60, 4, "four new"), chunkLeaf(30, 2, "two")))
	for _, c := range []struct {
		chunk int
		text  string
		block int
		leaf  int
	}{
		{1, "one new", 0, 0}, {2, "two new", 1, 1}, {3, "three", 0, 3}, {4, "four new", 2, 2},
	} {
		wantChunkText(t, "several", f, c.chunk, c.text, true)
		wantSpot(t, "several", f, c.chunk, c.block, c.leaf, true)
		wantFindSame(t, "several", f, []int{1, 2, 3, 4}, c.text, c.chunk)
	}
	for _, text := range []string{"one old", "one", "two old", "two", "four old", "meta"} {
		wantFindSame(t, "no longer", f, []int{1, 2, 3, 4}, text, 0)
	}
	wantChunksByRule(t, "several", f)
}

// noPacked are bytes of which none is PackText of a text.
func noPacked() []string {
	return []string{
		"", "x", "a text", "z\x01a", "z\x04abcd", "raaaaaaaaaaaa", "z\x84\x01", "z\x01", "z\x00",
		"Z", "R", "r" + unlike(65), "r" + unlike(89), "z\x02ab\x8a\x03", "z\x02ab\x8a\x00",
	}
}

func TestBytesThatCantBeUnpackedAreNone(t *testing.T) {
	for _, packed := range noPacked() {
		if text, ok := unpackByRule(packed); ok {
			t.Errorf("by rule %q is %q", packed, text)
		}
		alone := flashOf(blockOf(0, packedLeaf(4, 5, packed)))
		hasNoText(t, "alone", alone, 5)
		wantSpot(t, "alone", alone, 5, 0, 0, true)
		wantNeededAll(t, "alone", alone, storeWith(5), 1, 1)
		for _, text := range []string{"", packed, "a", "x", unlike(64)} {
			wantFindSame(t, "alone", alone, []int{5}, text, 0)
		}
	}
}

// What an elder page has counts no more, though the newest can't be unpacked.
func TestNoElderPageStandsInForTheNewest(t *testing.T) {
	for _, packed := range noPacked() {
		for _, order := range ordersOf([]int{1, 2, 3}) {
			var apart [][]impl.Leaf
			for _, seq := range order {
				leaf := chunkLeaf(seq, 5, "good")
				if seq == 3 {
					leaf = packedLeaf(seq, 5, packed)
				}
				apart = append(apart, []impl.Leaf{leaf})
			}
			several := flashOf(blockOf(0, apart[0]...), blockOf(0, apart[1]...), blockOf(0, apart[2]...))
			one := flashOf(blockOf(0), blockOf(0, slices.Concat(apart...)...))
			at := slices.Index(order, 3)
			for _, f := range []impl.Flash{several, one} {
				hasNoText(t, "the newest is none", f, 5)
				wantFindSame(t, "the newest is none", f, []int{5}, "good", 0)
				wantFindSame(t, "the newest is none", f, []int{5}, "", 0)
			}
			wantSpot(t, "the newest is none", several, 5, at, 0, true)
			wantSpot(t, "the newest is none", one, 5, 1, at, true)
		}
		elder := flashOf(blockOf(0, packedLeaf(4, 5, packed), chunkLeaf(6, 5, "good"), packedLeaf(5, 5, packed)))
		wantChunkText(t, "an elder one is none", elder, 5, "good", true)
		wantFindSame(t, "an elder one is none", elder, []int{5}, "good", 5)
	}
}

func TestChunksWithoutAPage(t *testing.T) {
	page := pageBytes(dataPage(9, 5, packByRule("five")))
	blank := impl.Leaf{Is: impl.Blank, Text: page}
	for _, c := range []struct {
		name  string
		flash impl.Flash
	}{
		{"no blocks", impl.Flash{}},
		{"blank", flashOf()},
		{"no page", flashOf(fullBlock(0, 4), fullBlock(0, 2))},
		{"other chunks", flashOf(blockOf(0, chunkLeaf(5, 4, "five"), chunkLeaf(5, 6, "five"), chunkLeaf(5, 5*256, "five")))},
		{"a PageMeta names it", flashOf(blockOf(0, metaLeaf(9, 5)))},
		{"several PageMeta name it", flashOf(blockOf(0, metaLeaf(9, 5), metaLeaf(10, 5)), blockOf(0, metaLeaf(11, 5)))},
		{"a PageMeta of several parts", flashOf(blockOf(0, fullLeaf(pageBytes(metaPage(5, 5, 4, 5, packByRule("five"))))))},
		{"Torn", flashOf(blockOf(0, tornLeaf(page)))},
		{"Torn half way", flashOf(blockOf(0, tornLeaf(page[:len(page)/2])))},
		{"Torn and empty", flashOf(tornBlock(0))},
		{"blank and not empty", flashOf(blockOf(0, blank))},
		{"no such state", flashOf(blockOf(0, impl.Leaf{Is: 3, Text: page}, impl.Leaf{Is: -1, Text: page}))},
		{"a byte turned", flashOf(blockOf(0, fullLeaf(turned(page, len(page)-6, 1))))},
		{"cut short", flashOf(blockOf(0, fullLeaf(page[:len(page)-1])))},
		{"made longer", flashOf(blockOf(0, fullLeaf(page+"\x00")))},
		{"a page that is not right", flashOf(blockOf(0, fullLeaf(pageBytes(impl.Page{Kind: 1, Seq: 9, Tx: 5, Count: 2, Text: "rfive"}))))},
		{"a Kind that is none", flashOf(blockOf(0, fullLeaf(pageBytes(impl.Page{Kind: 3, Seq: 9, Tx: 5, Count: 1, Text: "rfive"}))))},
	} {
		hasNoText(t, c.name, c.flash, 5)
		hasNoSpot(t, c.name, c.flash, 5)
		for _, text := range []string{"", "five", "meta", page} {
			wantFindSame(t, c.name, c.flash, []int{5}, text, 0)
		}
		wantNeededAll(t, c.name, c.flash, storeWith(5), impl.MaxNumber)
		wantChunksByRule(t, c.name, c.flash)
	}
}

// What is torn is not there: what came ahead of it still counts.
func TestTheNewestLeafThatIsTornDoesNotCount(t *testing.T) {
	newest := pageBytes(dataPage(9, 5, packByRule("torn")))
	old, older := chunkLeaf(8, 5, "old"), chunkLeaf(7, 5, "older")
	for _, gone := range []impl.Leaf{
		tornLeaf(newest), tornLeaf(newest[:len(newest)/2]), tornLeaf(""), fullLeaf(turned(newest, 0, 2)), fullLeaf(turned(newest, 3, 128)),
	} {
		for at, leaves := range [][]impl.Leaf{{old, older, gone}, {gone, old, older}, {older, gone, old}} {
			f := flashOf(blockOf(0), blockOf(0, leaves...))
			wantChunkText(t, "torn", f, 5, "old", true)
			wantSpot(t, "torn", f, 5, 1, at, true)
			wantFindSame(t, "torn", f, []int{5}, "torn", 0)
			wantFindSame(t, "torn", f, []int{5}, "old", 5)
			wantNeededAll(t, "torn", f, storeWith(5), 1, 0, 1)
		}
	}
}

// A PageMeta is no chunk's page, however new it is.
func TestPageMetaOfTheSameNumberDoesNotCount(t *testing.T) {
	meta, data := metaLeaf(9, 5), chunkLeaf(3, 5, "five")
	for i, leaves := range [][]impl.Leaf{{data, meta}, {meta, data}} {
		f := flashOf(blockOf(0), blockOf(0), blockOf(0, leaves...))
		wantChunkText(t, "meta", f, 5, "five", true)
		wantSpot(t, "meta", f, 5, 2, i, true)
		wantFindSame(t, "meta", f, []int{5}, "meta", 0)
		wantFindSame(t, "meta", f, []int{5}, "five", 5)
		wantNeededAll(t, "meta, both", f, storeWith(5), 5, 0, 0, 2)
		wantNeededAll(t, "meta, the chunk alone", f, storeWith(5), 6, 0, 0, 1)
		wantNeededAll(t, "meta, the transaction alone", f, storeWith(6), 5, 0, 0, 1)
		wantNeededAll(t, "meta, none", f, storeWith(6), 6)
	}
}

func TestTheEmptyText(t *testing.T) {
	f := flashOf(blockOf(0, chunkLeaf(1, 1, "x"), packedLeaf(2, 2, ""), chunkLeaf(3, 3, ""), chunkLeaf(4, 4, "")),
		blockOf(0, metaLeaf(5, 6), chunkLeaf(6, 7, "y"), chunkLeaf(7, 7, "")))
	wantChunkText(t, "empty", f, 3, "", true)
	hasNoText(t, "no packed text", f, 2)
	hasNoText(t, "no chunk", f, 5)
	hasNoText(t, "no chunk", f, 6)
	wantChunkText(t, "empty now", f, 7, "", true)
	for _, c := range []struct {
		live []int
		want int
	}{
		{nil, 0}, {[]int{1}, 0}, {[]int{2}, 0}, {[]int{5, 6, 0, -1}, 0}, {[]int{1, 2, 5, 6}, 0},
		{[]int{3}, 3}, {[]int{1, 2, 5, 6, 3, 4}, 3}, {[]int{4, 3}, 4}, {[]int{2, 7, 4}, 7},
	} {
		wantFindSame(t, "empty", f, c.live, "", c.want)
	}
}

func TestFindSameTakesTheFirstAsListed(t *testing.T) {
	f := flashOf(
		blockOf(0, chunkLeaf(11, 1, "same"), chunkLeaf(12, 2, "other"), chunkLeaf(13, 3, "same"), chunkLeaf(14, 4, "before")),
		blockOf(0, chunkLeaf(15, 4, "same"), chunkLeaf(16, 5, "same"), chunkLeaf(17, 5, "now"), metaLeaf(18, 6)))
	for _, c := range []struct {
		name string
		live []int
		want int
	}{
		{"no chunks", nil, 0},
		{"an empty list", []int{}, 0},
		{"one", []int{1}, 1},
		{"one that has another text", []int{2}, 0},
		{"several", []int{1, 3, 4}, 1},
		{"several, down", []int{4, 3, 1}, 4},
		{"several, in no order", []int{3, 4, 1}, 3},
		{"behind one that has another", []int{2, 3, 1}, 3},
		{"behind one that had it before", []int{5, 4, 1}, 4},
		{"one that had it before", []int{5}, 0},
		{"one that has it now", []int{4}, 4},
		{"chunks that are none", []int{7, 0, -1, math.MinInt, math.MaxInt, impl.MaxNumber}, 0},
		{"behind chunks that are none", []int{7, 0, -1, math.MinInt, math.MaxInt, 3}, 3},
		{"the number of a PageMeta", []int{6}, 0},
		{"one that comes again", []int{3, 1, 3, 1}, 3},
		{"others that come again", []int{2, 2, 5, 5, 1, 3}, 1},
	} {
		wantFindSame(t, c.name, f, c.live, "same", c.want)
	}
	wantFindSame(t, "had another before", f, []int{4}, "before", 0)
	wantFindSame(t, "has another now", f, []int{4, 5}, "now", 5)
	for _, order := range ordersOf([]int{1, 2, 3, 4, 5}) {
		for size := range 6 {
			wantFindSame(t, "orders", f, order[:size], "same", findByRule(f, order[:size], "same"))
		}
	}
}

func TestFindSameOfTextsThatAreNotThere(t *testing.T) {
	text := mixedText(64)
	f := flashOf(blockOf(0, chunkLeaf(1, 1, text), chunkLeaf(2, 2, text[:63]), chunkLeaf(3, 3, "ab"), chunkLeaf(4, 4, "ababab")))
	live := []int{1, 2, 3, 4}
	wantFindSame(t, "there", f, live, text, 1)
	wantFindSame(t, "there", f, live, text[:63], 2)
	for at := range text {
		for mask := 1; mask < 256; mask *= 2 {
			wantFindSame(t, "a byte turned", f, live, turned(text, at, byte(mask)), 0)
		}
		if at != 63 {
			wantFindSame(t, "shorter", f, live, text[:at], 0)
		}
		wantFindSame(t, "cut ahead", f, live, text[at+1:], 0)
	}
	for b := range 256 {
		more := string([]byte{byte(b)})
		wantFindSame(t, "longer", f, live, text+more, 0)
		wantFindSame(t, "longer ahead", f, live, more+text, 0)
	}
	for _, other := range []string{
		"a", "b", "ba", "AB", "aB", "abab", "ab\x00", "\x00ab", "ababa", "abababab", packByRule("ab"), packByRule("ababab"),
		impl.DigestOf("ab"), impl.DigestOf(text), strings.Repeat(text, 3), mixedText(impl.MaxText + 1),
	} {
		wantFindSame(t, "another", f, live, other, 0)
	}
}

// Pages of one chunk with one Seq stand on several leaves: they have one spot, the
// last as a scan has them, whose text is told, and it is needed once.
func TestPagesOfOneSeqHaveOneSpot(t *testing.T) {
	for _, orders := range ordersOf([]int{0, 1, 2, 3, 4}) {
		texts := []string{"a", "b", "c", "d", "e"}
		leaf := func(i int) impl.Leaf { return chunkLeaf(7, 5, texts[orders[i]]) }
		f := flashOf(blockOf(0, leaf(0), chunkLeaf(6, 5, "old")), blockOf(0), blockOf(0, leaf(1), leaf(2), leaf(3)), blockOf(0, leaf(4)))
		wantSpot(t, "one Seq", f, 5, 3, 0, true)
		wantChunkText(t, "one Seq", f, 5, texts[orders[4]], true)
		for i, text := range texts {
			want := 0
			if i == orders[4] {
				want = 5
			}
			wantFindSame(t, "one Seq", f, []int{5}, text, want)
		}
		wantNeededAll(t, "one Seq", f, storeWith(5), 1, 0, 0, 0, 1)
	}
}

// The same page stands on each leaf: only one of them is needed.
func TestTheSamePageOnEachLeafIsNeededOnce(t *testing.T) {
	block := blockOf(0, slices.Repeat([]impl.Leaf{chunkLeaf(7, 5, "same")}, 4)...)
	f := flashOf(slices.Repeat([]impl.Block{block}, impl.MaxBlocks)...)
	wantSpot(t, "all the same", f, 5, 9, 3, true)
	wantChunkText(t, "all the same", f, 5, "same", true)
	wantNeededAll(t, "all the same", f, storeWith(5, 5, 5), 1, 0, 0, 0, 0, 0, 0, 0, 0, 0, 1)
	wantNeededAll(t, "all the same, none lives", f, storeWith(4), 1)
}

// neededFlash has on each block something of each kind.
func neededFlash() impl.Flash {
	return flashOf(
		blockOf(0, chunkLeaf(1, 1, "old"), chunkLeaf(2, 2, "dead"), metaLeaf(3, 10), chunkLeaf(4, 3, "three")),
		blockOf(0, chunkLeaf(5, 1, "new"), metaLeaf(6, 11), tornLeaf(pageBytes(metaPage(7, 99, 0, 1, ""))), metaLeaf(8, 12)),
		blockOf(0, chunkLeaf(9, 20, "twenty"), fullLeaf("no page"), chunkLeaf(10, 3, "three new")),
		blockOf(0, tornLeaf(""), tornLeaf(pageBytes(dataPage(90, 1, "rtorn"))), metaLeaf(11, 12), metaLeaf(12, 1)),
		blockOf(0))
}

func TestNeededOnEachBlock(t *testing.T) {
	f := neededFlash()
	nothing := impl.StoreNew()
	for _, c := range []struct {
		name  string
		store impl.Store
		base  int
		want  []int
	}{
		{"no chunk lives, all transactions", nothing, 1, []int{1, 2, 0, 2}},
		{"base 0", nothing, 0, []int{1, 2, 0, 2}},
		{"base below 0", nothing, -5, []int{1, 2, 0, 2}},
		{"the least base", nothing, math.MinInt, []int{1, 2, 0, 2}},
		{"base above the first", nothing, 2, []int{1, 2, 0, 1}},
		{"at base", nothing, 10, []int{1, 2, 0, 1}},
		{"below and above base", nothing, 11, []int{0, 2, 0, 1}},
		{"the last at base", nothing, 12, []int{0, 1, 0, 1}},
		{"all below base", nothing, 13, nil},
		{"base at MaxNumber", nothing, impl.MaxNumber, nil},
		{"the greatest base", nothing, math.MaxInt, nil},
		{"an elder page is not needed", storeWith(1), 13, []int{0, 1}},
		{"a chunk that is there once", storeWith(2), 13, []int{1}},
		{"a chunk whose number is not below base", storeWith(20), 13, []int{0, 0, 1}},
		{"chunks on one block", storeWith(3, 20), 13, []int{0, 0, 2}},
		{"all chunks", storeWith(1, 2, 3, 20), 13, []int{1, 1, 2}},
		{"all chunks and transactions", storeWith(1, 2, 3, 20), 1, []int{2, 3, 2, 2}},
		{"all chunks, some transactions", storeWith(20, 3, 2, 1), 11, []int{1, 3, 2, 1}},
		{"a chunk that many sectors have", storeWith(1, 0, 1, 1, 0, 1), 13, []int{0, 1}},
		{"chunks that are none", storeWith(4, 10, 11, 12, 99), 13, nil},
		{"chunks that are none among others", storeWith(4, 1, 10, 12), 12, []int{0, 2, 0, 1}},
	} {
		wantNeededAll(t, c.name, f, c.store, c.base, c.want...)
		wantNeededByRule(t, c.name, f, c.store, c.base)
	}
}

func TestNeededOnGoesByTxAndNotBySeq(t *testing.T) {
	f := flashOf(blockOf(0, metaLeaf(1, 300), metaLeaf(300, 1), metaLeaf(50, 50)), blockOf(0, metaLeaf(impl.MaxNumber, 2), metaLeaf(2, impl.MaxNumber)))
	wantNeededAll(t, "base 1", f, impl.StoreNew(), 1, 3, 2)
	wantNeededAll(t, "base 2", f, impl.StoreNew(), 2, 2, 2)
	wantNeededAll(t, "base 50", f, impl.StoreNew(), 50, 2, 1)
	wantNeededAll(t, "base 51", f, impl.StoreNew(), 51, 1, 1)
	wantNeededAll(t, "base 301", f, impl.StoreNew(), 301, 0, 1)
	wantNeededAll(t, "base MaxNumber", f, impl.StoreNew(), impl.MaxNumber, 0, 1)
	wantNeededAll(t, "base above MaxNumber", f, impl.StoreNew(), impl.MaxNumber+1)
}

// Transactions are asked for leaf by leaf: parts that are alone, that come again
// or that no records stand in are needed as well.
func TestNeededOnTakesEachPageMeta(t *testing.T) {
	part := func(seq, part, count int) impl.Leaf {
		return fullLeaf(pageBytes(metaPage(seq, 5, part, count, "no records")))
	}
	f := flashOf(blockOf(0, part(1, 0, 2), part(1, 0, 2), part(2, 8, 9)), blockOf(0, part(3, 1, 2)), blockOf(0, part(3, 1, 2), part(4, 0, 1)))
	wantNeededAll(t, "at base", f, storeWith(5), 5, 3, 1, 2)
	wantNeededAll(t, "below base", f, storeWith(5), 6)
}

func TestNeededOnBadBlocks(t *testing.T) {
	f := neededFlash()
	store := storeWith(1, 2, 3, 20)
	for b := range f.Blocks {
		bad := impl.MarkBad(f, b)
		wantNeededAll(t, "Bad", bad, store, 1, 2, 3, 2, 2)
		wantChunkText(t, "Bad", bad, 1, "new", true)
		wantChunkText(t, "Bad", bad, 3, "three new", true)
		wantFindSame(t, "Bad", bad, []int{1, 2, 3, 20}, "twenty", 20)
		wantChunksByRule(t, "Bad", bad)
	}
}

func TestNeededOnOfVolumesThatShare(t *testing.T) {
	f := flashOf(blockOf(0, chunkLeaf(1, 11, "a"), chunkLeaf(2, 12, "b"), chunkLeaf(3, 13, "c"), chunkLeaf(4, 14, "d")),
		blockOf(0, chunkLeaf(5, 21, "e"), chunkLeaf(6, 22, "f"), chunkLeaf(7, 11, "a")))
	wantNeededAll(t, "woven", f, wovenStore(), 1, 3, 2)
	dropped, _ := impl.Enter(wovenStore(), dropRec(5))
	wantNeededAll(t, "one is dropped", f, dropped, 1, 3, 2)
	dropped, _ = impl.Enter(dropped, dropRec(2))
	wantNeededAll(t, "another is dropped", f, dropped, 1, 0, 2)
	trimmed, _ := impl.Enter(dropped, trimRec(8, 12))
	wantNeededAll(t, "a sector is trimmed", f, trimmed, 1, 0, 1)
}

// sumNeeded is over all blocks.
func sumNeeded(f impl.Flash, s impl.Store, base int) int {
	sum := 0
	for b := range f.Blocks {
		sum += impl.NeededOn(f, s, base, b)
	}
	return sum
}

// wantSumNeeded: one leaf for each chunk that lives and has a page, and one for
// each PageMeta that is not below base.
func wantSumNeeded(t *testing.T, why string, f impl.Flash, s impl.Store, base int) {
	t.Helper()
	want := 0
	for _, chunk := range impl.LiveOf(s) {
		if _, _, ok := impl.SpotOf(f, chunk); ok {
			want++
		}
	}
	for _, found := range impl.ScanAll(f) {
		if found.Page.Kind == impl.PageMeta && found.Page.Tx >= base {
			want++
		}
	}
	if got := sumNeeded(f, s, base); got != want {
		t.Errorf("%s: on all blocks of %#v\n%d leaves are needed, not %d", why, f, got, want)
	}
}

func TestNeededOnAllBlocksTogether(t *testing.T) {
	for _, s := range []impl.Store{impl.StoreNew(), storeWith(1), storeWith(2, 20), storeWith(1, 2, 3, 20), storeWith(4, 99)} {
		for base := -1; base <= 14; base++ {
			wantSumNeeded(t, "known", neededFlash(), s, base)
		}
	}
	if got := sumNeeded(neededFlash(), storeWith(1, 2, 3, 20), 1); got != 9 {
		t.Errorf("9 leaves are needed, not %d", got)
	}
}

// withChunks is a flash like f that has pages of few chunks and transactions for
// its texts, whatever its leaves are.
func withChunks(f impl.Flash, draws string) impl.Flash {
	out := twinFlash(f)
	for _, block := range out.Blocks {
		for i := range block.Leaves {
			if leaf := &block.Leaves[i]; leaf.Text != "" {
				leaf.Text = drawnPageLeaf(draws).Text
				draws = draws[4:]
			}
		}
	}
	return out
}

// drawnPageLeaf draws a page of few Seqs, chunks and texts, so that many are alike.
func drawnPageLeaf(draws string) impl.Leaf {
	seq, number := 1+int(draws[0])%12, 1+int(draws[1])%5
	texts := []string{"", "a", "b", "ab", "abab"}
	switch kind := int(draws[2]); {
	case kind < 70:
		return metaLeaf(seq, number)
	case kind < 90:
		return packedLeaf(seq, number, "no packed text")
	}
	return chunkLeaf(seq, number, texts[int(draws[3])%len(texts)])
}

// Nothing is asked of the flash but its pages: a page on a Full leaf counts.
func TestChunksOfRightAndWrongFlashes(t *testing.T) {
	draws := mixedText(2000)
	for i, c := range slices.Concat(rightFlashes(), wrongFlashes()) {
		wantChunksByRule(t, c.name, c.flash)
		f := withChunks(c.flash, draws[i:])
		wantChunksByRule(t, c.name+", with chunks", f)
		wantNeededByRule(t, c.name+", with chunks", f, storeWith(1, 3, 4), 3)
		wantSumNeeded(t, c.name+", with chunks", f, storeWith(1, 3, 4), 3)
	}
}

func TestChunksBeyondTheLimitsOfAFlash(t *testing.T) {
	var leaves []impl.Leaf
	for seq := 9; seq >= 1; seq-- {
		leaves = append(leaves, chunkLeaf(seq, seq%3+1, textOfSeq(seq)))
	}
	f := impl.Flash{Blocks: []impl.Block{{Bad: true, Wear: -1, Leaves: leaves}}}
	wantSpot(t, "nine leaves", f, 1, 0, 0, true)
	wantSpot(t, "nine leaves", f, 3, 0, 1, true)
	wantSpot(t, "nine leaves", f, 2, 0, 2, true)
	wantChunkText(t, "nine leaves", f, 2, textOfSeq(7), true)
	wantNeededAll(t, "nine leaves", f, storeWith(1, 2), 1, 2)
	many := impl.Flash{Blocks: slices.Repeat([]impl.Block{blockOf(0)}, 30)}
	many.Blocks[29] = blockOf(0, leaves...)
	wantSpot(t, "thirty blocks", many, 3, 29, 1, true)
	wantNeeded(t, "thirty blocks", many, storeWith(1, 2, 3), 1, 29, 3)
}

// Nothing is asked of the store but what LiveOf tells.
func TestNeededOnOfRightAndWrongStores(t *testing.T) {
	var blocks []impl.Block
	for b, chunks := range [][]int{{7, 8, 11, 12}, {13, 14, 21, 101}, {102, 116, 117, 300}, {1, 2, 7, 11}, {impl.MaxNumber - 1, impl.MaxNumber}} {
		var leaves []impl.Leaf
		for i, chunk := range chunks {
			leaves = append(leaves, chunkLeaf(10*b+i+1, chunk, "x"))
		}
		blocks = append(blocks, blockOf(0, leaves...))
	}
	f := flashOf(append(blocks, blockOf(0, metaLeaf(99, 7)))...)
	for _, c := range slices.Concat(rightStores(), wrongStores()) {
		wantNeededByRule(t, c.name, f, c.store, 7)
		wantSumNeeded(t, c.name, f, c.store, 8)
	}
}

// All ways to lay nine kinds of leaves on four places of two blocks.
func TestAllSmallFlashesByRule(t *testing.T) {
	kinds := []impl.Leaf{
		blankLeaf(), tornLeaf(pageBytes(dataPage(9, 1, packByRule("b")))), metaLeaf(3, 1), metaLeaf(4, 2),
		chunkLeaf(1, 1, "a"), chunkLeaf(2, 1, "b"), packedLeaf(3, 1, "none"), chunkLeaf(2, 2, "a"), chunkLeaf(1, 2, ""),
	}
	stores := []impl.Store{storeWith(1), storeWith(2), storeWith(2, 1)}
	for at := range 9 * 9 * 9 * 9 {
		pick := func(unit int) impl.Leaf { return kinds[at/unit%9] }
		f := flashOf(blockOf(0, pick(1), pick(9)), blockOf(0, pick(81), pick(729)))
		for chunk := range 4 {
			text, ok := impl.ChunkText(f, chunk)
			if want, wantOk := chunkTextByRule(f, chunk); text != want || ok != wantOk {
				t.Fatalf("ChunkText of %d on %#v is %q, %v, not %q, %v", chunk, f, text, ok, want, wantOk)
			}
			b, leaf, ok := impl.SpotOf(f, chunk)
			if want, wantOk := newestByRule(f, chunk); b != want.Block || leaf != want.Leaf || ok != wantOk {
				t.Fatalf("SpotOf %d on %#v is %d, %d, %v, not %v, %v", chunk, f, b, leaf, ok, want, wantOk)
			}
		}
		for _, text := range []string{"", "a", "b"} {
			for _, live := range [][]int{{1, 2}, {2, 1}} {
				if got, want := impl.FindSame(f, live, text), findByRule(f, live, text); got != want {
					t.Fatalf("FindSame of %q in %v on %#v is %d, not %d", text, live, f, got, want)
				}
			}
		}
		for b := range 3 {
			s, base := stores[at%3], 1+at%3
			if got, want := impl.NeededOn(f, s, base, b), neededByRule(f, s, base, b); got != want {
				t.Fatalf("NeededOn block %d of %#v with %v, base %d is %d, not %d", b, f, s, base, got, want)
			}
		}
	}
}

func TestDrawnFlashesByRule(t *testing.T) {
	draws := mixedText(400)
	for at := range 100 {
		full := flashOf(fullBlock(0, 4), fullBlock(0, 4), fullBlock(0, at%5), fullBlock(0, 3))
		f := withChunks(full, draws[at:])
		wantChunksByRule(t, "drawn", f)
		for base := range 7 {
			wantNeededByRule(t, "drawn", f, storeWith(5, 1, 4), base)
			wantSumNeeded(t, "drawn", f, storeWith(5, 1, 4), base)
		}
	}
}

// A keptText is what was written last of a chunk, and where.
type keptText struct {
	text  string
	block int
	leaf  int
}

func wantKept(t *testing.T, f impl.Flash, kept map[int]keptText) {
	t.Helper()
	var live []int
	for chunk := range 8 {
		want, isThere := kept[chunk]
		if text, ok := impl.ChunkText(f, chunk); text != want.text || ok != isThere {
			t.Fatalf("ChunkText of %d is %q, %v, not %q, %v", chunk, text, ok, want.text, isThere)
		}
		if b, leaf, ok := impl.SpotOf(f, chunk); b != want.block || leaf != want.leaf || ok != isThere {
			t.Fatalf("SpotOf %d is %d, %d, %v, not %v, %v", chunk, b, leaf, ok, want, isThere)
		}
		live = append(live, chunk)
	}
	for _, want := range kept {
		got := impl.FindSame(f, live, want.text)
		if kept[got].text != want.text || got == 0 {
			t.Fatalf("FindSame of %q is %d, which has %q", want.text, got, kept[got].text)
		}
		for chunk := range got {
			if other, isThere := kept[chunk]; isThere && other.text == want.text {
				t.Fatalf("FindSame of %q is %d, though %d has it", want.text, got, chunk)
			}
		}
	}
	for b := range f.Blocks {
		want := 0
		for _, one := range kept {
			if one.block == b {
				want++
			}
		}
		if got := impl.NeededOn(f, storeWith(live...), impl.MaxNumber, b); got != want {
			t.Fatalf("NeededOn block %d is %d, not %d", b, got, want)
		}
	}
}

// A drawn life: chunks are written, written anew and torn, and blocks that have
// nothing needed on them are wiped; what was written last is found all the time.
func TestADrawnLifeOfChunks(t *testing.T) {
	// Six chunks can't keep all blocks from being wiped.
	f, _ := impl.FlashNew(impl.MaxBlocks)
	kept := map[int]keptText{}
	wiped, torn := 0, 0
	seq := 0
	for draws := mixedText(3000); len(draws) >= 4; draws = draws[4:] {
		for b := range f.Blocks {
			if impl.NextBlank(f.Blocks[b]) > 0 && impl.NeededOn(f, storeWith(1, 2, 3, 4, 5, 6), 1, b) == 0 {
				f, _ = impl.Wipe(f, b)
				wiped++
			}
		}
		b, leaf, _ := impl.PlaceOf(f)
		seq++
		chunk, text := 1+int(draws[0])%6, strings.Repeat(draws[1:2], int(draws[2])%4)
		after := written(t, f, seq, chunk, text)
		if draws[3] < 30 {
			half := programStep(b, leaf, after.Blocks[b].Leaves[leaf].Text)
			f, _ = impl.Torment(f, half)
			torn++
		} else {
			f, kept[chunk] = after, keptText{text, b, leaf}
		}
		wantKept(t, f, kept)
	}
	if seq < 500 || wiped < 50 || torn < 20 || len(kept) != 6 {
		t.Errorf("a short life: %d pages, %d wiped, %d torn, %d chunks", seq, wiped, torn, len(kept))
	}
}

// What is asked leaves nothing behind: the next answer hangs on what it is given
// alone.
func TestChunksAreAskedTwice(t *testing.T) {
	first := flashOf(blockOf(0, chunkLeaf(9, 5, "first"), metaLeaf(10, 5)))
	second := flashOf(blockOf(0, metaLeaf(1, 1)), blockOf(0, chunkLeaf(2, 5, "second")))
	for range 3 {
		wantChunkText(t, "first", first, 5, "first", true)
		wantChunkText(t, "second", second, 5, "second", true)
		wantSpot(t, "first", first, 5, 0, 0, true)
		wantSpot(t, "second", second, 5, 1, 0, true)
		wantFindSame(t, "first", first, []int{5}, "second", 0)
		wantFindSame(t, "second", second, []int{5}, "second", 5)
		wantNeededAll(t, "first", first, storeWith(5), 1, 2)
		wantNeededAll(t, "second", second, storeWith(5), 2, 0, 1)
		wantNeededAll(t, "second, none", second, storeWith(6), 2)
	}
}
