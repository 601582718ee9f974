package tests

import (
	"fmt"
	"math"
	"slices"
	"strings"
	"testing"
	"unsafe"

	"loop.example/g00195/impl"
)

// Promise 5: what is programmed is read, once, in order; a block that is wiped
// is blank, and worn by one.

func blankLeaf() impl.Leaf { return impl.Leaf{Is: impl.Blank} }

func fullLeaf(text string) impl.Leaf { return impl.Leaf{Is: impl.Full, Text: text} }

func tornLeaf(text string) impl.Leaf { return impl.Leaf{Is: impl.Torn, Text: text} }

// blockOf has these leaves, and blank ones behind them up to PagesPer.
func blockOf(wear int, leaves ...impl.Leaf) impl.Block {
	out := slices.Clone(leaves)
	for len(out) < impl.PagesPer {
		out = append(out, blankLeaf())
	}
	return impl.Block{Wear: wear, Leaves: out}
}

func badBlock(block impl.Block) impl.Block {
	block.Bad = true
	return block
}

// flashOf has these blocks, and blank ones behind them up to 3.
func flashOf(blocks ...impl.Block) impl.Flash {
	out := slices.Clone(blocks)
	for len(out) < 3 {
		out = append(out, blockOf(0))
	}
	return impl.Flash{Blocks: out}
}

// fullBlock has so many Full leaves of one byte each, and blank ones behind them.
func fullBlock(wear, count int) impl.Block {
	var leaves []impl.Leaf
	for i := range count {
		leaves = append(leaves, fullLeaf(string(rune('a'+i))))
	}
	return blockOf(wear, leaves...)
}

func sameBlock(a, b impl.Block) bool {
	return a.Bad == b.Bad && a.Wear == b.Wear && slices.Equal(a.Leaves, b.Leaves)
}

func sameFlash(a, b impl.Flash) bool { return slices.EqualFunc(a.Blocks, b.Blocks, sameBlock) }

// twinFlash is a flash like f in memory of its own, with room behind each list.
func twinFlash(f impl.Flash) impl.Flash {
	spare := impl.Block{Wear: -7, Leaves: []impl.Leaf{fullLeaf("spare")}}
	blocks := make([]impl.Block, 0, len(f.Blocks)+2)
	for _, block := range f.Blocks {
		leaves := make([]impl.Leaf, 0, len(block.Leaves)+2)
		for _, leaf := range block.Leaves {
			leaves = append(leaves, impl.Leaf{Is: leaf.Is, Text: strings.Clone(leaf.Text)})
		}
		size := len(leaves)
		block.Leaves = append(leaves, fullLeaf("spare"), tornLeaf("spare"))[:size]
		blocks = append(blocks, block)
	}
	size := len(blocks)
	return impl.Flash{Blocks: append(blocks, spare, spare)[:size]}
}

// withSpare is f together with what stands in the room behind its lists.
func withSpare(f impl.Flash) impl.Flash {
	blocks := slices.Clone(f.Blocks[:cap(f.Blocks)])
	for b := range blocks {
		leaves := blocks[b].Leaves
		blocks[b].Leaves = leaves[:cap(leaves)]
	}
	return impl.Flash{Blocks: blocks}
}

func sharesList[T any](a, b []T) bool {
	a, b = a[:cap(a)], b[:cap(b)]
	if len(a) == 0 || len(b) == 0 {
		return false
	}
	size := unsafe.Sizeof(a[0])
	from, there := uintptr(unsafe.Pointer(unsafe.SliceData(a))), uintptr(unsafe.Pointer(unsafe.SliceData(b)))
	return from < there+uintptr(len(b))*size && there < from+uintptr(len(a))*size
}

// sharesFlash asks whether two flashes have a list or a text in one memory.
func sharesFlash(f, g impl.Flash) bool {
	if sharesList(f.Blocks, g.Blocks) {
		return true
	}
	for _, a := range f.Blocks {
		for _, b := range g.Blocks {
			if sharesList(a.Leaves, b.Leaves) || sharesText(a.Leaves, b.Leaves) {
				return true
			}
		}
	}
	return false
}

func sharesText(a, b []impl.Leaf) bool {
	for _, x := range a {
		for _, y := range b {
			if sharesMemory(x.Text, y.Text) {
				return true
			}
		}
	}
	return false
}

// ownLists asks whether each list of leaves stands in memory of its own.
func ownLists(f impl.Flash) bool {
	for i, a := range f.Blocks {
		for _, b := range f.Blocks[:i] {
			if sharesList(a.Leaves, b.Leaves) {
				return false
			}
		}
	}
	return true
}

// keepsFlash hands a flash like f to a call and asks that the flash, and the
// room behind its lists, are as they were, and that what is answered is new.
func keepsFlash(t *testing.T, what string, f impl.Flash, call func(impl.Flash) impl.Flash) impl.Flash {
	t.Helper()
	given, like := twinFlash(f), twinFlash(f)
	got := call(given)
	if !sameFlash(withSpare(given), withSpare(like)) {
		t.Errorf("%s has written into what was handed in: %#v, was %#v", what, withSpare(given), withSpare(like))
	}
	if sharesFlash(got, given) {
		t.Errorf("%s answers memory of what was handed in", what)
	}
	if !ownLists(got) {
		t.Errorf("%s answers two lists in one memory", what)
	}
	return got
}

func wantFlash(t *testing.T, what string, f impl.Flash, call func(impl.Flash) impl.Flash, want impl.Flash) {
	t.Helper()
	if got := keepsFlash(t, what, f, call); !sameFlash(got, want) {
		t.Errorf("%s of %#v\nis  %#v\nnot %#v", what, f, got, want)
	}
}

func wantProgram(t *testing.T, f impl.Flash, b, leaf int, text string, want impl.Flash, wantOk bool) {
	t.Helper()
	what := fmt.Sprintf("Program at %d, %d of %d bytes", b, leaf, len(text))
	given := strings.Clone(text)
	wantFlash(t, what, f, func(f impl.Flash) impl.Flash {
		got, ok := impl.Program(f, b, leaf, given)
		if ok != wantOk {
			t.Errorf("%s of %#v is %v", what, f, ok)
		}
		if sharesText([]impl.Leaf{fullLeaf(given)}, leavesOf(got)) {
			t.Errorf("%s answers memory of the text", what)
		}
		return got
	}, want)
}

func refusesToProgram(t *testing.T, f impl.Flash, b, leaf int, text string) {
	t.Helper()
	wantProgram(t, f, b, leaf, text, f, false)
}

func wantWipe(t *testing.T, f impl.Flash, b int, want impl.Flash, wantOk bool) {
	t.Helper()
	what := fmt.Sprintf("Wipe of block %d", b)
	wantFlash(t, what, f, func(f impl.Flash) impl.Flash {
		got, ok := impl.Wipe(f, b)
		if ok != wantOk {
			t.Errorf("%s of %#v is %v", what, f, ok)
		}
		return got
	}, want)
}

func refusesToWipe(t *testing.T, f impl.Flash, b int) {
	t.Helper()
	wantWipe(t, f, b, f, false)
}

func wantRead(t *testing.T, f impl.Flash, b, leaf int, want string, wantOk bool) {
	t.Helper()
	what := fmt.Sprintf("ReadLeaf at %d, %d", b, leaf)
	keepsFlash(t, what, f, func(f impl.Flash) impl.Flash {
		got, ok := impl.ReadLeaf(f, b, leaf)
		if got != want || ok != wantOk {
			t.Errorf("%s of %#v is %q, %v, not %q, %v", what, f, got, ok, want, wantOk)
		}
		return impl.Flash{Blocks: []impl.Block{{Leaves: []impl.Leaf{fullLeaf(got)}}}}
	})
}

func wantBad(t *testing.T, f impl.Flash, b int, want impl.Flash) {
	t.Helper()
	wantFlash(t, fmt.Sprintf("MarkBad of block %d", b), f, func(f impl.Flash) impl.Flash { return impl.MarkBad(f, b) }, want)
}

func wantRight(t *testing.T, name string, f impl.Flash, want bool) {
	t.Helper()
	keepsFlash(t, "FlashOk", f, func(f impl.Flash) impl.Flash {
		if impl.FlashOk(f) != want {
			t.Errorf("%s: FlashOk of %#v is not %v", name, f, want)
		}
		return impl.Flash{}
	})
}

func leavesOf(f impl.Flash) []impl.Leaf {
	var out []impl.Leaf
	for _, block := range f.Blocks {
		out = append(out, block.Leaves...)
	}
	return out
}

// withBlock is a flash like f that has this block at a place.
func withBlock(f impl.Flash, b int, block impl.Block) impl.Flash {
	out := impl.Flash{Blocks: slices.Clone(f.Blocks)}
	out.Blocks[b] = block
	return out
}

// withLeaf is a flash like f that has this leaf at a place.
func withLeaf(f impl.Flash, b, leaf int, to impl.Leaf) impl.Flash {
	block := f.Blocks[b]
	block.Leaves = slices.Clone(block.Leaves)
	block.Leaves[leaf] = to
	return withBlock(f, b, block)
}

type namedFlash struct {
	name  string
	flash impl.Flash
}

// rightFlashes are flashes as chapter 5 wants them, at its limits as well.
func rightFlashes() []namedFlash {
	size := mixedText(impl.PageSize)
	most := make([]impl.Block, impl.MaxBlocks)
	for b := range most {
		most[b] = fullBlock(b, b%(impl.PagesPer+1))
	}
	return []namedFlash{
		{"blank", flashOf()},
		{"as many blocks as may be", flashOf(most...)},
		{"written to each place", flashOf(fullBlock(0, 1), fullBlock(1, 2), fullBlock(2, 3), fullBlock(3, 4))},
		{"Full leaves of one byte and of PageSize", flashOf(blockOf(0, fullLeaf("\x00"), fullLeaf(size)))},
		{"Torn leaves of no bytes and of PageSize", flashOf(blockOf(0, tornLeaf(""), tornLeaf(size)))},
		{"all leaves Torn and empty", flashOf(blockOf(9, tornLeaf(""), tornLeaf(""), tornLeaf(""), tornLeaf("")))},
		{"a Torn leaf ahead of a Full one", flashOf(blockOf(0), blockOf(5, tornLeaf(""), fullLeaf("b")))},
		{"a Torn leaf behind Full ones", flashOf(blockOf(0, fullLeaf("a"), fullLeaf("b"), fullLeaf("c"), tornLeaf("d")))},
		{"Wear at its limits", flashOf(fullBlock(0, 2), fullBlock(impl.MaxNumber, 2), fullBlock(impl.MaxNumber-1, 2))},
		{"Bad blocks", flashOf(badBlock(blockOf(0)), badBlock(fullBlock(1, 2)), badBlock(fullBlock(2, 4)))},
		{"a Bad block of Wear MaxNumber", flashOf(badBlock(blockOf(impl.MaxNumber, tornLeaf("x"))))},
	}
}

// wrongBlocks are blocks that make a flash wrong wherever they stand.
func wrongBlocks() []struct {
	name  string
	block impl.Block
} {
	over := mixedText(impl.PageSize + 1)
	return []struct {
		name  string
		block impl.Block
	}{
		{"no leaves", impl.Block{}},
		{"too few leaves", impl.Block{Leaves: fullBlock(0, 4).Leaves[:3]}},
		{"too few blank leaves", impl.Block{Leaves: blockOf(0).Leaves[:3]}},
		{"too many leaves", blockOf(0, fullLeaf("a"), fullLeaf("b"), fullLeaf("c"), fullLeaf("d"), fullLeaf("e"))},
		{"too many blank leaves", blockOf(0, blankLeaf(), blankLeaf(), blankLeaf(), blankLeaf(), blankLeaf())},
		{"Wear below 0", fullBlock(-1, 1)},
		{"Wear far below 0", fullBlock(math.MinInt, 1)},
		{"Wear above MaxNumber", fullBlock(impl.MaxNumber+1, 1)},
		{"Wear far above MaxNumber", fullBlock(math.MaxInt, 1)},
		{"a blank leaf that is not empty", blockOf(0, fullLeaf("a"), impl.Leaf{Is: impl.Blank, Text: "b"})},
		{"a last blank leaf that is not empty", blockOf(0, blankLeaf(), blankLeaf(), blankLeaf(), impl.Leaf{Is: impl.Blank, Text: "b"})},
		{"a blank leaf ahead of a Full one", blockOf(0, blankLeaf(), fullLeaf("b"))},
		{"a blank leaf ahead of a Torn one", blockOf(0, blankLeaf(), tornLeaf(""))},
		{"a blank leaf far ahead of a Full one", blockOf(0, fullLeaf("a"), blankLeaf(), blankLeaf(), fullLeaf("d"))},
		{"a blank leaf far ahead of a Torn one", blockOf(0, blankLeaf(), blankLeaf(), blankLeaf(), tornLeaf("d"))},
		{"a Full leaf of no bytes", blockOf(0, fullLeaf(""))},
		{"a last Full leaf of no bytes", blockOf(0, fullLeaf("a"), fullLeaf("b"), fullLeaf("c"), fullLeaf(""))},
		{"a Full leaf of more than PageSize", blockOf(0, fullLeaf(over))},
		{"a Torn leaf of more than PageSize", blockOf(0, tornLeaf(over))},
		{"a Torn leaf of more than PageSize behind a Full one", blockOf(0, fullLeaf("a"), tornLeaf(over))},
		{"a leaf below all states", blockOf(0, impl.Leaf{Is: -1})},
		{"a leaf above all states", blockOf(0, impl.Leaf{Is: 3, Text: "a"})},
	}
}

// wrongFlashes have each wrong block at each place, as it is and Bad; and there
// are those whose blocks are too few or too many.
func wrongFlashes() []namedFlash {
	one := []impl.Block{fullBlock(0, 1)}
	out := []namedFlash{
		{"no blocks", impl.Flash{}},
		{"1 block", impl.Flash{Blocks: slices.Repeat(one, 1)}},
		{"2 blocks", impl.Flash{Blocks: slices.Repeat(one, 2)}},
		{"too many blocks", impl.Flash{Blocks: slices.Repeat(one, impl.MaxBlocks+1)}},
		{"far too many blocks", impl.Flash{Blocks: slices.Repeat(one, 3*impl.MaxBlocks)}},
	}
	right := flashOf(fullBlock(0, 2), fullBlock(0, 0), fullBlock(0, 4), fullBlock(0, 1))
	for _, wrong := range wrongBlocks() {
		for b := range right.Blocks {
			out = append(out,
				namedFlash{wrong.name, withBlock(right, b, wrong.block)},
				namedFlash{wrong.name + " in a Bad block", withBlock(right, b, badBlock(wrong.block))})
		}
	}
	return out
}

// placesBeside are the places of a list, some beside it, and some far away.
func placesBeside(size int) []int {
	out := []int{math.MinInt, -size, -1}
	for place := range size {
		out = append(out, place)
	}
	return append(out, size, size+1, math.MaxInt)
}

func TestStatesAndLimitsOfFlash(t *testing.T) {
	got := []int{impl.Blank, impl.Full, impl.Torn, impl.PagesPer, impl.MaxBlocks, impl.PageSize}
	if want := []int{0, 1, 2, 4, 10, 120}; !slices.Equal(got, want) {
		t.Errorf("constants are %v, not %v", got, want)
	}
}

func TestNewFlashIsBlank(t *testing.T) {
	for n := 3; n <= impl.MaxBlocks; n++ {
		f, ok := impl.FlashNew(n)
		want := impl.Flash{Blocks: slices.Repeat([]impl.Block{blockOf(0)}, n)}
		if !ok || !sameFlash(f, want) {
			t.Errorf("FlashNew(%d) is %#v, %v", n, f, ok)
		}
		if !ownLists(f) {
			t.Errorf("FlashNew(%d) has two lists in one memory", n)
		}
		wantRight(t, "new", f, true)
	}
}

func TestNewFlashOfWrongCountIsRefused(t *testing.T) {
	for _, n := range []int{math.MinInt, -impl.MaxBlocks, -3, -1, 0, 1, 2, impl.MaxBlocks + 1, 100, math.MaxInt} {
		if f, ok := impl.FlashNew(n); ok || len(f.Blocks) > 0 {
			t.Errorf("FlashNew(%d) is %#v, %v", n, f, ok)
		}
	}
}

func TestNewFlashesShareNothing(t *testing.T) {
	f, _ := impl.FlashNew(4)
	g, _ := impl.FlashNew(4)
	if sharesFlash(f, g) {
		t.Error("two new flashes stand in one memory")
	}
}

func TestRightFlashesAreOk(t *testing.T) {
	for _, c := range rightFlashes() {
		wantRight(t, c.name, c.flash, true)
	}
}

func TestWrongFlashesAreNotOk(t *testing.T) {
	for _, c := range wrongFlashes() {
		wantRight(t, c.name, c.flash, false)
	}
}

// blockRightByRule is chapter 5's rule of the leaves of a block.
func blockRightByRule(leaves []impl.Leaf) bool {
	for i, leaf := range leaves {
		size := len(leaf.Text)
		ahead := i == 0 || leaves[i-1].Is != impl.Blank
		blank := leaf.Is == impl.Blank && size == 0
		full := leaf.Is == impl.Full && size >= 1 && size <= 120 && ahead
		torn := leaf.Is == impl.Torn && size <= 120 && ahead
		if !blank && !full && !torn {
			return false
		}
	}
	return len(leaves) == 4
}

// everyBlock has all orders of some leaves, right and wrong, of up to so many.
func everyBlock(size int) [][]impl.Leaf {
	kinds := []impl.Leaf{
		blankLeaf(), {Is: impl.Blank, Text: "b"},
		fullLeaf(""), fullLeaf("f"), fullLeaf(mixedText(impl.PageSize)),
		tornLeaf(""), tornLeaf(mixedText(impl.PageSize)), tornLeaf(mixedText(impl.PageSize + 1)),
	}
	out := [][]impl.Leaf{nil}
	for from := 0; from < len(out); from++ {
		if len(out[from]) == size {
			continue
		}
		for _, kind := range kinds {
			out = append(out, append(slices.Clone(out[from]), kind))
		}
	}
	return out
}

func TestBlocksOfAllOrdersOfLeaves(t *testing.T) {
	right := flashOf()
	for _, leaves := range everyBlock(impl.PagesPer) {
		block := impl.Block{Leaves: leaves}
		want := blockRightByRule(leaves)
		if got := impl.FlashOk(withBlock(right, 1, block)); got != want {
			t.Fatalf("FlashOk with %#v is %v", leaves, got)
		}
		first := slices.IndexFunc(leaves, func(l impl.Leaf) bool { return l.Is == 0 })
		if first < 0 {
			first = 4
		}
		if got := impl.NextBlank(block); got != first {
			t.Fatalf("NextBlank of %#v is %d, not %d", leaves, got, first)
		}
		if _, ok := impl.Program(withBlock(right, 1, block), 1, first, "x"); ok != (want && first < 4) {
			t.Fatalf("Program at %d of %#v is %v", first, leaves, ok)
		}
		if _, ok := impl.Wipe(withBlock(right, 1, block), 1); ok != want {
			t.Fatalf("Wipe of %#v is %v", leaves, ok)
		}
	}
}

func TestNextBlankOfBlocks(t *testing.T) {
	five := []impl.Leaf{fullLeaf("a"), fullLeaf("b"), fullLeaf("c"), fullLeaf("d"), fullLeaf("e")}
	for _, c := range []struct {
		name  string
		block impl.Block
		want  int
	}{
		{"blank", blockOf(0), 0},
		{"one written", fullBlock(0, 1), 1},
		{"half written", fullBlock(0, 2), 2},
		{"all but one written", fullBlock(0, 3), 3},
		{"full", fullBlock(0, 4), impl.PagesPer},
		{"Torn at first", blockOf(0, tornLeaf("")), 1},
		{"Torn behind a Full one", blockOf(0, fullLeaf("a"), tornLeaf("b")), 2},
		{"all Torn", blockOf(0, tornLeaf(""), tornLeaf(""), tornLeaf(""), tornLeaf("")), impl.PagesPer},
		{"Torn at last", blockOf(0, fullLeaf("a"), fullLeaf("b"), fullLeaf("c"), tornLeaf("")), impl.PagesPer},
		{"Bad", badBlock(fullBlock(impl.MaxNumber, 1)), 1},
		{"no leaves", impl.Block{}, impl.PagesPer},
		{"two Full leaves alone", impl.Block{Leaves: five[:2]}, impl.PagesPer},
		{"five Full leaves", impl.Block{Leaves: five}, impl.PagesPer},
		{"blank behind five Full leaves", impl.Block{Leaves: append(slices.Clone(five), blankLeaf())}, 5},
		{"blank ahead of a Full one", blockOf(0, fullLeaf("a"), blankLeaf(), fullLeaf("c")), 1},
		{"blank and not empty", blockOf(0, fullLeaf("a"), impl.Leaf{Is: impl.Blank, Text: "b"}), 1},
	} {
		keepsFlash(t, "NextBlank", impl.Flash{Blocks: []impl.Block{c.block}}, func(f impl.Flash) impl.Flash {
			if got := impl.NextBlank(f.Blocks[0]); got != c.want {
				t.Errorf("%s: NextBlank is %d, not %d", c.name, got, c.want)
			}
			return impl.Flash{}
		})
	}
}

// programByRule is chapter 5's rule for a flash that is right.
func programByRule(f impl.Flash, b, leaf int, text string) (impl.Flash, bool) {
	if b < 0 || b >= len(f.Blocks) || f.Blocks[b].Bad || leaf < 0 || leaf >= 4 || len(text) < 1 || len(text) > 120 {
		return f, false
	}
	for i, l := range f.Blocks[b].Leaves {
		if (l.Is == impl.Blank) != (i >= leaf) {
			return f, false
		}
	}
	return withLeaf(f, b, leaf, fullLeaf(text)), true
}

func TestProgramOfEachPlaceOfRightFlashes(t *testing.T) {
	texts := []string{"", "\x00", "x", mixedText(impl.PageSize - 1), mixedText(impl.PageSize), mixedText(impl.PageSize + 1), mixedText(1000)}
	for _, c := range rightFlashes() {
		for _, b := range placesBeside(len(c.flash.Blocks)) {
			for _, leaf := range placesBeside(impl.PagesPer) {
				for _, text := range texts {
					want, ok := programByRule(c.flash, b, leaf, text)
					wantProgram(t, c.flash, b, leaf, text, want, ok)
				}
			}
		}
	}
}

func TestLeavesAreProgrammedInOrderOnce(t *testing.T) {
	f, _ := impl.FlashNew(3)
	for leaf := range impl.PagesPer {
		for other := range impl.PagesPer + 1 {
			if other != leaf {
				refusesToProgram(t, f, 2, other, "out of order")
			}
		}
		text := mixedText(leaf + 1)
		want := withLeaf(f, 2, leaf, fullLeaf(text))
		wantProgram(t, f, 2, leaf, text, want, true)
		f, _ = impl.Program(f, 2, leaf, text)
		refusesToProgram(t, f, 2, leaf, text)
		refusesToProgram(t, f, 2, leaf, "twice")
		wantRead(t, f, 2, leaf, text, true)
	}
	refusesToProgram(t, f, 2, impl.PagesPer, "behind the last")
	wantRight(t, "programmed", f, true)
}

func TestProgramBehindATornLeaf(t *testing.T) {
	f := flashOf(blockOf(3, fullLeaf("a"), tornLeaf("b")))
	refusesToProgram(t, f, 0, 0, "over a Full one")
	refusesToProgram(t, f, 0, 1, "over a Torn one")
	refusesToProgram(t, f, 0, 3, "past a blank one")
	wantProgram(t, f, 0, 2, "c", withLeaf(f, 0, 2, fullLeaf("c")), true)

	torn := flashOf(blockOf(0, tornLeaf("")))
	refusesToProgram(t, torn, 0, 0, "over an empty Torn one")
	wantProgram(t, torn, 0, 1, "b", withLeaf(torn, 0, 1, fullLeaf("b")), true)

	last := flashOf(blockOf(0, fullLeaf("a"), fullLeaf("b"), fullLeaf("c"), tornLeaf("")))
	for _, leaf := range placesBeside(impl.PagesPer) {
		refusesToProgram(t, last, 0, leaf, "x")
	}
}

func TestProgramOfTextsAtTheirLimits(t *testing.T) {
	f := flashOf(fullBlock(0, 1))
	refusesToProgram(t, f, 0, 1, "")
	refusesToProgram(t, f, 0, 1, mixedText(impl.PageSize+1))
	for _, text := range []string{"\x00", "\xff", everyByte()[:100], mixedText(impl.PageSize)} {
		wantProgram(t, f, 0, 1, text, withLeaf(f, 0, 1, fullLeaf(text)), true)
	}
}

func TestProgramIsRefusedWhereNothingMayBeWritten(t *testing.T) {
	f := flashOf(fullBlock(0, 1), badBlock(fullBlock(0, 1)), badBlock(blockOf(0)))
	refusesToProgram(t, f, 1, 1, "Bad and half written")
	refusesToProgram(t, f, 2, 0, "Bad and blank")
	for _, b := range []int{math.MinInt, -1, 3, math.MaxInt} {
		refusesToProgram(t, f, b, 0, "no block")
		refusesToProgram(t, f, b, 1, "no block")
	}
}

// wipeByRule is chapter 5's rule for a flash that is right.
func wipeByRule(f impl.Flash, b int) (impl.Flash, bool) {
	if b < 0 || b >= len(f.Blocks) || f.Blocks[b].Bad || f.Blocks[b].Wear == 1000000000 {
		return f, false
	}
	return withBlock(f, b, blockOf(f.Blocks[b].Wear+1)), true
}

func TestWipeOfEachBlockOfRightFlashes(t *testing.T) {
	for _, c := range rightFlashes() {
		for _, b := range placesBeside(len(c.flash.Blocks)) {
			want, ok := wipeByRule(c.flash, b)
			wantWipe(t, c.flash, b, want, ok)
		}
	}
}

func TestWipedBlocksAreBlankAndWornByOne(t *testing.T) {
	for _, c := range []struct {
		name  string
		block impl.Block
	}{
		{"blank", blockOf(7)},
		{"half written", fullBlock(7, 2)},
		{"full", fullBlock(7, 4)},
		{"Torn", blockOf(7, fullLeaf("a"), tornLeaf("b"))},
		{"all Torn", blockOf(7, tornLeaf(""), tornLeaf(""), tornLeaf("x"), tornLeaf(mixedText(impl.PageSize)))},
	} {
		f := flashOf(fullBlock(1, 3), c.block, fullBlock(2, 4))
		want := withBlock(f, 1, blockOf(8))
		wantWipe(t, f, 1, want, true)
		g, _ := impl.Wipe(f, 1)
		wantProgram(t, g, 1, 0, c.name, withLeaf(want, 1, 0, fullLeaf(c.name)), true)
		for leaf := range impl.PagesPer {
			wantRead(t, g, 1, leaf, "", false)
		}
	}
}

func TestWearGoesUpToMaxNumber(t *testing.T) {
	f := flashOf(fullBlock(impl.MaxNumber-1, 2))
	want := withBlock(f, 0, blockOf(impl.MaxNumber))
	wantWipe(t, f, 0, want, true)
	refusesToWipe(t, want, 0)
	refusesToWipe(t, withBlock(f, 0, fullBlock(impl.MaxNumber, 4)), 0)
	wantWipe(t, want, 1, withBlock(want, 1, blockOf(1)), true)
}

func TestWipeOfABadBlockOrNoneIsRefused(t *testing.T) {
	f := flashOf(badBlock(fullBlock(0, 2)), badBlock(blockOf(0)), badBlock(blockOf(0, tornLeaf("a"))))
	for _, b := range placesBeside(3) {
		refusesToWipe(t, f, b)
	}
}

func TestWrongFlashesAreNeitherProgrammedNorWiped(t *testing.T) {
	for _, c := range wrongFlashes() {
		for b := -1; b <= len(c.flash.Blocks); b++ {
			for leaf := -1; leaf <= impl.PagesPer+1; leaf++ {
				refusesToProgram(t, c.flash, b, leaf, "x")
			}
			refusesToWipe(t, c.flash, b)
		}
	}
}

// Reading asks for no right flash: what is Full is read.
func TestEachLeafIsReadWhenItIsFull(t *testing.T) {
	for _, c := range slices.Concat(rightFlashes(), wrongFlashes()) {
		for _, b := range placesBeside(len(c.flash.Blocks)) {
			for _, leaf := range placesBeside(impl.PagesPer + 1) {
				text, full := "", false
				if b >= 0 && b < len(c.flash.Blocks) && leaf >= 0 && leaf < len(c.flash.Blocks[b].Leaves) {
					if l := c.flash.Blocks[b].Leaves[leaf]; l.Is == impl.Full {
						text, full = l.Text, true
					}
				}
				wantRead(t, c.flash, b, leaf, text, full)
			}
		}
	}
}

func TestReadOfBlankFullAndTornLeaves(t *testing.T) {
	size := mixedText(impl.PageSize)
	f := flashOf(blockOf(0, fullLeaf("a"), tornLeaf("b"), fullLeaf(size)), badBlock(blockOf(0, fullLeaf("kept"))))
	wantRead(t, f, 0, 0, "a", true)
	wantRead(t, f, 0, 1, "", false)
	wantRead(t, f, 0, 2, size, true)
	wantRead(t, f, 0, 3, "", false)
	wantRead(t, f, 1, 0, "kept", true)
	for _, none := range []int{math.MinInt, -1, impl.PagesPer, math.MaxInt} {
		wantRead(t, f, 0, none, "", false)
		wantRead(t, f, none, 0, "", false)
	}
	wantRead(t, impl.Flash{}, 0, 0, "", false)
}

func TestBlocksAreMarkedBad(t *testing.T) {
	for _, c := range slices.Concat(rightFlashes(), wrongFlashes()) {
		for _, b := range placesBeside(len(c.flash.Blocks)) {
			want := c.flash
			if b >= 0 && b < len(want.Blocks) {
				want = withBlock(want, b, badBlock(want.Blocks[b]))
			}
			wantBad(t, c.flash, b, want)
		}
	}
}

func TestBadBlocksKeepWhatTheyHave(t *testing.T) {
	f := flashOf(blockOf(5, fullLeaf("a"), tornLeaf("b")))
	bad := impl.MarkBad(f, 0)
	wantRight(t, "Bad", bad, true)
	wantRead(t, bad, 0, 0, "a", true)
	refusesToProgram(t, bad, 0, 2, "c")
	refusesToWipe(t, bad, 0)
	wantBad(t, bad, 0, bad)
	wantProgram(t, bad, 1, 0, "d", withLeaf(bad, 1, 0, fullLeaf("d")), true)
}

// A drawn life of a flash, held against a list of what was written.
func TestDrawnLifeOfAFlash(t *testing.T) {
	const blocks = 5
	f, _ := impl.FlashNew(blocks)
	var written [blocks][]string
	var worn [blocks]int
	var bad [blocks]bool
	draws := mixedText(8000)
	for ; len(draws) > 3; draws = draws[4:] {
		b, leaf, size := int(draws[1])%(blocks+2)-1, int(draws[2])%6-1, int(draws[3])%123
		there := b >= 0 && b < blocks && !bad[b]
		var ok, want bool
		switch {
		case draws[0] == 0:
			f = impl.MarkBad(f, b)
			if there {
				bad[b] = true
			}
		case draws[0] < 40:
			if want = there; want {
				written[b], worn[b] = nil, worn[b]+1
			}
			f, ok = impl.Wipe(f, b)
		default:
			text := everyByte()[draws[2]/2:][:size]
			want = there && len(written[b]) == leaf && leaf < 4 && size >= 1 && size <= 120
			if want {
				written[b] = append(written[b], text)
			}
			f, ok = impl.Program(f, b, leaf, text)
		}
		if ok != want {
			t.Fatalf("at %d, %d of %d bytes: %v", b, leaf, size, ok)
		}
		if !impl.FlashOk(f) {
			t.Fatalf("not right: %#v", f)
		}
		for b := range blocks {
			wantWritten(t, f, b, written[b])
			if f.Blocks[b].Wear != worn[b] || f.Blocks[b].Bad != bad[b] {
				t.Fatalf("block %d is worn %d, not %d, Bad %v, not %v", b, f.Blocks[b].Wear, worn[b], f.Blocks[b].Bad, bad[b])
			}
		}
	}
}

// wantWritten asks that a block has these texts in order, and nothing behind.
func wantWritten(t *testing.T, f impl.Flash, b int, texts []string) {
	t.Helper()
	if got := impl.NextBlank(f.Blocks[b]); got != len(texts) {
		t.Fatalf("NextBlank of block %d is %d, not %d", b, got, len(texts))
	}
	for leaf := range impl.PagesPer {
		want, full := "", leaf < len(texts)
		if full {
			want = texts[leaf]
		}
		if got, ok := impl.ReadLeaf(f, b, leaf); got != want || ok != full {
			t.Fatalf("leaf %d of block %d is %q, %v, not %q, %v", leaf, b, got, ok, want, full)
		}
	}
}

// Blocks that are handed in with one list of leaves are answered with their own.
func TestFlashWhoseBlocksShareTheirLeaves(t *testing.T) {
	block := fullBlock(0, 2)
	f := impl.Flash{Blocks: []impl.Block{block, block, block}}
	g, ok := impl.Program(f, 1, 2, "x")
	if want := withLeaf(f, 1, 2, fullLeaf("x")); !ok || !sameFlash(g, want) {
		t.Errorf("Program of shared leaves is %#v, %v", g, ok)
	}
	h, ok := impl.Wipe(f, 1)
	if want := withBlock(f, 1, blockOf(1)); !ok || !sameFlash(h, want) {
		t.Errorf("Wipe of shared leaves is %#v, %v", h, ok)
	}
	for _, answer := range []impl.Flash{g, h, impl.MarkBad(f, 0)} {
		if !ownLists(answer) || sharesFlash(answer, f) {
			t.Errorf("answers shared memory: %#v", answer)
		}
	}
}
