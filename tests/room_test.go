package tests

import (
	"math"
	"slices"
	"testing"

	"loop.example/g00195/impl"
)

// Promise 7: a place is blank, and the next one of its block.

// A room is what chapter 7 tells of a flash.
type room struct {
	free   []int
	open   int
	block  int
	leaf   int
	placed bool
	room   int
}

func (r room) same(other room) bool {
	return slices.Equal(r.free, other.free) && r.open == other.open &&
		r.block == other.block && r.leaf == other.leaf && r.placed == other.placed && r.room == other.room
}

func roomTold(f impl.Flash) room {
	r := room{free: impl.FreeBlocks(f), open: impl.OpenBlock(f), room: impl.RoomOf(f)}
	r.block, r.leaf, r.placed = impl.PlaceOf(f)
	return r
}

// flashRightByRule is chapter 5's rule of a flash.
func flashRightByRule(f impl.Flash) bool {
	for _, block := range f.Blocks {
		if !blockRightByRule(block.Leaves) || block.Wear < 0 || block.Wear > 1000000000 {
			return false
		}
	}
	return len(f.Blocks) >= 3 && len(f.Blocks) <= 10
}

func isBlank(leaf impl.Leaf) bool { return leaf.Is == 0 }

func isWritten(leaf impl.Leaf) bool { return leaf.Is != 0 }

// roomByRule is chapter 7's rule, told from the leaves alone.
func roomByRule(f impl.Flash) room {
	r := room{open: -1}
	for b, block := range f.Blocks {
		if block.Bad {
			continue
		}
		for _, leaf := range block.Leaves {
			if isBlank(leaf) {
				r.room++
			}
		}
		switch {
		case !slices.ContainsFunc(block.Leaves, isWritten):
			r.free = append(r.free, b)
		case slices.ContainsFunc(block.Leaves, isBlank) && r.open < 0:
			r.open = b
		}
	}
	if !flashRightByRule(f) {
		return r
	}
	if r.open >= 0 {
		r.block, r.leaf, r.placed = r.open, slices.IndexFunc(f.Blocks[r.open].Leaves, isBlank), true
		return r
	}
	for i, b := range r.free {
		if i == 0 || f.Blocks[b].Wear < f.Blocks[r.block].Wear {
			r.block, r.placed = b, true
		}
	}
	return r
}

// wantRoom asks for all that is told of a flash, and that it is left as it was.
func wantRoom(t *testing.T, what string, f impl.Flash, want room) {
	t.Helper()
	keepsFlash(t, what, f, func(f impl.Flash) impl.Flash {
		if got := roomTold(f); !got.same(want) {
			t.Errorf("%s: the room of %#v\nis  %+v\nnot %+v", what, f, got, want)
		}
		return impl.Flash{}
	})
}

func wantRoomByRule(t *testing.T, what string, f impl.Flash) {
	t.Helper()
	wantRoom(t, what, f, roomByRule(f))
}

// tornBlock has no leaf that is blank, and none that can be read.
func tornBlock(wear int) impl.Block {
	return blockOf(wear, tornLeaf(""), tornLeaf(""), tornLeaf(""), tornLeaf(""))
}

func TestRoomOfNewFlashes(t *testing.T) {
	for n := 3; n <= impl.MaxBlocks; n++ {
		f, _ := impl.FlashNew(n)
		free := []int{0, 1, 2, 3, 4, 5, 6, 7, 8, 9}[:n]
		wantRoom(t, "new", f, room{free: free, open: -1, placed: true, room: 4 * n})
	}
}

func TestFreeBlocksAreBlankAndNotBad(t *testing.T) {
	for _, c := range []struct {
		name  string
		flash impl.Flash
		want  []int
	}{
		{"one written", flashOf(fullBlock(0, 1)), []int{1, 2}},
		{"one written at last", flashOf(blockOf(0), blockOf(0), fullBlock(0, 1)), []int{0, 1}},
		{"written to each place", flashOf(fullBlock(0, 4), blockOf(0), fullBlock(0, 2), fullBlock(0, 3), blockOf(0), fullBlock(0, 1)), []int{1, 4}},
		{"in order of the flash, not of Wear", flashOf(blockOf(9), blockOf(3), fullBlock(0, 1), blockOf(5), blockOf(0)), []int{0, 1, 3, 4}},
		{"torn", flashOf(blockOf(0, tornLeaf("")), tornBlock(0), blockOf(0)), []int{2}},
		{"Bad and blank", flashOf(badBlock(blockOf(0)), blockOf(0), badBlock(blockOf(0)), blockOf(0)), []int{1, 3}},
		{"Bad and written", flashOf(badBlock(fullBlock(0, 1)), badBlock(fullBlock(0, 4)), badBlock(tornBlock(0)), blockOf(0)), []int{3}},
		{"none but Bad ones", flashOf(badBlock(blockOf(0)), badBlock(blockOf(1)), badBlock(blockOf(2))), nil},
		{"all begun", flashOf(fullBlock(0, 1), fullBlock(0, 2), fullBlock(0, 3)), nil},
		{"all full", flashOf(fullBlock(0, 4), fullBlock(0, 4), fullBlock(0, 4)), nil},
		{"all torn", flashOf(tornBlock(0), tornBlock(0), tornBlock(0)), nil},
		{"of the greatest Wear", flashOf(fullBlock(0, 4), blockOf(impl.MaxNumber), fullBlock(0, 4)), []int{1}},
	} {
		if got := impl.FreeBlocks(c.flash); !slices.Equal(got, c.want) {
			t.Errorf("%s: FreeBlocks is %v, not %v", c.name, got, c.want)
		}
	}
}

func TestOpenBlockIsTheFirstBegunAndNotBad(t *testing.T) {
	for _, c := range []struct {
		name  string
		flash impl.Flash
		want  int
	}{
		{"none begun", flashOf(), -1},
		{"none but full ones", flashOf(fullBlock(0, 4), fullBlock(0, 4), fullBlock(0, 4)), -1},
		{"none but torn ones", flashOf(tornBlock(0), tornBlock(0), tornBlock(0)), -1},
		{"none but blank, full and torn ones", flashOf(fullBlock(0, 4), blockOf(0), tornBlock(0)), -1},
		{"one begun at first", flashOf(fullBlock(0, 1)), 0},
		{"one begun in the middle", flashOf(blockOf(0), fullBlock(0, 2)), 1},
		{"one begun at last", flashOf(blockOf(0), fullBlock(0, 4), fullBlock(0, 3)), 2},
		{"the last of as many as may be", flashOf(slices.Concat(slices.Repeat([]impl.Block{fullBlock(0, 4)}, 9), []impl.Block{fullBlock(0, 1)})...), 9},
		{"begun by a Torn leaf", flashOf(blockOf(0), blockOf(0, tornLeaf(""))), 1},
		{"three Torn leaves", flashOf(blockOf(0), blockOf(0, tornLeaf(""), tornLeaf("a"), tornLeaf(""))), 1},
		{"several begun", flashOf(blockOf(0), fullBlock(9, 1), fullBlock(0, 3), fullBlock(3, 2)), 1},
		{"several begun, the first most worn", flashOf(fullBlock(impl.MaxNumber, 3), fullBlock(0, 1), fullBlock(1, 2)), 0},
		{"a Bad one ahead", flashOf(badBlock(fullBlock(0, 1)), fullBlock(0, 2), fullBlock(0, 3)), 1},
		{"Bad ones ahead", flashOf(badBlock(fullBlock(0, 1)), badBlock(fullBlock(0, 2)), fullBlock(0, 3)), 2},
		{"none but Bad ones begun", flashOf(badBlock(fullBlock(0, 1)), badBlock(blockOf(0, tornLeaf("x"))), badBlock(fullBlock(0, 3))), -1},
		{"Bad and begun beside blank ones", flashOf(badBlock(fullBlock(0, 1))), -1},
	} {
		if got := impl.OpenBlock(c.flash); got != c.want {
			t.Errorf("%s: OpenBlock is %d, not %d", c.name, got, c.want)
		}
	}
}

func wantPlace(t *testing.T, name string, f impl.Flash, wantBlock, wantLeaf int, wantOk bool) {
	t.Helper()
	if b, leaf, ok := impl.PlaceOf(f); b != wantBlock || leaf != wantLeaf || ok != wantOk {
		t.Errorf("%s: PlaceOf %#v is %d, %d, %v, not %d, %d, %v", name, f, b, leaf, ok, wantBlock, wantLeaf, wantOk)
	}
}

func TestPlaceOfOpenBlocks(t *testing.T) {
	for _, c := range []struct {
		name  string
		flash impl.Flash
		block int
		leaf  int
	}{
		{"one written", flashOf(fullBlock(0, 1)), 0, 1},
		{"two written", flashOf(blockOf(0), fullBlock(0, 2)), 1, 2},
		{"three written", flashOf(blockOf(0), blockOf(0), fullBlock(0, 3)), 2, 3},
		{"worn more than free ones", flashOf(blockOf(0), blockOf(1), fullBlock(impl.MaxNumber, 2)), 2, 2},
		{"several begun", flashOf(blockOf(0), fullBlock(9, 1), fullBlock(0, 3)), 1, 1},
		{"behind a Bad one that is begun", flashOf(badBlock(fullBlock(0, 1)), blockOf(0), fullBlock(7, 3)), 2, 3},
		{"behind a Torn leaf", flashOf(blockOf(0), blockOf(0, tornLeaf(""))), 1, 1},
		{"behind Full and Torn leaves", flashOf(blockOf(0), blockOf(0, fullLeaf("a"), tornLeaf("b"), tornLeaf(""))), 1, 3},
		{"all others full", flashOf(fullBlock(0, 4), fullBlock(0, 3), fullBlock(0, 4)), 1, 3},
	} {
		wantPlace(t, c.name, c.flash, c.block, c.leaf, true)
	}
}

func TestPlaceOfFreeBlocksGoesByWear(t *testing.T) {
	for _, c := range []struct {
		name  string
		flash impl.Flash
		block int
	}{
		{"all new", flashOf(), 0},
		{"least at last", flashOf(blockOf(2), blockOf(1), blockOf(0)), 2},
		{"least in the middle", flashOf(blockOf(2), blockOf(1), blockOf(2)), 1},
		{"two of the least", flashOf(blockOf(5), blockOf(4), blockOf(4)), 1},
		{"two of the least, apart", flashOf(blockOf(5), blockOf(4), blockOf(6), blockOf(4), blockOf(5)), 1},
		{"one free", flashOf(fullBlock(0, 4), fullBlock(0, 4), blockOf(9)), 2},
		{"the least is full", flashOf(blockOf(3), fullBlock(0, 4), blockOf(2)), 2},
		{"the least is torn", flashOf(blockOf(3), tornBlock(0), blockOf(2)), 2},
		{"the least is Bad", flashOf(blockOf(3), badBlock(blockOf(0)), blockOf(2)), 2},
		{"Bad ones that are begun count for nothing", flashOf(badBlock(fullBlock(0, 1)), blockOf(3), blockOf(2), badBlock(fullBlock(1, 2))), 2},
		{"one below the greatest Wear", flashOf(blockOf(impl.MaxNumber), blockOf(impl.MaxNumber-1), blockOf(impl.MaxNumber)), 1},
		{"the greatest Wear", flashOf(badBlock(blockOf(0)), blockOf(impl.MaxNumber), blockOf(impl.MaxNumber)), 1},
		{"not by figures", flashOf(blockOf(100), blockOf(20), blockOf(3)), 2},
	} {
		wantPlace(t, c.name, c.flash, c.block, 0, true)
	}
}

// Each way to wear as many blocks as may be by 0 or 1, and all orders of Wear of
// six blocks: the least worn is taken, and of several the first one.
func TestPlaceOfFreeBlocksOfAnyWear(t *testing.T) {
	for way := range 1 << impl.MaxBlocks {
		var f impl.Flash
		for b := range impl.MaxBlocks {
			f.Blocks = append(f.Blocks, blockOf(way>>b&1))
		}
		least := slices.IndexFunc(f.Blocks, func(b impl.Block) bool { return b.Wear == 0 })
		wantPlace(t, "worn by 0 or 1", f, max(least, 0), 0, true)
	}
	for _, wears := range ordersOf([]int{1, 2, 3, 4, 5, 6}) {
		var f impl.Flash
		for _, wear := range wears {
			f.Blocks = append(f.Blocks, blockOf(wear))
		}
		wantPlace(t, "each worn otherwise", f, slices.Index(wears, 1), 0, true)
		wantPlace(t, "the least of them Bad", impl.MarkBad(f, slices.Index(wears, 1)), slices.Index(wears, 2), 0, true)
	}
}

// Wears that differ by one where a narrower number would turn round.
func TestPlaceOfFreeBlocksOfGreatWear(t *testing.T) {
	for bits := 1; 1<<bits <= impl.MaxNumber; bits++ {
		wear := 1 << bits
		wantPlace(t, "one less", flashOf(blockOf(wear), blockOf(wear-1), blockOf(wear)), 1, 0, true)
		wantPlace(t, "one more", flashOf(blockOf(wear+1), blockOf(wear+1), blockOf(wear)), 2, 0, true)
		wantPlace(t, "new", flashOf(blockOf(wear), blockOf(0), blockOf(impl.MaxNumber)), 1, 0, true)
	}
}

func TestNoPlaceWithoutRoom(t *testing.T) {
	for _, c := range []namedFlash{
		{"all full", flashOf(fullBlock(0, 4), fullBlock(1, 4), fullBlock(2, 4))},
		{"all torn", flashOf(tornBlock(0), tornBlock(0), tornBlock(0))},
		{"all Bad", flashOf(badBlock(blockOf(0)), badBlock(fullBlock(0, 1)), badBlock(fullBlock(0, 3)))},
		{"full, torn and Bad", flashOf(fullBlock(3, 4), tornBlock(2), badBlock(blockOf(0)), badBlock(fullBlock(0, 2)))},
	} {
		wantRoom(t, c.name, c.flash, room{open: -1})
	}
}

func TestRoomIsWhatIsBlank(t *testing.T) {
	for _, c := range []struct {
		name  string
		flash impl.Flash
		want  int
	}{
		{"blank", flashOf(), 12},
		{"one written", flashOf(fullBlock(0, 1)), 11},
		{"written to each place", flashOf(fullBlock(0, 1), fullBlock(0, 2), fullBlock(0, 3), fullBlock(0, 4), blockOf(0)), 10},
		{"torn", flashOf(tornBlock(0), blockOf(0, tornLeaf("")), blockOf(0, fullLeaf("a"), tornLeaf("b"))), 5},
		{"a Bad blank one", flashOf(badBlock(blockOf(0))), 8},
		{"a Bad one that is begun", flashOf(badBlock(fullBlock(0, 1)), fullBlock(0, 2)), 6},
		{"one left", flashOf(fullBlock(0, 4), fullBlock(0, 4), fullBlock(0, 3)), 1},
		{"worn", flashOf(blockOf(impl.MaxNumber), blockOf(7), fullBlock(1, 1)), 11},
	} {
		if got := impl.RoomOf(c.flash); got != c.want {
			t.Errorf("%s: RoomOf is %d, not %d", c.name, got, c.want)
		}
	}
}

// everyKindOfBlock has right blocks of each kind that chapter 7 tells apart.
func everyKindOfBlock() []impl.Block {
	kinds := []impl.Block{
		blockOf(0), blockOf(1),
		fullBlock(0, 1), fullBlock(2, 3), fullBlock(0, 4),
		blockOf(0, tornLeaf("")), tornBlock(1),
	}
	for _, kind := range slices.Clone(kinds) {
		kinds = append(kinds, badBlock(kind))
	}
	return kinds
}

// everyFlash has all orders of so many blocks of each kind.
func everyFlash(size int) []impl.Flash {
	out := []impl.Flash{{}}
	for range size {
		var longer []impl.Flash
		for _, f := range out {
			for _, kind := range everyKindOfBlock() {
				longer = append(longer, impl.Flash{Blocks: append(slices.Clone(f.Blocks), kind)})
			}
		}
		out = longer
	}
	return out
}

func TestRoomOfAllOrdersOfBlocks(t *testing.T) {
	for _, f := range slices.Concat(everyFlash(2), everyFlash(3)) {
		wantRoomByRule(t, "all orders", f)
	}
	for _, f := range everyFlash(4) {
		if got, want := roomTold(f), roomByRule(f); !got.same(want) {
			t.Fatalf("the room of %#v\nis  %+v\nnot %+v", f, got, want)
		}
	}
}

// wantPlaceTaken asks that there is a place just when there is room, that it is
// blank and the next one of its block, and that Program takes it; what is
// written there is answered.
func wantPlaceTaken(t *testing.T, f impl.Flash, text string) (impl.Flash, bool) {
	t.Helper()
	size := impl.RoomOf(f)
	b, leaf, ok := impl.PlaceOf(f)
	if ok != (size > 0) {
		t.Fatalf("room %d and a place %v in %#v", size, ok, f)
	}
	if !ok {
		return f, false
	}
	block := f.Blocks[b]
	if block.Bad || block.Leaves[leaf] != blankLeaf() || leaf != impl.NextBlank(block) {
		t.Fatalf("%d, %d is no place to write in %#v", b, leaf, f)
	}
	after, taken := impl.Program(f, b, leaf, text)
	if !taken {
		t.Fatalf("Program does not take %d, %d of %#v", b, leaf, f)
	}
	if left := impl.RoomOf(after); left != size-1 {
		t.Fatalf("room was %d and is %d behind a leaf that is written in %#v", size, left, f)
	}
	return after, true
}

func TestPlacesAreTakenUntilThereIsNoRoom(t *testing.T) {
	flashes := rightFlashes()
	for _, f := range everyFlash(3) {
		flashes = append(flashes, namedFlash{"all orders", f})
	}
	for n := 3; n <= impl.MaxBlocks; n++ {
		f, _ := impl.FlashNew(n)
		flashes = append(flashes, namedFlash{"new", f})
	}
	for _, c := range flashes {
		f, count := c.flash, 0
		for {
			after, taken := wantPlaceTaken(t, f, mixedText(count%impl.PageSize+1))
			if !taken {
				break
			}
			f, count = after, count+1
		}
		if want := impl.RoomOf(c.flash); count != want {
			t.Errorf("%s: %d leaves were written where there was room for %d", c.name, count, want)
		}
		wantRoom(t, c.name+", written full", f, room{open: -1})
	}
}

func TestPlacesOfANewFlashGoBlockByBlock(t *testing.T) {
	f := flashOf(blockOf(3), blockOf(1), blockOf(2), blockOf(1))
	for _, b := range []int{1, 3, 2, 0} {
		for leaf := range impl.PagesPer {
			wantPlace(t, "block by block", f, b, leaf, true)
			f, _ = wantPlaceTaken(t, f, "x")
		}
	}
	wantPlace(t, "written full", f, 0, 0, false)
}

func TestAWipedBlockIsFreeAgain(t *testing.T) {
	f := flashOf(fullBlock(1, 4), fullBlock(0, 4), fullBlock(2, 4))
	for _, c := range []struct {
		wipe int
		want room
	}{
		{2, room{free: []int{2}, open: -1, block: 2, placed: true, room: 4}},
		{0, room{free: []int{0, 2}, open: -1, block: 0, placed: true, room: 8}},
		{1, room{free: []int{0, 1, 2}, open: -1, block: 1, placed: true, room: 12}},
	} {
		f, _ = impl.Wipe(f, c.wipe)
		wantRoom(t, "wiped", f, c.want)
	}
}

func TestABlockThatGoesBadHasNoRoom(t *testing.T) {
	f := flashOf(fullBlock(0, 1), fullBlock(0, 2), blockOf(4), blockOf(3))
	wantRoom(t, "none Bad", f, room{free: []int{2, 3}, open: 0, leaf: 1, placed: true, room: 13})
	for b, want := range []room{
		{free: []int{2, 3}, open: 1, block: 1, leaf: 2, placed: true, room: 10},
		{free: []int{2, 3}, open: -1, block: 3, placed: true, room: 8},
		{free: []int{3}, open: -1, block: 3, placed: true, room: 4},
		{open: -1},
	} {
		f = impl.MarkBad(f, b)
		wantRoom(t, "gone Bad", f, want)
	}
}

func TestRoomOfRightFlashes(t *testing.T) {
	for _, c := range rightFlashes() {
		wantRoomByRule(t, c.name, c.flash)
	}
}

// A flash that is not right has no place; all else asks for no right flash.
func TestRoomOfWrongFlashes(t *testing.T) {
	for _, c := range wrongFlashes() {
		wantPlace(t, c.name, c.flash, 0, 0, false)
		wantRoomByRule(t, c.name, c.flash)
	}
}

func TestRoomOfWrongFlashesIsToldByTheirLeaves(t *testing.T) {
	five := slices.Repeat([]impl.Leaf{blankLeaf()}, 5)
	notEmpty := impl.Leaf{Is: impl.Blank, Text: "b"}
	for _, c := range []struct {
		name  string
		flash impl.Flash
		want  room
	}{
		{"no blocks", impl.Flash{}, room{open: -1}},
		{"two blank blocks", impl.Flash{Blocks: []impl.Block{blockOf(0), blockOf(0)}}, room{free: []int{0, 1}, open: -1, room: 8}},
		{"one begun block", impl.Flash{Blocks: []impl.Block{fullBlock(0, 1)}}, room{open: 0, room: 3}},
		{"too many blocks", impl.Flash{Blocks: slices.Repeat([]impl.Block{fullBlock(0, 3)}, 11)}, room{open: 0, room: 11}},
		{"no leaf that is not blank", flashOf(impl.Block{}, fullBlock(0, 4), fullBlock(0, 4)), room{free: []int{0}, open: -1}},
		{"five blank leaves", flashOf(impl.Block{Leaves: five}, fullBlock(0, 4), fullBlock(0, 4)), room{free: []int{0}, open: -1, room: 5}},
		{"a fifth leaf that is blank", flashOf(impl.Block{Leaves: append(fullBlock(0, 4).Leaves, blankLeaf())}, fullBlock(0, 4), fullBlock(0, 4)), room{open: 0, room: 1}},
		{"blank ahead of a Full one", flashOf(blockOf(0, blankLeaf(), fullLeaf("b")), fullBlock(0, 4), fullBlock(0, 4)), room{open: 0, room: 3}},
		{"blank ahead of three Torn ones", flashOf(blockOf(0, blankLeaf(), tornLeaf(""), tornLeaf(""), tornLeaf("")), fullBlock(0, 4), fullBlock(0, 4)), room{open: 0, room: 1}},
		{"blank and not empty", flashOf(blockOf(0, notEmpty, notEmpty), fullBlock(0, 4), fullBlock(0, 4)), room{free: []int{0}, open: -1, room: 4}},
		{"leaves of no state", flashOf(blockOf(0, impl.Leaf{Is: -1}, impl.Leaf{Is: 3}), fullBlock(0, 4), fullBlock(0, 4)), room{open: 0, room: 2}},
		{"Wear beyond its limits", flashOf(blockOf(math.MinInt), blockOf(math.MaxInt), fullBlock(-1, 1)), room{free: []int{0, 1}, open: 2, room: 11}},
		{"wrong and Bad", flashOf(badBlock(impl.Block{}), badBlock(blockOf(-1)), badBlock(impl.Block{Leaves: five})), room{open: -1}},
	} {
		wantRoom(t, c.name, c.flash, c.want)
	}
}

func TestFreeBlocksAnswersAreTheirOwn(t *testing.T) {
	f := flashOf(blockOf(1), blockOf(0), fullBlock(0, 4))
	first, second := impl.FreeBlocks(f), impl.FreeBlocks(f)
	if sharesList(first, second) {
		t.Error("two answers of FreeBlocks stand in one memory")
	}
	first[0], first[1] = 7, 7
	wantRoom(t, "written into an answer", f, room{free: []int{0, 1}, open: -1, block: 1, placed: true, room: 8})
}

// A drawn life: leaves are written where there is a place, or torn there, and
// blocks are wiped or go Bad.
func TestDrawnLifeOfRoom(t *testing.T) {
	f, _ := impl.FlashNew(6)
	draws := mixedText(6000)
	for ; len(draws) > 2; draws = draws[3:] {
		b := int(draws[1]) % len(f.Blocks)
		switch {
		case draws[0] == 0:
			f = impl.MarkBad(f, b)
		case draws[0] < 50:
			f, _ = impl.Wipe(f, b)
		case draws[0] < 70:
			if b, leaf, ok := impl.PlaceOf(f); ok {
				f = withLeaf(f, b, leaf, tornLeaf(""))
			}
		default:
			f, _ = wantPlaceTaken(t, f, mixedText(int(draws[2])%impl.PageSize+1))
		}
		if got, want := roomTold(f), roomByRule(f); !got.same(want) || !impl.FlashOk(f) {
			t.Fatalf("the room of %#v\nis  %+v\nnot %+v", f, got, want)
		}
	}
}
