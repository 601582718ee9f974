package tests

import (
	"fmt"
	"math"
	"slices"
	"strings"
	"testing"

	"loop.example/g00195/impl"
)

// Promise 17: what is cleaned changes no volume.

func baseStepsByRule(d impl.Device) ([]impl.Step, bool) {
	return writeByRule(d, baseRecsByRule(d.Store), "")
}

func deadByRule(d impl.Device) []int {
	var out []int
	for b, block := range d.Flash.Blocks {
		if !block.Bad && slices.ContainsFunc(block.Leaves, isWritten) && neededByRule(d.Flash, d.Store, d.Base, b) == 0 {
			out = append(out, b)
		}
	}
	return out
}

func victimByRule(d impl.Device) int {
	victim, least := -1, 4
	for b, block := range d.Flash.Blocks {
		if block.Bad || slices.ContainsFunc(block.Leaves, isBlank) {
			continue
		}
		needed, chunks := neededByRule(d.Flash, d.Store, d.Base, b), neededByRule(d.Flash, d.Store, 1000000000, b)
		if needed == chunks && needed >= 1 && needed < least {
			victim, least = b, needed
		}
	}
	return victim
}

// moveByRule goes through the leaves of the block one by one. A block that is none
// has no leaves.
func moveByRule(d impl.Device, b int) ([]impl.Step, bool) {
	if b < 0 || b >= len(d.Flash.Blocks) {
		return nil, true
	}
	f, live := d.Flash, chunksByRule(d.Store)
	var out []impl.Step
	for i, leaf := range d.Flash.Blocks[b].Leaves {
		page, ok := readPageByRule(leaf.Text)
		if !ok || leaf.Is != 1 || page.Kind != 1 || !slices.Contains(live, page.Tx) {
			continue
		}
		if newest, _ := newestByRule(d.Flash, page.Tx); newest.Block != b || newest.Leaf != i {
			continue
		}
		page.Seq = d.Seq + len(out)
		place := roomByRule(f)
		if !place.placed || place.block == b || !pageRightByRule(page) {
			return nil, false
		}
		out = append(out, programStep(place.block, place.leaf, pageBytes(page)))
		f, _ = programByRule(f, place.block, place.leaf, pageBytes(page))
	}
	return out, true
}

func standsOnBaseByRule(d impl.Device) bool {
	for _, tx := range gatherByRule(scanByRule(d.Flash)) {
		if tx.Num == d.Base {
			return len(tx.Recs) > 0 && tx.Recs[0].Kind == 1
		}
	}
	return false
}

func cleanByRule(d impl.Device) ([]impl.Step, bool) {
	if dead := deadByRule(d); len(dead) > 0 {
		return []impl.Step{wipeStep(dead[0])}, true
	}
	if d.Base != d.Tx-1 || !standsOnBaseByRule(d) {
		return baseStepsByRule(d)
	}
	if victim := victimByRule(d); victim >= 0 {
		return moveByRule(d, victim)
	}
	return nil, false
}

// cleanAllByRule also has the device behind each cleaning, the first of them behind
// none.
func cleanAllByRule(d impl.Device, most int) ([]impl.Device, []impl.Step) {
	behind := []impl.Device{d}
	var all []impl.Step
	for count := 0; count < most && count < 20 && roomByRule(d.Flash).room < 12; count++ {
		steps, ok := cleanByRule(d)
		if !ok {
			break
		}
		d = stepsAllByRule(d, steps)
		behind, all = append(behind, d), append(all, steps...)
	}
	return behind, all
}

// wantTold asks twice for steps, and spoils what was told first in between. The
// device has to be as it was.
func wantTold(t *testing.T, what string, d impl.Device, call func(impl.Device) ([]impl.Step, bool), want []impl.Step, wantOk bool) {
	t.Helper()
	keepsDevice(t, what, d, func(d impl.Device) string {
		first, ok := call(d)
		if !slices.Equal(first, want) || ok != wantOk {
			t.Errorf("%s on %#v\nis  %#v, %v\nnot %#v, %v", what, d, first, ok, want, wantOk)
		}
		wantOwnTexts(t, what, d, "", first)
		all := first[:cap(first)]
		for i := range all {
			all[i] = wipeStep(-7)
		}
		again, ok := call(d)
		if !slices.Equal(again, want) || ok != wantOk || sharesList(first, again) {
			t.Errorf("%s, again, on %#v\nis  %#v, %v\nnot %#v, %v", what, d, again, ok, want, wantOk)
		}
		return ""
	})
}

func wantBaseSteps(t *testing.T, why string, d impl.Device, want []impl.Step, wantOk bool) {
	t.Helper()
	wantTold(t, why+": BaseSteps", d, impl.BaseSteps, want, wantOk)
}

func wantBaseStepsByRule(t *testing.T, why string, d impl.Device) bool {
	t.Helper()
	want, ok := baseStepsByRule(d)
	wantBaseSteps(t, why, d, want, ok)
	return ok
}

func wantDead(t *testing.T, why string, d impl.Device, want ...int) {
	t.Helper()
	keepsDevice(t, why+": DeadBlocks", d, func(d impl.Device) string {
		first := impl.DeadBlocks(d)
		if !slices.Equal(first, want) {
			t.Errorf("%s: DeadBlocks of %#v is %v, not %v", why, d, first, want)
		}
		for i := range first[:cap(first)] {
			first[:cap(first)][i] = -7
		}
		if again := impl.DeadBlocks(d); !slices.Equal(again, want) || sharesList(first, again) {
			t.Errorf("%s: DeadBlocks of %#v, again, is %v, not %v", why, d, again, want)
		}
		return ""
	})
}

func wantVictim(t *testing.T, why string, d impl.Device, want int) {
	t.Helper()
	keepsDevice(t, why+": VictimOf", d, func(d impl.Device) string {
		if got := impl.VictimOf(d); got != want {
			t.Errorf("%s: VictimOf %#v is %d, not %d", why, d, got, want)
		}
		return ""
	})
}

func wantMove(t *testing.T, why string, d impl.Device, b int, want []impl.Step, wantOk bool) {
	t.Helper()
	call := func(d impl.Device) ([]impl.Step, bool) { return impl.MoveSteps(d, b) }
	wantTold(t, fmt.Sprintf("%s: MoveSteps of block %d", why, b), d, call, want, wantOk)
}

func refusesToMove(t *testing.T, why string, d impl.Device, b int) {
	t.Helper()
	wantMove(t, why, d, b, nil, false)
	if _, ok := moveByRule(d, b); ok {
		t.Errorf("%s: by rule block %d is moved", why, b)
	}
}

// wantMoved asks for places and pages, so that the rule alone doesn't decide; and for
// the rule.
func wantMoved(t *testing.T, why string, d impl.Device, b int, places []placed, pages ...impl.Page) {
	t.Helper()
	want, ok := moveByRule(d, b)
	if !ok || !slices.Equal(placesOf(want), places) || !slices.Equal(pagesIn(t, want), pages) {
		t.Errorf("%s: by rule block %d is moved by %#v, %v", why, b, want, ok)
	}
	wantMove(t, why, d, b, want, true)
}

func wantMovesByRule(t *testing.T, why string, d impl.Device) {
	t.Helper()
	for _, b := range placesBeside(len(d.Flash.Blocks)) {
		want, ok := moveByRule(d, b)
		wantMove(t, why, d, b, want, ok)
	}
}

func wantClean(t *testing.T, why string, d impl.Device, want []impl.Step, wantOk bool) {
	t.Helper()
	wantTold(t, why+": CleanOne", d, impl.CleanOne, want, wantOk)
}

func wantCleanByRule(t *testing.T, why string, d impl.Device) {
	t.Helper()
	want, ok := cleanByRule(d)
	wantClean(t, why, d, want, ok)
}

func wantCleanAll(t *testing.T, why string, d impl.Device, most int, want impl.Device, wantSteps []impl.Step) {
	t.Helper()
	what := fmt.Sprintf("%s: CleanAll of %d", why, most)
	var got impl.Device
	wantTold(t, what, d, func(given impl.Device) (steps []impl.Step, ok bool) {
		got, steps = impl.CleanAll(given, most)
		if sharesFlash(got.Flash, given.Flash) || sharesStore(got.Store, given.Store) || !ownLists(got.Flash) {
			t.Errorf("%s answers memory of the device, or two lists in one memory", what)
		}
		wantOwnTexts(t, what, got, "", steps)
		return steps, true
	}, wantSteps, true)
	wantOwnLists(t, got.Store.Arena)
	if !sameDevice(got, want) {
		t.Errorf("%s of %#v\nis  %#v\nnot %#v", what, d, got, want)
	}
}

// wantCleanAllByRule answers how many cleanings there are by rule.
func wantCleanAllByRule(t *testing.T, why string, d impl.Device, most int) int {
	t.Helper()
	behind, steps := cleanAllByRule(d, most)
	wantCleanAll(t, why, d, most, behind[len(behind)-1], steps)
	return len(behind) - 1
}

func wantWipingByRule(t *testing.T, why string, d impl.Device) {
	t.Helper()
	wantBaseStepsByRule(t, why, d)
	wantDead(t, why, d, deadByRule(d)...)
	wantVictim(t, why, d, victimByRule(d))
	wantMovesByRule(t, why, d)
	wantCleanByRule(t, why, d)
	for _, most := range []int{-1, 1, 20} {
		wantCleanAllByRule(t, why, d, most)
	}
}

// wantSameVolumes asks for the same volumes, and for the text of each of their chunks.
func wantSameVolumes(t *testing.T, why string, old, got impl.Device) {
	t.Helper()
	if !impl.SameStore(got.Store, old.Store) {
		t.Errorf("%s: %#v came up, and was %#v", why, got, old)
	}
	for _, chunk := range impl.LiveOf(old.Store) {
		text, ok := impl.ChunkText(got.Flash, chunk)
		if was, wasOk := impl.ChunkText(old.Flash, chunk); text != was || ok != wasOk {
			t.Errorf("%s: chunk %d is %q, %v, and was %q, %v", why, chunk, text, ok, was, wasOk)
		}
	}
}

// wantKeptVolumes asks for the volumes of a device, and for the text of each chunk that
// they have, behind each step and where it is torn.
func wantKeptVolumes(t *testing.T, why string, d impl.Device, steps []impl.Step) {
	t.Helper()
	for whole := range len(steps) + 1 {
		for _, torn := range []bool{false, true} {
			f, ok := impl.CutSteps(d.Flash, steps, whole, torn)
			got, isUp := impl.MountAll(f)
			if !ok || !isUp {
				t.Fatalf("%s: %d of %#v can't be done on %#v", why, whole, steps, d)
			}
			wantSameVolumes(t, fmt.Sprintf("%s, %d steps, torn %v", why, whole, torn), d, got)
		}
	}
}

// upFrom came up from these blocks, and blank ones behind them up to 3.
func upFrom(t *testing.T, blocks ...impl.Block) impl.Device {
	t.Helper()
	d, ok := impl.MountAll(flashOf(blocks...))
	if !ok || !impl.DeviceOk(d) {
		t.Fatalf("%#v came up", d)
	}
	return d
}

// baseLeaf is a base, transaction 9 of Seq 50, by which volume 1 has these chunks in
// its first sectors.
func baseLeaf(chunks ...int) impl.Leaf {
	recs := []impl.Rec{baseRec(120), volRec(1, 0)}
	for sector, chunk := range chunks {
		recs = append(recs, putRec(1, sector, chunk))
	}
	return txLeaves(50, 9, recs...)[0]
}

// junk is a leaf that is not needed.
func junk() impl.Leaf { return fullLeaf("no page") }

// filled has junk behind these leaves, so that none is blank.
func filled(leaves ...impl.Leaf) impl.Block {
	for len(leaves) < impl.PagesPer {
		leaves = append(leaves, junk())
	}
	return blockOf(0, leaves...)
}

func TestNamesOfWiping(t *testing.T) {
	if impl.Spare != 8 {
		t.Errorf("Spare is %d", impl.Spare)
	}
}

func TestWipesByHand(t *testing.T) {
	d := newDevice(t, 3)
	first := []impl.Step{programStep(0, 0, sealedByRule("\x02\x01\x01\x00\x01\x10\x01\x00"))}
	wantBaseSteps(t, "nothing", d, first, true)
	wantClean(t, "nothing", d, first, true)
	d = upFrom(t,
		filled(chunkLeaf(2, 3, "c"), fullLeaf(sealedByRule("\x02\x04\x01\x00\x01\x22\x00\x00\x42\x05\x03"))),
		filled(chunkLeaf(3, 2, "gone"), junk(), junk(), chunkLeaf(1, 1, "gone, too")))
	wantDead(t, "by hand", d, 1)
	wantClean(t, "a dead block", d, []impl.Step{wipeStep(1)}, true)
	d = impl.StepsAll(d, []impl.Step{wipeStep(1)})
	base := []impl.Step{programStep(2, 0, sealedByRule("\x02\x05\x02\x00\x01\x10\x04\x00\x22\x00\x00\x42\x05\x03"))}
	wantClean(t, "no base", d, base, true)
	d = impl.StepsAll(d, base)
	wantVictim(t, "by hand", d, 0)
	move := []impl.Step{programStep(2, 1, sealedByRule("\x01\x06\x03\x00\x01rc"))}
	wantMove(t, "by hand", d, 0, move, true)
	wantClean(t, "a victim", d, move, true)
	d = impl.StepsAll(d, move)
	wantClean(t, "what was moved", d, []impl.Step{wipeStep(0)}, true)
	d = impl.StepsAll(d, []impl.Step{wipeStep(0)})
	wantClean(t, "clean", d, nil, false)
	wantReadOf(t, "clean", d, 2, 5, "c", true)
	if numbersOf(d) != [3]int{7, 3, 2} || impl.RoomOf(d.Flash) != 10 || !impl.DeviceOk(d) {
		t.Errorf("%#v came up", d)
	}
}

// manyChunks are records that give three volumes 16 chunks each; the base of them
// has three pages.
func manyChunks() []impl.Rec {
	var recs []impl.Rec
	for vol := 1; vol <= 3; vol++ {
		recs = append(recs, volRec(vol, 0))
		for sector := range 16 {
			recs = append(recs, putRec(vol, sector, 1000*vol+sector))
		}
	}
	return recs
}

func TestBaseStepsWriteTheRecordsOfTheBase(t *testing.T) {
	for _, c := range []struct {
		name  string
		recs  []impl.Rec
		want  []impl.Rec
		pages int
	}{
		{"nothing", nil, []impl.Rec{baseRec(1)}, 1},
		{"a volume", []impl.Rec{volRec(4, 0)}, []impl.Rec{baseRec(1), volRec(4, 0)}, 1},
		{"a volume that is gone", []impl.Rec{volRec(4, 0), putRec(4, 1, 7), dropRec(4)}, []impl.Rec{baseRec(8)}, 1},
		{"a copy", []impl.Rec{volRec(4, 0), putRec(4, 15, 7), volRec(2, 4), trimRec(4, 15)},
			[]impl.Rec{baseRec(8), volRec(2, 0), putRec(2, 15, 7), volRec(4, 0)}, 1},
		{"many chunks", manyChunks(), slices.Concat([]impl.Rec{baseRec(3016)}, manyChunks()), 3},
	} {
		d := cameUp(t, txLeaves(30, 7, c.recs...))
		want := wantStepsOf(t, c.name, d, c.want, "", c.pages)
		wantBaseSteps(t, c.name, d, want, true)
		up := impl.StepsAll(d, want)
		if !impl.SameStore(up.Store, d.Store) || up.Base != 8 || up.Tx != 9 || up.Seq != d.Seq+c.pages || !impl.DeviceOk(up) {
			t.Errorf("%s: behind the base %#v came up", c.name, up)
		}
		wantBaseSteps(t, c.name+", again", up, wantStepsOf(t, c.name, up, c.want, "", c.pages), true)
	}
}

// Three pages with room for all, for some of them and for none.
func TestBaseStepsByTheRoom(t *testing.T) {
	s := made(t, manyChunks()...)
	for blocks := 3; blocks <= impl.MaxBlocks; blocks++ {
		for room := range 9 {
			for _, bad := range []int{0, 1, 3} {
				f := withRoom(blocks, room)
				for range min(bad, impl.MaxBlocks-blocks) {
					f.Blocks = append(f.Blocks, badBlock(blockOf(0)))
				}
				d := deviceOf(f, s, 5, 3, 1)
				if ok := wantBaseStepsByRule(t, "by the room", d); ok != (room >= 3) {
					t.Errorf("in %d leaves the base is %v", room, ok)
				}
			}
		}
	}
}

func TestBaseStepsOfNumbersAtTheirLimits(t *testing.T) {
	s := made(t, manyChunks()...)
	for _, n := range numbersAround() {
		seq, tx := deviceOf(flashOf(), s, n, 3, 1), deviceOf(flashOf(), s, 5, n, 1)
		if ok := wantBaseStepsByRule(t, "Seq", seq); ok != (n >= 1 && n <= impl.MaxNumber-2) {
			t.Errorf("with Seq %d the base is %v", n, ok)
		}
		if ok := wantBaseStepsByRule(t, "Tx", tx); ok != (n >= 1 && n <= impl.MaxNumber) {
			t.Errorf("with Tx %d the base is %v", n, ok)
		}
		wantBaseStepsByRule(t, "Base", deviceOf(flashOf(), s, 5, 3, n))
	}
}

func TestBaseStepsOfRightAndWrongStores(t *testing.T) {
	for _, c := range slices.Concat(rightStores(), wrongStores()) {
		ok := wantBaseStepsByRule(t, c.name, deviceOf(flashOf(), c.store, 5, 3, 1))
		if !ok && storeRightByRule(c.store) {
			t.Errorf("%s: there is no base", c.name)
		}
	}
}

// deadKinds are blocks beside a base that is transaction 9; chunks 1, 2 and 4 live, of
// 2 there is a page of Seq 30 elsewhere.
func deadKinds() []struct {
	name   string
	block  impl.Block
	isDead bool
} {
	lives, gone := chunkLeaf(20, 1, "lives"), chunkLeaf(21, 3, "gone")
	old, ahead := chunkLeaf(3, 2, "old"), metaLeaf(40, 8)
	part := leafOf(metaPage(60, 10, 0, 2, recBytes(dropRec(1))))
	return []struct {
		name   string
		block  impl.Block
		isDead bool
	}{
		{"blank", blockOf(0), false},
		{"blank and worn", blockOf(impl.MaxNumber), false},
		{"one leaf, no page", blockOf(0, junk()), true},
		{"three leaves, no page", fullBlock(0, 3), true},
		{"four leaves, no page", fullBlock(3, 4), true},
		{"worn out", fullBlock(impl.MaxNumber, 4), true},
		{"a torn leaf", blockOf(0, tornLeaf("")), true},
		{"torn leaves", blockOf(0, tornLeaf("x"), tornLeaf(lives.Text), tornLeaf(part.Text)), true},
		{"torn as a whole", tornBlock(5), true},
		{"a chunk that lives, begun", blockOf(0, lives), false},
		{"a chunk that lives, first", filled(lives), false},
		{"a chunk that lives, last", filled(junk(), gone, old, lives), false},
		{"a chunk that lives, behind a torn leaf", blockOf(0, tornLeaf(""), lives), false},
		{"a chunk that lives and can't be unpacked", blockOf(0, packedLeaf(22, 4, "no packed text")), false},
		{"an elder page", blockOf(0, old), true},
		{"elder pages", filled(old, old, old, old), true},
		{"a newer page", blockOf(0, chunkLeaf(31, 2, "new")), false},
		{"a chunk that nothing has", blockOf(0, gone), true},
		{"chunks that nothing has", filled(gone, chunkLeaf(22, 5, "x"), chunkLeaf(23, 8, "x"), chunkLeaf(24, 119, "x")), true},
		{"a chunk with the number of the base", blockOf(0, chunkLeaf(25, 9, "x")), true},
		{"a transaction ahead of the base", blockOf(0, ahead), true},
		{"all of transactions ahead of the base", filled(ahead, metaLeaf(41, 1), metaLeaf(42, 7), metaLeaf(43, 8)), true},
		{"a base ahead of the base", blockOf(0, txLeaves(44, 8, baseRec(4))...), true},
		{"the base again", blockOf(0, baseLeaf(1, 2, 4)), false},
		{"a transaction since the base", blockOf(0, txLeaves(61, 10, trimRec(1, 9))...), false},
		{"one since the base that is refused", blockOf(0, txLeaves(61, 10, dropRec(7))...), false},
		{"one since the base that is not whole", blockOf(0, part), false},
		{"one since the base, last", filled(old, gone, ahead, part), false},
		{"one far behind the base", blockOf(0, leafOf(metaPage(2, impl.MaxNumber, 8, 9, ""))), false},
		{"all that is not needed", blockOf(0, tornLeaf("x"), old, ahead, gone), true},
		{"all that is not needed, begun", blockOf(0, gone, ahead, old), true},
	}
}

func TestDeadBlocksOfEachKind(t *testing.T) {
	needed := blockOf(0, baseLeaf(1, 2, 4), chunkLeaf(30, 2, "two"))
	for _, c := range deadKinds() {
		for place := range 4 {
			blocks := slices.Insert([]impl.Block{needed, blockOf(0), badBlock(fullBlock(0, 4))}, place, c.block)
			var want []int
			if c.isDead {
				want = []int{place}
			}
			d := upFrom(t, blocks...)
			wantDead(t, c.name, d, want...)
			wantDead(t, c.name+", by rule", d, deadByRule(d)...)
			blocks[place] = badBlock(c.block)
			wantDead(t, c.name+", Bad", upFrom(t, blocks...))
		}
	}
}

// What is needed is asked for with Base: not with a later transaction, nor with none.
func TestDeadBlocksByTheBase(t *testing.T) {
	var blocks []impl.Block
	for tx := 1; tx <= 9; tx++ {
		blocks = append(blocks, blockOf(0, txLeaves(tx, tx, volRec(1, 0), dropRec(1))...))
	}
	for base := range 10 {
		with := slices.Clone(blocks)
		var want []int
		if base > 0 {
			with[base-1] = blockOf(0, txLeaves(base, base, baseRec(base))...)
			want = []int{0, 1, 2, 3, 4, 5, 6, 7, 8}[:base-1]
		}
		d := upFrom(t, with...)
		wantDead(t, fmt.Sprint("base ", base), d, want...)
		for _, other := range []int{math.MinInt, -1, 0, 1, 4, 9, 10, impl.MaxNumber, math.MaxInt} {
			d.Base = other
			wantDead(t, "another base", d, deadByRule(d)...)
		}
	}
	// Without any transaction that is whole each page of one is needed.
	parts := upFrom(t, blockOf(0, leafOf(metaPage(1, 1, 0, 2, ""))), blockOf(0, leafOf(metaPage(2, 7, 1, 2, ""))), blockOf(0, chunkLeaf(3, 1, "x")))
	wantDead(t, "no base", parts, 2)
}

func TestDeadBlocksAscend(t *testing.T) {
	lives := []impl.Leaf{baseLeaf(1, 2, 3, 4, 5), chunkLeaf(1, 1, "a"), chunkLeaf(2, 2, "b"), chunkLeaf(3, 3, "c"), chunkLeaf(4, 4, "d"), chunkLeaf(5, 5, "e")}
	for mask := range 1 << 5 {
		blocks := []impl.Block{blockOf(0, lives[0])}
		var want []int
		for b := 1; b <= 5; b++ {
			if mask>>(b-1)&1 == 1 {
				blocks = append(blocks, fullBlock(9-b, b%4+1))
				want = append(want, b)
			} else {
				blocks = append(blocks, blockOf(b, lives[b]))
			}
		}
		wantDead(t, "some of five", upFrom(t, blocks...), want...)
	}
}

// A victimKind makes the block at a place, where chunks from 10 times it on live, with
// as many chunks to move as count, 0 when it is no victim.
type victimKind struct {
	name  string
	count int
	block func(place int) impl.Block
}

func victimKinds() []victimKind {
	live := func(place, count int) []impl.Leaf {
		var out []impl.Leaf
		for i := range count {
			out = append(out, chunkLeaf(10*place+i+1, 10*place+i+1, fmt.Sprint("text ", place, i)))
		}
		return out
	}
	of := func(name string, victim, count int, more ...impl.Leaf) victimKind {
		return victimKind{name, victim, func(place int) impl.Block { return filled(append(live(place, count), more...)...) }}
	}
	part := leafOf(metaPage(60, 10, 0, 2, recBytes(dropRec(1))))
	return []victimKind{
		of("nothing", 0, 0),
		of("one chunk", 1, 1),
		of("two chunks, torn leaves", 2, 2, tornLeaf(""), tornLeaf(part.Text)),
		of("three chunks", 3, 3),
		of("four chunks", 0, 4),
		of("one chunk and what is not needed", 1, 1, metaLeaf(40, 8), chunkLeaf(41, 99, "gone"), metaLeaf(42, 1)),
		of("one chunk and the base", 0, 1, baseLeaf(victimChunks()...)),
		of("one chunk and a part since the base", 0, 1, part),
		{"one chunk, begun", 0, func(place int) impl.Block { return blockOf(0, live(place, 1)[0], junk(), junk()) }},
		{"one chunk, Bad", 0, func(place int) impl.Block { return badBlock(filled(live(place, 1)...)) }},
		{"blank", 0, func(int) impl.Block { return blockOf(0) }},
	}
}

func victimChunks() []int { return []int{1, 2, 3, 4, 11, 12, 13, 14, 21, 22, 23, 24} }

// All ways to lay these kinds on three places, the base behind them.
func TestVictimsOfAllKinds(t *testing.T) {
	kinds := victimKinds()
	base := blockOf(0, baseLeaf(victimChunks()...))
	for at := range len(kinds) * len(kinds) * len(kinds) {
		var blocks []impl.Block
		var names []string
		victim, least := -1, 4
		for place, unit := range []int{1, len(kinds), len(kinds) * len(kinds)} {
			kind := kinds[at/unit%len(kinds)]
			blocks, names = append(blocks, kind.block(place)), append(names, kind.name)
			if kind.count > 0 && kind.count < least {
				victim, least = place, kind.count
			}
		}
		d := upFrom(t, append(blocks, base)...)
		if got := impl.VictimOf(d); got != victim || got != victimByRule(d) {
			t.Errorf("VictimOf %v is %d, not %d", names, got, victim)
		}
	}
}

func TestVictimsByHand(t *testing.T) {
	base := baseLeaf(1, 2, 3, 4, 5, 6, 7, 8, 9)
	chunk := func(n int) impl.Leaf { return chunkLeaf(n, n, fmt.Sprint("text ", n)) }
	one, other := filled(chunk(1)), filled(junk(), junk(), junk(), chunk(2))
	two, three := filled(chunk(3), junk(), chunk(4)), filled(junk(), chunk(5), chunk(6), chunk(7))
	begun := blockOf(0, base)
	for _, c := range []struct {
		name   string
		blocks []impl.Block
		want   int
	}{
		{"none but the base", []impl.Block{begun}, -1},
		{"blank", nil, -1},
		{"one", []impl.Block{begun, one}, 1},
		{"three of four", []impl.Block{three, begun}, 0},
		{"the least is last", []impl.Block{three, two, begun, one}, 3},
		{"the least is first", []impl.Block{one, begun, two, three}, 0},
		{"the least is between", []impl.Block{begun, two, one, three}, 2},
		{"the first of two alike", []impl.Block{begun, two, one, other}, 2},
		{"the first of two alike, the other way round", []impl.Block{other, two, begun, one}, 0},
		{"the least is not needed at all", []impl.Block{begun, two, filled()}, 1},
		{"all are needed", []impl.Block{begun, filled(chunk(1), chunk(2), chunk(3), chunk(4))}, -1},
		{"the base among chunks", []impl.Block{filled(base, chunk(1)), two}, 1},
		{"the base alone", []impl.Block{filled(base)}, -1},
		{"Wear doesn't count", []impl.Block{begun, blockOf(9, two.Leaves...), blockOf(0, three.Leaves...)}, 1},
		{"an elder page is none", []impl.Block{begun, filled(chunkLeaf(4, 3, "old"), chunkLeaf(5, 5, "x")), filled(chunkLeaf(6, 3, "new"), chunkLeaf(7, 4, "y"))}, 1},
		{"as many pages, one chunk", []impl.Block{begun, filled(chunkLeaf(4, 3, "a"), chunkLeaf(5, 3, "b"), chunkLeaf(6, 3, "c")), two}, 1},
		{"a chunk since the base", []impl.Block{blockOf(0, base, txLeaves(60, 10, trimRec(1, 0))[0]), one, two}, 2},
	} {
		d := upFrom(t, c.blocks...)
		wantVictim(t, c.name, d, c.want)
		wantVictim(t, c.name+", by rule", d, victimByRule(d))
		for b, block := range c.blocks {
			bad := upFrom(t, c.blocks...)
			bad.Flash.Blocks[b] = badBlock(block)
			want := c.want
			if b == want {
				want = victimByRule(bad)
			}
			wantVictim(t, c.name+", one Bad", bad, want)
		}
	}
	none := upFrom(t, blockOf(0, tornLeaf("")), filled(chunk(1), chunk(2)))
	wantVictim(t, "no base", none, -1)
}

// What is told of Base counts, wherever the transactions are.
func TestVictimsByTheBase(t *testing.T) {
	d := upFrom(t, filled(metaLeaf(1, 3), chunkLeaf(2, 1, "a"), chunkLeaf(3, 2, "b")), filled(metaLeaf(4, 5), chunkLeaf(5, 3, "c"), chunkLeaf(6, 4, "d"), chunkLeaf(7, 5, "e")),
		blockOf(0, baseLeaf(1, 2, 3, 4, 5)))
	for base, want := range map[int]int{math.MinInt: -1, -1: -1, 0: -1, 3: -1, 4: 0, 5: 0, 6: 0, 9: 0, impl.MaxNumber: 0, math.MaxInt: 0} {
		d.Base = base
		wantVictim(t, fmt.Sprint("base ", base), d, want)
	}
	d.Store = made(t, volRec(1, 0), putRec(1, 0, 3), putRec(1, 1, 4))
	for base, want := range map[int]int{0: -1, 3: -1, 4: -1, 5: -1, 6: 1, 9: 1, impl.MaxNumber: 1} {
		d.Base = base
		wantVictim(t, fmt.Sprint("another store, base ", base), d, want)
	}
}

// moving has on its first block chunks 5 and 1, in this order, an elder page of 3 and
// a chunk that nothing has; Seq is 52.
func moving(t *testing.T) impl.Device {
	t.Helper()
	return upFrom(t,
		blockOf(4, chunkLeaf(22, 5, strings.Repeat("ab", 32)), chunkLeaf(23, 3, "old"), chunkLeaf(24, 7, "gone"), chunkLeaf(21, 1, "")),
		blockOf(0, baseLeaf(1, 3, 5, 6, 1, 5), chunkLeaf(51, 3, "three")),
		blockOf(2, packedLeaf(20, 6, "no packed text"), metaLeaf(19, 3), tornLeaf("x"), junk()),
		blockOf(1))
}

func TestMovesOfEachBlock(t *testing.T) {
	d := moving(t)
	five, one := dataPage(52, 5, packByRule(strings.Repeat("ab", 32))), dataPage(53, 1, "r")
	wantMoved(t, "two chunks", d, 0, []placed{{1, 2}, {1, 3}}, five, one)
	refusesToMove(t, "the place is in the block", d, 1)
	wantMoved(t, "a chunk that can't be unpacked", d, 2, []placed{{1, 2}}, dataPage(52, 6, "no packed text"))
	for _, b := range []int{3, 4, 5, -1, -2, -4, math.MinInt, 258, 1 << 32, math.MaxInt} {
		wantMoved(t, "nothing, or no block", d, b, nil)
	}
	wantMovesByRule(t, "each block", d)
	for b := range d.Flash.Blocks {
		bad := d
		bad.Flash = impl.MarkBad(d.Flash, b)
		wantMovesByRule(t, "each block, one Bad", bad)
	}
	bad := d
	bad.Flash = impl.MarkBad(d.Flash, 1)
	wantMoved(t, "from a Bad block", bad, 1, []placed{{3, 0}}, dataPage(52, 3, "rthree"))
}

// Leaves are gone through in order, whatever their chunks' numbers and Seqs are.
func TestMovesInTheOrderOfTheLeaves(t *testing.T) {
	for _, chunks := range ordersOf([]int{2, 9, 100, 119}) {
		for _, seqs := range ordersOf([]int{3, 30, 300}) {
			var leaves []impl.Leaf
			var pages []impl.Page
			for i, chunk := range chunks {
				text := fmt.Sprint("text of ", chunk)
				leaves = append(leaves, chunkLeaf(slices.Concat(seqs, []int{31})[i], chunk, text))
				pages = append(pages, dataPage(301+i, chunk, packByRule(text)))
			}
			for at := range 3 {
				others := []impl.Block{blockOf(0), blockOf(0, baseLeaf(2, 9, 100, 119), junk())}
				d := upFrom(t, slices.Insert(others, at, blockOf(0, leaves...))...)
				// The block itself stands ahead of them, between them or behind them.
				places := [][]placed{{{2, 2}, {2, 3}, {1, 0}, {1, 1}}, {{2, 2}, {2, 3}, {0, 0}, {0, 1}}, {{1, 2}, {1, 3}, {0, 0}, {0, 1}}}[at]
				wantMoved(t, "in order", d, at, places, pages...)
			}
		}
	}
}

// What nothing has any more is left behind, and of what lives only the newest page is
// moved.
func TestMovesOfWhatLives(t *testing.T) {
	block := blockOf(0, chunkLeaf(11, 1, "one"), chunkLeaf(12, 2, "two"), chunkLeaf(13, 3, "three"), chunkLeaf(14, 4, "four"))
	for mask := range 1 << 4 {
		var live, rest []int
		var pages []impl.Page
		var places []placed
		var newer []impl.Leaf
		for i, leaf := range block.Leaves {
			page, _ := impl.ReadPage(leaf.Text)
			if mask>>i&1 == 0 {
				rest = append(rest, i+1)
				newer = append(newer, chunkLeaf(20+i, i+1, "newer"))
				continue
			}
			live = append(live, i+1)
			page.Seq = 51 + len(pages)
			places = append(places, placed{2, len(pages) + 1})
			pages = append(pages, page)
		}
		if len(pages) == 4 {
			places[3] = placed{1, 0}
		}
		// Nothing has the others any more.
		d := upFrom(t, block, blockOf(0), blockOf(0, baseLeaf(live...)))
		wantMoved(t, fmt.Sprint("live are ", live), d, 0, places, pages...)
		// Of the others there are newer pages elsewhere.
		d = upFrom(t, block, blockOf(0), blockOf(0, baseLeaf(append(live, rest...)...)), filled(newer...))
		wantMoved(t, fmt.Sprint("elder are ", rest), d, 0, places, pages...)
	}
	same := upFrom(t, filled(chunkLeaf(11, 1, "a"), chunkLeaf(13, 1, "c"), chunkLeaf(12, 1, "b")), blockOf(0, baseLeaf(1)))
	wantMoved(t, "the newest of one block", same, 0, []placed{{1, 1}}, dataPage(51, 1, "rc"))
	twice := upFrom(t, filled(chunkLeaf(11, 1, "a"), chunkLeaf(11, 1, "a")), blockOf(0, baseLeaf(1)))
	wantMoved(t, "the same page twice", twice, 0, []placed{{1, 1}}, dataPage(51, 1, "ra"))
}

// A page is moved as it is, packed or not.
func TestMovesOfAnyTexts(t *testing.T) {
	for _, text := range append(noPacked(), mixedText(90), strings.Repeat("\x00", 90), packByRule(""), packByRule(strings.Repeat("a", 64))) {
		d := upFrom(t, filled(packedLeaf(7, 3, text)), blockOf(0, baseLeaf(3)))
		wantMoved(t, "any text", d, 0, []placed{{1, 1}}, dataPage(51, 3, text))
	}
}

func TestMovesBySeq(t *testing.T) {
	d := upFrom(t, filled(chunkLeaf(11, 1, "one"), chunkLeaf(12, 2, "two"), chunkLeaf(13, 3, "three")), blockOf(0, baseLeaf(1, 2, 3)))
	for _, seq := range numbersAround() {
		d.Seq = seq
		if seq < 1 || seq > impl.MaxNumber-2 {
			refusesToMove(t, fmt.Sprint("Seq ", seq), d, 0)
		} else {
			wantMoved(t, fmt.Sprint("Seq ", seq), d, 0, []placed{{1, 1}, {1, 2}, {1, 3}},
				dataPage(seq, 1, "rone"), dataPage(seq+1, 2, "rtwo"), dataPage(seq+2, 3, "rthree"))
		}
		wantMoved(t, "nothing to move", d, 2, nil)
	}
}

// With no room for one page, the first or a later one, there is no step at all.
func TestMovesByTheRoom(t *testing.T) {
	for count := 1; count <= 4; count++ {
		var leaves []impl.Leaf
		for chunk := 1; chunk <= count; chunk++ {
			leaves = append(leaves, chunkLeaf(chunk, chunk, "x"))
		}
		for room := range 9 {
			base := filled(baseLeaf(1, 2, 3, 4))
			blocks := append([]impl.Block{base, filled(leaves...), badBlock(blockOf(0))}, withRoom(3, room).Blocks...)
			d := upFrom(t, blocks...)
			if got := impl.RoomOf(d.Flash); got != room {
				t.Fatalf("the room is %d, not %d", got, room)
			}
			if room < count {
				refusesToMove(t, fmt.Sprintf("%d chunks in %d leaves", count, room), d, 1)
				continue
			}
			steps, ok := impl.MoveSteps(d, 1)
			if !ok || len(steps) != count {
				t.Errorf("%d chunks in %d leaves: %#v, %v", count, room, steps, ok)
			}
			wantMovesByRule(t, "room", d)
		}
	}
}

// The first page may have a place elsewhere, and a later one not: as soon as one would
// stand in the block itself, there is no step at all.
func TestMovesIntoTheBlockItself(t *testing.T) {
	two := []impl.Leaf{chunkLeaf(11, 1, "one"), chunkLeaf(12, 2, "two")}
	base := baseLeaf(1, 2)
	for _, c := range []struct {
		name   string
		blocks []impl.Block
		b      int
		places []placed
	}{
		{"the first page", []impl.Block{blockOf(0, two...), filled(base)}, 0, nil},
		{"the first page, another block is begun behind", []impl.Block{blockOf(0, two...), blockOf(0, base)}, 0, nil},
		{"the second page", []impl.Block{blockOf(0, base, junk(), junk()), blockOf(0, two...)}, 1, nil},
		{"no page, the block ahead has room", []impl.Block{blockOf(0, base, junk()), blockOf(0, two...)}, 1, []placed{{0, 2}, {0, 3}}},
		{"the second page, with a free block", []impl.Block{blockOf(0, base, junk(), junk()), blockOf(0, two...), blockOf(0)}, 1, nil},
		{"the block with the base", []impl.Block{blockOf(0, append(two, base)...)}, 0, nil},
		{"a full block", []impl.Block{filled(append(two, base)...)}, 0, []placed{{1, 0}, {1, 1}}},
		{"a Bad block that is begun", []impl.Block{badBlock(blockOf(0, two...)), filled(base)}, 0, []placed{{2, 0}, {2, 1}}},
	} {
		d := upFrom(t, c.blocks...)
		if c.places == nil {
			refusesToMove(t, c.name, d, c.b)
		} else {
			wantMoved(t, c.name, d, c.b, c.places, dataPage(51, 1, "rone"), dataPage(52, 2, "rtwo"))
		}
		wantMovesByRule(t, c.name, d)
	}
}

// Behind the steps no chunk is needed on the block, and each has its text.
func TestWhatIsMovedIsThere(t *testing.T) {
	for _, b := range []int{0, 2} {
		d := moving(t)
		steps, ok := impl.MoveSteps(d, b)
		if !ok || len(steps) == 0 {
			t.Fatalf("%#v, %v", steps, ok)
		}
		wantKeptVolumes(t, "moved", d, steps)
		up := impl.StepsAll(d, steps)
		if impl.NeededOn(up.Flash, up.Store, impl.MaxNumber, b) != 0 || numbersOf(up) != [3]int{d.Seq + len(steps), d.Tx, d.Base} {
			t.Errorf("%#v came up", up)
		}
		wantDead(t, "moved", up, b)
		wantMoved(t, "moved already", up, b, nil)
		for _, s := range steps {
			page, _ := impl.ReadPage(s.Text)
			wantSpot(t, "moved", up.Flash, page.Tx, s.Block, s.Leaf, true)
		}
	}
}

func TestCleanOneWipesTheFirstDeadBlock(t *testing.T) {
	base, victim := blockOf(0, baseLeaf(1)), filled(chunkLeaf(11, 1, "one"))
	since := blockOf(0, txLeaves(60, 10, volRec(5, 0))...)
	for _, c := range []struct {
		name   string
		blocks []impl.Block
		want   int
	}{
		{"dead alone", []impl.Block{filled()}, 0},
		{"begun", []impl.Block{base, blockOf(0, junk())}, 1},
		{"the first of several", []impl.Block{base, blockOf(0), filled(), fullBlock(0, 2), tornBlock(0)}, 2},
		{"the first of several, not the least worn", []impl.Block{base, blockOf(9, junk()), filled()}, 1},
		{"ahead of the base", []impl.Block{tornBlock(0), base}, 0},
		{"though there is a victim", []impl.Block{base, victim, filled()}, 2},
		{"though the base is not the last", []impl.Block{base, since, filled(metaLeaf(1, 8))}, 2},
		{"though there is no base", []impl.Block{blockOf(0, txLeaves(1, 1, volRec(1, 0))...), blockOf(0, chunkLeaf(2, 1, "x"))}, 1},
		{"behind a Bad one", []impl.Block{badBlock(filled()), base, badBlock(fullBlock(0, 2)), fullBlock(0, 3)}, 3},
		{"with no room at all", []impl.Block{filled(baseLeaf()), filled(), filled()}, 1},
		{"worn out", []impl.Block{base, fullBlock(impl.MaxNumber, 4), filled()}, 1},
	} {
		d := upFrom(t, c.blocks...)
		wantClean(t, c.name, d, []impl.Step{wipeStep(c.want)}, true)
		wantCleanByRule(t, c.name, d)
	}
}

// Without a base that is the last transaction a new one is written, with a victim or
// without.
func TestCleanOneWritesABase(t *testing.T) {
	victim := filled(chunkLeaf(11, 1, "one"))
	put := putRec(1, 0, 1)
	for _, c := range []struct {
		name   string
		leaves []impl.Leaf
	}{
		{"nothing at all", nil},
		{"a transaction behind the base", append(txLeaves(50, 9, baseRec(2), volRec(1, 0)), txLeaves(51, 10, put)...)},
		{"one far behind the base", append(txLeaves(50, 9, baseRec(2), volRec(1, 0)), txLeaves(51, 900, put)...)},
		{"one behind the base that is refused", append(txLeaves(50, 9, baseRec(2), volRec(1, 0), put), txLeaves(51, 10, dropRec(7))...)},
		{"one behind the base that is not whole", append(txLeaves(50, 9, baseRec(2), volRec(1, 0), put), leafOf(metaPage(51, 10, 1, 3, "")))},
		{"a base that is not whole", append(txLeaves(50, 9, baseRec(2), volRec(1, 0), put), leafOf(metaPage(51, 10, 0, 2, recBytes(baseRec(3)))))},
		{"no transaction that is whole", []impl.Leaf{leafOf(metaPage(51, 1, 0, 2, recBytes(baseRec(3))))}},
		{"no base", txLeaves(50, 9, volRec(1, 0), put)},
		{"no base, the first transaction", txLeaves(50, 1, volRec(1, 0), put)},
		{"no records", txLeaves(50, 9)},
		{"a base that is not first", txLeaves(50, 9, volRec(3, 0), baseRec(4), volRec(1, 0), put)},
		{"two transactions, no base", append(txLeaves(50, 1, volRec(1, 0)), txLeaves(51, 2, put)...)},
	} {
		for _, blocks := range [][]impl.Block{
			{blockOf(0, c.leaves...), blockOf(0)},
			{blockOf(0), blockOf(0), blockOf(0, c.leaves...)},
			{blockOf(0, c.leaves...), victim},
		} {
			d := upFrom(t, blocks...)
			if len(impl.DeadBlocks(d)) > 0 {
				continue
			}
			want := wantStepsOf(t, c.name, d, baseRecsByRule(d.Store), "", 1)
			wantClean(t, c.name, d, want, true)
			wantCleanByRule(t, c.name, d)
			up := impl.StepsAll(d, want)
			if up.Base != up.Tx-1 || up.Base != d.Tx || !impl.SameStore(up.Store, d.Store) {
				t.Errorf("%s: %#v came up", c.name, up)
			}
			if again, _ := impl.CleanOne(up); slices.ContainsFunc(pagesOfPrograms(again), isMeta) {
				t.Errorf("%s: a base is written twice, by %#v", c.name, again)
			}
		}
		full := upFrom(t, filled(c.leaves...), victim, filled(chunkLeaf(12, 2, "two"), chunkLeaf(13, 1, "one")))
		if len(impl.DeadBlocks(full)) == 0 {
			wantClean(t, c.name+", no room", full, nil, false)
		}
	}
}

func isMeta(p impl.Page) bool { return p.Kind == impl.PageMeta }

func pagesOfPrograms(steps []impl.Step) []impl.Page {
	var out []impl.Page
	for _, s := range steps {
		if page, ok := impl.ReadPage(s.Text); ok {
			out = append(out, page)
		}
	}
	return out
}

func TestCleanOneWithoutRoomForTheBase(t *testing.T) {
	recs := manyChunks()
	for room := range 6 {
		var blocks []impl.Block
		for four := range slices.Chunk(txLeaves(50, 9, recs...), 4) {
			blocks = append(blocks, filled(four...))
		}
		// Each block has a chunk that lives, so that none is dead; one is a victim.
		for b, block := range withRoom(3, room).Blocks {
			if impl.NextBlank(block) > 0 {
				block.Leaves[0] = chunkLeaf(60+b, 1000+b, "x")
			}
			blocks = append(blocks, block)
		}
		d := upFrom(t, blocks...)
		want, ok := baseStepsByRule(d)
		if ok != (room >= 3) {
			t.Errorf("in %d leaves the base is %v", room, ok)
		}
		wantClean(t, fmt.Sprint("room ", room), d, want, ok)
	}
}

func TestCleanOneMovesTheVictim(t *testing.T) {
	base := baseLeaf(1, 2, 3, 4, 5, 6)
	three := filled(chunkLeaf(11, 1, "one"), chunkLeaf(12, 2, "two"), chunkLeaf(13, 3, "three"))
	two := filled(junk(), chunkLeaf(14, 4, "four"), chunkLeaf(15, 5, "five"))
	begun, full := blockOf(0, base), filled(base)
	for _, c := range []struct {
		name   string
		blocks []impl.Block
		victim int
		ok     bool
	}{
		{"one", []impl.Block{begun, three}, 1, true},
		{"the least", []impl.Block{three, begun, two}, 2, true},
		{"into a free block", []impl.Block{three, full, two, blockOf(0)}, 2, true},
		{"no room", []impl.Block{three, full, two}, 2, false},
		{"no room for the last page", []impl.Block{three, full, blockOf(0, junk(), tornLeaf("x"), chunkLeaf(15, 5, "five"))}, 0, false},
		{"room in Bad blocks alone", []impl.Block{three, full, badBlock(blockOf(0)), badBlock(begun)}, 0, false},
		{"no room for a lesser one, though another would do", []impl.Block{three, full, two, blockOf(0, junk(), tornLeaf("x"), chunkLeaf(16, 6, "six"))}, 2, false},
	} {
		d := upFrom(t, c.blocks...)
		want, ok := moveByRule(d, c.victim)
		if impl.VictimOf(d) != c.victim || ok != c.ok || ok && len(want) == 0 {
			t.Errorf("%s: by rule block %d is moved by %#v, %v", c.name, c.victim, want, ok)
		}
		wantClean(t, c.name, d, want, ok)
		wantCleanByRule(t, c.name, d)
	}
}

func TestCleanOneWithNothingToBeDone(t *testing.T) {
	for _, blocks := range [][]impl.Block{
		{blockOf(0, baseLeaf())},
		{filled(baseLeaf())},
		{blockOf(0, baseLeaf(1)), blockOf(0, chunkLeaf(11, 1, "begun"))},
		{filled(baseLeaf(1), chunkLeaf(11, 1, "with the base")), badBlock(filled()), badBlock(tornBlock(0))},
		{blockOf(0, baseLeaf(1, 2, 3, 4)), filled(chunkLeaf(1, 1, "a"), chunkLeaf(2, 2, "b"), chunkLeaf(3, 3, "c"), chunkLeaf(4, 4, "d"))},
		{blockOf(0, baseLeaf(1)), badBlock(filled(chunkLeaf(11, 1, "Bad")))},
		{blockOf(0, txLeaves(1, 1, baseRec(0))...)},
		{blockOf(0, txLeaves(1, impl.MaxNumber, baseRec(0))...)},
	} {
		wantClean(t, "nothing to be done", upFrom(t, blocks...), nil, false)
	}
}

// Of the transaction Base its number counts, not that it is the last base.
func TestCleanOneByTheNumbersOfADevice(t *testing.T) {
	d := upFrom(t, blockOf(0, txLeaves(1, 3, baseRec(9), volRec(1, 0))[0], txLeaves(2, 4, volRec(2, 0))[0], txLeaves(3, 6, baseRec(9))[0]), blockOf(0, txLeaves(4, 7)...))
	if numbersOf(d) != [3]int{5, 8, 6} {
		t.Fatalf("%#v came up", d)
	}
	for _, c := range []struct {
		tx, base int
		nothing  bool
	}{{8, 6, false}, {7, 6, true}, {8, 7, false}, {4, 3, true}, {5, 4, false}, {6, 5, false}, {3, 3, false}, {2, 3, false}, {1, 0, false}, {0, -1, false}} {
		d.Tx, d.Base = c.tx, c.base
		if steps, ok := impl.CleanOne(d); ok == c.nothing && c.tx > 0 {
			t.Errorf("with Tx %d and Base %d CleanOne is %#v, %v", c.tx, c.base, steps, ok)
		}
		wantCleanByRule(t, "numbers", d)
	}
	for _, n := range numbersAround() {
		for _, by := range []int{-2, -1, 0, 1} {
			d.Tx, d.Base = n, n+by
			wantCleanByRule(t, "numbers", d)
		}
	}
}

// A transaction MaxNumber counts with any base, also where chunks alone are asked for.
func TestTheLastTransactionOfAll(t *testing.T) {
	last := txLeaves(3, impl.MaxNumber, baseRec(9), volRec(1, 0), putRec(1, 0, 1))[0]
	d := upFrom(t, filled(last), filled(chunkLeaf(1, 1, "one"), chunkLeaf(2, 2, "gone")))
	wantVictim(t, "the last transaction", d, 0)
	wantMoved(t, "the last transaction", d, 0, nil)
	wantClean(t, "the last transaction", d, nil, true)
	if count := wantCleanAllByRule(t, "the last transaction", d, 30); count != 20 {
		t.Errorf("there are %d cleanings", count)
	}
	d = upFrom(t, filled(last, chunkLeaf(1, 1, "one")), filled(chunkLeaf(2, 2, "gone"), leafOf(metaPage(2, impl.MaxNumber-1, 0, 1, ""))))
	wantDead(t, "the one ahead of it", d, 1)
}

// muchToClean has no room but one block, no base, and nine blocks with three chunks
// each that live: all that can be done is done in 19 cleanings.
func muchToClean(t *testing.T) impl.Device {
	t.Helper()
	recs := []impl.Rec{volRec(1, 0), volRec(2, 0)}
	var blocks []impl.Block
	for b := range 9 {
		var leaves []impl.Leaf
		for i := range 3 {
			chunk := 3*b + i + 1
			leaves = append(leaves, chunkLeaf(chunk, chunk, fmt.Sprint("text of ", chunk)))
			recs = append(recs, putRec(1+chunk%2, chunk/2, chunk))
		}
		blocks = append(blocks, filled(leaves...))
	}
	blocks[8].Leaves[3] = txLeaves(50, 1, recs...)[0]
	return upFrom(t, append(blocks, blockOf(0))...)
}

func TestCleanAllOfEachMost(t *testing.T) {
	d := muchToClean(t)
	behind, all := cleanAllByRule(d, math.MaxInt)
	if len(behind) != 20 || len(all) != 37 || impl.RoomOf(behind[19].Flash) != 12 {
		t.Fatalf("by rule there are %d cleanings of %d steps", len(behind)-1, len(all))
	}
	for _, most := range []int{math.MinInt, -20, -1, 0, 1, 2, 3, 10, 18, 19, 20, 21, 100, 1 << 32, math.MaxInt} {
		count := wantCleanAllByRule(t, "much", d, most)
		if want := min(max(most, 0), 19); count != want {
			t.Errorf("with most %d there are %d cleanings, not %d", most, count, want)
		}
	}
	for most := range 20 {
		got, steps := impl.CleanAll(d, most)
		if !sameDevice(got, behind[most]) || !impl.DeviceOk(got) {
			t.Errorf("with most %d %#v came up", most, got)
		}
		if after, count := impl.DoSteps(d.Flash, steps); count != len(steps) || !sameFlash(after, got.Flash) {
			t.Errorf("with most %d the steps lead to %#v", most, after)
		}
		one, _ := impl.CleanAll(got, 1)
		next, _ := impl.CleanAll(d, most+1)
		if !sameDevice(one, next) {
			t.Errorf("%d cleanings and one more are not %d", most, most+1)
		}
	}
}

// A block that is worn out can't be wiped: it is tried again, but not for ever.
func TestCleanAllEndsAtTwenty(t *testing.T) {
	d := upFrom(t, blockOf(0, baseLeaf()), fullBlock(impl.MaxNumber, 4), fullBlock(0, 4))
	for _, most := range []int{-1, 0, 1, 2, 19, 20, 21, 40, 1000, math.MaxInt} {
		count := min(max(most, 0), 20)
		wantCleanAll(t, "worn out", d, most, d, slices.Repeat([]impl.Step{wipeStep(1)}, count))
		if got := wantCleanAllByRule(t, "worn out", d, most); got != count {
			t.Errorf("with most %d there are %d cleanings", most, got)
		}
	}
}

// With twelve leaves there is room enough, with eleven there is not.
func TestCleanAllByTheRoom(t *testing.T) {
	for blocks := 4; blocks <= 9; blocks++ {
		for room := range 4*blocks - 2 {
			f := withRoom(blocks, room)
			// All is dead but the base, which stands on a block of its own.
			f.Blocks = append(f.Blocks, filled(baseLeaf()))
			d := upFrom(t, f.Blocks...)
			if got := impl.RoomOf(d.Flash); got != room {
				t.Fatalf("the room is %d, not %d", got, room)
			}
			count := wantCleanAllByRule(t, "room", d, 20)
			if (count == 0) != (room >= 12) {
				t.Errorf("with room %d there are %d cleanings", room, count)
			}
			got, steps := impl.CleanAll(d, 20)
			if after := impl.RoomOf(got.Flash); after < 12 || len(steps) > 3 {
				t.Errorf("with room %d %d steps lead to room %d", room, len(steps), after)
			}
		}
	}
	bad := upFrom(t, blockOf(0, baseLeaf()), badBlock(blockOf(0)), badBlock(blockOf(0)), badBlock(blockOf(0)), fullBlock(0, 3))
	if count := wantCleanAllByRule(t, "room on Bad blocks", bad, 20); count != 1 {
		t.Errorf("with room on Bad blocks there are %d cleanings", count)
	}
}

// Nothing is cleaned: the device is as it is, also one that is not right.
func TestCleanAllOfNothingIsTheDevice(t *testing.T) {
	for _, d := range askedDevices(t) {
		for _, most := range []int{math.MinInt, -1, 0} {
			wantCleanAll(t, "none", d, most, d, nil)
		}
		if impl.RoomOf(d.Flash) >= 12 {
			wantCleanAll(t, "room enough", d, 20, d, nil)
		}
	}
	d := upFrom(t, blockOf(0, baseLeaf()), badBlock(blockOf(0)), badBlock(blockOf(0)))
	wantCleanAll(t, "nothing to be done", d, 20, d, nil)
	d.Store = made(t, volRec(1, 0))
	wantCleanAll(t, "nothing to be done, another store", d, 20, d, nil)
}

// Whatever step the power goes in, the volumes are there.
func TestWhatIsCleanedChangesNoVolume(t *testing.T) {
	devices := []impl.Device{muchToClean(t), moving(t), kept(t)}
	for at, d := range append(devices, mountedDevices(t)...) {
		for range 25 {
			steps, ok := impl.CleanOne(d)
			if !ok {
				break
			}
			why := fmt.Sprintf("device %d, %#v", at, steps)
			wantKeptVolumes(t, why, d, steps)
			d = impl.StepsAll(d, steps)
			if !impl.DeviceOk(d) {
				t.Fatalf("%s: %#v came up", why, d)
			}
		}
		if steps, ok := impl.CleanOne(d); ok {
			t.Errorf("device %d is still cleaned by %#v", at, steps)
		}
	}
}

// The power goes in each cleaning once, and it is gone on with then.
func TestCleaningGoesOnBehindACut(t *testing.T) {
	start := muchToClean(t)
	_, all := impl.CleanAll(start, 20)
	for whole := range len(all) + 1 {
		for _, torn := range []bool{false, true} {
			f, ok := impl.CutSteps(start.Flash, all, whole, torn)
			if !ok {
				t.Fatalf("%d steps can't be done", whole)
			}
			d, _ := impl.MountAll(f)
			wantCleanAllByRule(t, "behind a cut", d, 20)
			after, steps := impl.CleanAll(d, 20)
			wantSameVolumes(t, fmt.Sprintf("behind %d steps, torn %v", whole, torn), start, after)
			if flash, count := impl.DoSteps(f, steps); count != len(steps) || !sameFlash(flash, after.Flash) {
				t.Errorf("behind %d steps, torn %v, %d of %d steps can be done", whole, torn, count, len(steps))
			}
		}
	}
}

func TestWipingOnRightAndWrongDevicesByRule(t *testing.T) {
	for _, d := range askedDevices(t) {
		wantWipingByRule(t, "any device", d)
	}
	wantMove(t, "the zero value", impl.Device{}, 0, nil, true)
	wantVictim(t, "the zero value", impl.Device{}, -1)
	wantDead(t, "the zero value", impl.Device{})
	wantClean(t, "the zero value", impl.Device{}, nil, false)
	wantBaseSteps(t, "the zero value", impl.Device{}, nil, false)
	wantCleanAll(t, "the zero value", impl.Device{}, 20, impl.Device{}, nil)
}

// A flash that is not right has its dead blocks all the same; nothing is written on it,
// and behind a step nothing comes up.
func TestWipingOnFlashesThatAreNotRight(t *testing.T) {
	right := upFrom(t, filled(baseLeaf(1)), filled(chunkLeaf(11, 1, "one")), blockOf(0))
	wantMoved(t, "right", right, 1, []placed{{2, 0}}, dataPage(51, 1, "rone"))
	for _, c := range wrongBlocks() {
		d := right
		d.Flash = withBlock(right.Flash, 2, c.block)
		wantWipingByRule(t, c.name, d)
		refusesToMove(t, c.name, d, 1)
		wantBaseSteps(t, c.name, d, nil, false)
		for _, block := range []impl.Block{c.block, badBlock(c.block)} {
			d.Flash = withBlock(right.Flash, 2, block)
			_, steps := impl.CleanAll(d, 20)
			if dead := deadByRule(d); len(dead) == 0 {
				wantCleanAll(t, c.name, d, 20, d, nil)
			} else if !slices.Equal(steps, []impl.Step{wipeStep(2)}) {
				t.Errorf("%s: the steps are %#v", c.name, steps)
			}
		}
	}
	two := right
	two.Flash = impl.Flash{Blocks: []impl.Block{filled(baseLeaf(1)), filled()}}
	wantCleanAll(t, "two blocks", two, 20, impl.Device{}, []impl.Step{wipeStep(1)})
}

// Of a device that is not right what it tells counts, not what its flash does.
func TestWipingOnDevicesThatAreNotRight(t *testing.T) {
	right := moving(t)
	wantDead(t, "right", right)
	d := right
	d.Store = made(t, volRec(1, 0), putRec(1, 0, 7))
	wantDead(t, "another store", d, 2)
	wantMoved(t, "another store", d, 0, []placed{{1, 2}}, dataPage(52, 7, "rgone"))
	wantClean(t, "another store", d, []impl.Step{wipeStep(2)}, true)
	d = right
	d.Base = 1000
	wantVictim(t, "another base", d, 2)
	wantClean(t, "another base", d, wantStepsOf(t, "another base", d, baseRecsByRule(d.Store), "", 1), true)
	for _, c := range slices.Concat(rightStores(), wrongStores()) {
		for _, base := range []int{0, 9, 10} {
			d = deviceOf(right.Flash, c.store, right.Seq, right.Tx, base)
			wantDead(t, c.name, d, deadByRule(d)...)
			wantVictim(t, c.name, d, victimByRule(d))
			wantMovesByRule(t, c.name, d)
			wantCleanByRule(t, c.name, d)
		}
	}
}

// What is done to an answer is seen neither in the device nor in another answer.
func TestCleanAllOwnsItsMemory(t *testing.T) {
	for _, most := range []int{0, 1, 20} {
		d := muchToClean(t)
		was := twinDevice(d)
		want, _ := impl.CleanAll(d, most)
		got, _ := impl.CleanAll(d, most)
		for b := range got.Flash.Blocks {
			clear(got.Flash.Blocks[b].Leaves)
		}
		clear(got.Flash.Blocks)
		for i := range got.Store.Arena.Knots {
			clear(got.Store.Arena.Knots[i].Kids)
		}
		clear(got.Store.Vols)
		again, _ := impl.CleanAll(d, most)
		if !sameDevice(d, was) || !sameDevice(again, want) {
			t.Errorf("the device is %#v, cleaned again it is %#v", d, again)
		}
	}
}

// drawnWipes has pages of few chunks and transactions, some of them bases.
func drawnWipes(t *testing.T, draws string) impl.Device {
	t.Helper()
	var blocks []impl.Block
	for b := range 3 + int(draws[0])%5 {
		var leaves []impl.Leaf
		for range min(int(draws[1+b])%7, 4) {
			draws = draws[12:]
			leaf := drawnTxLeaf(draws)
			if draws[11] < 190 {
				leaf = chunkLeaf(1+int(draws[0])%40, 1+int(draws[1])%9, draws[:2])
			}
			leaves = append(leaves, leaf)
		}
		block := blockOf(int(draws[3])%4, leaves...)
		block.Bad = draws[4]%12 == 0
		blocks = append(blocks, block)
	}
	recs := []impl.Rec{baseRec(60), volRec(1, 0)}
	for sector := range int(draws[5]) % 9 {
		recs = append(recs, putRec(1, sector, 1+int(draws[6+sector])%9))
	}
	if draws[15]%4 > 0 && !slices.ContainsFunc(blocks[0].Leaves, isBlank) {
		blocks[0].Leaves[int(draws[16])%4] = txLeaves(41, 13, recs...)[0]
	}
	return upFrom(t, blocks...)
}

// Each of them is cleaned as far as it can be.
func TestDrawnWipesByRule(t *testing.T) {
	count := map[string]int{}
	for draws := mixedText(14000); len(draws) >= 500; draws = draws[53:] {
		d := drawnWipes(t, draws)
		for range 30 {
			wantWipingByRule(t, "drawn", d)
			steps, ok := impl.CleanOne(d)
			if !ok {
				break
			}
			count[kindOfCleaning(steps)]++
			d = impl.StepsAll(d, steps)
		}
	}
	for what, least := range map[string]int{"wiped": 100, "base": 50, "moved": 50} {
		if count[what] < least {
			t.Errorf("drawn wipes came up %v", count)
		}
	}
}

func kindOfCleaning(steps []impl.Step) string {
	switch {
	case len(steps) == 1 && steps[0].Kind == impl.StepWipe:
		return "wiped"
	case slices.ContainsFunc(pagesOfPrograms(steps), isMeta):
		return "base"
	}
	return "moved"
}

// A cleanedLife is one whose device is cleaned when there is little room.
type cleanedLife struct{ askedLife }

// clean holds each cleaning against the rule, and cuts it at every place.
func (l *cleanedLife) clean() {
	l.t.Helper()
	after, all := impl.CleanAll(l.d, 20)
	d := l.d
	for done := 0; done < len(all); {
		want, ok := cleanByRule(d)
		steps, isOk := impl.CleanOne(d)
		if !ok || !isOk || !slices.Equal(steps, want) || !slices.Equal(all[done:done+len(steps)], want) {
			l.t.Fatalf("CleanOne of %#v\nis  %#v, %v\nnot %#v, %v", d, steps, isOk, want, ok)
		}
		wantKeptVolumes(l.t, "life", d, steps)
		d = impl.StepsAll(d, steps)
		l.count[kindOfCleaning(steps)]++
		done += len(steps)
	}
	if !sameDevice(after, d) {
		l.t.Fatalf("CleanAll of %#v leads to %#v, not %#v", l.d, after, d)
	}
}

// write is false when there is no room, though it was cleaned.
func (l *cleanedLife) write(q impl.Ask, draws string) bool {
	l.t.Helper()
	if impl.RoomOf(l.d.Flash) < 12 {
		l.clean()
		after, steps := impl.CleanAll(l.d, 20)
		if draws[0] < 60 && len(steps) > 0 {
			f, _ := impl.CutSteps(l.d.Flash, steps, int(draws[1])%len(steps), draws[2]%2 == 0)
			after, _ = impl.MountAll(f)
			l.count["cut"]++
		}
		l.d = after
	}
	recs, text, code := impl.PlanOf(l.d, q)
	steps, ok := impl.WriteSteps(l.d, recs, text)
	if code != 0 || impl.RoomOf(l.d.Flash) < 8 || !ok {
		return code != 0
	}
	l.d = impl.StepsAll(l.d, steps)
	l.ask(q)
	l.count["written"]++
	return true
}

// Far more is written than there is room for, and all is read, whatever was cut.
func TestDrawnLivesOfCleaning(t *testing.T) {
	count := map[string]int{}
	for blocks := 4; blocks <= impl.MaxBlocks; blocks++ {
		life := askedLife{t: t, d: newDevice(t, blocks), vols: map[int]map[int]string{}, count: count}
		l := &cleanedLife{life}
		full := 0
		for draws := mixedText(2000); len(draws) > 300; draws = draws[7:] {
			if !l.write(drawnAsk(draws), draws[4:]) {
				full++
			}
			l.wantTexts()
		}
		if l.d.Tx < 8*blocks || full > 40 {
			t.Errorf("%d blocks: Tx is %d, and %d times there was no room", blocks, l.d.Tx, full)
		}
	}
	for what, least := range map[string]int{"written": 500, "cut": 50, "wiped": 200, "base": 200, "moved": 100} {
		if count[what] < least {
			t.Errorf("short lives: %v", count)
		}
	}
}

func TestWipesAreAskedTwice(t *testing.T) {
	first, second := moving(t), muchToClean(t)
	for range 3 {
		wantWipingByRule(t, "first", first)
		wantWipingByRule(t, "second", second)
		wantWipingByRule(t, "nothing", newDevice(t, 3))
	}
}
