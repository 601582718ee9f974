package tests

import (
	"fmt"
	"maps"
	"math"
	"runtime"
	"slices"
	"testing"
	"time"

	"loop.example/g00195/impl"
)

// Promise 14: what is mounted is what was written.

func deviceOf(f impl.Flash, s impl.Store, seq, tx, base int) impl.Device {
	return impl.Device{Flash: f, Store: s, Seq: seq, Tx: tx, Base: base}
}

func numbersOf(d impl.Device) [3]int { return [3]int{d.Seq, d.Tx, d.Base} }

func sameDevice(a, b impl.Device) bool {
	return sameFlash(a.Flash, b.Flash) && alike(a.Store, b.Store) && numbersOf(a) == numbersOf(b)
}

func twinDevice(d impl.Device) impl.Device {
	return deviceOf(twinFlash(d.Flash), twinStore(d.Store), d.Seq, d.Tx, d.Base)
}

// deviceWithSpare is d together with what stands in the room behind its lists.
func deviceWithSpare(d impl.Device) impl.Device {
	return deviceOf(withSpare(d.Flash), storeWithSpare(d.Store), d.Seq, d.Tx, d.Base)
}

// mountByRule is chapter 14's rule, from the rules of the chapters ahead.
func mountByRule(f impl.Flash) (impl.Device, bool) {
	if !flashRightByRule(f) {
		return impl.Device{}, false
	}
	d := deviceOf(f, storeOf(1, impl.Arena{}), 1, 1, 0)
	scan := scanByRule(f)
	for _, found := range scan {
		d.Seq = max(d.Seq, found.Page.Seq+1)
		if found.Page.Kind == 2 {
			d.Tx = max(d.Tx, found.Page.Tx+1)
		}
	}
	for i, tx := range sinceByRule(gatherByRule(scan)) {
		if i == 0 {
			d.Base = tx.Num
		}
		d.Store, _ = enterAllByRule(d.Store, tx.Recs)
	}
	return d, true
}

// wantMounted asks for what MountAll answers, that what was handed in is as it
// was, that what is answered is new, and that DeviceOk takes what came up.
func wantMounted(t *testing.T, why string, f impl.Flash, want impl.Device, wantOk bool) {
	t.Helper()
	var got impl.Device
	var ok bool
	keepsFlash(t, "MountAll", f, func(f impl.Flash) impl.Flash {
		got, ok = impl.MountAll(f)
		return got.Flash
	})
	if !sameDevice(got, want) || ok != wantOk {
		t.Errorf("%s: MountAll of %#v\nis  %#v, %v\nnot %#v, %v", why, f, got, ok, want, wantOk)
	}
	wantOwnLists(t, got.Store.Arena)
	wantDeviceOk(t, why, got, wantOk)
}

func wantMountByRule(t *testing.T, why string, f impl.Flash) {
	t.Helper()
	want, ok := mountByRule(f)
	wantMounted(t, why, f, want, ok)
}

// wantUp asks for a store and the three numbers, so that the rule alone doesn't
// decide; and for the rule.
func wantUp(t *testing.T, why string, f impl.Flash, s impl.Store, seq, tx, base int) {
	t.Helper()
	wantMounted(t, why, f, deviceOf(f, s, seq, tx, base), true)
	wantMountByRule(t, why+", by rule", f)
}

func wantDeviceOk(t *testing.T, why string, d impl.Device, want bool) {
	t.Helper()
	given, like := twinDevice(d), twinDevice(d)
	if got := impl.DeviceOk(given); got != want {
		t.Errorf("%s: DeviceOk of %#v is %v", why, d, got)
	}
	if !sameDevice(deviceWithSpare(given), deviceWithSpare(like)) {
		t.Errorf("%s: DeviceOk has written into the device", why)
	}
}

func refusesToMount(t *testing.T, why string, f impl.Flash) {
	t.Helper()
	wantMounted(t, why, f, impl.Device{}, false)
}

// made is the store that these records make from nothing.
func made(t *testing.T, recs ...impl.Rec) impl.Store {
	t.Helper()
	s, ok := enterAllByRule(storeOf(1, impl.Arena{}), recs)
	if !ok {
		t.Fatalf("%v are refused", recs)
	}
	return s
}

func leafOf(p impl.Page) impl.Leaf { return fullLeaf(pageBytes(p)) }

// txLeaves are Full leaves with the pages of a transaction, its Seqs from seq on.
func txLeaves(seq, tx int, recs ...impl.Rec) []impl.Leaf {
	pages, _ := txPagesByRule(seq, tx, recs)
	var out []impl.Leaf
	for _, p := range pages {
		out = append(out, leafOf(p))
	}
	return out
}

// laidOut has these leaves in order, block by block.
func laidOut(leaves ...[]impl.Leaf) impl.Flash {
	var blocks []impl.Block
	for four := range slices.Chunk(slices.Concat(leaves...), impl.PagesPer) {
		blocks = append(blocks, blockOf(0, four...))
	}
	return flashOf(blocks...)
}

// laidInTurn has these leaves in turn on so many blocks.
func laidInTurn(count int, leaves []impl.Leaf) impl.Flash {
	of := make([][]impl.Leaf, count)
	for i, leaf := range leaves {
		of[i%count] = append(of[i%count], leaf)
	}
	var blocks []impl.Block
	for _, some := range of {
		blocks = append(blocks, blockOf(0, some...))
	}
	return flashOf(blocks...)
}

// volWith are records that make a volume and put this many times into it, 3 bytes
// each: 29 of them fill a page together with the RecVol.
func volWith(vol, count int) []impl.Rec {
	out := []impl.Rec{volRec(vol, 0)}
	for i := range count {
		out = append(out, putRec(vol, i%16, 1+i%127))
	}
	return out
}

func TestWrongFlashesDontComeUp(t *testing.T) {
	tx := txLeaves(3, 2, volRec(1, 0), putRec(1, 0, 7))
	for _, c := range wrongFlashes() {
		refusesToMount(t, c.name, c.flash)
	}
	for _, wrong := range wrongBlocks() {
		for b := range 4 {
			right := flashOf(blockOf(0, tx...), blockOf(0, tx...), blockOf(0, tx...), blockOf(0, tx...))
			refusesToMount(t, wrong.name+" beside a transaction", withBlock(right, b, wrong.block))
			refusesToMount(t, wrong.name+" in a Bad block", withBlock(right, b, badBlock(wrong.block)))
		}
	}
	one := blockOf(0, tx...)
	for count := range 30 {
		f := impl.Flash{Blocks: slices.Repeat([]impl.Block{one}, count)}
		if count >= 3 && count <= 10 {
			wantUp(t, "as many as may be", f, made(t, volRec(1, 0), putRec(1, 0, 7)), 4, 3, 2)
		} else {
			refusesToMount(t, fmt.Sprint(count, " blocks"), f)
		}
	}
}

func TestFlashesWithoutPagesComeUp(t *testing.T) {
	nothing := storeOf(1, impl.Arena{})
	for _, c := range rightFlashes() {
		wantUp(t, c.name, c.flash, nothing, 1, 1, 0)
	}
	text := pageBytes(metaPage(9, 9, 0, 1, recBytes(volRec(1, 0))))
	for _, c := range []struct {
		name string
		leaf impl.Leaf
	}{
		{"torn", tornLeaf(text)},
		{"torn and cut", tornLeaf(text[:len(text)/2])},
		{"a byte turned", fullLeaf(turned(text, 1, 1))},
		{"cut", fullLeaf(text[:len(text)-1])},
		{"not sealed", fullLeaf(bodyByRule(metaPage(9, 9, 0, 1, "")))},
		{"Tx 0", leafOf(metaPage(9, 0, 0, 1, ""))},
		{"Seq 0", leafOf(metaPage(0, 9, 0, 1, ""))},
		{"a Part that is none", leafOf(metaPage(9, 9, 1, 1, ""))},
	} {
		wantUp(t, c.name, flashOf(blockOf(0, c.leaf), blockOf(3, c.leaf, c.leaf)), nothing, 1, 1, 0)
	}
}

func TestChunksAloneComeUp(t *testing.T) {
	nothing := storeOf(1, impl.Arena{})
	const most = impl.MaxNumber
	for _, c := range []struct {
		leaves []impl.Leaf
		seq    int
	}{
		{[]impl.Leaf{chunkLeaf(1, 1, "hi")}, 2},
		{[]impl.Leaf{chunkLeaf(7, 300, "")}, 8},
		{[]impl.Leaf{packedLeaf(7, most, "no packed text")}, 8},
		{[]impl.Leaf{chunkLeaf(9, 1, "a"), chunkLeaf(2, 5, "b"), chunkLeaf(8, 1, "c")}, 10},
		{[]impl.Leaf{chunkLeaf(1, 1, "a"), chunkLeaf(2, 2, "b"), chunkLeaf(3, 3, "c"), chunkLeaf(4, 4, "d"), chunkLeaf(5, 5, "e")}, 6},
		{[]impl.Leaf{chunkLeaf(most-1, 2, "a")}, most},
		{[]impl.Leaf{chunkLeaf(most, 2, "a"), chunkLeaf(1, 3, "a")}, most + 1},
		// The bytes of a record, on a page of a chunk, are no record.
		{[]impl.Leaf{packedLeaf(4, 1, recBytes(volRec(1, 0)))}, 5},
	} {
		for count := 3; count <= 10; count++ {
			wantUp(t, "chunks", laidInTurn(count, c.leaves), nothing, c.seq, 1, 0)
		}
	}
}

func TestOneTransactionComesUp(t *testing.T) {
	for _, recs := range [][]impl.Rec{
		nil,
		{volRec(1, 0)},
		{volRec(9, 0), putRec(9, 15, 300)},
		{volRec(2, 0), putRec(2, 3, 7), volRec(5, 2), trimRec(2, 3)},
		{volRec(2, 0), putRec(2, 3, 7), dropRec(2)},
		{baseRec(40)},
		{baseRec(0)},
		{baseRec(40), volRec(3, 0), putRec(3, 0, 39)},
		{volRec(3, 0), baseRec(40), volRec(3, 0)},
		volWith(4, 28), volWith(4, 29), volWith(4, 30), volWith(4, 100), volWith(4, 260),
		baseRecsByRule(wovenStore()), baseRecsByRule(fullStore()),
	} {
		for _, num := range []int{1, 2, 300, impl.MaxNumber} {
			for _, seq := range []int{1, 5, 128} {
				leaves := txLeaves(seq, num, recs...)
				wantUp(t, "one", laidOut(leaves), made(t, recs...), seq+len(leaves), num+1, num)
			}
		}
	}
	wantUp(t, "the greatest Seq", laidOut(txLeaves(impl.MaxNumber, 4, volRec(1, 0))), made(t, volRec(1, 0)), impl.MaxNumber+1, 5, 4)
}

// Their numbers say in which order they are entered, not their Seqs and not where
// they stand.
func TestSeveralTransactionsComeUpInTheOrderOfTheirNumbers(t *testing.T) {
	first, second, third := putRec(1, 0, 5), putRec(1, 0, 9), volRec(2, 1)
	for _, nums := range ordersOf([]int{2, 3, 4, 5}) {
		// The k-th of these has Seq 10 * k; which is written first is drawn by nums.
		recs := map[int]impl.Rec{2: volRec(1, 0), 3: first, 4: second, 5: third}
		var leaves []impl.Leaf
		for k, num := range nums {
			leaves = append(leaves, txLeaves(10*(k+1), num, recs[num])...)
		}
		want := made(t, volRec(1, 0), first, second, third)
		for count := 3; count <= 5; count++ {
			wantUp(t, "by number", laidInTurn(count, leaves), want, 41, 6, 2)
		}
		if impl.ChunkOf(want, 2, 0) != 9 || impl.ChunkOf(want, 1, 0) != 9 {
			t.Fatalf("the rule makes %v", want)
		}
	}
}

// Numbers that are left out are no end.
func TestTransactionsWithNumbersBetweenComeUp(t *testing.T) {
	leaves := slices.Concat(txLeaves(1, 3, volRec(1, 0)), txLeaves(4, 90, putRec(1, 1, 2)), txLeaves(6, 1000, volRec(7, 1)))
	wantUp(t, "far apart", laidOut(leaves), made(t, volRec(1, 0), putRec(1, 1, 2), volRec(7, 1)), 7, 1001, 3)
}

func TestPagesComeUpInEveryOrderAndOnSeveralBlocks(t *testing.T) {
	long := volWith(2, 70)
	leaves := slices.Concat(txLeaves(1, 1, volRec(1, 0), putRec(1, 0, 4)), txLeaves(3, 2, long...), []impl.Leaf{chunkLeaf(2, 9, "x")},
		txLeaves(7, 3, volRec(3, 2), trimRec(2, 0)))
	if len(leaves) != 6 {
		t.Fatalf("%d leaves", len(leaves))
	}
	want := made(t, slices.Concat([]impl.Rec{volRec(1, 0), putRec(1, 0, 4)}, long, []impl.Rec{volRec(3, 2), trimRec(2, 0)})...)
	for i, order := range ordersOf([]int{0, 1, 2, 3, 4, 5}) {
		var turned []impl.Leaf
		for _, at := range order {
			turned = append(turned, leaves[at])
		}
		wantUp(t, "in order", laidOut(turned), want, 8, 4, 1)
		wantUp(t, "in turn", laidInTurn(3+i%8, turned), want, 8, 4, 1)
	}
}

// What stands on a Bad block, and among torn leaves, was written as well.
func TestPagesOnBadBlocksComeUp(t *testing.T) {
	first, second := txLeaves(1, 1, volRec(1, 0))[0], txLeaves(2, 2, putRec(1, 4, 6))[0]
	f := flashOf(badBlock(blockOf(2, tornLeaf("x"), first)), blockOf(impl.MaxNumber, fullLeaf("no page"), tornLeaf(""), second), badBlock(blockOf(0)))
	wantUp(t, "Bad", f, made(t, volRec(1, 0), putRec(1, 4, 6)), 3, 3, 1)
}

// A page that stands twice is one page; of other pages with the same number the
// first counts, as Gather says.
func TestPagesThatStandTwiceComeUpOnce(t *testing.T) {
	tx := txLeaves(1, 1, volRec(1, 0), putRec(1, 0, 4))
	moved := txLeaves(9, 1, volRec(1, 0), putRec(1, 0, 4))
	wantUp(t, "twice", laidOut(tx, tx), made(t, volRec(1, 0), putRec(1, 0, 4)), 2, 2, 1)
	wantUp(t, "twice, the second with a later Seq", laidOut(moved, tx), made(t, volRec(1, 0), putRec(1, 0, 4)), 10, 2, 1)
	wantUp(t, "another of the same number", laidOut(txLeaves(5, 1, volRec(8, 0)), tx), made(t, volRec(1, 0), putRec(1, 0, 4)), 6, 2, 1)
}

// All that is ahead of the last base is passed over, whatever it is.
func TestTransactionsAheadOfABaseArePassedOver(t *testing.T) {
	base := []impl.Rec{baseRec(20), volRec(2, 0), putRec(2, 1, 19)}
	ahead := [][]impl.Rec{
		{volRec(1, 0), putRec(1, 0, 4)},
		{volRec(2, 0), putRec(2, 1, 500)},
		{volRec(2, 0), volRec(3, 0), volRec(4, 0)},
		{baseRec(900), volRec(9, 0)},
		{dropRec(7)},
		nil,
	}
	for at, recs := range ahead {
		leaves := slices.Concat(txLeaves(1, 1, recs...), txLeaves(2, 2, base...))
		wantUp(t, fmt.Sprint("ahead ", at), laidOut(leaves), made(t, base...), 3, 3, 2)
		turned := slices.Concat(txLeaves(1, 2, base...), txLeaves(2, 1, recs...))
		wantUp(t, fmt.Sprint("ahead by its number alone ", at), laidOut(turned), made(t, base...), 3, 3, 2)
	}
	var all []impl.Leaf
	for at, recs := range ahead {
		all = append(all, txLeaves(1+at, 1+at, recs...)...)
	}
	all = append(all, txLeaves(50, 50, base...)...)
	wantUp(t, "all ahead", laidOut(all), made(t, base...), 51, 51, 50)
	behind := slices.Concat(all, txLeaves(51, 51, putRec(2, 2, 18)), txLeaves(52, 60, volRec(1, 2)))
	wantUp(t, "all ahead, and two behind", laidOut(behind), made(t, slices.Concat(base, []impl.Rec{putRec(2, 2, 18), volRec(1, 2)})...), 53, 61, 50)
}

func TestBasesComeUp(t *testing.T) {
	for _, next := range []int{0, 1, 2, 300, impl.MaxNumber} {
		wantUp(t, "a base alone", laidOut(txLeaves(4, 7, baseRec(next))), storeOf(max(next, 1), impl.Arena{}), 5, 8, 7)
	}
	one, two, three := []impl.Rec{baseRec(10), volRec(1, 0)}, []impl.Rec{baseRec(5), volRec(2, 0)}, []impl.Rec{baseRec(0), volRec(3, 0)}
	for _, c := range []struct {
		name string
		txs  [][]impl.Rec
		want []impl.Rec
		base int
	}{
		{"two bases", [][]impl.Rec{one, two}, two, 2},
		{"three bases", [][]impl.Rec{one, two, three}, three, 3},
		{"a base of a lesser Next", [][]impl.Rec{{volRec(1, 0), putRec(1, 1, 99)}, two}, two, 2},
		{"between bases", [][]impl.Rec{one, {putRec(1, 1, 9)}, two, {putRec(2, 1, 8)}}, slices.Concat(two, []impl.Rec{putRec(2, 1, 8)}), 3},
		{"two bases in one", [][]impl.Rec{{dropRec(1)}, slices.Concat(one, two)}, slices.Concat(one, two), 2},
		{"a base that is not first", [][]impl.Rec{{volRec(4, 0)}, {volRec(5, 4), baseRec(7), volRec(6, 0)}}, []impl.Rec{baseRec(7), volRec(6, 0)}, 1},
		{"a base, and one that is not first", [][]impl.Rec{{volRec(4, 0)}, one, {putRec(1, 2, 3), baseRec(7)}, {volRec(8, 0)}}, []impl.Rec{baseRec(7), volRec(8, 0)}, 2},
	} {
		var leaves []impl.Leaf
		for i, recs := range c.txs {
			leaves = append(leaves, txLeaves(i+1, i+1, recs...)...)
		}
		wantUp(t, c.name, laidOut(leaves), made(t, c.want...), len(c.txs)+1, len(c.txs)+1, c.base)
	}
}

// As long as a base is not whole, what is ahead of it counts.
func TestABaseThatIsNotWholeIsPassedOver(t *testing.T) {
	ahead := []impl.Rec{volRec(1, 0), putRec(1, 0, 4)}
	base := baseRecsByRule(made(t, slices.Concat(volWith(2, 16), volWith(3, 16), []impl.Rec{volRec(4, 2)})...))
	leaves := txLeaves(2, 2, base...)
	if len(leaves) != 2 {
		t.Fatalf("the base has %d pages", len(leaves))
	}
	behind := txLeaves(9, 3, putRec(1, 1, 5))
	all := slices.Concat(txLeaves(1, 1, ahead...), leaves, behind)
	// The last one is refused: the base has no volume 1.
	wantUp(t, "whole", laidOut(all), made(t, base...), 10, 4, 2)
	want := made(t, append(slices.Clone(ahead), putRec(1, 1, 5))...)
	for at := 1; at <= 2; at++ {
		text := all[at].Text
		for _, c := range []namedLeaf{
			{"torn", tornLeaf(text[:len(text)/2])},
			{"torn at its end", tornLeaf(text)},
			{"a byte turned", fullLeaf(turned(text, 7, 1))},
			{"a chunk's page", chunkLeaf(3, 2, "x")},
			{"a page of another transaction", leafOf(metaPage(3, 1, 0, 1, ""))},
			{"a page of another Count", leafOf(metaPage(3, 2, at-1, 3, ""))},
		} {
			with := slices.Clone(all)
			with[at] = c.leaf
			wantUp(t, fmt.Sprintf("page %d is %s", at-1, c.name), laidOut(with), want, 10, 4, 1)
		}
		wantUp(t, fmt.Sprintf("page %d is missing", at-1), laidOut(slices.Delete(slices.Clone(all), at, at+1)), want, 10, 4, 1)
		alone := laidOut(leaves[at-1 : at])
		wantUp(t, fmt.Sprintf("page %d alone", at-1), alone, storeOf(1, impl.Arena{}), 2+at, 3, 0)
	}
}

type namedLeaf struct {
	name string
	leaf impl.Leaf
}

// Each page of one that has several is missing or torn; those beside it are there.
func TestATransactionThatIsNotWholeIsPassedOver(t *testing.T) {
	for _, count := range []int{1, 28, 29, 60, 120, 265} {
		long := volWith(2, count)
		leaves := txLeaves(2, 2, long...)
		ahead, behind := txLeaves(1, 1, volRec(1, 0)), txLeaves(20, 3, putRec(1, 0, 200))
		whole := slices.Concat(ahead, leaves, behind)
		wantUp(t, "whole", laidOut(whole), made(t, slices.Concat([]impl.Rec{volRec(1, 0)}, long, []impl.Rec{putRec(1, 0, 200)})...), 21, 4, 1)
		want := made(t, volRec(1, 0), putRec(1, 0, 200))
		for at := 1; at <= len(leaves); at++ {
			missing := slices.Delete(slices.Clone(whole), at, at+1)
			wantUp(t, "missing", laidOut(missing), want, 21, 4, 1)
			for _, leaf := range []impl.Leaf{tornLeaf(""), tornLeaf(whole[at].Text), fullLeaf(turned(whole[at].Text, 0, 1)), chunkLeaf(5, 2, "x")} {
				torn := slices.Clone(whole)
				torn[at] = leaf
				wantUp(t, "torn", laidOut(torn), want, 21, 4, 1)
			}
		}
		if len(leaves) > 1 {
			last := slices.Concat(ahead, leaves[1:])
			wantUp(t, "the last one, not whole", laidOut(last), made(t, volRec(1, 0)), 2+len(leaves), 3, 1)
			first := slices.Concat(leaves[1:], behind)
			wantUp(t, "the first one, not whole", laidOut(first), storeOf(1, impl.Arena{}), 21, 4, 3)
		}
	}
}

// Texts that are no records make no transaction, though its pages are there.
func TestATransactionThatCantBeReadIsPassedOver(t *testing.T) {
	ahead, behind := txLeaves(1, 1, volRec(1, 0)), txLeaves(9, 9, putRec(1, 0, 3))
	want := made(t, volRec(1, 0), putRec(1, 0, 3))
	for _, text := range []string{"\x00", "x", recBytes(volRec(2, 0))[:1], recBytes(volRec(2, 0)) + "\xff", recBytes(baseRec(7)) + "\x41\x10\x02"} {
		wantUp(t, "no records", laidOut(ahead, []impl.Leaf{leafOf(metaPage(5, 4, 0, 1, text))}, behind), want, 10, 10, 1)
		wantUp(t, "no records, the last one", laidOut(ahead, behind, []impl.Leaf{leafOf(metaPage(50, 40, 0, 1, text))}), want, 51, 41, 1)
		wantUp(t, "no records, alone", laidOut([]impl.Leaf{leafOf(metaPage(5, 4, 0, 1, text))}), storeOf(1, impl.Arena{}), 6, 5, 0)
	}
	// Records may be cut wherever a page ends.
	text := recBytes(volRec(2, 0), putRec(2, 3, 300))
	for at := range len(text) + 1 {
		cut := []impl.Leaf{leafOf(metaPage(6, 4, 1, 2, text[at:])), leafOf(metaPage(5, 4, 0, 2, text[:at]))}
		wantUp(t, "cut", laidOut(ahead, cut), made(t, volRec(1, 0), volRec(2, 0), putRec(2, 3, 300)), 7, 5, 1)
	}
}

// A record that is refused takes all of its transaction with it, also what was
// entered ahead of it, and nothing of the next ones.
func TestATransactionWithARefusedRecordIsPassedOverAsAWhole(t *testing.T) {
	start := []impl.Rec{volRec(1, 0), putRec(1, 0, 4), volRec(2, 1)}
	next := []impl.Rec{volRec(3, 0), putRec(3, 5, 6)}
	refused := []impl.Rec{volRec(1, 0), volRec(4, 9), dropRec(9), putRec(9, 0, 1), trimRec(9, 0), putRec(1, 3, impl.MaxNumber)}
	good := []impl.Rec{putRec(1, 7, 99), dropRec(2), trimRec(1, 0)}
	for _, bad := range refused {
		for at := range len(good) + 1 {
			recs := slices.Insert(slices.Clone(good), at, bad)
			f := laidOut(txLeaves(1, 1, start...), txLeaves(2, 2, recs...), txLeaves(3, 3, next...))
			wantUp(t, "in the midst", f, made(t, slices.Concat(start, next)...), 4, 4, 1)
			last := laidOut(txLeaves(1, 1, start...), txLeaves(2, 2, next...), txLeaves(3, 3, recs...))
			wantUp(t, "the last one", last, made(t, slices.Concat(start, next)...), 4, 4, 1)
			twice := laidOut(txLeaves(1, 1, start...), txLeaves(2, 2, recs...), txLeaves(3, 3, recs...), txLeaves(4, 4, next...))
			wantUp(t, "two of them", twice, made(t, slices.Concat(start, next)...), 5, 5, 1)
		}
	}
	full := laidOut(txLeaves(1, 1, start...), txLeaves(2, 2, next...), txLeaves(3, 3, putRec(3, 0, 50), volRec(4, 0)), txLeaves(4, 4, dropRec(1)), txLeaves(5, 5, volRec(4, 0)))
	wantUp(t, "MaxVols", full, made(t, slices.Concat(start, next, []impl.Rec{dropRec(1), volRec(4, 0)})...), 6, 6, 1)
}

// The first one gives Base its number, and a base is one, though it is refused:
// what is ahead of it is not entered in its place.
func TestTheFirstTransactionMayBeRefused(t *testing.T) {
	first := laidOut(txLeaves(1, 4, dropRec(1)), txLeaves(2, 5, volRec(1, 0)))
	wantUp(t, "the first", first, made(t, volRec(1, 0)), 3, 6, 4)
	wantUp(t, "alone", laidOut(txLeaves(1, 4, dropRec(1))), storeOf(1, impl.Arena{}), 2, 5, 4)
	base := []impl.Rec{baseRec(30), volRec(2, 0), dropRec(3)}
	ahead, behind := txLeaves(1, 1, volRec(1, 0)), txLeaves(3, 3, volRec(5, 0))
	wantUp(t, "a base", laidOut(ahead, txLeaves(2, 2, base...)), storeOf(1, impl.Arena{}), 3, 3, 2)
	wantUp(t, "a base, and one behind", laidOut(ahead, txLeaves(2, 2, base...), behind), made(t, volRec(5, 0)), 4, 4, 2)
	wantUp(t, "a base behind a base", laidOut(txLeaves(1, 1, baseRec(80)), txLeaves(2, 2, base...)), storeOf(1, impl.Arena{}), 3, 3, 2)
}

func TestSeqIsBehindAllPages(t *testing.T) {
	vol := made(t, volRec(1, 0))
	for _, c := range []struct {
		why     string
		leaves  []impl.Leaf
		store   impl.Store
		seq, tx int
		base    int
	}{
		{"none", nil, storeOf(1, impl.Arena{}), 1, 1, 0},
		{"PageData", []impl.Leaf{chunkLeaf(6, 9, "a")}, storeOf(1, impl.Arena{}), 7, 1, 0},
		{"PageMeta", txLeaves(6, 9, volRec(1, 0)), vol, 7, 10, 9},
		{"PageData last", slices.Concat(txLeaves(6, 9, volRec(1, 0)), []impl.Leaf{chunkLeaf(7, 400, "a")}), vol, 8, 10, 9},
		{"PageMeta last", slices.Concat(txLeaves(6, 9, volRec(1, 0)), []impl.Leaf{chunkLeaf(5, 400, "a")}), vol, 7, 10, 9},
		{"of one Seq", slices.Concat(txLeaves(6, 9, volRec(1, 0)), []impl.Leaf{chunkLeaf(6, 400, "a")}), vol, 7, 10, 9},
		{"a PageMeta that is not whole", slices.Concat(txLeaves(6, 9, volRec(1, 0)), []impl.Leaf{leafOf(metaPage(40, 3, 1, 2, ""))}), vol, 41, 10, 9},
		{"a PageMeta ahead of a base", slices.Concat(txLeaves(6, 9, baseRec(0), volRec(1, 0)), txLeaves(50, 3, volRec(4, 0))), vol, 51, 10, 9},
		{"torn ones don't count", slices.Concat(txLeaves(6, 9, volRec(1, 0)), []impl.Leaf{tornLeaf(leafOf(metaPage(40, 30, 0, 1, "")).Text)}), vol, 7, 10, 9},
		{"the greatest", slices.Concat(txLeaves(6, 9, volRec(1, 0)), []impl.Leaf{chunkLeaf(impl.MaxNumber, 1, "a")}), vol, impl.MaxNumber + 1, 10, 9},
	} {
		wantUp(t, c.why, laidOut(c.leaves), c.store, c.seq, c.tx, c.base)
		slices.Reverse(c.leaves)
		wantUp(t, c.why+", turned", laidOut(c.leaves), c.store, c.seq, c.tx, c.base)
	}
}

func TestTxIsBehindAllPagesOfTransactions(t *testing.T) {
	vol, nothing := made(t, volRec(1, 0)), storeOf(1, impl.Arena{})
	one := txLeaves(1, 5, volRec(1, 0))
	base := txLeaves(1, 5, baseRec(0), volRec(1, 0))
	for _, c := range []struct {
		why       string
		leaves    []impl.Leaf
		store     impl.Store
		seq, tx   int
		baseThere int
	}{
		{"a chunk of a greater number", slices.Concat(one, []impl.Leaf{chunkLeaf(2, 900, "a")}), vol, 3, 6, 5},
		{"a chunk alone", []impl.Leaf{chunkLeaf(2, impl.MaxNumber, "a")}, nothing, 3, 1, 0},
		{"not whole", slices.Concat(one, []impl.Leaf{leafOf(metaPage(2, 8, 0, 2, ""))}), vol, 3, 9, 5},
		{"not whole, its second page", slices.Concat(one, []impl.Leaf{leafOf(metaPage(2, 8, 1, 2, ""))}), vol, 3, 9, 5},
		{"not whole, alone", []impl.Leaf{leafOf(metaPage(2, 8, 8, 9, ""))}, nothing, 3, 9, 0},
		{"not whole, ahead", slices.Concat(one, []impl.Leaf{leafOf(metaPage(2, 3, 1, 2, ""))}), vol, 3, 6, 5},
		{"no records", slices.Concat(one, []impl.Leaf{leafOf(metaPage(2, 8, 0, 1, "\xff"))}), vol, 3, 9, 5},
		{"refused", slices.Concat(one, txLeaves(2, 8, dropRec(9))), vol, 3, 9, 5},
		{"without records", slices.Concat(one, txLeaves(2, 8)), vol, 3, 9, 5},
		{"ahead of a base", slices.Concat(base, txLeaves(2, 4, volRec(2, 0))), vol, 3, 6, 5},
		{"behind a base, not whole", slices.Concat(base, []impl.Leaf{leafOf(metaPage(2, 7, 1, 2, ""))}), vol, 3, 8, 5},
		{"the greatest", slices.Concat(base, []impl.Leaf{leafOf(metaPage(2, impl.MaxNumber, 1, 2, ""))}), vol, 3, impl.MaxNumber + 1, 5},
		{"torn", slices.Concat(one, []impl.Leaf{tornLeaf(txLeaves(2, 8, volRec(2, 0))[0].Text)}), vol, 2, 6, 5},
	} {
		wantUp(t, c.why, laidOut(c.leaves), c.store, c.seq, c.tx, c.baseThere)
		slices.Reverse(c.leaves)
		wantUp(t, c.why+", turned", laidOut(c.leaves), c.store, c.seq, c.tx, c.baseThere)
	}
}

// The flash that comes up is the one that was given, torn leaves, Wear and Bad
// blocks with it; what is done to one is not seen in the other.
func TestTheFlashThatComesUpIsTheGivenOne(t *testing.T) {
	tx := txLeaves(1, 1, volRec(1, 0), putRec(1, 2, 3))
	given := flashOf(badBlock(blockOf(7, append(tx, tornLeaf("half"), fullLeaf("no page"))...)), blockOf(impl.MaxNumber), blockOf(3, chunkLeaf(2, 3, "text")))
	like := twinFlash(given)
	d, ok := impl.MountAll(given)
	if !ok || !sameFlash(d.Flash, like) {
		t.Fatalf("the flash is %#v, %v, not %#v", d.Flash, ok, like)
	}
	want := twinDevice(d)
	for b := range given.Blocks {
		clear(given.Blocks[b].Leaves)
	}
	clear(given.Blocks)
	if !sameDevice(d, want) {
		t.Errorf("what is done to the given flash is seen in the device: %#v", d)
	}
	given = twinFlash(like)
	d, _ = impl.MountAll(given)
	for b := range d.Flash.Blocks {
		clear(d.Flash.Blocks[b].Leaves)
	}
	clear(d.Flash.Blocks)
	if !sameFlash(given, like) {
		t.Errorf("what is done to the device is seen in the given flash: %#v", given)
	}
}

// mountedDevices came up, from flashes of many kinds.
func mountedDevices(t *testing.T) []impl.Device {
	t.Helper()
	base := baseRecsByRule(wovenStore())
	var out []impl.Device
	for _, f := range []impl.Flash{
		flashOf(),
		laidOut([]impl.Leaf{chunkLeaf(4, 2, "x")}),
		laidOut(txLeaves(1, 1, volRec(1, 0))),
		laidOut(txLeaves(1, 1), txLeaves(2, 2, dropRec(4))),
		laidOut(txLeaves(1, 1, volWith(3, 40)...), txLeaves(9, 2, volRec(4, 3), putRec(4, 0, 300)), []impl.Leaf{chunkLeaf(12, 300, "x")}),
		laidOut(txLeaves(1, 1, volRec(7, 0)), txLeaves(2, 2, base...), txLeaves(8, 3, trimRec(5, 0))),
		laidOut(txLeaves(impl.MaxNumber, impl.MaxNumber, baseRec(impl.MaxNumber), volRec(1, 0))),
		laidOut([]impl.Leaf{leafOf(metaPage(3, 5, 1, 2, ""))}),
	} {
		d, ok := impl.MountAll(f)
		if !ok {
			t.Fatalf("MountAll of %#v is false", f)
		}
		out = append(out, d)
	}
	return out
}

func TestDevicesThatCameUpAreRight(t *testing.T) {
	for _, d := range mountedDevices(t) {
		wantDeviceOk(t, "came up", d, true)
		if !impl.StoreOk(d.Store) || !impl.FlashOk(d.Flash) {
			t.Errorf("%#v came up, and is not right", d)
		}
	}
}

func TestDevicesWithAnotherNumberAreNotRight(t *testing.T) {
	for _, d := range mountedDevices(t) {
		for _, by := range []int{-1, 1, 2, -1000, impl.MaxNumber, math.MinInt} {
			seq, tx, base := d, d, d
			seq.Seq += by
			tx.Tx += by
			base.Base += by
			wantDeviceOk(t, "Seq", seq, false)
			wantDeviceOk(t, "Tx", tx, false)
			wantDeviceOk(t, "Base", base, false)
		}
		if d.Seq != d.Tx {
			wantDeviceOk(t, "Seq and Tx the other way round", deviceOf(d.Flash, d.Store, d.Tx, d.Seq, d.Base), false)
		}
		wantDeviceOk(t, "Tx and Base the other way round", deviceOf(d.Flash, d.Store, d.Seq, d.Base, d.Tx), false)
		wantDeviceOk(t, "no numbers", deviceOf(d.Flash, d.Store, 0, 0, 0), false)
	}
	wantDeviceOk(t, "the zero value", impl.Device{}, false)
}

func TestDevicesWithAnotherStoreAreNotRight(t *testing.T) {
	for _, d := range mountedDevices(t) {
		for _, c := range slices.Concat(rightStores(), wrongStores()) {
			want := storeRightByRule(c.store) && impl.SameStore(c.store, d.Store)
			wantDeviceOk(t, c.name, deviceOf(d.Flash, c.store, d.Seq, d.Tx, d.Base), want)
		}
		for _, by := range []int{-1, 1} {
			wantDeviceOk(t, "Next", deviceOf(d.Flash, withNext(d.Store, d.Store.Next+by), d.Seq, d.Tx, d.Base), false)
		}
		for _, r := range []impl.Rec{volRec(9, 0), putRec(1, 3, 1), putRec(3, 15, 1), dropRec(1), dropRec(3), trimRec(4, 0), baseRec(0)} {
			if after, ok := enterByRule(d.Store, r); ok && !impl.SameStore(after, d.Store) {
				wantDeviceOk(t, "another record", deviceOf(d.Flash, after, d.Seq, d.Tx, d.Base), false)
			}
		}
	}
}

// A store may be of other knots, as long as it has the same in all sectors; one
// that tells the same and is not right is refused.
func TestDevicesWithTheSameStoreOfOtherKnots(t *testing.T) {
	recs := []impl.Rec{volRec(1, 0), putRec(1, 5, 7), volRec(2, 1), volRec(3, 0), putRec(3, 0, 2), trimRec(3, 0)}
	f := laidOut(txLeaves(1, 1, recs...))
	leaf, root := leafKnot(0, 7, 0, 0), rootKnot(-1, 0, -1, -1)
	apart := storeOf(8, arenaOf(leaf, root, leaf, rootKnot(-1, 2, -1, -1)), volOf(1, 1), volOf(2, 3), volOf(3, -1))
	shared := storeOf(8, arenaOf(leaf, root), volOf(1, 1), volOf(2, 1), volOf(3, -1))
	noughts := storeOf(8, arenaOf(leafKnot(0, 0, 0, 0), leaf, rootKnot(0, 1, -1, -1)), volOf(1, 2), volOf(2, 2), volOf(3, -1))
	for _, s := range []impl.Store{apart, shared, noughts, made(t, recs...)} {
		wantDeviceOk(t, "other knots", deviceOf(f, s, 2, 2, 1), true)
	}
	spare := storeOf(8, arenaOf(leaf, root, leafKnot(0, 0, 0, 0)), volOf(1, 1), volOf(2, 1), volOf(3, -1))
	if !impl.SameStore(spare, shared) || impl.StoreOk(spare) {
		t.Fatal("the store should tell the same and not be right")
	}
	wantDeviceOk(t, "a knot that no tree has", deviceOf(f, spare, 2, 2, 1), false)
}

func TestDevicesWithAnotherFlash(t *testing.T) {
	recs := []impl.Rec{volRec(1, 0), putRec(1, 5, 7)}
	s := made(t, recs...)
	f := laidOut(txLeaves(1, 1, recs...))
	for _, c := range []struct {
		why   string
		flash impl.Flash
		want  bool
	}{
		{"the same", f, true},
		{"more Wear", withBlock(f, 1, blockOf(9)), true},
		{"another block", flashOf(blockOf(0), blockOf(0, f.Blocks[0].Leaves...), blockOf(0), blockOf(0)), true},
		{"Bad blocks", flashOf(badBlock(f.Blocks[0]), badBlock(blockOf(0))), true},
		{"a torn leaf more", withLeaf(f, 1, 0, tornLeaf("x")), true},
		{"a leaf more that is no page", withLeaf(f, 0, 1, fullLeaf("x")), true},
		{"the same page twice", withLeaf(f, 0, 1, f.Blocks[0].Leaves[0]), true},
		{"a base that makes the same", laidOut(txLeaves(1, 1, slices.Concat([]impl.Rec{baseRec(0)}, recs)...)), true},
		{"a page more", withLeaf(f, 0, 1, chunkLeaf(2, 9, "x")), false},
		{"a chunk's page of a lesser Seq", withLeaf(f, 0, 1, chunkLeaf(1, 9, "x")), true},
		{"a transaction more", laidOut(txLeaves(1, 1, recs...), txLeaves(1, 2, putRec(1, 5, 7))), false},
		{"a transaction ahead", laidOut(txLeaves(1, 2, recs...)), false},
		{"another record", laidOut(txLeaves(1, 1, volRec(1, 0), putRec(1, 6, 7))), false},
		{"another chunk", laidOut(txLeaves(1, 1, volRec(1, 0), putRec(1, 5, 6))), false},
		{"another volume", laidOut(txLeaves(1, 1, volRec(2, 0), putRec(2, 5, 7))), false},
		{"torn", withLeaf(f, 0, 0, tornLeaf(f.Blocks[0].Leaves[0].Text)), false},
		{"blank", flashOf(), false},
		{"none", impl.Flash{}, false},
	} {
		wantDeviceOk(t, c.why, deviceOf(c.flash, s, 2, 2, 1), c.want)
	}
	for _, c := range wrongFlashes() {
		wantDeviceOk(t, c.name, deviceOf(c.flash, storeOf(1, impl.Arena{}), 1, 1, 0), false)
		wantDeviceOk(t, c.name, deviceOf(c.flash, impl.Store{}, 0, 0, 0), false)
	}
	for _, wrong := range wrongBlocks() {
		wantDeviceOk(t, wrong.name, deviceOf(withBlock(f, 2, wrong.block), s, 2, 2, 1), false)
	}
}

func TestNewDevices(t *testing.T) {
	for blocks := -20; blocks <= 40; blocks++ {
		wantDeviceNew(t, blocks)
	}
	for _, blocks := range slices.Concat(someNumbers(), []int{math.MinInt, math.MinInt + 3, math.MaxInt, 1<<32 + 5}) {
		wantDeviceNew(t, blocks)
	}
}

func wantDeviceNew(t *testing.T, blocks int) {
	t.Helper()
	want, wantOk := impl.Device{}, blocks >= 3 && blocks <= 10
	if wantOk {
		want = deviceOf(impl.Flash{Blocks: slices.Repeat([]impl.Block{blockOf(0)}, blocks)}, storeOf(1, impl.Arena{}), 1, 1, 0)
	}
	got, ok := impl.DeviceNew(blocks)
	again, _ := impl.DeviceNew(blocks)
	if !sameDevice(got, want) || ok != wantOk || !sameDevice(again, want) {
		t.Errorf("DeviceNew(%d) is %#v, %v, not %#v, %v", blocks, got, ok, want, wantOk)
	}
	if sharesFlash(got.Flash, again.Flash) || !ownLists(got.Flash) {
		t.Errorf("DeviceNew(%d) answers memory twice", blocks)
	}
	wantDeviceOk(t, "new", got, wantOk)
}

// All ways to lay eight kinds of leaves on five places of three blocks.
func TestAllSmallMountsByRule(t *testing.T) {
	text := recBytes(volRec(3, 0), putRec(3, 0, 8))
	kinds := []impl.Leaf{
		tornLeaf("x"),
		txLeaves(1, 1, volRec(1, 0), putRec(1, 0, 5))[0],
		txLeaves(4, 2, putRec(1, 1, 6), volRec(2, 1))[0],
		txLeaves(6, 3, baseRec(9), volRec(2, 0))[0],
		leafOf(metaPage(2, 4, 0, 2, text[:3])),
		leafOf(metaPage(3, 4, 1, 2, text[3:])),
		txLeaves(5, 5, dropRec(2))[0],
		chunkLeaf(7, 5, "a"),
	}
	for at := range 8 * 8 * 8 * 8 * 8 {
		pick := func(place int) impl.Leaf { return kinds[at>>(3*place)&7] }
		f := flashOf(blockOf(0, pick(0), pick(1)), blockOf(0, pick(2)), blockOf(0, pick(3), pick(4)))
		got, ok := impl.MountAll(f)
		if want, wantOk := mountByRule(f); !sameDevice(got, want) || ok != wantOk {
			t.Fatalf("MountAll of %#v\nis  %#v, %v\nnot %#v, %v", f, got, ok, want, wantOk)
		}
	}
}

// drawnTxLeaf draws a page of few transactions, so that many of them are whole and
// many are not.
func drawnTxLeaf(draws string) impl.Leaf {
	seq, num := 1+int(draws[0])%40, 1+int(draws[1])%12
	recs := []impl.Rec{drawnRec(draws[2:]), drawnRec(draws[6:])}
	switch kind := int(draws[10]); {
	case kind < 30:
		return chunkLeaf(seq, num, draws[:3])
	case kind < 50:
		return leafOf(metaPage(seq, num, 0, 2, recBytes(recs...)))
	case kind < 80:
		return leafOf(metaPage(seq, num, 1, 2, recBytes(recs...)))
	case kind < 90:
		return tornLeaf(pageBytes(metaPage(seq, num, 0, 1, "")))
	case kind < 110:
		return txLeaves(seq, num, baseRec(num), volRec(1, 0), volRec(2, 0))[0]
	case kind < 170:
		return txLeaves(seq, num, volRec(1+num%3, 0))[0]
	}
	return txLeaves(seq, num, recs...)[0]
}

func TestDrawnMountsByRule(t *testing.T) {
	draws := mixedText(6000)
	vols := map[int]int{}
	for at := 0; at+500 < len(draws); at += 7 {
		var leaves []impl.Leaf
		for i := range 5 + at%36 {
			leaves = append(leaves, drawnTxLeaf(draws[at+11*i:]))
		}
		f := laidOut(leaves)
		wantMountByRule(t, "drawn", f)
		d, _ := impl.MountAll(f)
		vols[len(d.Store.Vols)]++
	}
	for count := range 4 {
		if vols[count] < 10 {
			t.Errorf("only %d of the drawn mounts have %d volumes", vols[count], count)
		}
	}
}

// What is written in steps comes up: after all of them the new store, after fewer
// the old one, wherever the power goes.
func TestAPowerCutLeavesTheOldOrTheNew(t *testing.T) {
	start := laidOut(txLeaves(1, 1, volRec(1, 0), putRec(1, 0, 4)), []impl.Leaf{tornLeaf("x")})
	old := made(t, volRec(1, 0), putRec(1, 0, 4))
	for _, recs := range [][]impl.Rec{
		{putRec(1, 1, 5)},
		volWith(2, 80),
		baseRecsByRule(made(t, append(volWith(5, 16), volRec(6, 5), volRec(7, 5))...)),
	} {
		d, _ := impl.MountAll(start)
		pages := pagesOf(t, d.Seq, d.Tx, recs)
		steps := placedSteps(t, d.Flash, pages)
		after, _ := enterAllByRule(old, recs)
		for whole := range len(steps) + 1 {
			for _, torn := range []bool{false, true} {
				f, ok := impl.CutSteps(start, steps, whole, torn)
				if torn && whole == len(steps) || !ok {
					continue
				}
				got, _ := impl.MountAll(f)
				want := old
				if whole == len(steps) {
					want = after
				}
				if !impl.SameStore(got.Store, want) || got.Seq != d.Seq+whole {
					t.Errorf("%d of %d steps, torn %v: %#v, not %#v", whole, len(steps), torn, got, want)
				}
				wantMountByRule(t, "cut", f)
			}
		}
	}
}

// placedSteps are the steps that write pages, each at the place that is next.
func placedSteps(t *testing.T, f impl.Flash, pages []impl.Page) []impl.Step {
	t.Helper()
	var out []impl.Step
	for _, p := range pages {
		b, leaf, ok := impl.PlaceOf(f)
		if !ok {
			t.Fatal("no room")
		}
		out = append(out, programStep(b, leaf, pageBytes(p)))
		f, _ = impl.DoSteps(f, out[len(out)-1:])
	}
	return out
}

// A mountedLife is a device and the plain volumes that it should have.
type mountedLife struct {
	t     *testing.T
	d     impl.Device
	plain plainStore
	count map[string]int
}

func newPlainStore() plainStore { return plainStore{vols: map[int][16]int{}, next: 1} }

// enter is what a whole transaction makes of the plain volumes. A base begins
// anew, though it is refused itself.
func (l *mountedLife) enter(recs []impl.Rec) {
	if len(recs) > 0 && recs[0].Kind == impl.RecBase {
		l.plain = newPlainStore()
		l.count["base"]++
	}
	after := plainStore{vols: maps.Clone(l.plain.vols), next: l.plain.next}
	for _, r := range recs {
		if !after.enter(r) {
			l.count["refused"]++
			return
		}
	}
	l.plain = after
	l.count["entered"]++
}

// comeUp is what happens to a flash behind each cut.
func (l *mountedLife) comeUp(f impl.Flash) {
	l.t.Helper()
	wantMountByRule(l.t, "life", f)
	l.d, _ = impl.MountAll(f)
	wantPlainStore(l.t, l.d.Store, l.plain)
}

// write brings a transaction onto the flash, or less of it.
func (l *mountedLife) write(recs []impl.Rec, draw byte) {
	l.t.Helper()
	steps := placedSteps(l.t, l.d.Flash, pagesOf(l.t, l.d.Seq, l.d.Tx, recs))
	whole, torn := len(steps), draw%4 == 0
	if draw < 60 {
		whole = int(draw) % len(steps)
		l.count["cut"]++
	}
	f, ok := impl.CutSteps(l.d.Flash, steps, whole, torn && whole < len(steps))
	if !ok {
		l.t.Fatal("the steps are refused")
	}
	if whole == len(steps) {
		l.enter(recs)
	}
	l.comeUp(f)
}

// wipe wipes what has no transaction since the base, or leaves it torn.
func (l *mountedLife) wipe(draw byte) {
	l.t.Helper()
	for b, block := range l.d.Flash.Blocks {
		if impl.NextBlank(block) == 0 || impl.NeededOn(l.d.Flash, l.d.Store, l.d.Base, b) > 0 {
			continue
		}
		steps := []impl.Step{wipeStep(b)}
		f, _ := impl.DoSteps(l.d.Flash, steps)
		if (int(draw)+b)%5 == 0 {
			f, _ = impl.CutSteps(l.d.Flash, steps, 0, true)
		}
		l.count["wiped"]++
		l.comeUp(f)
	}
}

func TestADrawnLifeOfMounts(t *testing.T) {
	d, _ := impl.DeviceNew(8)
	l := &mountedLife{t: t, d: d, plain: newPlainStore(), count: map[string]int{}}
	for draws := mixedText(9000); len(draws) >= 18; draws = draws[18:] {
		if impl.RoomOf(l.d.Flash) < 12 {
			l.write(impl.BaseRecs(l.d.Store), draws[0])
			l.wipe(draws[1])
		}
		if impl.RoomOf(l.d.Flash) < 12 {
			l.write(impl.BaseRecs(l.d.Store), 255)
			l.wipe(1)
			l.wipe(1)
		}
		var recs []impl.Rec
		for i := range int(draws[0]) % 4 {
			recs = append(recs, drawnRec(draws[2+4*i:]))
		}
		if draws[1] < 20 {
			recs = append(recs, volWith(1+int(draws[2])%9, 60)...)
		}
		l.write(recs, draws[1])
	}
	for _, c := range []struct {
		what string
		most int
	}{{"entered", 100}, {"refused", 50}, {"base", 20}, {"cut", 50}, {"wiped", 20}} {
		if l.count[c.what] < c.most {
			t.Errorf("a short life: %v", l.count)
		}
	}
}

// Nothing goes on when a call has answered.
func TestNothingRunsBehindAMount(t *testing.T) {
	f := laidOut(txLeaves(1, 1, volWith(1, 200)...), []impl.Leaf{chunkLeaf(20, 1, "x")})
	before := runtime.NumGoroutine()
	for range 200 {
		impl.MountAll(f)
		impl.MountAll(impl.Flash{})
		impl.DeviceNew(4)
	}
	// What has sent its last page may need a moment to be gone.
	for range 100 {
		if runtime.NumGoroutine() <= before {
			return
		}
		time.Sleep(10 * time.Millisecond)
	}
	t.Errorf("%d goroutines are left, there were %d", runtime.NumGoroutine(), before)
}

func TestMountsAreAskedTwice(t *testing.T) {
	first := laidOut(txLeaves(1, 1, volRec(1, 0)), txLeaves(2, 2, putRec(1, 0, 4)))
	second := laidOut(txLeaves(8, 7, baseRec(70)))
	for range 3 {
		wantUp(t, "first", first, made(t, volRec(1, 0), putRec(1, 0, 4)), 3, 3, 1)
		wantUp(t, "second", second, storeOf(70, impl.Arena{}), 9, 8, 7)
		wantUp(t, "blank", flashOf(), storeOf(1, impl.Arena{}), 1, 1, 0)
		refusesToMount(t, "none", impl.Flash{})
	}
}
