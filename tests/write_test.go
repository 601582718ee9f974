package tests

import (
	"fmt"
	"math"
	"slices"
	"strings"
	"testing"

	"loop.example/g00195/impl"
)

// Promise 16: what is written is there, in whole.

// pagesByRule are the pages of a write: that of the chunk, when there is a text, and
// those of the transaction. It asks for a record at least.
func pagesByRule(d impl.Device, recs []impl.Rec, text string) ([]impl.Page, bool) {
	if text == "" {
		return txPagesByRule(d.Seq, d.Tx, recs)
	}
	data := impl.Page{Kind: 1, Seq: d.Seq, Tx: recs[len(recs)-1].Chunk, Part: 0, Count: 1, Text: text}
	metas, ok := txPagesByRule(d.Seq+1, d.Tx, recs)
	return append([]impl.Page{data}, metas...), ok && pageRightByRule(data)
}

// writeByRule is chapter 16's rule, from the rules of the chapters ahead.
func writeByRule(d impl.Device, recs []impl.Rec, text string) ([]impl.Step, bool) {
	if len(recs) == 0 {
		return nil, true
	}
	pages, ok := pagesByRule(d, recs, text)
	if !ok {
		return nil, false
	}
	f := d.Flash
	var steps []impl.Step
	for _, p := range pages {
		place := roomByRule(f)
		if !place.placed {
			return nil, false
		}
		steps = append(steps, programStep(place.block, place.leaf, pageBytes(p)))
		f, _ = programByRule(f, place.block, place.leaf, pageBytes(p))
	}
	return steps, true
}

// stepsAllByRule is the zero value when the flash is not right.
func stepsAllByRule(d impl.Device, steps []impl.Step) impl.Device {
	behind := stepsByRule(d.Flash, steps)
	up, _ := mountByRule(behind[len(behind)-1])
	return up
}

func twinRecs(recs []impl.Rec) []impl.Rec {
	out := append(make([]impl.Rec, 0, len(recs)+2), recs...)
	return append(out, putRec(7, 7, 7), baseRec(7))[:len(recs)]
}

// wantOwnTexts asks that the texts of steps are no memory of anything else.
func wantOwnTexts(t *testing.T, why string, d impl.Device, text string, steps []impl.Step) {
	t.Helper()
	for i, s := range steps {
		if sharesMemory(s.Text, text) || sharesText([]impl.Leaf{fullLeaf(s.Text)}, leavesOf(d.Flash)) {
			t.Errorf("%s: step %d has memory of what was handed in", why, i)
		}
		for _, other := range steps[:i] {
			if sharesMemory(s.Text, other.Text) {
				t.Errorf("%s: step %d has memory of another one", why, i)
			}
		}
	}
}

// wantWrite asks twice, and spoils what was answered first in between. All that was
// handed in has to be as it was.
func wantWrite(t *testing.T, why string, d impl.Device, recs []impl.Rec, text string, want []impl.Step, wantOk bool) {
	t.Helper()
	given, like, text := twinRecs(recs), twinRecs(recs), strings.Clone(text)
	keepsDevice(t, why+": WriteSteps", d, func(d impl.Device) string {
		first, ok := impl.WriteSteps(d, given, text)
		if !slices.Equal(first, want) || ok != wantOk {
			t.Errorf("%s: WriteSteps of %v and %q on %#v\nis  %#v, %v\nnot %#v, %v", why, recs, text, d, first, ok, want, wantOk)
		}
		wantOwnTexts(t, why, d, text, first)
		all := first[:cap(first)]
		for i := range all {
			all[i] = wipeStep(-7)
		}
		again, ok := impl.WriteSteps(d, given, text)
		if !slices.Equal(again, want) || ok != wantOk || sharesList(first, again) {
			t.Errorf("%s: WriteSteps of %v and %q, again,\nis  %#v, %v\nnot %#v, %v", why, recs, text, again, ok, want, wantOk)
		}
		return ""
	})
	if !slices.Equal(given[:cap(given)], like[:cap(like)]) {
		t.Errorf("%s: WriteSteps has written into the records: %v, was %v", why, given[:cap(given)], like[:cap(like)])
	}
}

func refusesToWrite(t *testing.T, why string, d impl.Device, recs []impl.Rec, text string) {
	t.Helper()
	wantWrite(t, why, d, recs, text, nil, false)
	if _, ok := writeByRule(d, recs, text); ok {
		t.Errorf("%s: by rule %v and %q are written", why, recs, text)
	}
}

// wantStepsOf asks for a number of steps as well, so that the rule alone doesn't
// decide; and answers them.
func wantStepsOf(t *testing.T, why string, d impl.Device, recs []impl.Rec, text string, count int) []impl.Step {
	t.Helper()
	want, ok := writeByRule(d, recs, text)
	if !ok || len(want) != count {
		t.Fatalf("%s: by rule there are %d steps, %v, not %d", why, len(want), ok, count)
	}
	wantWrite(t, why, d, recs, text, want, true)
	return want
}

func wantWriteByRule(t *testing.T, why string, d impl.Device, recs []impl.Rec, text string) bool {
	t.Helper()
	want, ok := writeByRule(d, recs, text)
	wantWrite(t, why, d, recs, text, want, ok)
	return ok
}

// wantStepsAll asks that what was handed in is as it was and what is answered is new.
func wantStepsAll(t *testing.T, why string, d impl.Device, steps []impl.Step, want impl.Device) {
	t.Helper()
	given, like := twinDevice(d), twinDevice(d)
	var got impl.Device
	keepsSteps(t, why+": StepsAll", d.Flash, steps, func(f impl.Flash, list []impl.Step) impl.Flash {
		given.Flash = f
		got = impl.StepsAll(given, list)
		return got.Flash
	})
	if !sameDevice(got, want) {
		t.Errorf("%s: StepsAll of %#v on %#v\nis  %#v\nnot %#v", why, steps, d, got, want)
	}
	if !alike(storeWithSpare(given.Store), storeWithSpare(like.Store)) || sharesStore(got.Store, given.Store) {
		t.Errorf("%s: StepsAll has written into the store, or answers its memory", why)
	}
	wantOwnLists(t, got.Store.Arena)
}

func wantStepsAllByRule(t *testing.T, why string, d impl.Device, steps []impl.Step) impl.Device {
	t.Helper()
	want := stepsAllByRule(d, steps)
	wantStepsAll(t, why, d, steps, want)
	return want
}

func newDevice(t *testing.T, blocks int) impl.Device {
	t.Helper()
	d, ok := impl.DeviceNew(blocks)
	if !ok {
		t.Fatalf("DeviceNew(%d) is false", blocks)
	}
	return d
}

// withRoom has so many blank leaves, in order, and all ahead of them written.
func withRoom(blocks, count int) impl.Flash {
	var out []impl.Block
	for b := range blocks {
		ahead := 4*blocks - count - 4*b
		out = append(out, fullBlock(0, min(max(ahead, 0), 4)))
	}
	return impl.Flash{Blocks: out}
}

func freshOn(f impl.Flash) impl.Device { return deviceOf(f, storeOf(1, impl.Arena{}), 1, 1, 0) }

// pagesIn reads the pages of steps back from their bytes.
func pagesIn(t *testing.T, steps []impl.Step) []impl.Page {
	t.Helper()
	var out []impl.Page
	for i, s := range steps {
		page, ok := impl.ReadPage(s.Text)
		if !ok || s.Kind != impl.StepProgram {
			t.Fatalf("step %d is %#v", i, s)
		}
		out = append(out, page)
	}
	return out
}

func TestWritesByHand(t *testing.T) {
	d := newDevice(t, 3)
	first := programStep(0, 0, sealedByRule("\x02\x01\x01\x00\x01\x21\x00\x00"))
	wantWrite(t, "a volume", d, []impl.Rec{volRec(1, 0)}, "", []impl.Step{first}, true)
	d = impl.StepsAll(d, []impl.Step{first})
	put := []impl.Step{
		programStep(0, 1, sealedByRule("\x01\x02\x01\x00\x01rabab")),
		programStep(0, 2, sealedByRule("\x02\x03\x02\x00\x01\x41\x03\x01")),
	}
	wantWrite(t, "a new text", d, []impl.Rec{putRec(1, 3, 1)}, "rabab", put, true)
	d = impl.StepsAll(d, put)
	wantReadOf(t, "a new text", d, 1, 3, "abab", true)
	same := []impl.Step{programStep(0, 3, sealedByRule("\x02\x04\x03\x00\x01\x41\x0f\x01"))}
	wantWrite(t, "a text that is there", d, []impl.Rec{putRec(1, 15, 1)}, "", same, true)
	d = impl.StepsAll(d, same)
	wantReadOf(t, "a text that is there", d, 1, 15, "abab", true)
	next := []impl.Step{
		programStep(1, 0, sealedByRule("\x01\x05\x02\x00\x01rx")),
		programStep(1, 1, sealedByRule("\x02\x06\x04\x00\x01\x41\x00\x02")),
	}
	wantWrite(t, "the next block", d, []impl.Rec{putRec(1, 0, 2)}, "rx", next, true)
	d = impl.StepsAll(d, next)
	wantReadOf(t, "the next block", d, 1, 0, "x", true)
	if numbersOf(d) != [3]int{7, 5, 1} || !impl.DeviceOk(d) {
		t.Errorf("%#v came up", d)
	}
}

// No page of a transaction is made without records, nor is one of a chunk that none
// of them would name; a device that has no room, or is not right, is not asked.
func TestNoRecordsAreWrittenInNoSteps(t *testing.T) {
	full := freshOn(withRoom(3, 0))
	for _, d := range append(askedDevices(t), newDevice(t, 3), full) {
		for _, recs := range [][]impl.Rec{nil, {}} {
			for _, text := range []string{"", "r", "rtext", strings.Repeat("x", 91)} {
				wantWrite(t, "no records", d, recs, text, nil, true)
			}
		}
	}
}

func TestWritesOfOneRecord(t *testing.T) {
	for _, d := range []impl.Device{newDevice(t, 3), kept(t), withVolumes(t, 1, 2, 9)} {
		for _, c := range rightRecs() {
			recs := []impl.Rec{c.rec}
			pages := pagesIn(t, wantStepsOf(t, c.name, d, recs, "", 1))
			if want := metaPage(d.Seq, d.Tx, 0, 1, recBytes(c.rec)); pages[0] != want {
				t.Errorf("%s: the page is %#v, not %#v", c.name, pages[0], want)
			}
			// Whether the store takes it is not asked; its Chunk is, with a text.
			if c.rec.Kind != impl.RecPut {
				refusesToWrite(t, c.name+", with a text", d, recs, "rtext")
				continue
			}
			pages = pagesIn(t, wantStepsOf(t, c.name+", with a text", d, recs, "rtext", 2))
			want := []impl.Page{dataPage(d.Seq, c.rec.Chunk, "rtext"), metaPage(d.Seq+1, d.Tx, 0, 1, recBytes(c.rec))}
			if !slices.Equal(pages, want) {
				t.Errorf("%s: the pages are %#v, not %#v", c.name, pages, want)
			}
		}
	}
}

// 30 records of 3 bytes each fill a page, 9 pages are as many as there may be.
func TestWritesOfManyRecords(t *testing.T) {
	d := newDevice(t, 5)
	d.Seq, d.Tx = 120, 300
	for _, count := range []int{1, 2, 29, 30, 31, 59, 60, 61, 90, 91, 150, 151, 239, 240, 241, 269, 270} {
		recs := smallRecs(count)
		metas := (count + 29) / 30
		for _, text := range []string{"", "rtext"} {
			want, all := []impl.Page{}, metas
			if text != "" {
				want, all = append(want, dataPage(120, recs[count-1].Chunk, text)), metas+1
			}
			for part := range metas {
				some := recs[30*part : min(30*part+30, count)]
				want = append(want, metaPage(120+len(want), 300, part, metas, recBytes(some...)))
			}
			steps := wantStepsOf(t, fmt.Sprint(count, " records"), d, recs, text, all)
			if got := pagesIn(t, steps); !slices.Equal(got, want) {
				t.Errorf("%d records: the pages are %#v, not %#v", count, got, want)
			}
		}
	}
	for _, count := range []int{271, 300, 1000} {
		for _, text := range []string{"", "rtext"} {
			refusesToWrite(t, "more than 9 pages", d, smallRecs(count), text)
		}
	}
}

// Records are not cut: one that doesn't fit goes onto the next page in whole.
func TestWritesOfRecordsThatJustFit(t *testing.T) {
	d := newDevice(t, 3)
	for size := 85; size <= 96; size++ {
		want := 1
		if size > 90 {
			want = 2
		}
		wantStepsOf(t, "without a text", d, recsOfSize(size), "", want)
		wantStepsOf(t, "with a text", d, recsOfSize(size), "rx", want+1)
	}
}

func TestTheLastRecordNamesTheChunk(t *testing.T) {
	d := newDevice(t, 4)
	for _, chunks := range ordersOf([]int{1, 128, impl.MaxNumber}) {
		recs := []impl.Rec{putRec(1, 0, chunks[0]), putRec(2, 15, chunks[1]), putRec(9, 3, chunks[2])}
		for count := 1; count <= len(recs); count++ {
			pages := pagesIn(t, wantStepsOf(t, "puts", d, recs[:count], "rabc", 2))
			if want := dataPage(1, chunks[count-1], "rabc"); pages[0] != want {
				t.Errorf("the chunk's page is %#v, not %#v", pages[0], want)
			}
		}
	}
	for _, last := range []impl.Rec{baseRec(5), volRec(1, 0), dropRec(1), trimRec(1, 3)} {
		recs := []impl.Rec{putRec(1, 0, 7), putRec(1, 1, 7), last}
		refusesToWrite(t, "the last names none", d, recs, "rabc")
		wantStepsOf(t, "the last names none, without a text", d, recs, "", 1)
		slices.Reverse(recs)
		wantStepsOf(t, "the first names none", d, recs, "rabc", 2)
	}
	// On several pages it is still the last one of all.
	recs := append(smallRecs(200), putRec(4, 4, 999))
	pages := pagesIn(t, wantStepsOf(t, "several pages", d, recs, "rabc", 8))
	if want := dataPage(1, 999, "rabc"); pages[0] != want {
		t.Errorf("the chunk's page is %#v, not %#v", pages[0], want)
	}
}

// A chunk's text is written as it is, packed or not, up to MaxPart bytes.
func TestTextsOfWritesAtTheirLimits(t *testing.T) {
	d := withVolumes(t, 1)
	recs := []impl.Rec{putRec(1, 0, 4)}
	for size := 1; size <= 95; size++ {
		for _, text := range []string{strings.Repeat("r", size), strings.Repeat("\x00", size), mixedText(size)} {
			if size > 90 {
				refusesToWrite(t, "too long", d, recs, text)
				continue
			}
			pages := pagesIn(t, wantStepsOf(t, "a text", d, recs, text, 2))
			if pages[0] != dataPage(d.Seq, 4, text) {
				t.Errorf("%d bytes: the page is %#v", size, pages[0])
			}
		}
	}
	for _, size := range []int{120, 128, 255, 256, 20000, 20001, 100000} {
		refusesToWrite(t, "far too long", d, recs, strings.Repeat("r", size))
	}
	// The greatest numbers and the longest text still fit on a leaf.
	d.Seq, d.Tx = impl.MaxNumber-1, impl.MaxNumber
	steps := wantStepsOf(t, "the longest page", d, []impl.Rec{putRec(1, 0, impl.MaxNumber)}, mixedText(90), 2)
	if len(steps[0].Text) > impl.PageSize {
		t.Errorf("the page has %d bytes", len(steps[0].Text))
	}
}

func numbersAround() []int {
	const most = impl.MaxNumber
	out := []int{math.MinInt, math.MinInt + 1, -most, -2, -1, 0, 1, 2, 127, 128, most + 1, most + 2, 1 << 32, 1<<32 + 5, math.MaxInt - 1, math.MaxInt}
	for by := range 12 {
		out = append(out, most-by)
	}
	return out
}

// All pages, that of the chunk with them, have a Seq in 1 .. MaxNumber.
func TestSeqOfWritesAtItsLimits(t *testing.T) {
	const most = impl.MaxNumber
	for _, seq := range numbersAround() {
		d := newDevice(t, 4)
		d.Seq = seq
		for _, count := range []int{1, 31, 61, 270} {
			recs := smallRecs(count)
			for _, text := range []string{"", "rtext"} {
				pages := (count + 29) / 30
				if text != "" {
					pages++
				}
				if seq < 1 || seq > most-pages+1 {
					refusesToWrite(t, fmt.Sprint("Seq ", seq), d, recs, text)
					continue
				}
				for i, p := range pagesIn(t, wantStepsOf(t, fmt.Sprint("Seq ", seq), d, recs, text, pages)) {
					if p.Seq != seq+i {
						t.Errorf("page %d from Seq %d on has %d", i, seq, p.Seq)
					}
				}
			}
		}
	}
}

func TestTxOfWritesAtItsLimits(t *testing.T) {
	for _, tx := range numbersAround() {
		d := newDevice(t, 4)
		d.Tx = tx
		for _, count := range []int{1, 31} {
			recs := smallRecs(count)
			for _, text := range []string{"", "rtext"} {
				if tx < 1 || tx > impl.MaxNumber {
					refusesToWrite(t, fmt.Sprint("Tx ", tx), d, recs, text)
					continue
				}
				steps, _ := writeByRule(d, recs, text)
				for _, p := range pagesIn(t, wantStepsOf(t, fmt.Sprint("Tx ", tx), d, recs, text, len(steps))) {
					if p.Kind == impl.PageMeta && p.Tx != tx || p.Kind == impl.PageData && p.Tx != recs[count-1].Chunk {
						t.Errorf("with Tx %d there is the page %#v", tx, p)
					}
				}
			}
		}
	}
}

func TestWrongRecordsAreNotWritten(t *testing.T) {
	d := withVolumes(t, 1, 2)
	for _, c := range wrongRecs() {
		for _, right := range [][]impl.Rec{nil, {volRec(3, 0), putRec(1, 3, 5)}, smallRecs(65)} {
			for _, at := range []int{0, len(right) / 2, len(right)} {
				recs := slices.Insert(slices.Clone(right), at, c.rec)
				refusesToWrite(t, c.name, d, recs, "")
				refusesToWrite(t, c.name+", with a text", d, recs, "rtext")
			}
		}
	}
}

// A placed step is where it should be.
type placed struct{ block, leaf int }

func placesOf(steps []impl.Step) []placed {
	var out []placed
	for _, s := range steps {
		out = append(out, placed{s.Block, s.Leaf})
	}
	return out
}

// The block that is begun is filled first, then come free ones by their Wear; what
// the steps ahead have taken counts.
func TestPlacesOfWrites(t *testing.T) {
	row := func(block, from, to int) []placed {
		var out []placed
		for leaf := from; leaf < to; leaf++ {
			out = append(out, placed{block, leaf})
		}
		return out
	}
	for _, c := range []struct {
		name  string
		flash impl.Flash
		all   []placed
	}{
		{"blank", flashOf(), slices.Concat(row(0, 0, 4), row(1, 0, 4), row(2, 0, 4))},
		{"one leaf written", flashOf(fullBlock(0, 1)), slices.Concat(row(0, 1, 4), row(1, 0, 4), row(2, 0, 4))},
		{"two leaves written", flashOf(fullBlock(9, 2)), slices.Concat(row(0, 2, 4), row(1, 0, 4), row(2, 0, 4))},
		{"three leaves written", flashOf(blockOf(0), fullBlock(0, 3)), slices.Concat(row(1, 3, 4), row(0, 0, 4), row(2, 0, 4))},
		{"by Wear", flashOf(blockOf(5), blockOf(3), blockOf(4)), slices.Concat(row(1, 0, 4), row(2, 0, 4), row(0, 0, 4))},
		{"by Wear, of several the first", flashOf(blockOf(5), blockOf(3), blockOf(3)), slices.Concat(row(1, 0, 4), row(2, 0, 4), row(0, 0, 4))},
		{"the begun one ahead of the less worn", flashOf(blockOf(0), blockOf(1), fullBlock(impl.MaxNumber, 3)), slices.Concat(row(2, 3, 4), row(0, 0, 4), row(1, 0, 4))},
		{"several begun", flashOf(fullBlock(9, 3), fullBlock(0, 2), blockOf(0), fullBlock(0, 1)), slices.Concat(row(0, 3, 4), row(1, 2, 4), row(3, 1, 4), row(2, 0, 4))},
		{"behind a Torn leaf", flashOf(blockOf(0), blockOf(0, tornLeaf("x"))), slices.Concat(row(1, 1, 4), row(0, 0, 4), row(2, 0, 4))},
		{"a torn block between", flashOf(fullBlock(0, 3), tornBlock(0), blockOf(0)), slices.Concat(row(0, 3, 4), row(2, 0, 4))},
		{"a full block between", flashOf(fullBlock(0, 3), fullBlock(0, 4), blockOf(7)), slices.Concat(row(0, 3, 4), row(2, 0, 4))},
		{"Bad ones between", flashOf(badBlock(fullBlock(0, 1)), fullBlock(3, 3), badBlock(blockOf(0)), blockOf(9), blockOf(2)), slices.Concat(row(1, 3, 4), row(4, 0, 4), row(3, 0, 4))},
		{"Bad ones alone", flashOf(badBlock(blockOf(0)), badBlock(fullBlock(0, 1)), badBlock(fullBlock(0, 3))), nil},
		{"all full", flashOf(fullBlock(0, 4), fullBlock(1, 4), fullBlock(2, 4)), nil},
		{"all torn", flashOf(tornBlock(0), tornBlock(0), tornBlock(0)), nil},
		{"one leaf left", flashOf(fullBlock(0, 4), fullBlock(1, 3), fullBlock(2, 4)), row(1, 3, 4)},
	} {
		for count := 1; count <= 10; count++ {
			// So many pages, the first of them that of a chunk when there is a text.
			bare, withText := smallRecs(30*count), smallRecs(max(30*(count-1), 1))
			wantPlacesOf(t, c.name, freshOn(c.flash), bare, "", count, c.all)
			wantPlacesOf(t, c.name+", with a text", freshOn(c.flash), withText, "rtext", max(count, 2), c.all)
		}
	}
}

// wantPlacesOf asks for the first so many of all places, or for none of them when
// there are fewer, or when there are more pages than may be.
func wantPlacesOf(t *testing.T, why string, d impl.Device, recs []impl.Rec, text string, count int, all []placed) {
	t.Helper()
	if count > len(all) || text == "" && count > 9 {
		refusesToWrite(t, fmt.Sprintf("%s, %d pages", why, count), d, recs, text)
		return
	}
	steps := wantStepsOf(t, why, d, recs, text, count)
	if got := placesOf(steps); !slices.Equal(got, all[:count]) {
		t.Errorf("%s: the places are %v, not %v", why, got, all[:count])
	}
}

// No room for the first page, one in the middle or the last one: then there is no
// step at all, though others have room.
func TestNoRoomForEachPage(t *testing.T) {
	for blocks := 3; blocks <= impl.MaxBlocks; blocks++ {
		for room := range 13 {
			d := freshOn(withRoom(blocks, room))
			if got := impl.RoomOf(d.Flash); got != room {
				t.Fatalf("the room is %d, not %d", got, room)
			}
			for metas := 1; metas <= 9; metas++ {
				for _, text := range []string{"", "rtext"} {
					pages := metas
					if text != "" {
						pages++
					}
					if pages > room {
						refusesToWrite(t, fmt.Sprintf("%d pages in %d leaves", pages, room), d, smallRecs(30*metas), text)
					} else {
						wantStepsOf(t, fmt.Sprintf("%d pages in %d leaves", pages, room), d, smallRecs(30*metas), text, pages)
					}
				}
			}
		}
	}
}

func TestBlankLeavesOfBadBlocksAreNoRoom(t *testing.T) {
	for room := range 9 {
		f := withRoom(3, room)
		blank := badBlock(blockOf(0))
		for _, blocks := range [][]impl.Block{
			append(slices.Clone(f.Blocks), blank, blank, blank),
			append([]impl.Block{blank, badBlock(fullBlock(0, 1))}, f.Blocks...),
		} {
			d := freshOn(impl.Flash{Blocks: blocks})
			for pages := 1; pages <= 9; pages++ {
				if pages > room {
					refusesToWrite(t, "Bad", d, smallRecs(30*pages), "")
				} else {
					wantStepsOf(t, "Bad", d, smallRecs(30*pages), "", pages)
				}
			}
		}
	}
}

func TestNothingIsWrittenOnAFlashThatIsNotRight(t *testing.T) {
	right := withVolumes(t, 1)
	for _, c := range wrongFlashes() {
		d := deviceOf(c.flash, right.Store, right.Seq, right.Tx, right.Base)
		refusesToWrite(t, c.name, d, []impl.Rec{volRec(2, 0)}, "")
		refusesToWrite(t, c.name, d, []impl.Rec{putRec(1, 0, 1)}, "rtext")
		wantWrite(t, c.name+", no records", d, nil, "", nil, true)
		wantStepsAll(t, c.name, d, nil, impl.Device{})
		wantStepsAll(t, c.name, d, []impl.Step{programStep(0, 2, "x"), wipeStep(0)}, impl.Device{})
	}
}

// Of a device the flash, Seq and Tx are looked at, and nothing else.
func TestWritesOnDevicesThatAreNotRight(t *testing.T) {
	right := kept(t)
	recs := []impl.Rec{putRec(2, 1, 20)}
	want := wantStepsOf(t, "right", right, recs, "rnew", 2)
	for _, c := range slices.Concat(rightStores(), wrongStores()) {
		for _, base := range []int{math.MinInt, -1, 0, 1, 9, math.MaxInt} {
			d := deviceOf(right.Flash, c.store, right.Seq, right.Tx, base)
			wantWrite(t, c.name, d, recs, "rnew", want, true)
		}
	}
	// A Seq or a Tx that is there already is taken as it is told.
	d := deviceOf(right.Flash, right.Store, 1, 1, 0)
	if impl.DeviceOk(d) {
		t.Fatal("the device should not be right")
	}
	pages := pagesIn(t, wantStepsOf(t, "there already", d, recs, "rnew", 2))
	if !slices.Equal(pages, []impl.Page{dataPage(1, 20, "rnew"), metaPage(2, 1, 0, 1, recBytes(recs...))}) {
		t.Errorf("the pages are %#v", pages)
	}
	for _, d := range askedDevices(t) {
		for _, text := range []string{"", "rtext"} {
			wantWriteByRule(t, "any device", d, recs, text)
			wantWriteByRule(t, "any device, three pages", d, smallRecs(90), text)
			wantWriteByRule(t, "any device, a volume", d, []impl.Rec{volRec(1, 0)}, text)
		}
	}
	refusesToWrite(t, "the zero value", impl.Device{}, recs, "")
}

// A writing is a device, and what is written on it.
type writing struct {
	name  string
	d     impl.Device
	recs  []impl.Rec
	plain string
	text  string
}

// writings are all taken by the store of their device.
func writings(t *testing.T) []writing {
	t.Helper()
	empty, some := newDevice(t, 4), kept(t)
	begun := cameUp(t, txLeaves(1, 1, volRec(1, 0)), []impl.Leaf{tornLeaf("x"), chunkLeaf(4, 9, "text")})
	long := withVolumes(t, 1)
	puts := append(smallPuts(1, 89), putRec(1, 3, 500))
	put := func(name string, d impl.Device, plain string, recs ...impl.Rec) writing {
		return writing{name, d, recs, plain, packByRule(plain)}
	}
	return []writing{
		{"the first volume", empty, []impl.Rec{volRec(4, 0)}, "", ""},
		{"a base", some, impl.BaseRecs(some.Store), "", ""},
		{"a copy", some, []impl.Rec{volRec(9, 2)}, "", ""},
		{"a drop", some, []impl.Rec{dropRec(5)}, "", ""},
		{"a trim", some, []impl.Rec{trimRec(2, 0)}, "", ""},
		{"a chunk that is there", some, []impl.Rec{putRec(5, 7, 3)}, "", ""},
		put("a new chunk", some, "new", putRec(5, 7, 21)),
		// Chunk 20 has a page already, of a write that was cut.
		put("a chunk that was cut", some, "another", putRec(5, 7, 20)),
		put("an empty text", some, "", putRec(5, 7, 21)),
		put("a long text", begun, unlike(64), putRec(1, 15, 1)),
		put("a packed text", begun, strings.Repeat("ab", 32), putRec(1, 15, 10)),
		put("a volume and a chunk", empty, "text", volRec(3, 0), putRec(3, 3, 1)),
		{"several pages", long, puts, "", ""},
		put("several pages and a chunk", long, "text", puts...),
		put("as many pages as may be", long, "text", append(smallPuts(1, 265), putRec(1, 8, 900))...),
	}
}

func smallPuts(vol, count int) []impl.Rec { return volWith(vol, count)[1:] }

// The chunk's text and the records are there behind all steps, and the numbers that
// are next are behind what was written.
func TestWhatIsWrittenIsThere(t *testing.T) {
	for _, w := range writings(t) {
		steps, ok := impl.WriteSteps(w.d, w.recs, w.text)
		if !ok {
			t.Fatalf("%s is refused", w.name)
		}
		wantWriteByRule(t, w.name, w.d, w.recs, w.text)
		want, ok := enterAllByRule(w.d.Store, w.recs)
		if !ok {
			t.Fatalf("%s: the store refuses the records", w.name)
		}
		wantStepsAllByRule(t, w.name, w.d, steps)
		got := impl.StepsAll(w.d, steps)
		if !impl.SameStore(got.Store, want) || got.Seq != w.d.Seq+len(steps) || got.Tx != w.d.Tx+1 || !impl.DeviceOk(got) {
			t.Errorf("%s: %#v came up", w.name, got)
		}
		wantBase := w.d.Base
		if wantBase == 0 || w.recs[0].Kind == impl.RecBase {
			wantBase = w.d.Tx
		}
		if got.Base != wantBase {
			t.Errorf("%s: Base is %d, not %d", w.name, got.Base, wantBase)
		}
		if w.text == "" {
			continue
		}
		last := w.recs[len(w.recs)-1]
		if text, ok := impl.ChunkText(got.Flash, last.Chunk); text != w.plain || !ok {
			t.Errorf("%s: the chunk's text is %q, %v, not %q", w.name, text, ok, w.plain)
		}
		wantReadOf(t, w.name, got, last.Vol, last.Arg, w.plain, true)
	}
}

// wantOld asks that a device tells what it told ahead of a write that was cut.
func wantOld(t *testing.T, why string, old, got impl.Device) {
	t.Helper()
	if !impl.SameStore(got.Store, old.Store) || got.Base != old.Base {
		t.Errorf("%s: %#v came up, and was %#v", why, got, old)
	}
	for _, v := range old.Store.Vols {
		for sector := range impl.Sectors {
			text, ok := impl.ReadOf(got, v.Id, sector)
			if was, wasOk := impl.ReadOf(old, v.Id, sector); text != was || ok != wasOk {
				t.Errorf("%s: sector %d of %d is %q, %v, and was %q, %v", why, sector, v.Id, text, ok, was, wasOk)
			}
		}
	}
}

// With the last step missing, or more of them, or one torn, all is as it was.
func TestWhatIsCutIsNotThere(t *testing.T) {
	for _, w := range writings(t) {
		steps, _ := impl.WriteSteps(w.d, w.recs, w.text)
		for whole := range steps {
			got := impl.StepsAll(w.d, steps[:whole])
			wantOld(t, fmt.Sprintf("%s, %d of %d steps", w.name, whole, len(steps)), w.d, got)
			f, ok := impl.CutSteps(w.d.Flash, steps, whole, true)
			if !ok {
				t.Fatalf("%s: step %d can't be torn", w.name, whole)
			}
			torn, _ := impl.MountAll(f)
			wantOld(t, fmt.Sprintf("%s, step %d torn", w.name, whole), w.d, torn)
		}
	}
}

// Any page may be missing, and those behind it be there: without one of the
// transaction's all is as it was, without the chunk's its text is not read.
func TestWhatMissesAnyStepIsNotThere(t *testing.T) {
	for _, w := range writings(t) {
		steps, _ := impl.WriteSteps(w.d, w.recs, w.text)
		pages := pagesIn(t, steps)
		for missing, page := range pages {
			rest := slices.Delete(slices.Clone(pages), missing, missing+1)
			got := impl.StepsAll(w.d, placedSteps(t, w.d.Flash, rest))
			why := fmt.Sprintf("%s without page %d", w.name, missing)
			if page.Kind == impl.PageMeta {
				wantOld(t, why, w.d, got)
				continue
			}
			text, ok := impl.ChunkText(got.Flash, page.Tx)
			was, wasOk := impl.ChunkText(w.d.Flash, page.Tx)
			if text != was || ok != wasOk || ok && text == w.plain {
				t.Errorf("%s: the chunk's text is %q, %v", why, text, ok)
			}
		}
	}
}

// The chunk's page stands ahead of all others: nothing names it before it is there.
func TestNoRecordNamesAChunkThatIsNotThere(t *testing.T) {
	for _, w := range writings(t) {
		if w.text == "" {
			continue
		}
		steps, _ := impl.WriteSteps(w.d, w.recs, w.text)
		last := w.recs[len(w.recs)-1]
		for whole := range len(steps) + 1 {
			got := impl.StepsAll(w.d, steps[:whole])
			if impl.ChunkOf(got.Store, last.Vol, last.Arg) != last.Chunk || impl.ChunkOf(w.d.Store, last.Vol, last.Arg) == last.Chunk {
				continue
			}
			if text, ok := impl.ReadOf(got, last.Vol, last.Arg); text != w.plain || !ok {
				t.Errorf("%s: behind %d steps the sector is %q, %v", w.name, whole, text, ok)
			}
		}
	}
}

func TestStepsAllOfNoneIsTheFlashAsItComesUp(t *testing.T) {
	for _, d := range askedDevices(t) {
		want, _ := mountByRule(d.Flash)
		for _, steps := range [][]impl.Step{nil, {}} {
			wantStepsAll(t, "none", d, steps, want)
		}
	}
	// What the device tells beside its flash is not asked for.
	d := kept(t)
	for _, c := range slices.Concat(rightStores(), wrongStores()) {
		wantStepsAll(t, c.name, deviceOf(d.Flash, c.store, -1, 0, math.MaxInt), nil, d)
	}
}

// Steps that can't be done end it: what is ahead of them counts, what is behind
// them does not, though it could be done.
func TestStepsAllOfStepsThatCantBeDone(t *testing.T) {
	d := withVolumes(t, 1)
	recs := append(smallPuts(1, 70), putRec(1, 2, 300))
	steps, ok := impl.WriteSteps(d, recs, "rtext")
	if !ok || len(steps) != 4 {
		t.Fatalf("%d steps, %v", len(steps), ok)
	}
	after := wantStepsAllByRule(t, "all", d, steps)
	if impl.SameStore(after.Store, d.Store) {
		t.Fatal("the steps should change the store")
	}
	none := []impl.Step{
		{}, {Kind: 3, Block: 1}, {Kind: -1}, programStep(0, 0, "x"), programStep(0, 3, ""), programStep(2, 1, "x"),
		programStep(-1, 0, "x"), programStep(3, 0, "x"), programStep(2, 0, mixedText(121)), wipeStep(-1), wipeStep(3), wipeStep(math.MaxInt),
	}
	for _, wrong := range none {
		for at := range len(steps) + 1 {
			list := slices.Insert(slices.Clone(steps), at, wrong)
			got := wantStepsAllByRule(t, fmt.Sprintf("%#v at %d", wrong, at), d, list)
			if at == len(steps) && !sameDevice(got, after) || at < len(steps) && !impl.SameStore(got.Store, d.Store) {
				t.Errorf("%#v at %d: %#v came up", wrong, at, got)
			}
		}
	}
	twice := wantStepsAllByRule(t, "twice", d, slices.Concat(steps, steps))
	if !sameDevice(twice, after) {
		t.Errorf("steps that were done already do more: %#v", twice)
	}
	bad := deviceOf(impl.MarkBad(d.Flash, 0), d.Store, d.Seq, d.Tx, d.Base)
	wantStepsAllByRule(t, "on a Bad block", bad, steps)
}

// Steps may wipe as well, and what was wiped is gone.
func TestStepsAllOfWipes(t *testing.T) {
	d := withVolumes(t, 1)
	for _, steps := range [][]impl.Step{
		{wipeStep(0)},
		{wipeStep(1)},
		{wipeStep(0), programStep(0, 0, pageBytes(metaPage(9, 9, 0, 1, recBytes(volRec(5, 0)))))},
		{wipeStep(2), wipeStep(0), wipeStep(2)},
	} {
		wantStepsAllByRule(t, "wipes", d, steps)
	}
	wiped := impl.StepsAll(d, []impl.Step{wipeStep(0)})
	if len(wiped.Store.Vols) != 0 || numbersOf(wiped) != [3]int{1, 1, 0} || wiped.Flash.Blocks[0].Wear != 1 {
		t.Errorf("%#v came up", wiped)
	}
}

// What is done to an answer is seen neither in the device nor in the steps.
func TestStepsAllOwnsItsMemory(t *testing.T) {
	d := withVolumes(t, 1)
	steps, _ := impl.WriteSteps(d, []impl.Rec{putRec(1, 3, 1)}, "rtext")
	was, given := twinDevice(d), slices.Clone(steps)
	got := impl.StepsAll(d, steps)
	for b := range got.Flash.Blocks {
		clear(got.Flash.Blocks[b].Leaves)
	}
	clear(got.Flash.Blocks)
	for i := range got.Store.Arena.Knots {
		clear(got.Store.Arena.Knots[i].Kids)
	}
	clear(got.Store.Vols)
	if !sameDevice(d, was) || !slices.Equal(steps, given) {
		t.Errorf("the device is %#v, the steps are %#v", d, steps)
	}
}

// drawnWrite has records, right and wrong ones, and the text of a chunk or none.
func drawnWrite(draws string) ([]impl.Rec, string) {
	var recs []impl.Rec
	for i := range int(draws[0]) % 4 {
		recs = append(recs, drawnRec(draws[8+4*i:]))
	}
	if draws[1] < 60 {
		recs = append(smallRecs(int(draws[2])), recs...)
	}
	if draws[1]%16 == 3 {
		recs = append(recs, wrongRecs()[int(draws[3])%len(wrongRecs())].rec)
	}
	if draws[4]%3 != 0 {
		recs = append(recs, putRec(1, int(draws[5])%16, 1+int(draws[6])))
		from, size := int(draws[7]), int(draws[6])%95
		return recs, mixedText(350)[from : from+size]
	}
	return recs, ""
}

func drawnFlash(draws string) impl.Flash {
	var blocks []impl.Block
	for b := range 3 + int(draws[0])%8 {
		block := fullBlock(int(draws[1+b])%4, int(draws[11+b])%5)
		if draws[21+b]%5 == 0 {
			block.Bad = true
		}
		blocks = append(blocks, block)
	}
	return impl.Flash{Blocks: blocks}
}

func TestDrawnWritesByRule(t *testing.T) {
	count := map[bool]int{}
	steps := map[int]int{}
	for draws := mixedText(60000); len(draws) >= 100; draws = draws[31:] {
		recs, text := drawnWrite(draws[40:])
		d := deviceOf(drawnFlash(draws), storeOf(1, impl.Arena{}), 1+int(draws[32])*300, 1+int(draws[33]), 0)
		ok := wantWriteByRule(t, "drawn", d, recs, text)
		count[ok]++
		list, _ := impl.WriteSteps(d, recs, text)
		steps[len(list)]++
		wantStepsAllByRule(t, "drawn", d, list)
	}
	if count[true] < 300 || count[false] < 300 {
		t.Errorf("drawn writes came up %v", count)
	}
	for size := range 9 {
		if steps[size] < 3 {
			t.Errorf("drawn writes have so many steps: %v", steps)
		}
	}
}

// A writtenLife is one whose plans are written by WriteSteps; each is cut at every
// place first, and what comes up has to be the old.
type writtenLife struct{ askedLife }

// do is false when there is no room.
func (l *writtenLife) do(q impl.Ask) bool {
	l.t.Helper()
	recs, text, code := impl.PlanOf(l.d, q)
	l.count[fmt.Sprint("code ", code)]++
	if code != 0 {
		return true
	}
	wantWriteByRule(l.t, "life", l.d, recs, text)
	steps, ok := impl.WriteSteps(l.d, recs, text)
	if !ok {
		l.count["no room"]++
		if len(steps) != 0 || impl.RoomOf(l.d.Flash) >= 2 {
			l.t.Fatalf("%#v is refused with %v on %#v", q, steps, l.d)
		}
		return false
	}
	for whole := range steps {
		wantOld(l.t, "cut", l.d, impl.StepsAll(l.d, steps[:whole]))
		f, _ := impl.CutSteps(l.d.Flash, steps, whole, true)
		torn, _ := impl.MountAll(f)
		wantOld(l.t, "torn", l.d, torn)
		l.count["cut"]++
	}
	l.d = impl.StepsAll(l.d, steps)
	if !impl.DeviceOk(l.d) {
		l.t.Fatalf("%#v is not right", l.d)
	}
	l.ask(q)
	return true
}

// cut leaves the device behind some steps of what is planned for an ask.
func (l *writtenLife) cut(q impl.Ask, draw byte) {
	l.t.Helper()
	recs, text, code := impl.PlanOf(l.d, q)
	steps, ok := impl.WriteSteps(l.d, recs, text)
	if code != 0 || !ok || len(steps) == 0 {
		return
	}
	f, ok := impl.CutSteps(l.d.Flash, steps, int(draw)%len(steps), draw%2 == 0)
	if !ok {
		l.t.Fatalf("%#v can't be cut", steps)
	}
	l.d, _ = impl.MountAll(f)
	l.count["left"]++
}

// What is planned and written is read, however often a write was cut ahead of it.
func TestDrawnLivesOfWrites(t *testing.T) {
	count := map[string]int{}
	draws := mixedText(12000)
	for len(draws) > 300 {
		life := askedLife{t: t, d: newDevice(t, 3+int(draws[0])%8), vols: map[int]map[int]string{}, count: count}
		l := &writtenLife{life}
		for hasRoom := true; hasRoom && len(draws) > 300; draws = draws[5:] {
			if draws[4] < 40 {
				l.cut(drawnAsk(draws), draws[5])
			} else {
				hasRoom = l.do(drawnAsk(draws))
			}
			l.wantTexts()
		}
	}
	for what, least := range map[string]int{"code 0": 500, "code 1": 50, "no room": 20, "cut": 500, "left": 50} {
		if count[what] < least {
			t.Errorf("short lives: %v", count)
		}
	}
}

func TestWritesAreAskedTwice(t *testing.T) {
	d, other := kept(t), newDevice(t, 3)
	recs := []impl.Rec{putRec(2, 1, 20)}
	for range 3 {
		steps := wantStepsOf(t, "first", d, recs, "rnew", 2)
		wantStepsOf(t, "another device", other, recs, "rnew", 2)
		refusesToWrite(t, "refused", d, recs, strings.Repeat("r", 91))
		wantStepsAllByRule(t, "first", d, steps)
		wantStepsAllByRule(t, "none", d, nil)
	}
}
