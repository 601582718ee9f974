package tests

import (
	"fmt"
	"math"
	"slices"
	"strings"
	"sync"
	"testing"

	"loop.example/g00195/impl"
)

// Promise 18: what is served is what the model tells, or there is no room.

// A serving is what Serve answers.
type serving struct {
	device impl.Device
	steps  []impl.Step
	told   string
	code   int
}

func (s serving) same(other serving) bool {
	return sameDevice(s.device, other.device) && slices.Equal(s.steps, other.steps) && s.told == other.told && s.code == other.code
}

func servingOf(d impl.Device, q impl.Ask) serving {
	var s serving
	s.device, s.steps, s.told, s.code = impl.Serve(d, q)
	return s
}

// unserved is the device as it is, no steps, nothing told.
func unserved(d impl.Device, code int) serving { return serving{device: d, code: code} }

func sameStoreByRule(a, b impl.Store) bool {
	sameVol := func(x, y impl.Vol) bool {
		return x.Id == y.Id && slices.Equal(allByRule(a.Arena, x.Root), allByRule(b.Arena, y.Root))
	}
	return a.Next == b.Next && slices.EqualFunc(a.Vols, b.Vols, sameVol)
}

func deviceRightByRule(d impl.Device) bool {
	up, ok := mountByRule(d.Flash)
	return ok && storeRightByRule(d.Store) && sameStoreByRule(d.Store, up.Store) && numbersOf(d) == numbersOf(up)
}

// serveByRule is chapter 18's rule, from the rules of the chapters ahead.
func serveByRule(d impl.Device, q impl.Ask) serving {
	if !deviceRightByRule(d) {
		return unserved(d, 5)
	}
	p := planByRule(d, q)
	if p.code != 0 {
		return unserved(d, p.code)
	}
	if q.Kind == 6 {
		if told, ok := readOfByRule(d, q.Vol, q.Sector); ok {
			return serving{device: d, told: told}
		}
		return unserved(d, 1)
	}
	var steps []impl.Step
	if roomByRule(d.Flash).room < 12 {
		behind, cleaned := cleanAllByRule(d, 20)
		d, steps = behind[len(behind)-1], cleaned
	}
	write, ok := writeByRule(d, p.recs, p.text)
	if roomByRule(d.Flash).room < 8 || !ok {
		return serving{device: d, steps: steps, code: 4}
	}
	return serving{device: stepsAllByRule(d, write), steps: slices.Concat(steps, write)}
}

// spoil writes into all lists of a serving, and the room behind them.
func spoil(s serving) {
	for _, block := range s.device.Flash.Blocks {
		clear(block.Leaves[:cap(block.Leaves)])
	}
	clear(s.device.Flash.Blocks[:cap(s.device.Flash.Blocks)])
	for _, knot := range s.device.Store.Arena.Knots {
		clear(knot.Kids[:cap(knot.Kids)])
	}
	clear(s.device.Store.Arena.Knots[:cap(s.device.Store.Arena.Knots)])
	clear(s.device.Store.Vols[:cap(s.device.Store.Vols)])
	clear(s.steps[:cap(s.steps)])
}

// wantOwn asks that what is answered shares no memory with what was handed in, and no
// two lists or texts of it any with each other.
func (s serving) wantOwn(t *testing.T, why string, d impl.Device, q impl.Ask) {
	t.Helper()
	if sharesFlash(s.device.Flash, d.Flash) || sharesStore(s.device.Store, d.Store) {
		t.Errorf("%s: memory of the device is answered", why)
	}
	if !ownLists(s.device.Flash) {
		t.Errorf("%s: two lists of leaves stand in one memory", why)
	}
	wantOwnLists(t, s.device.Store.Arena)
	wantOwnTexts(t, why, d, q.Text, s.steps)
	wantOwnTexts(t, why, s.device, s.told, s.steps)
	for _, leaf := range leavesOf(s.device.Flash) {
		if sharesMemory(leaf.Text, q.Text) || sharesMemory(leaf.Text, s.told) {
			t.Errorf("%s: a leaf has memory of the ask, or of what is told", why)
		}
	}
}

// isWornOut tells the one step that is told and can't be done.
func isWornOut(f impl.Flash, s impl.Step) bool {
	return s.Kind == impl.StepWipe && f.Blocks[s.Block].Wear == impl.MaxNumber
}

// wantLed asks that the steps, done one behind the other on a right device's flash,
// lead to the device that is answered, and that it is right.
func (s serving) wantLed(t *testing.T, why string, d impl.Device) {
	t.Helper()
	f := d.Flash
	for i, step := range s.steps {
		after, ok := impl.DoStep(f, step)
		if !ok && !isWornOut(f, step) {
			t.Errorf("%s: step %d of %#v can't be done", why, i, s.steps)
		}
		f = after
	}
	want := d
	if len(s.steps) > 0 {
		want, _ = impl.MountAll(f)
	}
	if !sameFlash(f, s.device.Flash) || !sameDevice(want, s.device) || !impl.DeviceOk(s.device) {
		t.Errorf("%s: the steps %#v lead to %#v, and answered is %#v", why, s.steps, want, s.device)
	}
}

// wantServed asks twice, and spoils what was answered first in between. The device has
// to be as it was.
func wantServed(t *testing.T, why string, d impl.Device, q impl.Ask, want serving) {
	t.Helper()
	q.Text = strings.Clone(q.Text)
	keepsDevice(t, why+": Serve", d, func(given impl.Device) string {
		first := servingOf(given, q)
		if !first.same(want) {
			t.Errorf("%s: Serve of %#v on %#v\nis  %#v\nnot %#v", why, q, d, first, want)
		}
		first.wantOwn(t, why, given, q)
		if want.code != impl.CodeDown {
			first.wantLed(t, why, given)
		}
		spoil(first)
		again := servingOf(given, q)
		if !again.same(want) {
			t.Errorf("%s: Serve of %#v, again, on %#v\nis  %#v\nnot %#v", why, q, d, again, want)
		}
		if sharesFlash(first.device.Flash, again.device.Flash) || sharesStore(first.device.Store, again.device.Store) || sharesList(first.steps, again.steps) {
			t.Errorf("%s: memory is answered twice", why)
		}
		return again.told
	})
}

func wantServedByRule(t *testing.T, why string, d impl.Device, q impl.Ask) serving {
	t.Helper()
	want := serveByRule(d, q)
	wantServed(t, why, d, q, want)
	return want
}

// refusesToServe asks for a code as well, so that the rule alone doesn't decide.
func refusesToServe(t *testing.T, why string, d impl.Device, q impl.Ask, code int) {
	t.Helper()
	wantServed(t, why, d, q, unserved(d, code))
	wantServedByRule(t, why, d, q)
}

// isServed asks for steps that clean, and behind them those that write the records.
func isServed(t *testing.T, why string, d impl.Device, q impl.Ask, clean []impl.Step, text string, recs ...impl.Rec) {
	t.Helper()
	cleaned := d
	if len(clean) > 0 {
		cleaned = stepsAllByRule(d, clean)
	}
	write, ok := writeByRule(cleaned, recs, text)
	if !ok || len(write) == 0 {
		t.Fatalf("%s: by rule %v can't be written", why, recs)
	}
	wantServed(t, why, d, q, serving{device: stepsAllByRule(cleaned, write), steps: slices.Concat(clean, write)})
	wantServedByRule(t, why, d, q)
}

// isFull asks for steps that clean, and nothing behind them.
func isFull(t *testing.T, why string, d impl.Device, q impl.Ask, clean ...impl.Step) {
	t.Helper()
	want := serving{device: d, steps: clean, code: impl.CodeFull}
	if len(clean) > 0 {
		want.device = stepsAllByRule(d, clean)
	}
	wantServed(t, why, d, q, want)
	wantServedByRule(t, why, d, q)
}

// isRead asks that nothing is done for what is told, also where there is little room.
func isRead(t *testing.T, why string, d impl.Device, vol, sector int, told string) {
	t.Helper()
	wantServed(t, why, d, readAsk(vol, sector), serving{device: d, told: told})
	wantServedByRule(t, why, d, readAsk(vol, sector))
}

// The second ask finds a leaf less than enough, and so does each one behind it.
func TestServingsByHand(t *testing.T) {
	d := newDevice(t, 3)
	page := func(b, leaf int, text string) impl.Step { return programStep(b, leaf, sealedByRule(text)) }
	base := page(0, 1, "\x02\x02\x02\x00\x01\x10\x01\x00\x21\x00\x00")
	for _, c := range []struct {
		ask  impl.Ask
		want []impl.Step
		room int
	}{
		{createAsk(1), []impl.Step{page(0, 0, "\x02\x01\x01\x00\x01\x21\x00\x00")}, 11},
		{writeAsk(1, 3, "abab"), []impl.Step{base, page(0, 2, "\x01\x03\x01\x00\x01rabab"), page(0, 3, "\x02\x04\x03\x00\x01\x41\x03\x01")}, 8},
		// The base brings the chunk ahead of it, and this the block.
		{writeAsk(1, 4, "abab"), []impl.Step{
			page(1, 0, "\x02\x05\x04\x00\x01\x10\x02\x00\x21\x00\x00\x41\x03\x01"), page(1, 1, "\x01\x06\x01\x00\x01rabab"),
			wipeStep(0), page(1, 2, "\x02\x07\x05\x00\x01\x41\x04\x01")}, 9},
	} {
		got := servingOf(d, c.ask)
		wantServed(t, "by hand", d, c.ask, serving{device: stepsAllByRule(d, c.want), steps: c.want})
		wantServedByRule(t, "by hand", d, c.ask)
		if d = got.device; impl.RoomOf(d.Flash) != c.room || !impl.Bounds(d) {
			t.Errorf("behind %#v the room is %d, not %d", c.ask, impl.RoomOf(d.Flash), c.room)
		}
	}
	isRead(t, "by hand", d, 1, 3, "abab")
	isRead(t, "by hand", d, 1, 4, "abab")
	isRead(t, "by hand", d, 1, 5, "")
	if numbersOf(d) != [3]int{8, 6, 4} {
		t.Errorf("%#v came up", d)
	}
}

func TestServingsOfEachKind(t *testing.T) {
	d := withBlanks(t, kept(t), 3)
	for _, c := range []struct {
		ask  impl.Ask
		text string
		rec  impl.Rec
	}{
		{writeAsk(2, 1, "three"), "", putRec(2, 1, 3)},
		{writeAsk(2, 0, "three"), "", putRec(2, 0, 3)},
		{writeAsk(5, 15, ""), "", putRec(5, 15, 4)},
		{writeAsk(2, 1, "new"), "rnew", putRec(2, 1, 20)},
		{writeAsk(5, 15, "abababababab"), "z\x02ab\x8a\x02", putRec(5, 15, 20)},
		{writeAsk(5, 0, strings.Repeat("x", 64)), packByRule(strings.Repeat("x", 64)), putRec(5, 0, 20)},
		{writeAsk(5, 0, "gone"), "rgone", putRec(5, 0, 20)},
		{writeAsk(5, 0, "cut"), "rcut", putRec(5, 0, 20)},
		{trimAsk(2, 0), "", trimRec(2, 0)},
		{trimAsk(5, 14), "", trimRec(5, 14)},
		{createAsk(1), "", volRec(1, 0)},
		{createAsk(9), "", volRec(9, 0)},
		{cloneAsk(1, 2), "", volRec(1, 2)},
		{cloneAsk(9, 5), "", volRec(9, 5)},
		{dropAsk(2), "", dropRec(2)},
		{dropAsk(5), "", dropRec(5)},
	} {
		isServed(t, "each kind", d, c.ask, nil, c.text, c.rec)
		after := servingOf(d, c.ask).device
		want, _ := enterAllByRule(d.Store, []impl.Rec{c.rec})
		if !sameStoreByRule(after.Store, want) {
			t.Errorf("behind %#v %#v came up", c.ask, after)
		}
		if c.ask.Kind == impl.AskWrite {
			isRead(t, "what was written", after, c.ask.Vol, c.ask.Sector, c.ask.Text)
		}
	}
}

// withBlanks came up from the flash of a device and so many blank blocks more.
func withBlanks(t *testing.T, d impl.Device, count int) impl.Device {
	t.Helper()
	blocks := slices.Clone(d.Flash.Blocks)
	for range count {
		blocks = append(blocks, blockOf(0))
	}
	return upFrom(t, blocks...)
}

// The device is as it is, and nothing is cleaned for what is refused, however little
// room there is.
func TestServingsOfEachCodeOfPlans(t *testing.T) {
	some, full := kept(t), withVolumes(t, 1, 4, 9)
	devices := map[string]impl.Device{"much room": withBlanks(t, some, 5), "some room": some, "no room": upFrom(t, filledUp(some.Flash)...)}
	for name, d := range devices {
		for _, q := range []impl.Ask{
			{}, {Kind: 7, Vol: 2}, writeAsk(2, 16, "x"), writeAsk(2, 3, unlike(65)), writeAsk(0, 3, "x"), trimAsk(10, 3), readAsk(2, -1),
			cloneAsk(3, 0), {Kind: impl.AskCreate, Vol: 3, Of: 2}, {Kind: impl.AskDrop, Vol: 2, Text: "x"}, {Kind: impl.AskRead, Vol: 2, Text: "x"},
		} {
			refusesToServe(t, name, d, q, impl.CodeWrong)
		}
		for _, q := range []impl.Ask{createAsk(2), createAsk(5), cloneAsk(2, 5), cloneAsk(5, 5), cloneAsk(2, 9)} {
			refusesToServe(t, name, d, q, impl.CodeTaken)
		}
		for _, q := range []impl.Ask{writeAsk(1, 3, "three"), trimAsk(9, 0), dropAsk(3), readAsk(1, 0), cloneAsk(3, 9), cloneAsk(3, 3)} {
			refusesToServe(t, name, d, q, impl.CodeNone)
		}
	}
	for _, d := range []impl.Device{full, withBlanks(t, full, 7), upFrom(t, filledUp(full.Flash)...)} {
		refusesToServe(t, "three volumes", d, createAsk(2), impl.CodeFull)
		refusesToServe(t, "three volumes", d, cloneAsk(2, 4), impl.CodeFull)
		refusesToServe(t, "three volumes", d, cloneAsk(2, 3), impl.CodeNone)
		refusesToServe(t, "three volumes", d, createAsk(9), impl.CodeTaken)
	}
}

// filledUp has junk wherever a leaf was blank.
func filledUp(f impl.Flash) []impl.Block {
	var out []impl.Block
	for _, block := range f.Blocks {
		out = append(out, filled(slices.DeleteFunc(slices.Clone(block.Leaves), isBlank)...))
	}
	return out
}

func TestAllFieldsOfServedAsks(t *testing.T) {
	d := kept(t)
	count := map[int]int{}
	for i, q := range manyAsks() {
		if i%11 != 0 && !askRightByRule(q) {
			continue
		}
		got, want := servingOf(d, q), serveByRule(d, q)
		if !got.same(want) {
			t.Errorf("Serve of %#v\nis  %#v\nnot %#v", q, got, want)
		}
		count[want.code]++
	}
	for _, code := range []int{0, 1, 2, 3} {
		if count[code] < 5 {
			t.Errorf("codes came up %v", count)
		}
	}
}

// asksOfEachCode would be refused by a plan with each code, or be served, on a device
// with the volumes 1, 2 and 9.
func asksOfEachCode() []impl.Ask {
	return []impl.Ask{
		writeAsk(1, 3, "x"), trimAsk(1, 3), dropAsk(1), readAsk(1, 3), createAsk(3), cloneAsk(4, 1), createAsk(1), cloneAsk(2, 1),
		dropAsk(7), readAsk(8, 0), cloneAsk(4, 5), {}, writeAsk(1, 16, "x"), writeAsk(1, 3, unlike(65)), {Kind: -1, Vol: -1, Sector: -1, Of: -1},
	}
}

func TestServingsOnDevicesThatAreNotRight(t *testing.T) {
	wrong := 0
	for _, d := range askedDevices(t) {
		for _, q := range asksOfEachCode() {
			if !deviceRightByRule(d) {
				refusesToServe(t, "any device", d, q, impl.CodeDown)
				wrong++
			} else {
				wantServedByRule(t, "any device", d, q)
			}
		}
	}
	if wrong < 500 {
		t.Errorf("only %d asks came to a device that is not right", wrong)
	}
}

// Each of these is right but for one thing.
func TestServingsOnDevicesThatAreNearlyRight(t *testing.T) {
	right := withVolumes(t, 1, 2, 9)
	var devices []impl.Device
	for _, by := range []int{-1, 1, math.MinInt} {
		seq, tx, base, next := right, right, right, right
		seq.Seq += by
		tx.Tx += by
		base.Base += by
		next.Store = withNext(right.Store, right.Store.Next+by)
		devices = append(devices, seq, tx, base, next)
	}
	flash, store, knot, wear := right, right, right, right
	flash.Flash = withLeaf(right.Flash, 0, 1, chunkLeaf(2, 1, "x"))
	store.Store = made(t, volRec(1, 0), volRec(2, 0))
	knot.Store.Arena = arenaOf(leafKnot(0, 0, 0, 0))
	wear.Flash = withBlock(right.Flash, 2, blockOf(-1))
	for _, d := range append(devices, flash, store, knot, wear, impl.Device{}) {
		for _, q := range asksOfEachCode() {
			refusesToServe(t, "nearly right", d, q, impl.CodeDown)
		}
	}
	for _, q := range asksOfEachCode() {
		if got := wantServedByRule(t, "right", right, q); got.code == impl.CodeDown {
			t.Errorf("%#v is not served", q)
		}
	}
}

// A store of other knots is handed back as it is, as long as nothing is done.
func TestServingsOfAStoreOfOtherKnots(t *testing.T) {
	recs := []impl.Rec{volRec(1, 0), putRec(1, 5, 7), volRec(2, 1)}
	leaf, root := leafKnot(0, 7, 0, 0), rootKnot(-1, 0, -1, -1)
	apart := storeOf(8, arenaOf(leaf, root, leaf, rootKnot(-1, 2, -1, -1)), volOf(1, 1), volOf(2, 3))
	f := laidOut(txLeaves(1, 1, recs...), []impl.Leaf{chunkLeaf(2, 7, "x")})
	d := deviceOf(f, apart, 3, 2, 1)
	isRead(t, "other knots", d, 2, 5, "x")
	refusesToServe(t, "other knots", d, createAsk(2), impl.CodeTaken)
	spacious := withBlanks(t, d, 1)
	spacious.Store = apart
	isServed(t, "other knots", spacious, trimAsk(1, 3), nil, "", trimRec(1, 3))
	if got := servingOf(spacious, trimAsk(1, 3)).device; sameArena(got.Store.Arena, apart.Arena) {
		t.Errorf("%#v came up", got)
	}
	crowd := crowded(t, 3)
	crowd.Store.Arena = turnedRound(crowd.Store.Arena)
	isFull(t, "other knots", crowd, trimAsk(1, 3))
	crowd = crowded(t, 8)
	crowd.Store.Arena = turnedRound(crowd.Store.Arena)
	isServed(t, "other knots", crowd, trimAsk(1, 3), nil, "", trimRec(1, 3))
}

// turnedRound has the leaves of one tree, whose root is the last knot, the other way
// round.
func turnedRound(a impl.Arena) impl.Arena {
	last := len(a.Knots) - 1
	leaves := slices.Clone(a.Knots[:last])
	slices.Reverse(leaves)
	var kids []int
	for _, kid := range a.Knots[last].Kids {
		if kid >= 0 {
			kid = last - 1 - kid
		}
		kids = append(kids, kid)
	}
	return arenaOf(append(leaves, rootKnot(kids...))...)
}

// crowded has five blocks, so much room, up to 16, and nothing that can be cleaned: the
// base is the last transaction, and all other leaves that are written have chunks that
// live.
func crowded(t *testing.T, room int) impl.Device {
	t.Helper()
	return crowdedWith(t, 0, 16-room)
}

// crowdedWith has so many dead blocks ahead of the base, and so many chunks that live
// behind it, up to 16 leaves in all.
func crowdedWith(t *testing.T, dead, live int) impl.Device {
	t.Helper()
	var blocks []impl.Block
	for b := range dead {
		blocks = append(blocks, []impl.Block{filled(), tornBlock(3), filled(chunkLeaf(40+b, 99, "gone"), metaLeaf(30, 8))}[b%3])
	}
	var chunks []int
	var leaves []impl.Leaf
	for chunk := 1; chunk <= live; chunk++ {
		chunks = append(chunks, chunk)
		leaves = append(leaves, chunkLeaf(chunk, chunk, fmt.Sprint("text of ", chunk)))
	}
	blocks = append(blocks, filled(baseLeaf(chunks...)))
	for four := range slices.Chunk(leaves, 4) {
		blocks = append(blocks, blockOf(0, four...))
	}
	for len(blocks) < 5 {
		blocks = append(blocks, blockOf(0))
	}
	d := upFrom(t, blocks...)
	if got := impl.RoomOf(d.Flash); len(blocks) > 5 || got != 16-4*dead-live {
		t.Fatalf("%d blocks have room %d", len(blocks), got)
	}
	return d
}

// asksOfChange have one record each on a device with volume 1, some a text as well.
func asksOfChange(next int) []struct {
	ask  impl.Ask
	text string
	rec  impl.Rec
} {
	return []struct {
		ask  impl.Ask
		text string
		rec  impl.Rec
	}{
		{writeAsk(1, 15, "new"), "rnew", putRec(1, 15, next)},
		{writeAsk(1, 15, ""), "r", putRec(1, 15, next)},
		{trimAsk(1, 2), "", trimRec(1, 2)},
		{createAsk(4), "", volRec(4, 0)},
		{cloneAsk(4, 1), "", volRec(4, 1)},
		{dropAsk(1), "", dropRec(1)},
	}
}

// With dead blocks or without: at twelve leaves nothing is cleaned, below that one dead
// block behind the other, as long as there are less than twelve, and at eight there is
// room then.
func TestServingsByTheRoom(t *testing.T) {
	count := map[string]int{}
	for dead := range 4 {
		for live := range 17 - 4*dead {
			d := crowdedWith(t, dead, live)
			room := impl.RoomOf(d.Flash)
			var clean []impl.Step
			for b := 0; b < dead && room < 12; b++ {
				clean = append(clean, wipeStep(b))
				room += 4
			}
			why := fmt.Sprintf("%d dead blocks, %d leaves that live", dead, live)
			for _, c := range asksOfChange(d.Store.Next) {
				if room < 8 {
					isFull(t, why, d, c.ask, clean...)
					count[fmt.Sprint("full ", len(clean) > 0)]++
				} else {
					isServed(t, why, d, c.ask, clean, c.text, c.rec)
					count[fmt.Sprint("served ", len(clean) > 0)]++
				}
			}
			for sector := range live {
				isRead(t, why, d, 1, sector, fmt.Sprint("text of ", sector+1))
			}
			if live < 16 {
				isRead(t, why, d, 1, 15, "")
			}
			refusesToServe(t, why, d, readAsk(2, 3), impl.CodeNone)
			refusesToServe(t, why, d, createAsk(1), impl.CodeTaken)
		}
	}
	for what, least := range map[string]int{"full false": 40, "full true": 20, "served false": 40, "served true": 40} {
		if count[what] < least {
			t.Errorf("rooms came up %v", count)
		}
	}
}

// A base takes a leaf, and nothing comes back for it, as all of the block ahead stands
// on a Bad one: with eight leaves there was room, and behind the cleaning is none.
func TestServingsWhereCleaningTakesRoom(t *testing.T) {
	for room := range 17 {
		crowd := crowded(t, room)
		crowd.Flash.Blocks[0] = badBlock(filled(append([]impl.Leaf{crowd.Flash.Blocks[0].Leaves[0]}, txLeaves(51, 10, volRec(2, 0))...)...))
		d := upFrom(t, crowd.Flash.Blocks...)
		base, ok := baseStepsByRule(d)
		if ok != (room >= 1) || len(base) > 1 || impl.RoomOf(d.Flash) != room {
			t.Fatalf("with room %d the base is %#v, %v", room, base, ok)
		}
		for _, c := range asksOfChange(d.Store.Next) {
			switch {
			case room >= 12:
				isServed(t, fmt.Sprint("room ", room), d, c.ask, nil, c.text, c.rec)
			case room >= 9:
				isServed(t, fmt.Sprint("room ", room), d, c.ask, base, c.text, c.rec)
			default:
				isFull(t, fmt.Sprint("room ", room), d, c.ask, base...)
			}
		}
	}
}

func TestServingsWithMuchToClean(t *testing.T) {
	d := muchToClean(t)
	behind, clean := cleanAllByRule(d, 20)
	if len(behind) != 20 || len(clean) != 37 || roomByRule(behind[19].Flash).room != 12 {
		t.Fatalf("by rule there are %d cleanings of %d steps", len(behind)-1, len(clean))
	}
	for _, c := range asksOfChange(d.Store.Next) {
		isServed(t, "much", d, c.ask, clean, c.text, c.rec)
	}
	isServed(t, "a text that is moved", d, writeAsk(1, 0, "text of 27"), clean, "", putRec(1, 0, 27))
	isRead(t, "much", d, 1, 1, "text of 2")
}

// A worn block can't be wiped: it is tried as often as may be, and its room stays away.
func TestServingsWithWornBlocks(t *testing.T) {
	worn := fullBlock(impl.MaxNumber, 4)
	for room := range 17 {
		blocks := crowded(t, room).Flash.Blocks
		first, last := upFrom(t, append([]impl.Block{worn, filled()}, blocks...)...), upFrom(t, append(slices.Clone(blocks), filled(), worn)...)
		least := slices.Repeat([]impl.Step{wipeStep(0)}, 20)
		clean := append([]impl.Step{wipeStep(5)}, slices.Repeat([]impl.Step{wipeStep(6)}, 19)...)
		for _, c := range asksOfChange(120) {
			why := fmt.Sprint("room ", room)
			switch {
			case room >= 12:
				isServed(t, why, first, c.ask, nil, c.text, c.rec)
				isServed(t, why, last, c.ask, nil, c.text, c.rec)
			case room >= 8:
				isServed(t, why, first, c.ask, least, c.text, c.rec)
				isServed(t, why, last, c.ask, clean[:1], c.text, c.rec)
			default:
				isFull(t, why, first, c.ask, least...)
				if room >= 4 {
					isServed(t, why, last, c.ask, clean, c.text, c.rec)
				} else {
					isFull(t, why, last, c.ask, clean...)
				}
			}
		}
	}
	// One wipe less, and it is the last one.
	blocks := crowded(t, 7).Flash.Blocks
	d := upFrom(t, append(slices.Clone(blocks), fullBlock(impl.MaxNumber-1, 4))...)
	isServed(t, "the last wipe", d, createAsk(4), []impl.Step{wipeStep(5)}, "", volRec(4, 0))
	if wear := servingOf(d, createAsk(4)).device.Flash.Blocks[5].Wear; wear != impl.MaxNumber {
		t.Errorf("the block has Wear %d", wear)
	}
	// Blank, it is written as any other one.
	d = upFrom(t, append(slices.Clone(crowded(t, 0).Flash.Blocks), blockOf(impl.MaxNumber), blockOf(impl.MaxNumber), blockOf(impl.MaxNumber))...)
	isServed(t, "blank", d, createAsk(4), nil, "", volRec(4, 0))
}

// What stands on a Bad block is read, and it is neither written nor wiped nor any room.
func TestServingsWithBadBlocks(t *testing.T) {
	for _, bad := range []impl.Block{blockOf(0), filled(), fullBlock(0, 1), tornBlock(0), filled(metaLeaf(3, 4), chunkLeaf(4, 99, "gone"))} {
		for dead := range 3 {
			for live := range 17 - 4*dead {
				blocks := crowdedWith(t, dead, live).Flash.Blocks
				at := (3*live + dead) % 6
				d := upFrom(t, slices.Insert(slices.Clone(blocks), at, badBlock(bad))...)
				for _, c := range asksOfChange(120) {
					got, without := wantServedByRule(t, "Bad", d, c.ask), servingOf(upFrom(t, blocks...), c.ask)
					onBad := func(s impl.Step) bool { return s.Block == at }
					if got.code != without.code || len(got.steps) != len(without.steps) || slices.ContainsFunc(got.steps, onBad) {
						t.Errorf("with block %d Bad %#v is served by %#v, %d, without it by %#v, %d", at, c.ask, got.steps, got.code, without.steps, without.code)
					}
				}
			}
		}
	}
	var all []impl.Block
	for _, block := range crowded(t, 13).Flash.Blocks {
		all = append(all, badBlock(block))
	}
	d := upFrom(t, all...)
	for _, c := range asksOfChange(120) {
		isFull(t, "all are Bad", d, c.ask)
	}
	isRead(t, "all are Bad", d, 1, 2, "text of 3")
	refusesToServe(t, "all are Bad", d, createAsk(1), impl.CodeTaken)
}

// Three blocks have twelve leaves: what is written on them first finds enough room, and
// all behind it cleans.
func TestServingsOnFlashesOfEachSize(t *testing.T) {
	for blocks := 3; blocks <= impl.MaxBlocks; blocks++ {
		d := newDevice(t, blocks)
		for asked := range 30 {
			q := writeAsk(1, 2, fmt.Sprint("text ", asked))
			if asked == 0 {
				q = createAsk(1)
			}
			cleans := impl.RoomOf(d.Flash) < 12
			got := wantServedByRule(t, "each size", d, q)
			wantServed(t, "each size", d, q, got)
			isClean := slices.ContainsFunc(got.steps, func(s impl.Step) bool { return s.Kind == impl.StepWipe })
			if isClean && !cleans || got.code != 0 {
				t.Errorf("on %d blocks ask %d has code %d and steps %#v", blocks, asked, got.code, got.steps)
			}
			d = got.device
			if asked > 0 {
				isRead(t, "each size", d, 1, 2, q.Text)
			}
		}
		if d.Tx <= 30 || !impl.Bounds(d) {
			t.Errorf("on %d blocks %#v came up", blocks, d)
		}
	}
}

// Ahead of the cleaning it is planned; the numbers that it has are those behind it.
func TestWhatIsPlannedAheadOfACleaning(t *testing.T) {
	one := filled(chunkLeaf(11, 1, "one"))
	begun := blockOf(0, baseLeaf(1))
	blank := blockOf(0)
	move := programStep(1, 1, pageBytes(dataPage(51, 1, "rone")))
	meta := func(leaf, seq, tx int, rec impl.Rec) impl.Step {
		return programStep(1, leaf, pageBytes(metaPage(seq, tx, 0, 1, recBytes(rec))))
	}
	for _, c := range []struct {
		name   string
		blocks []impl.Block
		ask    impl.Ask
		want   []impl.Step
	}{
		{"a text that is moved", []impl.Block{one, begun, blank, blank}, writeAsk(1, 9, "one"),
			[]impl.Step{move, wipeStep(0), meta(2, 52, 10, putRec(1, 9, 1))}},
		{"a new text behind one that is moved", []impl.Block{one, begun, blank, blank}, writeAsk(1, 9, "new"),
			[]impl.Step{move, wipeStep(0), programStep(1, 2, pageBytes(dataPage(52, 120, "rnew"))), meta(3, 53, 10, putRec(1, 9, 120))}},
		{"a copy behind what is moved", []impl.Block{one, begun, blank, blank}, cloneAsk(7, 1),
			[]impl.Step{move, wipeStep(0), meta(2, 52, 10, volRec(7, 1))}},
		{"a Seq that is wiped", []impl.Block{filled(chunkLeaf(900, 99, "gone")), blockOf(0, baseLeaf(1), chunkLeaf(11, 1, "one")), blank, blank}, writeAsk(1, 9, "one"),
			[]impl.Step{wipeStep(0), meta(2, 51, 10, putRec(1, 9, 1))}},
		{"a text whose page was wiped", []impl.Block{filled(chunkLeaf(900, 99, "new")), blockOf(0, baseLeaf(1), chunkLeaf(11, 1, "one")), blank, blank}, writeAsk(1, 9, "new"),
			[]impl.Step{wipeStep(0), programStep(1, 2, pageBytes(dataPage(51, 120, "rnew"))), meta(3, 52, 10, putRec(1, 9, 120))}},
		{"an elder page of the chunk that is next", []impl.Block{filled(chunkLeaf(900, 120, "cut")), begun, blank, blank}, writeAsk(1, 9, "new"),
			[]impl.Step{wipeStep(0), programStep(1, 1, pageBytes(dataPage(51, 120, "rnew"))), meta(2, 52, 10, putRec(1, 9, 120))}},
		{"a Tx behind the base that is written", []impl.Block{filled(chunkLeaf(11, 1, "one")), blockOf(0, baseLeaf(1), txLeaves(51, 10, volRec(2, 0))[0]), blank, blank}, trimAsk(2, 5),
			[]impl.Step{
				programStep(1, 2, pageBytes(metaPage(52, 11, 0, 1, recBytes(baseRec(120), volRec(1, 0), putRec(1, 0, 1), volRec(2, 0))))),
				programStep(1, 3, pageBytes(dataPage(53, 1, "rone"))), wipeStep(0),
				programStep(2, 0, pageBytes(metaPage(54, 12, 0, 1, recBytes(trimRec(2, 5)))))}},
	} {
		d := upFrom(t, c.blocks...)
		wantServed(t, c.name, d, c.ask, serving{device: stepsAllByRule(d, c.want), steps: c.want})
		wantServedByRule(t, c.name, d, c.ask)
		after := servingOf(d, c.ask).device
		wantFound(t, c.name, after)
		if c.ask.Kind == impl.AskWrite {
			isRead(t, c.name, after, c.ask.Vol, c.ask.Sector, c.ask.Text)
		}
	}
}

// wantFound asks that no text is there twice.
func wantFound(t *testing.T, why string, d impl.Device) {
	t.Helper()
	chunks := map[string]int{}
	for _, chunk := range impl.LiveOf(d.Store) {
		text, ok := impl.ChunkText(d.Flash, chunk)
		if other, isTwice := chunks[text]; ok && isTwice {
			t.Errorf("%s: chunks %d and %d are both %q", why, other, chunk, text)
		}
		chunks[text] = chunk
	}
}

// Steps that can't be written, for a number would be above MaxNumber.
func TestServingsOfNumbersAtTheirLimits(t *testing.T) {
	const most = impl.MaxNumber
	gone := func(seq int) impl.Leaf { return chunkLeaf(seq, 99, "gone") }
	for _, blanks := range []int{2, 3, 6} {
		for seq := most - 4; seq <= most; seq++ {
			why := fmt.Sprintf("Seq %d and %d blank blocks", seq, blanks)
			// Where the last page is needed, and where it goes with its block.
			live := withBlanks(t, upFrom(t, blockOf(0, baseLeaf(1), chunkLeaf(seq, 1, "one")), filled(gone(3)), blockOf(0)), blanks-1)
			dead := withBlanks(t, upFrom(t, blockOf(0, baseLeaf(1), chunkLeaf(3, 1, "one")), filled(gone(seq)), blockOf(0)), blanks-1)
			var clean []impl.Step
			if blanks < 3 {
				clean = []impl.Step{wipeStep(1)}
			}
			for _, c := range asksOfChange(120) {
				last := seq + 1
				if c.text != "" {
					last++
				}
				if last > most {
					isFull(t, why, live, c.ask, clean...)
				} else {
					isServed(t, why, live, c.ask, clean, c.text, c.rec)
				}
				if last > most && len(clean) == 0 {
					isFull(t, why, dead, c.ask)
				} else {
					isServed(t, why, dead, c.ask, clean, c.text, c.rec)
				}
			}
			isRead(t, why, live, 1, 0, "one")
			isRead(t, why, dead, 1, 0, "one")
		}
		for tx := most - 2; tx <= most; tx++ {
			base := txLeaves(50, tx, baseRec(120), volRec(1, 0))[0]
			d := withBlanks(t, upFrom(t, blockOf(0, base), filled(gone(3)), blockOf(0)), blanks-1)
			for _, c := range asksOfChange(120) {
				var clean []impl.Step
				if blanks < 3 {
					clean = []impl.Step{wipeStep(1)}
				}
				if tx == most {
					isFull(t, fmt.Sprint("Tx ", tx), d, c.ask, clean...)
				} else {
					isServed(t, fmt.Sprint("Tx ", tx), d, c.ask, clean, c.text, c.rec)
				}
			}
		}
	}
}

// A chunk of the last number is written, as the rule says, and its record is one that
// no store takes: the sector is as it was.
func TestServingsOfTheLastChunk(t *testing.T) {
	for _, next := range []int{impl.MaxNumber - 1, impl.MaxNumber} {
		d := withBlanks(t, upFrom(t, blockOf(0, txLeaves(1, 1, baseRec(next), volRec(1, 0))...)), 1)
		isServed(t, "the last chunk", d, writeAsk(1, 4, "new"), nil, "rnew", putRec(1, 4, next))
		want := "new"
		if next == impl.MaxNumber {
			want = ""
		}
		isRead(t, "the last chunk", servingOf(d, writeAsk(1, 4, "new")).device, 1, 4, want)
	}
}

func TestServedReads(t *testing.T) {
	some := kept(t)
	for _, d := range []impl.Device{some, withBlanks(t, some, 7), upFrom(t, filledUp(some.Flash)...)} {
		for sector := range 16 {
			two, five := "", ""
			switch sector {
			case 0:
				two = "three"
			case 1:
				five = unlike(64)
			case 5, 6:
				// What is there can't be read.
				refusesToServe(t, "read", d, readAsk(2, sector), impl.CodeNone)
				refusesToServe(t, "read", d, readAsk(5, sector), impl.CodeNone)
				continue
			}
			isRead(t, "read", d, 2, sector, two)
			isRead(t, "read", d, 5, sector, five)
			for _, vol := range []int{1, 3, 4, 6, 7, 8, 9} {
				refusesToServe(t, "no volume", d, readAsk(vol, sector), impl.CodeNone)
			}
		}
		for _, sector := range noSectors() {
			refusesToServe(t, "no sector", d, readAsk(2, sector), impl.CodeWrong)
		}
	}
}

func TestServedTexts(t *testing.T) {
	empty := withBlanks(t, withVolumes(t, 3), 1)
	for _, text := range drawnTexts() {
		isServed(t, "a text", empty, writeAsk(3, 7, text), nil, packByRule(text), putRec(3, 7, 1))
		d := servingOf(empty, writeAsk(3, 7, text)).device
		isRead(t, "a text", d, 3, 7, text)
		isServed(t, "again", d, writeAsk(3, 0, text), nil, "", putRec(3, 0, 1))
	}
}

// Wherever the power goes in the steps of an ask, it is there whole or not at all.
func TestServingsThatAreCut(t *testing.T) {
	for _, d := range []impl.Device{muchToClean(t), moving(t), kept(t), crowdedWith(t, 2, 3), newDevice(t, 3)} {
		for _, q := range []impl.Ask{writeAsk(1, 15, "new"), writeAsk(1, 15, "text of 2"), createAsk(4), cloneAsk(4, 1), dropAsk(1), trimAsk(1, 0)} {
			got := servingOf(d, q)
			for whole := range got.steps {
				for _, torn := range []bool{false, true} {
					f, ok := impl.CutSteps(d.Flash, got.steps, whole, torn)
					up, isUp := impl.MountAll(f)
					if !ok || !isUp {
						t.Fatalf("%d steps of %#v can't be done", whole, got.steps)
					}
					wantSameVolumes(t, fmt.Sprintf("%#v behind %d steps, torn %v", q, whole, torn), d, up)
				}
			}
		}
	}
}

// drawnServed draws asks of many texts, so that most of what is written is new.
func drawnServed(draws string) impl.Ask {
	q := drawnAsk(draws)
	if q.Kind == impl.AskWrite && draws[4] < 200 {
		q.Text = fmt.Sprint("text ", int(draws[5])%40)
	}
	if draws[6] < 30 {
		q = readAsk(q.Vol, q.Sector)
	}
	return q
}

func TestDrawnServingsByRule(t *testing.T) {
	count := map[string]int{}
	for draws := mixedText(20000); len(draws) >= 500; draws = draws[29:] {
		d := drawnWipes(t, draws)
		for i := range 6 {
			q := drawnServed(draws[7*i+400:])
			got := wantServedByRule(t, "drawn", d, q)
			count[fmt.Sprintf("code %d, steps %v", got.code, len(got.steps) > 0)]++
			if i%2 == 0 {
				d = got.device
			}
		}
	}
	for what, least := range map[string]int{"code 0, steps true": 300, "code 0, steps false": 20, "code 1, steps false": 300, "code 2, steps false": 50,
		"code 3, steps false": 50, "code 4, steps true": 50, "code 4, steps false": 50} {
		if count[what] < least {
			t.Errorf("drawn servings came up %v", count)
		}
	}
}

// A servedLife is a device and the plain volumes that it should have, from a flash on.
type servedLife struct {
	askedLife
	start impl.Flash
	steps []impl.Step
}

func newServedLife(t *testing.T, start impl.Flash, count map[string]int) *servedLife {
	t.Helper()
	d, ok := impl.MountAll(start)
	if !ok {
		t.Fatalf("%#v doesn't come up", start)
	}
	return &servedLife{askedLife{t: t, d: d, vols: map[int]map[int]string{}, count: count}, start, nil}
}

// plainCode is what the plain volumes have against an ask; of room they know nothing.
func (l *servedLife) plainCode(q impl.Ask) int {
	_, isThere := l.vols[q.Vol]
	_, isOf := l.vols[q.Of]
	isNew := q.Kind == impl.AskCreate || q.Kind == impl.AskClone
	switch {
	case !askRightByRule(q):
		return impl.CodeWrong
	case isNew && isThere:
		return impl.CodeTaken
	case q.Kind == impl.AskClone && !isOf, !isNew && !isThere:
		return impl.CodeNone
	case isNew && len(l.vols) == impl.MaxVols:
		return impl.CodeFull
	}
	return 0
}

func (l *servedLife) serve(q impl.Ask) {
	l.t.Helper()
	wantServedByRule(l.t, "life", l.d, q)
	got, code, told := servingOf(l.d, q), l.plainCode(q), ""
	if code == 0 && q.Kind == impl.AskRead {
		told = l.vols[q.Vol][q.Sector]
	}
	isFull := code == 0 && got.code == impl.CodeFull && q.Kind != impl.AskRead
	if got.told != told || got.code != code && !isFull || isFull && impl.RoomOf(got.device.Flash) >= impl.Spare {
		l.t.Fatalf("%#v is served with %q and code %d, not %q and %d, on %#v", q, got.told, got.code, told, code, l.d)
	}
	if len(got.steps) > 0 && (code != 0 || q.Kind == impl.AskRead) {
		l.t.Fatalf("%#v is served with code %d by %#v", q, code, got.steps)
	}
	if !impl.Bounds(got.device) {
		l.t.Fatalf("%#v is out of bounds", got.device)
	}
	if got.code == 0 {
		l.ask(q)
	}
	if isFull {
		l.count["no room"]++
	}
	l.count[fmt.Sprint("code ", code)]++
	l.d, l.steps = got.device, append(l.steps, got.steps...)
}

// wantLawful asks that all steps, one behind the other, lead from the first flash to
// the last.
func (l *servedLife) wantLawful() {
	l.t.Helper()
	f, count := impl.DoSteps(l.start, l.steps)
	if count != len(l.steps) || !sameFlash(f, l.d.Flash) {
		l.t.Errorf("%d of %d steps are done, and lead to %#v, not %#v", count, len(l.steps), f, l.d.Flash)
	}
}

// Far more is written than there is room for, on flashes of each size, some of their
// blocks Bad.
func TestDrawnLivesOfServings(t *testing.T) {
	count := map[string]int{}
	for blocks := 3; blocks <= impl.MaxBlocks; blocks++ {
		for bad := range 3 {
			start := newDevice(t, blocks).Flash
			for b := range bad {
				start = impl.MarkBad(start, 2*b)
			}
			l := newServedLife(t, start, count)
			for draws := mixedText(1500 + 300*bad)[100*bad:]; len(draws) > 100; draws = draws[8:] {
				l.serve(drawnServed(draws))
				l.wantTexts()
			}
			l.wantLawful()
			if len(l.steps) < 12*blocks && blocks-bad > 4 {
				t.Errorf("on %d blocks, %d of them Bad, %d steps were done", blocks, bad, len(l.steps))
			}
		}
	}
	for what, least := range map[string]int{"code 0": 1000, "code 1": 200, "code 2": 200, "code 3": 50, "code 4": 50, "no room": 200} {
		if count[what] < least {
			t.Errorf("short lives: %v", count)
		}
	}
}

// Blocks wear out, until there is no room any more: what was written is still read.
func TestDrawnLivesOfWornBlocks(t *testing.T) {
	count := map[string]int{}
	for wipes := range 3 {
		start := newDevice(t, 6).Flash
		for b := range start.Blocks {
			start.Blocks[b].Wear = impl.MaxNumber - wipes - b%2
		}
		l := newServedLife(t, start, count)
		for draws := mixedText(1500); len(draws) > 100; draws = draws[8:] {
			l.serve(drawnServed(draws))
			l.wantTexts()
		}
		// What is new has no room any more.
		if q := createAsk(9); len(l.vols) < impl.MaxVols && servingOf(l.d, q).code != impl.CodeFull {
			t.Errorf("there is still room on %#v", l.d)
		}
	}
	if count["code 0"] < 100 || count["no room"] < 100 {
		t.Errorf("short lives: %v", count)
	}
}

// Nothing is kept from one ask to another, also when several are served at once.
func TestServingsAtOnce(t *testing.T) {
	devices := []impl.Device{muchToClean(t), crowded(t, 3), withVolumes(t, 1), {}}
	got := make([]serving, 96)
	var all sync.WaitGroup
	for i := range got {
		all.Go(func() { got[i] = servingOf(devices[i%4], asksOfEachCode()[i%15]) })
	}
	all.Wait()
	for i, s := range got {
		if want := serveByRule(devices[i%4], asksOfEachCode()[i%15]); !s.same(want) {
			t.Errorf("Serve of %#v\nis  %#v\nnot %#v", asksOfEachCode()[i%15], s, want)
		}
	}
}

func TestServingsAreAskedTwice(t *testing.T) {
	d, other := withBlanks(t, kept(t), 3), crowdedWith(t, 2, 3)
	for range 3 {
		isServed(t, "first", d, writeAsk(2, 1, "new"), nil, "rnew", putRec(2, 1, 20))
		isServed(t, "another device", other, writeAsk(1, 9, "new"), []impl.Step{wipeStep(0), wipeStep(1)}, "rnew", putRec(1, 9, 120))
		refusesToServe(t, "refused", d, createAsk(2), impl.CodeTaken)
		refusesToServe(t, "the zero value", impl.Device{}, createAsk(2), impl.CodeDown)
		isRead(t, "first", d, 2, 0, "three")
		isRead(t, "another device", other, 1, 0, "text of 1")
	}
}

// boundsByRule is chapter 18's rule of the bounds.
func boundsByRule(d impl.Device) bool {
	for _, block := range d.Flash.Blocks {
		if block.Wear < 0 || block.Wear > 1000000000 {
			return false
		}
	}
	return roomByRule(d.Flash).room >= 0 && len(scanByRule(d.Flash)) <= len(leavesOf(d.Flash))
}

func wantBounds(t *testing.T, why string, d impl.Device, want bool) {
	t.Helper()
	keepsDevice(t, why+": Bounds", d, func(d impl.Device) string {
		if got := impl.Bounds(d); got != want || boundsByRule(d) != want {
			t.Errorf("%s: Bounds of %#v is %v, by rule %v", why, d, got, boundsByRule(d))
		}
		return ""
	})
}

func TestBoundsByTheRoom(t *testing.T) {
	for blocks := 3; blocks <= impl.MaxBlocks; blocks++ {
		for room := range 4*blocks + 1 {
			wantBounds(t, "room", freshOn(withRoom(blocks, room)), true)
		}
	}
	for dead := range 4 {
		for live := range 17 - 4*dead {
			wantBounds(t, "crowded", crowdedWith(t, dead, live), true)
		}
	}
}

func TestBoundsByTheWear(t *testing.T) {
	const most = impl.MaxNumber
	for _, wear := range []int{math.MinInt, -most, -2, -1, 0, 1, 2, 127, most - 1, most, most + 1, most + 2, 1 << 32, 1<<32 + 5, math.MaxInt} {
		want := wear >= 0 && wear <= most
		for blocks := 3; blocks <= impl.MaxBlocks; blocks++ {
			for place := range blocks {
				d := newDevice(t, blocks)
				d.Flash.Blocks[place].Wear = wear
				wantBounds(t, "Wear", d, want)
				d.Flash.Blocks[place] = fullBlock(wear, 1+place%4)
				wantBounds(t, "Wear of a written block", d, want)
				d.Flash.Blocks[place].Bad = true
				wantBounds(t, "Wear of a Bad block", d, want)
				d.Flash.Blocks[(place+1)%blocks].Wear = most
				wantBounds(t, "Wear beside the greatest", d, want)
			}
		}
	}
}

func TestBoundsByThePages(t *testing.T) {
	for blocks := 3; blocks <= impl.MaxBlocks; blocks++ {
		for pages := range 4*blocks + 1 {
			var leaves []impl.Leaf
			for seq := 1; seq <= pages; seq++ {
				leaves = append(leaves, []impl.Leaf{pageLeaf(seq), metaLeaf(seq, 3)}[seq%2])
			}
			f := laidOut(leaves)
			for len(f.Blocks) < blocks {
				f.Blocks = append(f.Blocks, blockOf(0))
			}
			up, ok := impl.MountAll(f)
			if !ok || len(impl.ScanAll(f)) != pages {
				t.Fatalf("%d pages come up as %#v", pages, up)
			}
			wantBounds(t, "pages", up, true)
			f.Blocks[0].Bad = true
			wantBounds(t, "pages on a Bad block", deviceOf(f, up.Store, up.Seq, up.Tx, up.Base), true)
		}
	}
}

// The leaves that are there count, as many as they are, and whatever else is wrong.
func TestBoundsOfDevicesThatAreNotRight(t *testing.T) {
	five := impl.Block{Leaves: []impl.Leaf{pageLeaf(1), pageLeaf(2), metaLeaf(3, 1), metaLeaf(4, 2), pageLeaf(5)}}
	one := impl.Block{Leaves: []impl.Leaf{pageLeaf(9)}}
	none := impl.Block{}
	worn := impl.Block{Wear: -1}
	for _, c := range []struct {
		name   string
		blocks []impl.Block
		want   bool
	}{
		{"no blocks", nil, true},
		{"one block", []impl.Block{blockOf(0)}, true},
		{"one block of one page", []impl.Block{one}, true},
		{"blocks without leaves", []impl.Block{none, none, none}, true},
		{"one without leaves that is worn wrongly", []impl.Block{none, none, worn}, false},
		{"one of five pages", []impl.Block{five, blockOf(0), blockOf(0)}, true},
		{"all of five pages", []impl.Block{five, five, five}, true},
		{"all of five pages, worn wrongly", []impl.Block{five, five, five, {Wear: impl.MaxNumber + 1}}, false},
		{"many blocks", slices.Repeat([]impl.Block{filled(pageLeaf(1), pageLeaf(2), pageLeaf(3), pageLeaf(4))}, 30), true},
		{"a page behind a blank leaf", []impl.Block{{Leaves: []impl.Leaf{blankLeaf(), pageLeaf(1)}}, one, one}, true},
	} {
		d := deviceOf(impl.Flash{Blocks: c.blocks}, impl.Store{}, -1, -1, -1)
		wantBounds(t, c.name, d, c.want)
	}
	for _, d := range askedDevices(t) {
		wantBounds(t, "any device", d, boundsByRule(d))
	}
	for _, c := range wrongBlocks() {
		wantBounds(t, c.name, freshOn(flashOf(c.block)), c.block.Wear >= 0 && c.block.Wear <= impl.MaxNumber)
	}
	wantBounds(t, "the zero value", impl.Device{}, true)
}
