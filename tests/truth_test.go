package tests

import (
	"fmt"
	"math"
	"slices"
	"strings"
	"sync"
	"testing"

	"loop.example/g00195/impl"
)

// Promise 20: in a drawn life what was written is read, wherever the power goes; no leaf
// is written twice; what is the same is there once.

// toldOf has a model in one text, other models in other texts.
func toldOf(list []impl.Shelf) string {
	out := ""
	for _, shelf := range list {
		out += fmt.Sprintf("%d %q\n", shelf.Vol, shelf.Texts)
	}
	return out
}

// sameByRule is chapter 20's rule of models that are the same.
func sameByRule(a, b []impl.Shelf) bool { return toldOf(a) == toldOf(b) }

func wholeByRule(before, after, now []impl.Shelf) bool {
	return slices.Contains([]string{toldOf(before), toldOf(after)}, toldOf(now))
}

func faithfulByRule(w impl.World) bool { return sameByRule(w.Model, modelOfDeviceByRule(w.Device)) }

func countedByRule(d impl.Device) bool {
	all := chunksByRule(d.Store)
	live := slices.Compact(slices.Sorted(slices.Values(all)))
	refs, chunks := 0, map[string]int{}
	for _, chunk := range live {
		refs += countOf(all, chunk)
		text, ok := chunkTextByRule(d.Flash, chunk)
		if !ok || chunks[text] > 0 {
			return false
		}
		chunks[text] = chunk
	}
	return refs == len(all)
}

func lawfulByRule(blocks int, steps []impl.Step) bool {
	if blocks < 3 || blocks > 10 {
		return false
	}
	start := flashOf(slices.Repeat([]impl.Block{blockOf(0)}, blocks)...)
	return len(stepsByRule(start, steps)) == len(steps)+1
}

func soundByRule(w impl.World) bool {
	return deviceRightByRule(w.Device) && faithfulByRule(w) && countedByRule(w.Device)
}

// wantModels asks a truth of models twice. They have to be as they were, and so has the
// room behind their lists.
func wantModels(t *testing.T, what string, truth func(models ...[]impl.Shelf) bool, want bool, models ...[]impl.Shelf) {
	t.Helper()
	var given [][]impl.Shelf
	for _, list := range models {
		given = append(given, twinShelves(list))
	}
	if first, again := truth(given...), truth(given...); first != want || again != want {
		t.Errorf("%s of %#v is %v, again %v", what, models, first, again)
	}
	for i, list := range given {
		if like := twinShelves(models[i]); !sameShelves(shelvesWithSpare(list), shelvesWithSpare(like)) {
			t.Errorf("%s has written into a model: %#v, was %#v", what, shelvesWithSpare(list), shelvesWithSpare(like))
		}
	}
}

func wantSameModel(t *testing.T, why string, a, b []impl.Shelf, want bool) {
	t.Helper()
	same := func(models ...[]impl.Shelf) bool { return impl.SameModel(models[0], models[1]) }
	wantModels(t, why+": SameModel", same, want, a, b)
	wantModels(t, why+", turned: SameModel", same, want, b, a)
	if sameByRule(a, b) != want {
		t.Errorf("%s: by rule it is not %v that %#v and %#v are the same", why, want, a, b)
	}
}

func wantWholeOrNot(t *testing.T, why string, before, after, now []impl.Shelf, want bool) {
	t.Helper()
	whole := func(models ...[]impl.Shelf) bool { return impl.WholeOrNot(models[0], models[1], models[2]) }
	wantModels(t, why+": WholeOrNot", whole, want, before, after, now)
	wantModels(t, why+", turned: WholeOrNot", whole, want, after, before, now)
	if wholeByRule(before, after, now) != want {
		t.Errorf("%s: by rule it is not %v that %#v is one of %#v and %#v", why, want, now, before, after)
	}
}

func twinWorld(w impl.World) impl.World {
	return impl.World{Device: twinDevice(w.Device), Model: twinShelves(w.Model),
		Codes: append(slices.Clone(w.Codes), 7)[:len(w.Codes)],
		Told:  append(slices.Clone(w.Told), "spare")[:len(w.Told)],
		Steps: twinSteps(w.Steps)}
}

// worldWithSpare is w together with what stands in the room behind its lists.
func worldWithSpare(w impl.World) impl.World {
	return impl.World{Device: deviceWithSpare(w.Device), Model: shelvesWithSpare(w.Model),
		Codes: w.Codes[:cap(w.Codes)], Told: w.Told[:cap(w.Told)], Steps: w.Steps[:cap(w.Steps)]}
}

func worldOf(d impl.Device, model ...impl.Shelf) impl.World {
	return impl.World{Device: d, Model: model}
}

// faithfulWorld has the device's own model.
func faithfulWorld(d impl.Device) impl.World { return worldOf(d, modelOfDeviceByRule(d)...) }

// wantOfWorld asks a truth of a world twice. It has to be as it was; and a world that
// tells other codes, texts and steps has to be as true.
func wantOfWorld(t *testing.T, what string, truth func(impl.World) bool, w impl.World, want bool) {
	t.Helper()
	given := twinWorld(w)
	like := twinWorld(given)
	if first, again := truth(given), truth(given); first != want || again != want {
		t.Errorf("%s of %#v is %v, again %v", what, w, first, again)
	}
	if !sameWorld(worldWithSpare(given), worldWithSpare(like)) {
		t.Errorf("%s has written into the world: %#v, was %#v", what, worldWithSpare(given), worldWithSpare(like))
	}
	given.Codes, given.Told, given.Steps = []int{impl.CodeCut, -1}, []string{"other"}, []impl.Step{{}, wipeStep(-1)}
	if got := truth(given); got != want {
		t.Errorf("%s of %#v with other steps is %v", what, w, got)
	}
}

func wantFaithful(t *testing.T, why string, w impl.World, want bool) {
	t.Helper()
	wantOfWorld(t, why+": Faithful", impl.Faithful, w, want)
	if faithfulByRule(w) != want {
		t.Errorf("%s: by rule it is not %v that %#v is faithful", why, want, w)
	}
}

func wantSound(t *testing.T, why string, w impl.World, want bool) {
	t.Helper()
	wantOfWorld(t, why+": SoundWorld", impl.SoundWorld, w, want)
	if soundByRule(w) != want {
		t.Errorf("%s: by rule it is not %v that %#v is sound", why, want, w)
	}
}

func wantCounted(t *testing.T, why string, d impl.Device, want bool) {
	t.Helper()
	keepsDevice(t, why+": Counted", d, func(d impl.Device) string {
		if first, again := impl.Counted(d), impl.Counted(d); first != want || again != want {
			t.Errorf("%s: Counted of %#v is %v, again %v", why, d, first, again)
		}
		return ""
	})
	if countedByRule(d) != want {
		t.Errorf("%s: by rule it is not %v that %#v is counted", why, want, d)
	}
}

func wantLawfulSteps(t *testing.T, why string, blocks int, steps []impl.Step, want bool) {
	t.Helper()
	given, like := twinSteps(steps), twinSteps(steps)
	if first, again := impl.Lawful(blocks, given), impl.Lawful(blocks, given); first != want || again != want {
		t.Errorf("%s: Lawful of %d, %#v is %v, again %v", why, blocks, steps, first, again)
	}
	if !slices.Equal(given[:cap(given)], like[:cap(like)]) {
		t.Errorf("%s: Lawful has written into the steps: %#v, was %#v", why, given[:cap(given)], like[:cap(like)])
	}
	if lawfulByRule(blocks, steps) != want {
		t.Errorf("%s: by rule it is not %v that %#v can be done on %d blocks", why, want, steps, blocks)
	}
}

type namedModel struct {
	name  string
	model []impl.Shelf
}

// unlikeModels differ in one thing each from a model with a volume.
func unlikeModels(list []impl.Shelf) []namedModel {
	out := []namedModel{{"no volume", nil}}
	add := func(name string, change func(model []impl.Shelf) []impl.Shelf) {
		out = append(out, namedModel{name, change(twinShelves(list))})
	}
	for i, shelf := range list {
		for _, vol := range []int{shelf.Vol + 1, shelf.Vol - 1, -shelf.Vol, shelf.Vol + 1<<32} {
			add("another number", func(m []impl.Shelf) []impl.Shelf { m[i].Vol = vol; return m })
		}
		add("one volume less", func(m []impl.Shelf) []impl.Shelf { return slices.Delete(m, i, i+1) })
		add("one volume twice", func(m []impl.Shelf) []impl.Shelf { return slices.Insert(m, i, m[i]) })
		add("one volume more", func(m []impl.Shelf) []impl.Shelf { return slices.Insert(m, i, shelfWith(shelf.Vol-1, nil)) })
		add("nothing more", func(m []impl.Shelf) []impl.Shelf { return slices.Insert(m, i, impl.Shelf{}) })
		for other := range i {
			add("in another order", func(m []impl.Shelf) []impl.Shelf { m[i], m[other] = m[other], m[i]; return m })
		}
		for _, texts := range unlikeTexts(shelf.Texts) {
			add("other texts", func(m []impl.Shelf) []impl.Shelf { m[i].Texts = texts; return m })
		}
	}
	add("one volume more at the end", func(m []impl.Shelf) []impl.Shelf { return append(m, shelfWith(9, nil)) })
	add("the last volume twice", func(m []impl.Shelf) []impl.Shelf { return append(m, m[len(m)-1]) })
	add("nothing more at the end", func(m []impl.Shelf) []impl.Shelf { return append(m, impl.Shelf{}) })
	return out
}

// unlikeTexts differ in one thing each from the texts of a volume.
func unlikeTexts(texts []string) [][]string {
	out := [][]string{append(slices.Clone(texts), ""), append(slices.Clone(texts), "x"), slices.Insert(slices.Clone(texts), 0, "")}
	if len(texts) > 0 {
		out = append(out, nil, texts[1:], texts[:len(texts)-1])
	}
	for at, text := range texts {
		for _, other := range unlikeText(text) {
			list := slices.Clone(texts)
			list[at] = other
			out = append(out, list)
		}
		if at > 0 && texts[at-1] != text {
			list := slices.Clone(texts)
			list[at], list[at-1] = list[at-1], text
			out = append(out, list)
		}
	}
	return out
}

func unlikeText(text string) []string {
	out := []string{text + "x", text + "\x00", " " + text}
	if text == "" {
		return out
	}
	last := len(text) - 1
	out = append(out, "", text[1:], text[:last])
	for _, at := range []int{0, last / 2, last} {
		out = append(out, turned(text, at, 1), turned(text, at, 128))
	}
	return out
}

// manyModels are models no two of which are the same, right and odd ones.
func manyModels() [][]impl.Shelf {
	full := map[int]string{}
	for sector := range 16 {
		full[sector] = mixedText(80)[sector : 64+sector]
	}
	two, four, seven := someShelves()[0], someShelves()[1], someShelves()[2]
	return [][]impl.Shelf{
		nil, someShelves(), {two}, {four}, {seven}, {two, seven}, {seven, two}, {four, four}, {four, four, four},
		{shelfWith(1, full)}, {shelfWith(1, full), shelfWith(2, full), shelfWith(3, full)}, {shelfWith(1, full), shelfWith(3, full), shelfWith(2, full)},
		{{}}, {{}, {}}, {shelfOf(1)}, {shelfOf(1, "")}, {shelfOf(1, "", "")}, {shelfOf(1, "", "x")}, {shelfOf(1, "x", "")}, {shelfOf(1, "x", "x")},
		{shelfOf(1, "xx")}, {shelfOf(1, "x"), shelfOf(1, "x")}, {shelfOf(1, "\x00")}, {shelfOf(1, "\xff")}, {shelfOf(1, "\xfe")}, {shelfOf(1, "\ufffd")},
		{shelfOf(-1)}, {shelfOf(math.MinInt)}, {shelfOf(math.MaxInt)}, {shelfOf(10, slices.Repeat([]string{"ten"}, 17)...)}, {shelfOf(0, strings.Repeat("far too long ", 30))},
	}
}

func TestModelsThatAreTheSame(t *testing.T) {
	for i, one := range manyModels() {
		for k, other := range manyModels() {
			wantSameModel(t, "two of many", one, other, i == k)
		}
		if !impl.SameModel(one, one) {
			t.Errorf("%#v is not the same as itself", one)
		}
	}
	// An empty list and nil are the same value.
	none, noTexts := []impl.Shelf{}, []impl.Shelf{{Vol: 3, Texts: []string{}}}
	if !impl.SameModel(nil, nil) || !impl.SameModel(none, nil) || !impl.SameModel(nil, none) {
		t.Error("no volumes are not the same as none")
	}
	if with := []impl.Shelf{{Vol: 3}}; !impl.SameModel(noTexts, with) || !impl.SameModel(with, noTexts) {
		t.Error("no texts are not the same as none")
	}
}

func TestModelsThatDiffer(t *testing.T) {
	count := 0
	for _, list := range manyModels() {
		if len(list) == 0 {
			continue
		}
		for _, c := range unlikeModels(list) {
			if sameByRule(c.model, list) {
				// Four volumes that are alike may change places, and shelf 0 has the number -0.
				continue
			}
			wantSameModel(t, c.name, list, c.model, false)
			count++
		}
	}
	if count < 2000 {
		t.Errorf("%d models differ", count)
	}
}

// A text that was written empty, one that was trimmed and one that never was are the
// same; one that is not empty isn't.
func TestModelsWithEmptyTexts(t *testing.T) {
	for sector := range 16 {
		some, empty := shelfWith(4, map[int]string{sector: "x"}), shelfWith(4, map[int]string{sector: ""})
		written := impl.ModelOf([]impl.Shelf{some}, writeAsk(4, sector, ""))
		trimmed := impl.ModelOf([]impl.Shelf{some}, trimAsk(4, sector))
		for _, list := range [][]impl.Shelf{{empty}, {shelfWith(4, nil)}, written, trimmed} {
			wantSameModel(t, "empty", list, []impl.Shelf{empty}, true)
			wantSameModel(t, "not empty", list, []impl.Shelf{some}, false)
			wantSameModel(t, "no texts", list, []impl.Shelf{shelfOf(4)}, false)
			wantSameModel(t, "one text", list, []impl.Shelf{shelfOf(4, "")}, false)
			wantSameModel(t, "no volume", list, nil, false)
		}
	}
}

func TestModelsThatStandInOneMemory(t *testing.T) {
	all := someShelves()
	if impl.SameModel(all, all[:2]) || impl.SameModel(all[:2], all[1:]) || impl.SameModel(all[1:], all) || !impl.SameModel(all[1:], all[1:]) {
		t.Error("parts of one list are taken for others")
	}
	texts := make([]string, 5)
	list := func(from, to int) []impl.Shelf { return []impl.Shelf{shelfOf(1, texts[from:to]...)} }
	if !impl.SameModel(list(0, 4), list(1, 5)) || impl.SameModel(list(0, 4), list(0, 5)) || impl.SameModel(list(0, 4), list(4, 5)) {
		t.Error("parts of one list of texts are taken for others")
	}
	// What was asked ahead of a change is not what is answered behind it.
	other := someShelves()
	for i := range 3 {
		other[2].Texts[3] = fmt.Sprint("other ", i)
		before := impl.SameModel(all, other)
		other[2].Texts[3] = all[2].Texts[3]
		if before || !impl.SameModel(all, other) {
			t.Errorf("behind change %d the models are told as %v", i, before)
		}
	}
}

func TestNowIsOneOfBoth(t *testing.T) {
	list := manyModels()
	for i, before := range list {
		for k, after := range list {
			for l, now := range list {
				if want := l == i || l == k; impl.WholeOrNot(before, after, now) != want {
					t.Errorf("WholeOrNot of %#v, %#v, %#v is not %v", before, after, now, want)
				}
			}
		}
		after, neither := list[(i+1)%len(list)], list[(i+2)%len(list)]
		wantWholeOrNot(t, "the first", before, after, before, true)
		wantWholeOrNot(t, "the second", before, after, after, true)
		wantWholeOrNot(t, "both", before, before, before, true)
		wantWholeOrNot(t, "neither", before, after, neither, false)
		wantWholeOrNot(t, "both are alike, and it is neither", before, before, neither, false)
	}
}

func TestNowIsOfNoVolume(t *testing.T) {
	some, empty := someShelves(), []impl.Shelf{}
	for _, none := range [][]impl.Shelf{nil, empty} {
		wantWholeOrNot(t, "all are of none", none, nil, empty, true)
		wantWholeOrNot(t, "it was none", none, some, nil, true)
		wantWholeOrNot(t, "it was none", none, some, some, true)
		wantWholeOrNot(t, "it was none", none, some, some[:1], false)
		wantWholeOrNot(t, "some, and it is none", some, some[1:], none, false)
		wantWholeOrNot(t, "both are of none", none, nil, some, false)
		wantWholeOrNot(t, "both are of none", none, nil, []impl.Shelf{{}}, false)
		if !impl.WholeOrNot(none, some, empty) || !impl.WholeOrNot(some, none, nil) || !impl.WholeOrNot(none, nil, empty) {
			t.Error("no volumes are not the same as none")
		}
	}
}

// What differs in one thing from both is neither, also when it is made of them.
func TestNowIsAPartOfEach(t *testing.T) {
	before := someShelves()
	after := impl.ModelOf(impl.ModelOf(before, writeAsk(2, 15, "new")), trimAsk(7, 0))
	first := impl.ModelOf(before, writeAsk(2, 15, "new"))
	second := impl.ModelOf(before, trimAsk(7, 0))
	wantWholeOrNot(t, "nothing of it", before, after, before, true)
	wantWholeOrNot(t, "all of it", before, after, after, true)
	wantWholeOrNot(t, "the first half", before, after, first, false)
	wantWholeOrNot(t, "the second half", before, after, second, false)
	for _, c := range unlikeModels(before) {
		wantWholeOrNot(t, c.name, before, after, c.model, false)
		wantWholeOrNot(t, c.name, before, c.model, before, true)
		wantWholeOrNot(t, c.name, before, c.model, c.model, true)
	}
}

func TestNowIsOfEmptyTexts(t *testing.T) {
	for sector := range 16 {
		empty, text := []impl.Shelf{shelfWith(4, nil)}, []impl.Shelf{shelfWith(4, map[int]string{sector: "x"})}
		written := impl.ModelOf(text, writeAsk(4, sector, ""))
		wantWholeOrNot(t, "written empty", text, written, empty, true)
		wantWholeOrNot(t, "written empty", text, written, text, true)
		wantWholeOrNot(t, "written empty", text, written, []impl.Shelf{shelfWith(4, map[int]string{sector: "y"})}, false)
		wantWholeOrNot(t, "empty ahead and behind", empty, written, empty, true)
		wantWholeOrNot(t, "empty ahead and behind", empty, written, text, false)
		wantWholeOrNot(t, "empty ahead and behind", empty, written, nil, false)
		wantWholeOrNot(t, "empty ahead and behind", empty, written, []impl.Shelf{shelfOf(4)}, false)
	}
}

// unfaithful asks that a world with any model but its own is not faithful.
func unfaithful(t *testing.T, why string, w impl.World, every int) {
	t.Helper()
	for i, c := range unlikeModels(w.Model) {
		if i%every == 0 {
			wantFaithful(t, why+": "+c.name, worldOf(w.Device, c.model...), false)
		}
	}
}

func TestFaithfulWorldsOfEachModel(t *testing.T) {
	for _, d := range []impl.Device{withVolumes(t, 4), withVolumes(t, 1, 5, 9), kept(t), servingOf(withVolumes(t, 1), writeAsk(1, 3, "three")).device} {
		w := faithfulWorld(d)
		wantFaithful(t, "its own model", w, true)
		unfaithful(t, "another model", w, 1)
	}
	none := newDevice(t, 3)
	wantFaithful(t, "no volume", worldOf(none), true)
	wantFaithful(t, "no volume", impl.World{Device: none, Model: []impl.Shelf{}}, true)
	wantFaithful(t, "a volume that is none", worldOf(none, shelfWith(1, nil)), false)
	wantFaithful(t, "a volume that is none", worldOf(none, impl.Shelf{}), false)
	wantFaithful(t, "the zero value", impl.World{}, true)
	wantFaithful(t, "the zero value, and a volume", worldOf(impl.Device{}, shelfWith(1, nil)), false)
}

// Each sector goes from one state to the next; a world that is an ask behind isn't
// faithful, but where the ask has changed nothing.
func TestFaithfulWorldsOfEachSector(t *testing.T) {
	for _, sector := range []int{0, 3, 4, 15} {
		d := withVolumes(t, 2)
		old := []impl.Shelf{shelfWith(2, nil)}
		wantFaithful(t, "never written", worldOf(d, old...), true)
		for _, c := range []struct {
			ask  impl.Ask
			text string
		}{
			{writeAsk(2, sector, "once"), "once"},
			{writeAsk(2, sector, "again"), "again"},
			{writeAsk(2, sector, "again"), "again"},
			{writeAsk(2, sector, ""), ""},
			{trimAsk(2, sector), ""},
			{trimAsk(2, sector), ""},
			{writeAsk(2, sector, "once"), "once"},
			{trimAsk(2, sector), ""},
			{writeAsk(2, sector, unlike(64)), unlike(64)},
		} {
			d = servingOf(d, c.ask).device
			model := []impl.Shelf{shelfWith(2, map[int]string{sector: c.text})}
			wantFaithful(t, "behind an ask", worldOf(d, model...), true)
			wantFaithful(t, "an ask behind", worldOf(d, old...), sameByRule(model, old))
			old = model
		}
	}
}

// What can't be read is told as an empty text.
func TestFaithfulWorldsOfChunksThatCantBeRead(t *testing.T) {
	d := kept(t)
	two, five := shelfWith(2, map[int]string{0: "three"}), shelfWith(5, map[int]string{1: unlike(64)})
	wantFaithful(t, "kept", worldOf(d, two, five), true)
	for _, sector := range []int{5, 6} {
		for _, text := range []string{"x", "no packed text", "three"} {
			wantFaithful(t, "not to be read", worldOf(d, shelfWith(2, map[int]string{0: "three", sector: text}), five), false)
		}
	}
	for b, block := range d.Flash.Blocks {
		for i, leaf := range block.Leaves {
			without := d
			without.Flash = withLeaf(d.Flash, b, i, tornLeaf(leaf.Text))
			wantFaithful(t, "a leaf is torn", faithfulWorld(without), true)
			wantFaithful(t, "a leaf is torn", worldOf(without, two, five), sameByRule(modelOfDeviceByRule(without), []impl.Shelf{two, five}))
		}
	}
	d.Flash = flashOf()
	wantFaithful(t, "no page", worldOf(d, two, five), false)
	wantFaithful(t, "no page", worldOf(d, shelfWith(2, nil), shelfWith(5, nil)), true)
}

func TestFaithfulWorldsOfDevicesThatAreNotRight(t *testing.T) {
	for i, d := range askedDevices(t) {
		w := faithfulWorld(d)
		wantFaithful(t, "any device", w, true)
		if len(w.Model) > 0 {
			unfaithful(t, "any device", w, 97+i%7)
		}
		wantFaithful(t, "any device", worldOf(d, append(modelOfDeviceByRule(d), shelfWith(3, nil))...), false)
	}
	// The model is told from what the store and the flash have, whatever the numbers.
	d := kept(t)
	d.Seq, d.Tx, d.Base, d.Store.Next = 0, -1, math.MaxInt, 0
	wantFaithful(t, "other numbers", worldOf(d, modelOfDeviceByRule(kept(t))...), true)
	slices.Reverse(d.Store.Vols)
	wantFaithful(t, "out of order", worldOf(d, modelOfDeviceByRule(kept(t))...), false)
	wantFaithful(t, "out of order", faithfulWorld(d), true)
}

// countedOn came up with volume 1, which has these chunks in its first sectors, and
// with a page for each of the texts: of chunk 1, of chunk 2, and so on.
func countedOn(t *testing.T, chunks []int, texts ...string) impl.Device {
	t.Helper()
	recs := []impl.Rec{volRec(1, 0)}
	for sector, chunk := range chunks {
		recs = append(recs, putRec(1, sector, chunk))
	}
	var leaves []impl.Leaf
	for i, text := range texts {
		leaves = append(leaves, chunkLeaf(10+i, i+1, text))
	}
	return upFrom(t, laidOut(leaves, txLeaves(50, 1, recs...)).Blocks...)
}

func TestCountedDevices(t *testing.T) {
	wantCounted(t, "nothing", newDevice(t, 3), true)
	wantCounted(t, "nothing", newDevice(t, 10), true)
	wantCounted(t, "a volume with nothing", withVolumes(t, 4), true)
	wantCounted(t, "volumes with nothing", withVolumes(t, 1, 5, 9), true)
	wantCounted(t, "one text", countedOn(t, []int{1}, "one"), true)
	wantCounted(t, "one empty text", countedOn(t, []int{1}, ""), true)
	wantCounted(t, "one text, and an empty one", countedOn(t, []int{1, 2}, "one", ""), true)
	wantCounted(t, "a text at many places", countedOn(t, []int{1, 1, 2, 1, 2, 1}, "one", "two"), true)
	wantCounted(t, "a text at all places", countedOn(t, slices.Repeat([]int{1}, 16), "one"), true)
	wantCounted(t, "an empty text at all places", countedOn(t, slices.Repeat([]int{1}, 16), ""), true)
	wantCounted(t, "a text in each sector", crowded(t, 0), true)
	wantCounted(t, "pages that nothing has", countedOn(t, nil, "one", "two", "two", "", ""), true)
	wantCounted(t, "much to clean", muchToClean(t), true)
	d := newDevice(t, 10)
	for _, q := range []impl.Ask{createAsk(5), writeAsk(5, 0, "one"), writeAsk(5, 15, ""), writeAsk(5, 3, "one"), cloneAsk(2, 5), writeAsk(2, 7, "two"), cloneAsk(9, 2),
		trimAsk(5, 0), writeAsk(9, 8, ""), writeAsk(9, 9, "two"), writeAsk(5, 15, "three"), dropAsk(2), createAsk(1), writeAsk(1, 1, "one"), dropAsk(9), dropAsk(5), dropAsk(1)} {
		got := servingOf(d, q)
		if got.code != 0 {
			t.Fatalf("%#v is served with code %d", q, got.code)
		}
		d = got.device
		wantCounted(t, "behind an ask", d, true)
	}
}

// A chunk that lives and has no text is missed wherever it stands; one that doesn't
// live isn't.
func TestCountedDevicesThatMissAText(t *testing.T) {
	wantCounted(t, "kept", kept(t), false)
	texts := []string{"one", "two", "", "four", "five"}
	all := []int{1, 2, 3, 4, 5}
	for missed := range 5 {
		d := countedOn(t, all, texts...)
		wantCounted(t, "all are there", d, true)
		without := slices.Delete(slices.Clone(all), missed, missed+1)
		for _, leaf := range []impl.Leaf{
			junk(), tornLeaf(d.Flash.Blocks[missed/4].Leaves[missed%4].Text), metaLeaf(10+missed, missed+1), packedLeaf(10+missed, missed+1, "no packed text"),
			packedLeaf(10+missed, missed+1, ""), chunkLeaf(10+missed, 6, texts[missed]),
		} {
			wantCounted(t, "one is missed", deviceOf(withLeaf(d.Flash, missed/4, missed%4, leaf), d.Store, d.Seq, d.Tx, d.Base), false)
			other := countedOn(t, without, texts...)
			wantCounted(t, "it doesn't live", deviceOf(withLeaf(other.Flash, missed/4, missed%4, leaf), other.Store, other.Seq, other.Tx, other.Base), true)
		}
	}
	wantCounted(t, "no page at all", countedOn(t, []int{7}), false)
	wantCounted(t, "no page of the last", countedOn(t, []int{1, 2, 3}, "one", "two"), false)
	wantCounted(t, "no page of the empty one", countedOn(t, []int{1, 2}, "one"), false)
}

func TestCountedDevicesWithATextTwice(t *testing.T) {
	for _, text := range []string{"", "x", "\x00", unlike(64), strings.Repeat("ab", 32)} {
		texts := []string{"one", "two", "three", "four", "five"}
		for first := range 5 {
			for second := range first {
				twice := slices.Clone(texts)
				twice[first], twice[second] = text, text
				wantCounted(t, "twice", countedOn(t, []int{1, 2, 3, 4, 5}, twice...), false)
				// Where one of them doesn't live, the text is there once.
				for _, gone := range []int{first, second} {
					chunks := slices.DeleteFunc([]int{1, 2, 3, 4, 5, 1, 5}, func(chunk int) bool { return chunk == gone+1 })
					wantCounted(t, "once", countedOn(t, chunks, twice...), true)
				}
				twice[second] = text + " and more"
				wantCounted(t, "one is longer", countedOn(t, []int{1, 2, 3, 4, 5}, cutTo64(twice)...), len(text) < 64)
			}
		}
	}
	wantCounted(t, "two empty texts alone", countedOn(t, []int{1, 2}, "", ""), false)
	wantCounted(t, "two texts alone", countedOn(t, []int{1, 2}, "x", "x"), false)
	wantCounted(t, "two texts, one of another case", countedOn(t, []int{1, 2}, "x", "X"), true)
	wantCounted(t, "three of one text", countedOn(t, []int{1, 2, 3}, "x", "x", "x"), false)
}

func cutTo64(texts []string) []string {
	var out []string
	for _, text := range texts {
		out = append(out, text[:min(len(text), 64)])
	}
	return out
}

// Of several pages of one chunk the newest tells its text.
func TestCountedDevicesWithElderPages(t *testing.T) {
	base := txLeaves(50, 1, volRec(1, 0), putRec(1, 0, 1), putRec(1, 1, 2))
	for _, c := range []struct {
		name   string
		leaves []impl.Leaf
		want   bool
	}{
		{"an elder page like another", []impl.Leaf{chunkLeaf(10, 1, "x"), chunkLeaf(12, 1, "new"), chunkLeaf(11, 2, "x")}, true},
		{"the newest like another", []impl.Leaf{chunkLeaf(10, 1, "old"), chunkLeaf(12, 1, "x"), chunkLeaf(11, 2, "x")}, false},
		{"the newest stands ahead", []impl.Leaf{chunkLeaf(12, 1, "new"), chunkLeaf(10, 1, "x"), chunkLeaf(11, 2, "x")}, true},
		{"one text on two pages of it", []impl.Leaf{chunkLeaf(10, 1, "x"), chunkLeaf(12, 1, "x"), chunkLeaf(11, 2, "y")}, true},
		{"the newest can't be unpacked", []impl.Leaf{chunkLeaf(10, 1, "x"), packedLeaf(12, 1, "none"), chunkLeaf(11, 2, "y")}, false},
		{"an elder one can't be unpacked", []impl.Leaf{packedLeaf(10, 1, "none"), chunkLeaf(12, 1, "x"), chunkLeaf(11, 2, "y")}, true},
		{"of one Seq, the last one", []impl.Leaf{chunkLeaf(10, 1, "x"), chunkLeaf(10, 1, "z"), chunkLeaf(11, 2, "x")}, true},
		{"of one Seq, the last one like another", []impl.Leaf{chunkLeaf(10, 1, "z"), chunkLeaf(10, 1, "x"), chunkLeaf(11, 2, "x")}, false},
	} {
		wantCounted(t, c.name, cameUp(t, c.leaves, base), c.want)
	}
}

func TestCountedDevicesThatAreNotRight(t *testing.T) {
	wantCounted(t, "the zero value", impl.Device{}, true)
	count := map[bool]int{}
	for _, d := range askedDevices(t) {
		want := countedByRule(d)
		wantCounted(t, "any device", d, want)
		count[want]++
	}
	if count[true] < 100 || count[false] < 100 {
		t.Errorf("devices came up %v", count)
	}
	for draws := mixedText(6000); len(draws) >= 500; draws = draws[31:] {
		d := drawnWipes(t, draws)
		wantCounted(t, "drawn", d, countedByRule(d))
	}
	one := countedOn(t, []int{1, 2, 1}, "one", "two")
	d := one
	d.Seq, d.Tx, d.Base, d.Store.Next = 0, -1, math.MaxInt, 0
	wantCounted(t, "other numbers", d, true)
	d = twinDevice(one)
	d.Store.Vols = append(d.Store.Vols, volOf(1, d.Store.Vols[0].Root), volOf(-3, 0), volOf(12, math.MaxInt), volOf(1, -1))
	wantCounted(t, "volumes alike", d, true)
	d.Flash = withLeaf(d.Flash, 0, 1, junk())
	wantCounted(t, "volumes alike, a text is missed", d, false)
	d.Store.Arena.Knots[0].Kids[2] = -1
	wantCounted(t, "no number can be told", d, true)
	d = one
	d.Flash = impl.Flash{}
	wantCounted(t, "no blocks", d, false)
	d.Flash = impl.Flash{Blocks: one.Flash.Blocks[:1]}
	wantCounted(t, "too few blocks, and all texts", d, true)
	d.Flash = impl.Flash{Blocks: slices.Repeat(one.Flash.Blocks, 9)}
	wantCounted(t, "too many blocks, and all texts", d, true)
}

func TestLawfulByTheBlocks(t *testing.T) {
	for _, blocks := range []int{math.MinInt, -10, -3, -1, 0, 1, 2, 11, 12, 40, impl.MaxNumber, 1<<32 + 5, math.MaxInt} {
		wantLawfulSteps(t, "no such flash", blocks, nil, false)
		wantLawfulSteps(t, "no such flash", blocks, []impl.Step{}, false)
		wantLawfulSteps(t, "no such flash", blocks, []impl.Step{programStep(0, 0, "x")}, false)
		wantLawfulSteps(t, "no such flash", blocks, []impl.Step{wipeStep(0)}, false)
		wantLawfulSteps(t, "no such flash", blocks, []impl.Step{{}}, false)
	}
	for blocks := 3; blocks <= 10; blocks++ {
		wantLawfulSteps(t, "no steps", blocks, nil, true)
		wantLawfulSteps(t, "no steps", blocks, []impl.Step{}, true)
		for _, b := range placesBeside(blocks) {
			isThere := 0 <= b && b < blocks
			wantLawfulSteps(t, "a block", blocks, []impl.Step{programStep(b, 0, "x")}, isThere)
			wantLawfulSteps(t, "a block", blocks, []impl.Step{wipeStep(b)}, isThere)
		}
	}
}

func TestLawfulByTheFieldsOfAStep(t *testing.T) {
	for _, leaf := range placesBeside(4) {
		wantLawfulSteps(t, "a leaf", 5, []impl.Step{programStep(1, leaf, "x")}, leaf == 0)
		// A wipe has no leaf and no text: what stands there isn't looked at.
		wantLawfulSteps(t, "a wipe", 5, []impl.Step{{Kind: impl.StepWipe, Block: 1, Leaf: leaf, Text: mixedText(121)}}, true)
	}
	for _, size := range []int{0, 1, 2, 119, 120, 121, 122, 300} {
		wantLawfulSteps(t, "a text", 5, []impl.Step{programStep(1, 0, mixedText(size))}, 1 <= size && size <= 120)
	}
	for _, kind := range []int{math.MinInt, -2, -1, 0, 1, 2, 3, 4, 257, 1<<32 + 1, math.MaxInt} {
		wantLawfulSteps(t, "a Kind", 5, []impl.Step{{Kind: kind, Block: 1, Text: "x"}}, kind == 1 || kind == 2)
	}
	wantLawfulSteps(t, "the zero value", 5, []impl.Step{{}}, false)
}

// No leaf is written twice without being wiped, and none ahead of its turn.
func TestLawfulByTheTurnsOfLeaves(t *testing.T) {
	a, b, c, last := programStep(1, 0, "a"), programStep(1, 1, "b"), programStep(1, 2, "c"), programStep(1, 3, "d")
	wipe, other := wipeStep(1), wipeStep(2)
	for _, s := range []struct {
		name  string
		steps []impl.Step
		want  bool
	}{
		{"in turn", []impl.Step{a, b, c, last}, true},
		{"twice", []impl.Step{a, a}, false},
		{"twice with another text", []impl.Step{a, programStep(1, 0, "other")}, false},
		{"twice, another between", []impl.Step{a, b, a}, false},
		{"the second twice", []impl.Step{a, b, b}, false},
		{"the last twice", []impl.Step{a, b, c, last, last}, false},
		{"the first behind the last", []impl.Step{a, b, c, last, a}, false},
		{"twice, wiped between", []impl.Step{a, wipe, a}, true},
		{"twice, another block wiped between", []impl.Step{a, other, a}, false},
		{"twice, wiped ahead", []impl.Step{wipe, a, a}, false},
		{"twice, wiped behind", []impl.Step{a, a, wipe}, false},
		{"three times, wiped once", []impl.Step{a, wipe, a, a}, false},
		{"three times, wiped twice", []impl.Step{a, wipe, a, wipe, a}, true},
		{"a full block, wiped", []impl.Step{a, b, c, last, wipe, a, b, c, last}, true},
		{"a block is wiped twice", []impl.Step{a, wipe, wipe, a}, true},
		{"the second ahead of the first", []impl.Step{b}, false},
		{"the second ahead of the first", []impl.Step{b, a}, false},
		{"the third ahead of the second", []impl.Step{a, c}, false},
		{"the last first", []impl.Step{last}, false},
		{"the second on a block that was wiped", []impl.Step{a, wipe, b}, false},
		{"the last on a block that was wiped", []impl.Step{a, b, c, wipe, last}, false},
		{"the first on a block that was wiped", []impl.Step{a, b, c, wipe, a, b}, true},
		{"a place behind the last", []impl.Step{a, b, c, last, programStep(1, 4, "e")}, false},
		{"blocks by turns", []impl.Step{a, programStep(2, 0, "x"), b, programStep(0, 0, "x"), other, c, programStep(2, 0, "y")}, true},
		{"the turn of another block", []impl.Step{a, programStep(2, 1, "x")}, false},
	} {
		wantLawfulSteps(t, s.name, 3, s.steps, s.want)
		wantLawfulSteps(t, s.name, 10, s.steps, s.want)
	}
}

// fullOf writes each leaf of so many blocks, and wipes each of them behind that.
func fullOf(blocks int) []impl.Step {
	var out []impl.Step
	for b := range blocks {
		for leaf := range 4 {
			out = append(out, programStep(b, leaf, fmt.Sprint("leaf ", b, leaf)))
		}
	}
	for b := range blocks {
		out = append(out, wipeStep(b))
	}
	return out
}

func TestLawfulWithOneStepThatCantBeDone(t *testing.T) {
	for _, blocks := range []int{3, 7, 10} {
		steps := fullOf(blocks)
		wantLawfulSteps(t, "full", blocks, steps, true)
		wantLawfulSteps(t, "full twice", blocks, slices.Concat(steps, steps), true)
		wantLawfulSteps(t, "on one block less", blocks-1, steps, false)
		wantLawfulSteps(t, "on one block more", blocks+1, steps, blocks < 10)
		wrong := []impl.Step{{}, {Kind: 3}, programStep(0, 0, ""), programStep(-1, 0, "x"), programStep(blocks, 0, "x"), programStep(0, 4, "x"), wipeStep(-1), wipeStep(blocks)}
		for _, s := range wrong {
			for _, place := range []int{0, 1, len(steps) / 2, len(steps) - 1, len(steps)} {
				wantLawfulSteps(t, fmt.Sprint("wrong at ", place), blocks, slices.Insert(slices.Clone(steps), place, s), false)
			}
		}
		for place := range 4 * blocks {
			wantLawfulSteps(t, "without one", blocks, slices.Delete(slices.Clone(steps), place, place+1), place%4 == 3)
			wantLawfulSteps(t, "one twice", blocks, slices.Insert(slices.Clone(steps), place, steps[place]), false)
		}
	}
}

func TestLawfulStepsByRule(t *testing.T) {
	for _, first := range someSteps() {
		for _, second := range someSteps() {
			list := []impl.Step{first, second}
			wantLawfulSteps(t, "two", 3, list, lawfulByRule(3, list))
		}
	}
	for _, c := range listsOfSteps() {
		wantLawfulSteps(t, c.name, 4, c.list, lawfulByRule(4, c.list))
	}
	count := map[bool]int{}
	draws := mixedText(9000)
	for i := 0; len(draws) > 200; i, draws = i+1, draws[37:] {
		blocks := 3 + i%8
		list := drawnSteps(flashOf(slices.Repeat([]impl.Block{blockOf(0)}, blocks)...), draws[:30+i%100])
		want := lawfulByRule(blocks, list)
		wantLawfulSteps(t, "drawn", blocks, list, want)
		count[want]++
	}
	if count[true] < 30 || count[false] < 30 {
		t.Errorf("drawn steps came up %v", count)
	}
}

// lostText is a right device with a chunk that lives and has no text.
func lostText(t *testing.T) impl.Device {
	t.Helper()
	return countedOn(t, []int{1, 2}, "one")
}

func TestSoundWorldsWithOnePartBroken(t *testing.T) {
	for _, d := range []impl.Device{newDevice(t, 3), withVolumes(t, 1, 5, 9), countedOn(t, []int{1, 2, 1}, "one", ""), crowded(t, 0), muchToClean(t)} {
		w := faithfulWorld(d)
		wantSound(t, "all is so", w, true)
		for _, numbers := range [][4]int{{1, 0, 0, 0}, {-1, 0, 0, 0}, {0, 1, 0, 0}, {0, 0, 1, 0}, {0, 0, 0, 1}} {
			wrong := w
			wrong.Device.Seq, wrong.Device.Tx = d.Seq+numbers[0], d.Tx+numbers[1]
			wrong.Device.Base, wrong.Device.Store.Next = d.Base+numbers[2], d.Store.Next+numbers[3]
			if !faithfulByRule(wrong) || !countedByRule(wrong.Device) {
				t.Fatalf("%#v has more than its numbers wrong", wrong)
			}
			wantSound(t, "the device isn't right", wrong, false)
		}
		wantSound(t, "the model has a volume more", worldOf(d, append(modelOfDeviceByRule(d), shelfWith(10, nil))...), false)
		if len(w.Model) > 0 {
			for i, c := range unlikeModels(w.Model) {
				if i%29 == 0 {
					wantSound(t, "not faithful: "+c.name, worldOf(d, c.model...), false)
				}
			}
		}
	}
	for _, d := range []impl.Device{lostText(t), kept(t), countedOn(t, []int{1, 2}, "x", "x"), countedOn(t, []int{1, 2}, "", "")} {
		wantFaithful(t, "not counted alone", faithfulWorld(d), true)
		wantSound(t, "not counted alone", faithfulWorld(d), false)
	}
	wantSound(t, "the zero value", impl.World{}, false)
}

// A store of other knots that tells the same is right as well; a knot that no tree has
// makes a device wrong, though all else is so.
func TestSoundWorldsByTheKnots(t *testing.T) {
	d := crowded(t, 0)
	d.Store.Arena = turnedRound(d.Store.Arena)
	wantSound(t, "other knots", faithfulWorld(d), true)
	d = crowded(t, 0)
	d.Store.Arena.Knots = append(slices.Clone(d.Store.Arena.Knots), leafKnot(0, 0, 0, 0))
	wantSound(t, "a knot that no tree has", faithfulWorld(d), false)
	d = withVolumes(t, 1, 5)
	slices.Reverse(d.Store.Vols)
	wantSound(t, "out of order", faithfulWorld(d), false)
}

func TestSoundWorldsWithSeveralPartsBroken(t *testing.T) {
	right, lost := countedOn(t, []int{1, 2}, "one", "two"), lostText(t)
	for set := range 8 {
		d := right
		if set&1 > 0 {
			d = lost
		}
		w := faithfulWorld(d)
		if set&2 > 0 {
			w.Model = nil
		}
		if set&4 > 0 {
			w.Device.Seq++
		}
		wantSound(t, fmt.Sprint("broken ", set), w, set == 0)
	}
	for _, d := range askedDevices(t) {
		w := faithfulWorld(d)
		wantSound(t, "any device", w, soundByRule(w))
	}
}

// readsWhatWasWritten reads each sector of a world's device, and asks for what the model
// has.
func readsWhatWasWritten(t *testing.T, why string, w impl.World) {
	t.Helper()
	for _, shelf := range w.Model {
		for sector, text := range shelf.Texts {
			if got := servingOf(w.Device, readAsk(shelf.Vol, sector)); got.told != text || got.code != 0 {
				t.Errorf("%s: sector %d of volume %d is read as %q, code %d, not %q", why, sector, shelf.Vol, got.told, got.code, text)
			}
		}
	}
}

// isTorn tells of the lives whose steps may not lead from one to the next: the one that was
// torn isn't among them.
func isTorn(events []impl.Event) bool {
	return slices.ContainsFunc(events, func(e impl.Event) bool { return e.Cut && e.Torn })
}

// truthEvents draws lives with more writing than others, of few texts, some of them
// empty.
func truthEvents(draws string, count int, torn bool) []impl.Event {
	events := eventsOf(createAsk(1 + int(draws[0])%3))
	for _, e := range drawnEvents(draws, count-1) {
		if e.Ask.Kind == impl.AskDrop && e.Whole > 0 {
			e.Ask = writeAsk(e.Ask.Vol, e.Whole, "")
		}
		if e.Ask.Kind == impl.AskWrite && e.Whole == 3 {
			e.Ask.Text = ""
		}
		e.Ask.Vol, e.Torn = 1+e.Ask.Vol%3, e.Torn && torn
		if e.Ask.Kind == impl.AskClone {
			e.Ask.Of = 1 + e.Ask.Of%3
		}
		events = append(events, e)
	}
	return events
}

func TestDrawnLivesAreSound(t *testing.T) {
	count := map[string]int{}
	draws := mixedText(26000)
	for i := 0; len(draws) >= 410; i, draws = i+1, draws[203:] {
		blocks, torn := 3+i%8, i%3 == 0
		events := truthEvents(draws, 10+i%31, torn)
		w, ok := impl.RunLife(blocks, events)
		if !ok {
			t.Fatalf("%#v are not run", events)
		}
		wantSound(t, "drawn", w, true)
		wantFaithful(t, "drawn", w, true)
		wantCounted(t, "drawn", w.Device, true)
		readsWhatWasWritten(t, "drawn", w)
		wantFound(t, "drawn", w.Device)
		lawful := lawfulByRule(blocks, w.Steps)
		wantLawfulSteps(t, "drawn", blocks, w.Steps, lawful)
		if !lawful && !isTorn(events) {
			t.Errorf("the steps of %#v on %d blocks are not lawful", events, blocks)
		}
		if every := []int{1, 211}[min(i%25, 1)]; len(w.Model) > 0 {
			unfaithful(t, "drawn", w, every)
		}
		count[fmt.Sprintf("torn %v, lawful %v", isTorn(events), lawful)]++
		count[fmt.Sprint("volumes ", len(w.Model))]++
		if slices.ContainsFunc(w.Steps, func(s impl.Step) bool { return s.Kind == impl.StepWipe }) {
			count["wiped"]++
		}
	}
	for what, least := range map[string]int{"torn false, lawful true": 60, "torn true, lawful true": 5, "torn true, lawful false": 5, "volumes 1": 5, "volumes 2": 10, "volumes 3": 10, "wiped": 10} {
		if count[what] < least {
			t.Errorf("drawn lives came up %v", count)
		}
	}
}

// The steps of a life are lawful each once: a leaf that is written again isn't.
func TestDrawnLivesWriteNoLeafTwice(t *testing.T) {
	draws := mixedText(4000)
	for i := range 8 {
		blocks := 3 + i
		w, _ := impl.RunLife(blocks, truthEvents(draws[400*i:], 30, false))
		for place, s := range w.Steps {
			wantLawfulSteps(t, "up to one", blocks, w.Steps[:place], true)
			twice := slices.Insert(slices.Clone(w.Steps), place, s)
			wantLawfulSteps(t, "one twice", blocks, twice, s.Kind == impl.StepWipe)
		}
	}
}

// wantWholeAt cuts one event behind so many of its steps: what comes up is what was there
// ahead of it, or what is there behind it.
func wantWholeAt(t *testing.T, blocks int, ahead []impl.Event, before, after impl.World, e impl.Event) bool {
	t.Helper()
	now, ok := impl.RunLife(blocks, append(slices.Clone(ahead), e))
	if !ok || !impl.SoundWorld(now) {
		t.Errorf("behind %#v the world %#v isn't sound", e, now)
	}
	wantWholeOrNot(t, "cut", before.Model, after.Model, now.Model, true)
	wantWholeOrNot(t, "cut", before.Model, after.Model, impl.ModelOfDevice(now.Device), true)
	return impl.SameModel(now.Model, after.Model)
}

func TestDrawnLivesWhereverThePowerGoes(t *testing.T) {
	count := map[string]int{}
	draws := mixedText(8000)
	for i := range 18 {
		blocks := []int{4, 5, 6, 4, 7, 5, 10, 3, 8}[i%9]
		events := truthEvents(draws[400*i:], 24, true)
		for at, e := range events {
			ahead := events[:at]
			e.Cut = false
			before, _ := impl.RunLife(blocks, ahead)
			after, _ := impl.RunLife(blocks, append(slices.Clone(ahead), e))
			steps := len(after.Steps) - len(before.Steps)
			changes := !impl.SameModel(before.Model, after.Model)
			for whole := 0; steps > 0 && whole <= steps; whole++ {
				for _, torn := range []bool{false, true} {
					e.Cut, e.Whole, e.Torn = true, whole, torn
					isAfter := wantWholeAt(t, blocks, ahead, before, after, e)
					if changes && isAfter != (whole == steps) {
						t.Errorf("behind %d of %d steps of %#v it is %v that all is there", whole, steps, e, isAfter)
					}
					count[fmt.Sprintf("changes %v, all of it %v", changes, isAfter)]++
				}
			}
			if steps > 4 {
				count["long"]++
			}
		}
	}
	for what, least := range map[string]int{"changes true, all of it true": 200, "changes true, all of it false": 400, "changes false, all of it true": 100, "long": 20} {
		if count[what] < least {
			t.Errorf("cuts came up %v", count)
		}
	}
}

// What comes up is asked once more, and then it is there.
func TestDrawnLivesGoOnBehindEachFall(t *testing.T) {
	draws := mixedText(4000)
	for i := range 6 {
		events := truthEvents(draws[300*i:], 20, true)
		for at, e := range events {
			for whole := range 3 {
				e.Cut, e.Whole, e.Torn = true, whole, whole%2 == 0
				again := append(slices.Clone(events[:at]), e, eventOf(e.Ask))
				again = append(again, events[at+1:min(at+6, len(events))]...)
				w, ok := impl.RunLife(4+i, again)
				if !ok || !impl.SoundWorld(w) {
					t.Errorf("behind %#v the world %#v isn't sound", again, w)
				}
				if e.Ask.Kind == impl.AskWrite && w.Codes[at+1] == 0 && w.Codes[at] == impl.CodeCut {
					upTo, _ := impl.RunLife(4+i, append(again[:at+2:at+2], eventOf(readAsk(e.Ask.Vol, e.Ask.Sector))))
					if upTo.Told[at+2] != e.Ask.Text {
						t.Errorf("%#v is read as %q", e.Ask, upTo.Told[at+2])
					}
				}
			}
		}
	}
}

// An empty text has a chunk like any other: it is kept once, and it is no sign that
// nothing was written.
func TestLivesOfEmptyTexts(t *testing.T) {
	events := eventsOf(createAsk(1), writeAsk(1, 0, ""), writeAsk(1, 1, ""), writeAsk(1, 2, "x"), writeAsk(1, 2, ""), cloneAsk(2, 1), trimAsk(2, 0), writeAsk(2, 15, ""), readAsk(2, 15))
	w, _ := impl.RunLife(6, events)
	wantSound(t, "empty texts", w, true)
	if live, refs := impl.LiveOf(w.Device.Store), impl.RefsOf(w.Device.Store, 1); !slices.Equal(live, []int{1}) || refs != 6 {
		t.Errorf("%v live, chunk 1 is in %d sectors", live, refs)
	}
	wantSameModel(t, "empty texts", w.Model, []impl.Shelf{shelfWith(1, nil), shelfWith(2, nil)}, true)
	for whole := range 3 {
		for _, torn := range []bool{false, true} {
			ahead := eventsOf(createAsk(1), writeAsk(1, 4, "full"))
			e := impl.Event{Ask: writeAsk(1, 4, ""), Cut: true, Whole: whole, Torn: torn}
			before, _ := impl.RunLife(6, ahead)
			after, _ := impl.RunLife(6, append(slices.Clone(ahead), eventOf(e.Ask)))
			if isAfter := wantWholeAt(t, 6, ahead, before, after, e); isAfter != (whole == 2) {
				t.Errorf("behind %#v it is %v that the text is empty", e, isAfter)
			}
		}
	}
}

// Nothing is kept from one call to another, also when many are asked at once.
func TestTruthsAtOnce(t *testing.T) {
	draws := mixedText(4000)
	worlds := make([]impl.World, 10)
	for i := range worlds {
		worlds[i], _ = impl.RunLife(3+i%8, truthEvents(draws[100*i:], 25, true))
		if i%2 == 1 {
			worlds[i].Model = append(worlds[i].Model, shelfWith(9, nil))
		}
	}
	got := make([][4]bool, 60)
	var all sync.WaitGroup
	for i := range got {
		all.Go(func() {
			w, next := worlds[i%10], worlds[(i+1)%10]
			got[i] = [4]bool{impl.SoundWorld(w), impl.Counted(w.Device), impl.Lawful(3+i%8, w.Steps), impl.WholeOrNot(w.Model, next.Model, next.Model)}
		})
	}
	all.Wait()
	for i, truths := range got {
		w := worlds[i%10]
		if want := [4]bool{soundByRule(w), true, lawfulByRule(3+i%8, w.Steps), true}; truths != want || truths[0] != (i%2 == 0) {
			t.Errorf("of world %d %v is told, not %v", i%10, truths, want)
		}
	}
}

func TestTruthsAreAskedTwice(t *testing.T) {
	right, lost := countedOn(t, []int{1, 2}, "one", "two"), lostText(t)
	for range 3 {
		wantCounted(t, "right", right, true)
		wantCounted(t, "lost", lost, false)
		wantSound(t, "right", faithfulWorld(right), true)
		wantSound(t, "lost", faithfulWorld(lost), false)
		wantFaithful(t, "right", faithfulWorld(right), true)
		wantFaithful(t, "the model of another", worldOf(right, modelOfDeviceByRule(lost)...), false)
		wantLawfulSteps(t, "right", 5, fullOf(5), true)
		wantLawfulSteps(t, "too many", 4, fullOf(5), false)
		wantSameModel(t, "some", someShelves(), someShelves(), true)
		wantSameModel(t, "others", someShelves(), someShelves()[1:], false)
		wantWholeOrNot(t, "some", someShelves(), nil, someShelves(), true)
		wantWholeOrNot(t, "others", someShelves(), nil, someShelves()[1:], false)
	}
}
