package tests

import (
	"fmt"
	"maps"
	"math"
	"slices"
	"strings"
	"sync"
	"testing"

	"loop.example/g00195/impl"
)

// Promise 19: in a drawn life answers are what the document tells.

func eventOf(q impl.Ask) impl.Event { return impl.Event{Ask: q} }

func cutEvent(q impl.Ask, whole int) impl.Event { return impl.Event{Ask: q, Cut: true, Whole: whole} }

func tornEvent(q impl.Ask, whole int) impl.Event {
	return impl.Event{Ask: q, Cut: true, Whole: whole, Torn: true}
}

func eventsOf(asks ...impl.Ask) []impl.Event {
	var out []impl.Event
	for _, q := range asks {
		out = append(out, eventOf(q))
	}
	return out
}

// twinEvents is a list like this one in memory of its own, with room behind it.
func twinEvents(list []impl.Event) []impl.Event {
	out := make([]impl.Event, 0, len(list)+2)
	for _, e := range list {
		e.Ask.Text = strings.Clone(e.Ask.Text)
		out = append(out, e)
	}
	return append(out, eventOf(writeAsk(7, 7, "spare")), cutEvent(dropAsk(7), 7))[:len(list)]
}

func shelfOf(vol int, texts ...string) impl.Shelf { return impl.Shelf{Vol: vol, Texts: texts} }

// shelfWith has Sectors texts, most of them empty.
func shelfWith(vol int, texts map[int]string) impl.Shelf {
	shelf := shelfOf(vol, make([]string, 16)...)
	for sector, text := range texts {
		shelf.Texts[sector] = text
	}
	return shelf
}

func sameShelf(a, b impl.Shelf) bool { return a.Vol == b.Vol && slices.Equal(a.Texts, b.Texts) }

func sameShelves(a, b []impl.Shelf) bool { return slices.EqualFunc(a, b, sameShelf) }

// twinShelves is a model like this one in memory of its own, with room behind each list.
func twinShelves(list []impl.Shelf) []impl.Shelf {
	out := make([]impl.Shelf, 0, len(list)+2)
	for _, shelf := range list {
		texts := make([]string, 0, len(shelf.Texts)+2)
		for _, text := range shelf.Texts {
			texts = append(texts, strings.Clone(text))
		}
		out = append(out, shelfOf(shelf.Vol, append(texts, "spare", "room")[:len(shelf.Texts)]...))
	}
	return append(out, shelfOf(-7, "spare"), shelfOf(-8))[:len(list)]
}

// shelvesWithSpare is a model together with what stands in the room behind its lists.
func shelvesWithSpare(list []impl.Shelf) []impl.Shelf {
	var out []impl.Shelf
	for _, shelf := range list[:cap(list)] {
		out = append(out, shelfOf(shelf.Vol, shelf.Texts[:cap(shelf.Texts)]...))
	}
	return out
}

func spoilShelves(list []impl.Shelf) {
	for _, shelf := range list {
		for i := range shelf.Texts[:cap(shelf.Texts)] {
			shelf.Texts[:cap(shelf.Texts)][i] = "spoiled"
		}
	}
	for i := range list[:cap(list)] {
		list[:cap(list)][i] = shelfOf(-9, "spoiled")
	}
}

func textsOf(list []impl.Shelf) []string {
	var out []string
	for _, shelf := range list {
		out = append(out, shelf.Texts...)
	}
	return out
}

func sharesTexts(a, b []string) bool {
	for _, one := range a {
		if slices.ContainsFunc(b, func(other string) bool { return sharesMemory(one, other) }) {
			return true
		}
	}
	return false
}

func sharesShelves(a, b []impl.Shelf) bool {
	if sharesList(a, b) || sharesTexts(textsOf(a), textsOf(b)) {
		return true
	}
	for _, one := range a {
		if slices.ContainsFunc(b, func(other impl.Shelf) bool { return sharesList(one.Texts, other.Texts) }) {
			return true
		}
	}
	return false
}

// wantOwnShelves asks that no two volumes of a model have a list or a text in one memory.
func wantOwnShelves(t *testing.T, why string, list []impl.Shelf) {
	t.Helper()
	for i, shelf := range list {
		for _, other := range list[:i] {
			if sharesList(shelf.Texts, other.Texts) || sharesTexts(shelf.Texts, other.Texts) {
				t.Errorf("%s: the volumes %d and %d stand in one memory", why, other.Vol, shelf.Vol)
			}
		}
	}
}

func eventRightByRule(e impl.Event) bool { return askRightByRule(e.Ask) && e.Whole >= 0 }

// modelByRule is chapter 19's rule of what a right ask makes of a right model: each
// volume by its number, in their order.
func modelByRule(list []impl.Shelf, q impl.Ask) []impl.Shelf {
	vols := map[int][]string{}
	for _, shelf := range list {
		vols[shelf.Vol] = slices.Clone(shelf.Texts)
	}
	_, isThere := vols[q.Vol]
	of, isOf := vols[q.Of]
	switch {
	case !askRightByRule(q):
	case q.Kind == 1 && isThere:
		vols[q.Vol][q.Sector] = q.Text
	case q.Kind == 2 && isThere:
		vols[q.Vol][q.Sector] = ""
	case q.Kind == 3 && !isThere:
		vols[q.Vol] = make([]string, 16)
	case q.Kind == 4 && !isThere && isOf:
		vols[q.Vol] = slices.Clone(of)
	case q.Kind == 5:
		delete(vols, q.Vol)
	}
	var out []impl.Shelf
	for _, vol := range slices.Sorted(maps.Keys(vols)) {
		out = append(out, shelfOf(vol, vols[vol]...))
	}
	return out
}

func modelOfDeviceByRule(d impl.Device) []impl.Shelf {
	var out []impl.Shelf
	for _, v := range d.Store.Vols {
		shelf := shelfWith(v.Id, nil)
		for sector := range 16 {
			shelf.Texts[sector], _ = readOfByRule(d, v.Id, sector)
		}
		out = append(out, shelf)
	}
	return out
}

// lifeByRule is chapter 19's rule of a life, from the rules of the chapters ahead.
func lifeByRule(blocks int, events []impl.Event) (impl.World, bool) {
	isWrong := func(e impl.Event) bool { return !eventRightByRule(e) }
	if blocks < 3 || blocks > 10 || len(events) > 40 || slices.ContainsFunc(events, isWrong) {
		return impl.World{}, false
	}
	w := impl.World{Device: freshOn(flashOf(slices.Repeat([]impl.Block{blockOf(0)}, blocks)...))}
	for _, e := range events {
		got := serveByRule(w.Device, e.Ask)
		if e.Cut && len(got.steps) > 0 {
			got.steps, w = cutLifeByRule(w, got.steps, e)
			got.code, got.told = 6, ""
		} else {
			w.Device = got.device
		}
		if got.code == 0 {
			w.Model = modelByRule(w.Model, e.Ask)
		}
		w.Codes, w.Told, w.Steps = append(w.Codes, got.code), append(w.Told, got.told), append(w.Steps, got.steps...)
	}
	return w, true
}

// cutLifeByRule has the steps that were done wholly, and the world as it comes up.
func cutLifeByRule(w impl.World, steps []impl.Step, e impl.Event) ([]impl.Step, impl.World) {
	whole := min(e.Whole, len(steps))
	f, _ := cutByRule(w.Device.Flash, steps, whole, e.Torn)
	w.Device, _ = mountByRule(f)
	w.Model = modelOfDeviceByRule(w.Device)
	return steps[:whole], w
}

func sameWorld(a, b impl.World) bool {
	return sameDevice(a.Device, b.Device) && slices.Equal(a.Codes, b.Codes) && slices.Equal(a.Told, b.Told) &&
		sameShelves(a.Model, b.Model) && slices.Equal(a.Steps, b.Steps)
}

func wantEventOk(t *testing.T, why string, e impl.Event, want bool) {
	t.Helper()
	if got := impl.EventOk(e); got != want || eventRightByRule(e) != want {
		t.Errorf("%s: EventOk of %#v is %v, by rule %v", why, e, got, eventRightByRule(e))
	}
}

// wantModel asks twice, and spoils what was answered first in between. The model has to
// be as it was.
func wantModel(t *testing.T, why string, list []impl.Shelf, q impl.Ask, want []impl.Shelf) {
	t.Helper()
	given, like := twinShelves(list), twinShelves(list)
	q.Text = strings.Clone(q.Text)
	first := impl.ModelOf(given, q)
	if !sameShelves(first, want) {
		t.Errorf("%s: ModelOf of %#v on %#v\nis  %#v\nnot %#v", why, q, list, first, want)
	}
	if sharesShelves(first, given) || sharesTexts(textsOf(first), []string{q.Text}) {
		t.Errorf("%s: ModelOf of %#v on %#v answers memory that was handed in", why, q, list)
	}
	wantOwnShelves(t, why, first)
	spoilShelves(first)
	again := impl.ModelOf(given, q)
	if !sameShelves(again, want) || sharesShelves(again, first) {
		t.Errorf("%s: ModelOf of %#v, again, on %#v\nis  %#v\nnot %#v", why, q, list, again, want)
	}
	if !sameShelves(shelvesWithSpare(given), shelvesWithSpare(like)) {
		t.Errorf("%s: ModelOf of %#v has written into the model: %#v, was %#v", why, q, shelvesWithSpare(given), shelvesWithSpare(like))
	}
}

func staysModel(t *testing.T, why string, list []impl.Shelf, q impl.Ask) {
	t.Helper()
	wantModel(t, why, list, q, list)
}

// wantModelByRule asks for a right model.
func wantModelByRule(t *testing.T, why string, list []impl.Shelf, q impl.Ask) []impl.Shelf {
	t.Helper()
	want := modelByRule(list, q)
	wantModel(t, why, list, q, want)
	return want
}

func wantModelOfDevice(t *testing.T, why string, d impl.Device, want ...impl.Shelf) {
	t.Helper()
	keepsDevice(t, why+": ModelOfDevice", d, func(d impl.Device) string {
		first := impl.ModelOfDevice(d)
		if !sameShelves(first, want) || !sameShelves(modelOfDeviceByRule(d), want) {
			t.Errorf("%s: ModelOfDevice of %#v\nis  %#v\nnot %#v", why, d, first, want)
		}
		wantOwnShelves(t, why, first)
		for _, leaf := range leavesOf(d.Flash) {
			if sharesTexts(textsOf(first), []string{leaf.Text}) {
				t.Errorf("%s: ModelOfDevice answers memory of the device", why)
			}
		}
		spoilShelves(first)
		again := impl.ModelOfDevice(d)
		if !sameShelves(again, want) || sharesShelves(again, first) {
			t.Errorf("%s: ModelOfDevice, again, of %#v\nis  %#v\nnot %#v", why, d, again, want)
		}
		return ""
	})
}

func wantModelOfDeviceByRule(t *testing.T, why string, d impl.Device) {
	t.Helper()
	wantModelOfDevice(t, why, d, modelOfDeviceByRule(d)...)
}

// wantOwnWorld asks that a world shares no memory with the events, and no two lists or
// texts of it any with each other.
func wantOwnWorld(t *testing.T, why string, w impl.World, events []impl.Event) {
	t.Helper()
	var asked, leaves, steps []string
	for _, e := range events {
		asked = append(asked, e.Ask.Text)
	}
	for _, leaf := range leavesOf(w.Device.Flash) {
		leaves = append(leaves, leaf.Text)
	}
	for _, s := range w.Steps {
		steps = append(steps, s.Text)
	}
	kinds := [][]string{asked, leaves, steps, w.Told, textsOf(w.Model)}
	for i, one := range kinds {
		for _, other := range kinds[:i] {
			if sharesTexts(one, other) {
				t.Errorf("%s: a text of %q stands in the memory of one of %q", why, one, other)
			}
		}
	}
	if sharesList(w.Told, textsOf(w.Model)) || !ownLists(w.Device.Flash) {
		t.Errorf("%s: two lists of %#v stand in one memory", why, w)
	}
	wantOwnShelves(t, why, w.Model)
	wantOwnLists(t, w.Device.Store.Arena, w.Codes)
}

func spoilWorld(w impl.World) {
	spoil(serving{device: w.Device, steps: w.Steps})
	spoilShelves(w.Model)
	clear(w.Codes[:cap(w.Codes)])
	clear(w.Told[:cap(w.Told)])
}

func sharesWorld(a, b impl.World) bool {
	return sharesFlash(a.Device.Flash, b.Device.Flash) || sharesStore(a.Device.Store, b.Device.Store) || sharesShelves(a.Model, b.Model) ||
		sharesList(a.Codes, b.Codes) || sharesList(a.Told, b.Told) || sharesTexts(a.Told, b.Told) || sharesList(a.Steps, b.Steps)
}

// wantTrue asks for what is so in each life, whatever its rule: one code and one text
// for each event, a right device, its own model, and steps that lead to it.
func wantTrue(t *testing.T, why string, blocks int, events []impl.Event, w impl.World) {
	t.Helper()
	if len(w.Codes) != len(events) || len(w.Told) != len(events) {
		t.Errorf("%s: %d codes and %d texts are told of %d events", why, len(w.Codes), len(w.Told), len(events))
	}
	up, ok := impl.MountAll(w.Device.Flash)
	if !ok || !sameDevice(up, w.Device) || !impl.DeviceOk(w.Device) || !impl.Bounds(w.Device) {
		t.Errorf("%s: %#v is answered, and %#v comes up", why, w.Device, up)
	}
	if !sameShelves(w.Model, impl.ModelOfDevice(w.Device)) {
		t.Errorf("%s: the model is %#v, that of the device %#v", why, w.Model, impl.ModelOfDevice(w.Device))
	}
	if slices.ContainsFunc(events, func(e impl.Event) bool { return e.Cut && e.Torn }) {
		return
	}
	start, _ := impl.FlashNew(blocks)
	f, count := impl.DoSteps(start, w.Steps)
	if count != len(w.Steps) || !sameFlash(f, w.Device.Flash) {
		t.Errorf("%s: %d of %d steps lead to %#v, not %#v", why, count, len(w.Steps), f, w.Device.Flash)
	}
}

// wantLife runs twice, and spoils what was answered first in between. The events have to
// be as they were.
func wantLife(t *testing.T, why string, blocks int, events []impl.Event, want impl.World, wantOk bool) {
	t.Helper()
	given, like := twinEvents(events), twinEvents(events)
	first, ok := impl.RunLife(blocks, given)
	if !sameWorld(first, want) || ok != wantOk {
		t.Errorf("%s: RunLife of %d, %#v\nis  %#v, %v\nnot %#v, %v", why, blocks, events, first, ok, want, wantOk)
	}
	wantOwnWorld(t, why, first, given)
	if ok {
		wantTrue(t, why, blocks, events, first)
	}
	spoilWorld(first)
	again, ok := impl.RunLife(blocks, given)
	if !sameWorld(again, want) || ok != wantOk || sharesWorld(first, again) {
		t.Errorf("%s: RunLife, again, of %d, %#v\nis  %#v, %v\nnot %#v, %v", why, blocks, events, again, ok, want, wantOk)
	}
	if !slices.Equal(given[:cap(given)], like[:cap(like)]) {
		t.Errorf("%s: RunLife has written into the events: %#v, was %#v", why, given[:cap(given)], like[:cap(like)])
	}
}

func wantLifeByRule(t *testing.T, why string, blocks int, events ...impl.Event) impl.World {
	t.Helper()
	want, ok := lifeByRule(blocks, events)
	wantLife(t, why, blocks, events, want, ok)
	return want
}

func refusesToRun(t *testing.T, why string, blocks int, events ...impl.Event) {
	t.Helper()
	wantLife(t, why, blocks, events, impl.World{}, false)
	if _, ok := lifeByRule(blocks, events); ok {
		t.Errorf("%s: by rule %#v is run on %d blocks", why, events, blocks)
	}
}

func TestTheLongestLife(t *testing.T) {
	if impl.MaxLife != 40 {
		t.Errorf("MaxLife is %d", impl.MaxLife)
	}
}

func TestEventsByTheirAsks(t *testing.T) {
	count := map[bool]int{}
	for i, q := range manyAsks() {
		want := askRightByRule(q)
		for _, e := range []impl.Event{eventOf(q), cutEvent(q, i%4), tornEvent(q, i), {Ask: q, Torn: true}} {
			wantEventOk(t, "any ask", e, want)
		}
		count[want]++
	}
	if count[true] < 50 || count[false] < 50 {
		t.Errorf("asks came up %v", count)
	}
	wantEventOk(t, "the zero value", impl.Event{}, false)
}

func TestEachFieldOfEventsAtItsLimits(t *testing.T) {
	for _, c := range []struct {
		ask  impl.Ask
		want bool
	}{
		{writeAsk(1, 0, ""), true},
		{writeAsk(9, 15, unlike(64)), true},
		{writeAsk(0, 0, ""), false},
		{writeAsk(10, 0, ""), false},
		{writeAsk(1, -1, ""), false},
		{writeAsk(1, 16, ""), false},
		{writeAsk(1, 0, unlike(65)), false},
		{trimAsk(9, 15), true},
		{trimAsk(9, 16), false},
		{createAsk(9), true},
		{createAsk(10), false},
		{cloneAsk(9, 9), true},
		{cloneAsk(9, 0), false},
		{cloneAsk(9, 10), false},
		{dropAsk(1), true},
		{dropAsk(0), false},
		{readAsk(1, 15), true},
		{readAsk(1, 16), false},
		{impl.Ask{Kind: impl.AskWrite, Vol: 1, Of: 1}, false},
		{impl.Ask{Kind: impl.AskCreate, Vol: 1, Sector: 1}, false},
		{impl.Ask{Kind: impl.AskDrop, Vol: 1, Text: "x"}, false},
		{impl.Ask{Kind: impl.AskRead + 1, Vol: 1}, false},
	} {
		for _, cut := range []bool{false, true} {
			for _, torn := range []bool{false, true} {
				for _, whole := range []int{math.MinInt, -2, -1, 0, 1, 2, 40, 41, impl.MaxNumber, impl.MaxNumber + 1, math.MaxInt} {
					e := impl.Event{Ask: c.ask, Cut: cut, Whole: whole, Torn: torn}
					wantEventOk(t, "limits", e, c.want && whole >= 0)
				}
			}
		}
	}
}

// someShelves are the volumes 2, 4 and 7, each with other texts.
func someShelves() []impl.Shelf {
	return []impl.Shelf{
		shelfWith(2, map[int]string{0: "first", 15: "last"}),
		shelfWith(4, nil),
		shelfWith(7, map[int]string{0: "seven", 3: unlike(64), 5: "seven"}),
	}
}

func TestModelsOfEachKind(t *testing.T) {
	two, four, seven := someShelves()[0], someShelves()[1], someShelves()[2]
	for _, c := range []struct {
		name string
		list []impl.Shelf
		ask  impl.Ask
		want []impl.Shelf
	}{
		{"created first", nil, createAsk(5), []impl.Shelf{shelfWith(5, nil)}},
		{"created ahead", someShelves(), createAsk(1), []impl.Shelf{shelfWith(1, nil), two, four, seven}},
		{"created between", someShelves(), createAsk(3), []impl.Shelf{two, shelfWith(3, nil), four, seven}},
		{"created between the last", someShelves(), createAsk(6), []impl.Shelf{two, four, shelfWith(6, nil), seven}},
		{"created behind", someShelves(), createAsk(9), []impl.Shelf{two, four, seven, shelfWith(9, nil)}},
		{"copied ahead", someShelves(), cloneAsk(1, 7), []impl.Shelf{shelfOf(1, seven.Texts...), two, four, seven}},
		{"copied between", someShelves(), cloneAsk(3, 2), []impl.Shelf{two, shelfOf(3, two.Texts...), four, seven}},
		{"copied behind", someShelves(), cloneAsk(8, 2), []impl.Shelf{two, four, seven, shelfOf(8, two.Texts...)}},
		{"copied of empty texts", someShelves(), cloneAsk(9, 4), []impl.Shelf{two, four, seven, shelfWith(9, nil)}},
		{"copied of one", []impl.Shelf{seven}, cloneAsk(9, 7), []impl.Shelf{seven, shelfOf(9, seven.Texts...)}},
		{"the first is gone", someShelves(), dropAsk(2), []impl.Shelf{four, seven}},
		{"the middle one is gone", someShelves(), dropAsk(4), []impl.Shelf{two, seven}},
		{"the last is gone", someShelves(), dropAsk(7), []impl.Shelf{two, four}},
		{"the only one is gone", []impl.Shelf{four}, dropAsk(4), nil},
		{"written first", someShelves(), writeAsk(4, 0, "new"), []impl.Shelf{two, shelfWith(4, map[int]string{0: "new"}), seven}},
		{"written last", someShelves(), writeAsk(4, 15, unlike(64)), []impl.Shelf{two, shelfWith(4, map[int]string{15: unlike(64)}), seven}},
		{"written again", someShelves(), writeAsk(2, 15, "new"), []impl.Shelf{shelfWith(2, map[int]string{0: "first", 15: "new"}), four, seven}},
		{"written empty", someShelves(), writeAsk(2, 15, ""), []impl.Shelf{shelfWith(2, map[int]string{0: "first"}), four, seven}},
		{"trimmed", someShelves(), trimAsk(7, 5), []impl.Shelf{two, four, shelfWith(7, map[int]string{0: "seven", 3: unlike(64)})}},
		{"trimmed first", someShelves(), trimAsk(2, 0), []impl.Shelf{shelfWith(2, map[int]string{15: "last"}), four, seven}},
	} {
		wantModel(t, c.name, c.list, c.ask, c.want)
		if !sameShelves(modelByRule(c.list, c.ask), c.want) {
			t.Errorf("%s: by rule it is %#v", c.name, modelByRule(c.list, c.ask))
		}
	}
}

func TestModelsThatStayAsTheyAre(t *testing.T) {
	for _, list := range [][]impl.Shelf{nil, {}, someShelves()[:1], someShelves()[1:], someShelves()} {
		for vol := 1; vol <= 9; vol++ {
			isThere := slices.ContainsFunc(list, func(s impl.Shelf) bool { return s.Vol == vol })
			for sector := range 16 {
				staysModel(t, "read", list, readAsk(vol, sector))
				if !isThere {
					staysModel(t, "no such volume", list, writeAsk(vol, sector, "new"))
					staysModel(t, "no such volume", list, trimAsk(vol, sector))
				}
			}
			if isThere {
				staysModel(t, "there is one", list, createAsk(vol))
			} else {
				staysModel(t, "no such volume", list, dropAsk(vol))
				staysModel(t, "a copy of itself", list, cloneAsk(vol, vol))
			}
			for of := 1; of <= 9; of++ {
				isOf := slices.ContainsFunc(list, func(s impl.Shelf) bool { return s.Vol == of })
				if isThere || !isOf {
					staysModel(t, "no copy", list, cloneAsk(vol, of))
				}
			}
		}
	}
	some := someShelves()
	staysModel(t, "trimmed where nothing is", some, trimAsk(2, 7))
	staysModel(t, "written empty where nothing is", some, writeAsk(4, 7, ""))
	staysModel(t, "written with what is there", some, writeAsk(7, 3, unlike(64)))
}

func TestModelsOfAsksThatAreNotRight(t *testing.T) {
	some := someShelves()
	for _, q := range manyAsks() {
		if !askRightByRule(q) {
			if got := impl.ModelOf(some, q); !sameShelves(got, some) {
				t.Errorf("ModelOf of %#v is %#v", q, got)
			}
		}
	}
	for _, q := range []impl.Ask{
		{}, writeAsk(2, 16, "x"), writeAsk(2, -1, "x"), writeAsk(2, math.MaxInt, "x"), writeAsk(2, math.MinInt, "x"), writeAsk(2, 3, unlike(65)),
		trimAsk(2, 16), trimAsk(2, -1), createAsk(0), createAsk(10), createAsk(-1), cloneAsk(0, 2), cloneAsk(10, 2), cloneAsk(3, 0), cloneAsk(3, 10),
		{Kind: impl.AskWrite, Vol: 2, Of: 4, Text: "x"}, {Kind: impl.AskTrim, Vol: 2, Text: "x"}, {Kind: impl.AskCreate, Vol: 3, Of: 2},
		{Kind: impl.AskClone, Vol: 3, Of: 2, Sector: 1}, {Kind: impl.AskDrop, Vol: 2, Sector: 1}, {Kind: impl.AskDrop, Vol: 2, Text: "x"},
	} {
		staysModel(t, "not right", some, q)
		staysModel(t, "not right, on nothing", nil, q)
	}
	for _, kind := range kindsThatAreNone() {
		staysModel(t, "no kind", some, impl.Ask{Kind: kind, Vol: 2})
		staysModel(t, "no kind", some, impl.Ask{Kind: kind, Vol: 3, Of: 2})
	}
	// A volume's number that no right ask has is no reason to find it.
	odd := []impl.Shelf{shelfWith(-1, nil), shelfWith(0, nil), shelfWith(10, map[int]string{2: "ten"})}
	for _, vol := range []int{-1, 0, 10} {
		for _, q := range []impl.Ask{writeAsk(vol, 2, "x"), trimAsk(vol, 2), dropAsk(vol), cloneAsk(3, vol), readAsk(vol, 2)} {
			staysModel(t, "no right number", odd, q)
		}
	}
}

// All right asks of few numbers on all right models of few volumes.
func TestModelsByRule(t *testing.T) {
	var asks []impl.Ask
	for vol := 1; vol <= 9; vol++ {
		asks = append(asks, writeAsk(vol, 0, "new"), writeAsk(vol, vol+6, "seven"), trimAsk(vol, 15), trimAsk(vol, 0), createAsk(vol), dropAsk(vol), readAsk(vol, 3))
		for of := 1; of <= 9; of++ {
			asks = append(asks, cloneAsk(vol, of))
		}
	}
	for set := range 1 << 5 {
		var list []impl.Shelf
		for i, vol := range []int{1, 2, 5, 8, 9} {
			if set>>i&1 == 1 {
				list = append(list, shelfWith(vol, map[int]string{0: fmt.Sprint("volume ", vol), 8: "all", vol + 6: "some"}))
			}
		}
		for _, q := range asks {
			wantModelByRule(t, "by rule", list, q)
		}
	}
}

// In whatever order volumes are made, they stand by their numbers.
func TestModelsStandInOrder(t *testing.T) {
	vols := []int{1, 3, 4, 6, 9}
	for order := range 5 * 5 * 5 * 5 * 5 {
		var list, want []impl.Shelf
		isMade := map[int]bool{}
		for i, places := 0, order; i < 5; i, places = i+1, places/5 {
			vol := vols[places%5]
			q := createAsk(vol)
			if i > 0 && places%2 == 1 {
				q = cloneAsk(vol, list[0].Vol)
			}
			list = impl.ModelOf(list, q)
			isMade[vol] = true
		}
		for _, vol := range vols {
			if isMade[vol] {
				want = append(want, shelfWith(vol, nil))
			}
		}
		if !sameShelves(list, want) {
			t.Fatalf("in the order %d the model is %#v", order, list)
		}
	}
}

// More than MaxVols are refused by a device alone.
func TestModelsOfManyVolumes(t *testing.T) {
	var list []impl.Shelf
	for vol := 9; vol >= 1; vol-- {
		list = wantModelByRule(t, "many", list, createAsk(vol))
	}
	for vol := 1; vol <= 9; vol++ {
		list = wantModelByRule(t, "many", list, writeAsk(vol, vol, fmt.Sprint("text ", vol)))
	}
	for vol := 1; vol <= 9; vol++ {
		list = wantModelByRule(t, "many", list, dropAsk(vol))
		list = wantModelByRule(t, "many", list, cloneAsk(vol, 1+vol%9))
	}
	if len(list) != 9 {
		t.Errorf("there are %d volumes", len(list))
	}
}

// A volume that comes is put in order; else each stays where it stands.
func TestModelsOutOfOrder(t *testing.T) {
	two, four, seven := someShelves()[0], someShelves()[1], someShelves()[2]
	list := []impl.Shelf{seven, two, four}
	for vol := 1; vol <= 9; vol++ {
		staysModel(t, "out of order", list, readAsk(vol, 3))
		for _, q := range []impl.Ask{createAsk(vol), cloneAsk(vol, 7), cloneAsk(vol, 2)} {
			want := list
			if vol != 2 && vol != 4 && vol != 7 {
				want = modelByRule(list, q)
			}
			wantModel(t, "out of order", list, q, want)
		}
	}
	wantModel(t, "out of order", list, writeAsk(2, 15, "new"), []impl.Shelf{seven, shelfWith(2, map[int]string{0: "first", 15: "new"}), four})
	wantModel(t, "out of order", list, trimAsk(4, 15), list)
	wantModel(t, "out of order", list, dropAsk(7), []impl.Shelf{two, four})
	wantModel(t, "out of order", list, dropAsk(2), []impl.Shelf{seven, four})
	wantModel(t, "out of order", list, dropAsk(4), []impl.Shelf{seven, two})
}

// Of one number the first counts.
func TestModelsWithOneNumberTwice(t *testing.T) {
	first, second := shelfWith(4, map[int]string{1: "first"}), shelfWith(4, map[int]string{1: "second"})
	two, seven := someShelves()[0], someShelves()[2]
	list := []impl.Shelf{two, first, second, seven}
	wantModel(t, "twice", list, writeAsk(4, 1, "new"), []impl.Shelf{two, shelfWith(4, map[int]string{1: "new"}), second, seven})
	wantModel(t, "twice", list, trimAsk(4, 1), []impl.Shelf{two, shelfWith(4, nil), second, seven})
	wantModel(t, "twice", list, dropAsk(4), []impl.Shelf{two, second, seven})
	wantModel(t, "twice", list, cloneAsk(5, 4), []impl.Shelf{two, first, second, shelfOf(5, first.Texts...), seven})
	wantModel(t, "twice", list, createAsk(3), []impl.Shelf{two, shelfWith(3, nil), first, second, seven})
	staysModel(t, "twice", list, createAsk(4))
	staysModel(t, "twice", list, cloneAsk(4, 2))
	staysModel(t, "twice", list, readAsk(4, 1))
}

// A text is written where the shelf has a place for it; a copy has as many places.
func TestModelsWithMoreOrFewerTexts(t *testing.T) {
	for size := range 20 {
		texts := strings.Split(strings.Repeat("text ", size), " ")[:size]
		list := []impl.Shelf{shelfOf(3, texts...), someShelves()[2]}
		for sector := range 16 {
			written, trimmed := slices.Clone(texts), slices.Clone(texts)
			if sector < size {
				written[sector], trimmed[sector] = "new", ""
			}
			why := fmt.Sprintf("%d texts, sector %d", size, sector)
			wantModel(t, why, list, writeAsk(3, sector, "new"), []impl.Shelf{shelfOf(3, written...), someShelves()[2]})
			wantModel(t, why, list, trimAsk(3, sector), []impl.Shelf{shelfOf(3, trimmed...), someShelves()[2]})
			staysModel(t, why, list, readAsk(3, sector))
		}
		wantModel(t, "a copy", list, cloneAsk(5, 3), []impl.Shelf{list[0], shelfOf(5, texts...), list[1]})
		wantModel(t, "made beside it", list, createAsk(5), []impl.Shelf{list[0], shelfWith(5, nil), list[1]})
		wantModel(t, "gone", list, dropAsk(3), list[1:])
		wantModel(t, "written beside it", list, writeAsk(7, 0, "new"),
			[]impl.Shelf{list[0], shelfWith(7, map[int]string{0: "new", 3: unlike(64), 5: "seven"})})
	}
}

// What is written to a copy is not in what it was copied from, nor the other way round.
func TestCopiesInModelsAreTheirOwn(t *testing.T) {
	list := wantModelByRule(t, "copy", someShelves(), cloneAsk(3, 7))
	list = wantModelByRule(t, "copy of a copy", list, cloneAsk(9, 3))
	for _, vol := range []int{3, 7, 9} {
		for sector := range 16 {
			for _, q := range []impl.Ask{writeAsk(vol, sector, "other"), trimAsk(vol, sector)} {
				after := wantModelByRule(t, "copy", list, q)
				for i, shelf := range after {
					if shelf.Vol != vol && !sameShelf(shelf, list[i]) {
						t.Errorf("behind %#v volume %d is %#v", q, shelf.Vol, shelf)
					}
				}
			}
		}
		wantModelByRule(t, "copy", list, dropAsk(vol))
	}
	// The lists that are answered themselves are written to.
	list = impl.ModelOf(impl.ModelOf(someShelves(), cloneAsk(3, 7)), cloneAsk(9, 3))
	list[1].Texts[0] = "other"
	if list[3].Texts[0] != "seven" || list[4].Texts[0] != "seven" {
		t.Errorf("%#v share their texts", list)
	}
}

func TestDrawnModelsByRule(t *testing.T) {
	count := map[int]int{}
	var list []impl.Shelf
	for draws := mixedText(12000); len(draws) > 100; draws = draws[7:] {
		q := drawnServed(draws)
		if draws[0] > 250 {
			q = dropAsk(q.Vol)
		}
		list = wantModelByRule(t, "drawn", list, q)
		count[len(list)]++
	}
	for size := 1; size <= 4; size++ {
		if count[size] < 20 {
			t.Errorf("models came up %v", count)
		}
	}
}

func TestModelsOfDevices(t *testing.T) {
	wantModelOfDevice(t, "nothing", newDevice(t, 3))
	wantModelOfDevice(t, "the zero value", impl.Device{})
	wantModelOfDevice(t, "never written", withVolumes(t, 4), shelfWith(4, nil))
	wantModelOfDevice(t, "never written", withVolumes(t, 9, 1, 5), shelfWith(1, nil), shelfWith(5, nil), shelfWith(9, nil))
	// The sectors 5 and 6 can't be read: neither chunk has a text.
	wantModelOfDevice(t, "kept", kept(t), shelfWith(2, map[int]string{0: "three"}), shelfWith(5, map[int]string{1: unlike(64)}))
	texts := map[int]string{}
	for chunk := 1; chunk <= 16; chunk++ {
		texts[chunk-1] = fmt.Sprint("text of ", chunk)
	}
	wantModelOfDevice(t, "all sectors", crowded(t, 0), shelfWith(1, texts))
}

func TestModelsOfDevicesBehindAsks(t *testing.T) {
	d, model := newDevice(t, 10), []impl.Shelf(nil)
	for _, c := range []struct {
		ask  impl.Ask
		want []impl.Shelf
	}{
		{createAsk(5), []impl.Shelf{shelfWith(5, nil)}},
		{writeAsk(5, 3, "once"), []impl.Shelf{shelfWith(5, map[int]string{3: "once"})}},
		{writeAsk(5, 3, "again"), []impl.Shelf{shelfWith(5, map[int]string{3: "again"})}},
		{writeAsk(5, 4, "again"), []impl.Shelf{shelfWith(5, map[int]string{3: "again", 4: "again"})}},
		{cloneAsk(2, 5), []impl.Shelf{shelfWith(2, map[int]string{3: "again", 4: "again"}), shelfWith(5, map[int]string{3: "again", 4: "again"})}},
		{trimAsk(5, 3), []impl.Shelf{shelfWith(2, map[int]string{3: "again", 4: "again"}), shelfWith(5, map[int]string{4: "again"})}},
		{writeAsk(2, 3, ""), []impl.Shelf{shelfWith(2, map[int]string{4: "again"}), shelfWith(5, map[int]string{4: "again"})}},
		{writeAsk(5, 3, "back"), []impl.Shelf{shelfWith(2, map[int]string{4: "again"}), shelfWith(5, map[int]string{3: "back", 4: "again"})}},
		{dropAsk(5), []impl.Shelf{shelfWith(2, map[int]string{4: "again"})}},
		{dropAsk(2), nil},
	} {
		got := servingOf(d, c.ask)
		if got.code != 0 {
			t.Fatalf("%#v is served with code %d", c.ask, got.code)
		}
		d, model = got.device, wantModelByRule(t, "behind asks", model, c.ask)
		wantModelOfDevice(t, "behind asks", d, c.want...)
		if !sameShelves(model, c.want) {
			t.Errorf("behind %#v the model is %#v", c.ask, model)
		}
	}
}

func TestModelsOfRightAndWrongDevicesByRule(t *testing.T) {
	for _, d := range askedDevices(t) {
		wantModelOfDeviceByRule(t, "any device", d)
	}
	for draws := mixedText(6000); len(draws) >= 500; draws = draws[31:] {
		wantModelOfDeviceByRule(t, "drawn", drawnWipes(t, draws))
	}
	d := kept(t)
	d.Seq, d.Tx, d.Base, d.Store.Next = 0, -1, math.MaxInt, 0
	wantModelOfDevice(t, "other numbers", d, shelfWith(2, map[int]string{0: "three"}), shelfWith(5, map[int]string{1: unlike(64)}))
	d.Store.Vols = append(d.Store.Vols, d.Store.Vols[0], volOf(-3, 0), volOf(math.MaxInt, math.MaxInt))
	d.Store.Vols[2].Root = -1
	wantModelOfDevice(t, "one number twice", d, shelfWith(2, map[int]string{0: "three"}), shelfWith(5, map[int]string{1: unlike(64)}),
		shelfWith(2, map[int]string{0: "three"}), shelfWith(-3, nil), shelfWith(math.MaxInt, nil))
	d = kept(t)
	slices.Reverse(d.Store.Vols)
	wantModelOfDevice(t, "out of order", d, shelfWith(5, map[int]string{1: unlike(64)}), shelfWith(2, map[int]string{0: "three"}))
	d.Flash = impl.Flash{}
	wantModelOfDevice(t, "no blocks", d, shelfWith(5, nil), shelfWith(2, nil))
	d = kept(t)
	d.Store.Arena.Knots[0].Kids = nil
	wantModelOfDevice(t, "a wrong knot", d, shelfWith(2, nil), shelfWith(5, nil))
}

// What a right device serves with code 0 is what the ask makes of its model, where all
// of it can be read.
func TestModelsAndWhatIsServed(t *testing.T) {
	for _, d := range []impl.Device{withVolumes(t, 1, 2, 9), crowded(t, 12), crowdedWith(t, 2, 3), muchToClean(t), newDevice(t, 3), withBlanks(t, withVolumes(t, 4), 2)} {
		before := impl.ModelOfDevice(d)
		asks := []impl.Ask{writeAsk(1, 15, "new"), writeAsk(1, 0, "text of 3"), trimAsk(1, 0), createAsk(4), createAsk(7), cloneAsk(6, 1), cloneAsk(3, 4), dropAsk(1), dropAsk(9), readAsk(1, 0)}
		for _, q := range append(asks, asksOfEachCode()...) {
			got, want := servingOf(d, q), before
			if got.code == 0 {
				want = impl.ModelOf(before, q)
			}
			wantModelOfDevice(t, "what is served", got.device, want...)
		}
	}
}

func TestLivesOfNoEvent(t *testing.T) {
	for _, blocks := range []int{math.MinInt, -10, -3, -1, 0, 1, 2, 11, 12, 40, impl.MaxNumber, 1<<32 + 5, math.MaxInt} {
		refusesToRun(t, "no event", blocks)
		refusesToRun(t, "an event", blocks, eventOf(createAsk(1)))
	}
	for blocks := 3; blocks <= 10; blocks++ {
		want := impl.World{Device: newDevice(t, blocks)}
		wantLife(t, "no event", blocks, nil, want, true)
		wantLife(t, "no event", blocks, []impl.Event{}, want, true)
		wantLifeByRule(t, "no event", blocks)
		wantLifeByRule(t, "an event", blocks, eventOf(createAsk(1)))
		wantLifeByRule(t, "a cut", blocks, tornEvent(createAsk(1), 0))
	}
}

// longLife has so many right events, of each kind.
func longLife(count int) []impl.Event {
	var out []impl.Event
	for i := range count {
		asks := []impl.Ask{createAsk(1), writeAsk(1, i%16, fmt.Sprint("text ", i%3)), readAsk(1, i%16), cloneAsk(2, 1), writeAsk(2, 3, "two"), trimAsk(1, 3), dropAsk(2)}
		out = append(out, eventOf(asks[i%len(asks)]))
	}
	return out
}

func TestLivesOfManyEvents(t *testing.T) {
	for _, count := range []int{1, 2, 20, 38, 39, 40} {
		w := wantLifeByRule(t, "many", 5, longLife(count)...)
		if len(w.Codes) != count {
			t.Errorf("of %d events the codes are %v", count, w.Codes)
		}
	}
	for _, count := range []int{41, 42, 80, 1000} {
		refusesToRun(t, "too many", 5, longLife(count)...)
		refusesToRun(t, "too many reads", 5, slices.Repeat(eventsOf(readAsk(1, 0)), count)...)
		refusesToRun(t, "too many, and no blocks", 0, longLife(count)...)
	}
}

// Nothing is told of those ahead of an event that is not right.
func TestLivesWithAnEventThatIsNotRight(t *testing.T) {
	wrong := []impl.Event{
		{}, eventOf(writeAsk(1, 16, "x")), eventOf(writeAsk(0, 3, "x")), eventOf(writeAsk(1, 3, unlike(65))), eventOf(trimAsk(10, 3)), eventOf(createAsk(-1)),
		eventOf(cloneAsk(3, 0)), eventOf(impl.Ask{Kind: 7, Vol: 1}), {Ask: impl.Ask{Kind: impl.AskDrop, Vol: 1, Text: "x"}}, eventOf(readAsk(1, -1)),
		{Ask: createAsk(1), Whole: -1}, cutEvent(createAsk(1), -1), tornEvent(readAsk(1, 3), -1), cutEvent(createAsk(1), math.MinInt),
	}
	for _, e := range wrong {
		refusesToRun(t, "alone", 5, e)
		for _, count := range []int{2, 3, 40} {
			for _, place := range []int{0, 1, count / 2, count - 1} {
				events := longLife(count)
				events[place] = e
				refusesToRun(t, fmt.Sprintf("event %d of %d", place, count), 5, events...)
			}
		}
	}
}

func TestALifeByHand(t *testing.T) {
	page := func(b, leaf int, text string) impl.Step { return programStep(b, leaf, sealedByRule(text)) }
	create, base := page(0, 0, "\x02\x01\x01\x00\x01\x21\x00\x00"), page(0, 1, "\x02\x02\x02\x00\x01\x10\x01\x00\x21\x00\x00")
	data, meta := page(0, 2, "\x01\x03\x01\x00\x01rabab"), page(0, 3, "\x02\x04\x03\x00\x01\x41\x03\x01")
	write := []impl.Step{base, data, meta}
	start := newDevice(t, 3)
	made := stepsAllByRule(start, []impl.Step{create})
	wantLife(t, "made", 3, eventsOf(createAsk(1)),
		impl.World{Device: made, Codes: []int{0}, Told: []string{""}, Model: []impl.Shelf{shelfWith(1, nil)}, Steps: []impl.Step{create}}, true)
	wantLife(t, "written", 3, eventsOf(createAsk(1), writeAsk(1, 3, "abab"), readAsk(1, 3)),
		impl.World{Device: stepsAllByRule(made, write), Codes: []int{0, 0, 0}, Told: []string{"", "", "abab"},
			Model: []impl.Shelf{shelfWith(1, map[int]string{3: "abab"})}, Steps: []impl.Step{create, base, data, meta}}, true)
	for whole := range 6 {
		for _, torn := range []bool{false, true} {
			done, texts := min(whole, 3), map[int]string{}
			if done == 3 {
				texts[3] = "abab"
			}
			behind := stepsAllByRule(made, write[:done])
			if torn && done < 3 {
				half := write[done].Text[:len(write[done].Text)/2]
				behind, _ = mountByRule(withLeaf(behind.Flash, 0, done+1, tornLeaf(half)))
			}
			want := impl.World{Device: behind, Codes: []int{0, 6, 0}, Told: []string{"", "", texts[3]},
				Model: []impl.Shelf{shelfWith(1, texts)}, Steps: slices.Concat([]impl.Step{create}, write[:done])}
			cut := impl.Event{Ask: writeAsk(1, 3, "abab"), Cut: true, Whole: whole, Torn: torn}
			events := []impl.Event{eventOf(createAsk(1)), cut, eventOf(readAsk(1, 3))}
			wantLife(t, fmt.Sprintf("%d steps, torn %v", whole, torn), 3, events, want, true)
			wantLifeByRule(t, "by rule", 3, events...)
		}
	}
}

// wantEvent asks for the code and the text of the last event, and for how many steps
// it has put behind the others.
func wantEvent(t *testing.T, why string, blocks int, ahead []impl.Event, e impl.Event, code int, told string, steps int) impl.World {
	t.Helper()
	before := wantLifeByRule(t, why, blocks, ahead...)
	after := wantLifeByRule(t, why, blocks, append(slices.Clone(ahead), e)...)
	last := len(ahead)
	if len(after.Codes) != last+1 || after.Codes[last] != code || after.Told[last] != told || len(after.Steps) != len(before.Steps)+steps {
		t.Errorf("%s: %#v behind %#v is told as %v, %q by %d steps", why, e, ahead, after.Codes, after.Told, len(after.Steps)-len(before.Steps))
	}
	if !slices.Equal(after.Codes[:last], before.Codes) || !slices.Equal(after.Told[:last], before.Told) || !slices.Equal(after.Steps[:len(before.Steps)], before.Steps) {
		t.Errorf("%s: behind %#v others are told than ahead of it", why, e)
	}
	if steps == 0 && code != impl.CodeCut && !sameDevice(before.Device, after.Device) {
		t.Errorf("%s: behind %#v %#v came up", why, e, after.Device)
	}
	return after
}

// someLife leaves the volumes 1 and 2, with a few texts, and much room.
func someLife() []impl.Event {
	return eventsOf(createAsk(2), writeAsk(2, 0, "first"), createAsk(1), writeAsk(1, 3, "three"), writeAsk(1, 4, ""))
}

func TestEventsOfEachKindAndCode(t *testing.T) {
	for _, c := range []struct {
		ask   impl.Ask
		code  int
		told  string
		steps int
	}{
		{writeAsk(1, 3, "new"), 0, "", 2},
		{writeAsk(1, 5, "three"), 0, "", 1},
		{writeAsk(2, 0, ""), 0, "", 1},
		{trimAsk(1, 3), 0, "", 1},
		{trimAsk(1, 9), 0, "", 1},
		{createAsk(7), 0, "", 1},
		{cloneAsk(7, 2), 0, "", 1},
		{dropAsk(1), 0, "", 1},
		{readAsk(1, 3), 0, "three", 0},
		{readAsk(1, 4), 0, "", 0},
		{readAsk(2, 15), 0, "", 0},
		{writeAsk(3, 3, "new"), 1, "", 0},
		{trimAsk(3, 3), 1, "", 0},
		{dropAsk(9), 1, "", 0},
		{readAsk(9, 3), 1, "", 0},
		{cloneAsk(3, 4), 1, "", 0},
		{createAsk(1), 2, "", 0},
		{cloneAsk(2, 1), 2, "", 0},
		{cloneAsk(2, 9), 2, "", 0},
	} {
		plain := wantEvent(t, "plain", 8, someLife(), eventOf(c.ask), c.code, c.told, c.steps)
		wantEvent(t, "torn, and not cut", 8, someLife(), impl.Event{Ask: c.ask, Whole: 1, Torn: true}, c.code, c.told, c.steps)
		for whole := range 5 {
			for _, torn := range []bool{false, true} {
				e := impl.Event{Ask: c.ask, Cut: true, Whole: whole, Torn: torn}
				if c.steps == 0 {
					// A cut of nothing: it is as if there were none.
					if w := wantEvent(t, "a cut of nothing", 8, someLife(), e, c.code, c.told, 0); !sameWorld(w, plain) {
						t.Errorf("%#v leaves %#v, not %#v", e, w, plain)
					}
					continue
				}
				w := wantEvent(t, "cut", 8, someLife(), e, impl.CodeCut, "", min(whole, c.steps))
				if whole >= c.steps && !(sameDevice(w.Device, plain.Device) && sameShelves(w.Model, plain.Model)) {
					t.Errorf("behind all steps of %#v %#v came up, not %#v", e, w, plain)
				}
			}
		}
		for _, whole := range []int{40, impl.MaxNumber, impl.MaxNumber + 1, math.MaxInt - 1, math.MaxInt} {
			if c.steps > 0 {
				wantEvent(t, "far more than there are", 8, someLife(), tornEvent(c.ask, whole), impl.CodeCut, "", c.steps)
			} else {
				wantEvent(t, "far more than none", 8, someLife(), tornEvent(c.ask, whole), c.code, c.told, 0)
			}
		}
	}
	three := append(someLife(), eventOf(createAsk(5)))
	for _, e := range []impl.Event{eventOf(createAsk(7)), eventOf(cloneAsk(7, 1)), cutEvent(createAsk(7), 0), tornEvent(cloneAsk(7, 1), 1)} {
		wantEvent(t, "three volumes", 8, three, e, impl.CodeFull, "", 0)
	}
}

// What is there behind a cut is told by what comes then.
func TestWhatComesBehindACut(t *testing.T) {
	for whole := range 3 {
		for _, torn := range []bool{false, true} {
			isThere := whole == 2
			cut := impl.Event{Ask: writeAsk(1, 3, "new"), Cut: true, Whole: whole, Torn: torn}
			text := map[bool]string{false: "three", true: "new"}[isThere]
			ahead := append(someLife(), cut)
			wantEvent(t, "read", 8, ahead, eventOf(readAsk(1, 3)), 0, text, 0)
			wantEvent(t, "read, cut", 8, ahead, tornEvent(readAsk(1, 3), 0), 0, text, 0)
			// Its chunk may stand on the flash; it is found where it is in a sector alone.
			steps := map[bool]int{false: 2, true: 1}[isThere]
			w := wantEvent(t, "written again", 8, ahead, eventOf(writeAsk(1, 9, "new")), 0, "", steps)
			want := shelfWith(1, map[int]string{3: text, 9: "new"})
			if !sameShelf(w.Model[0], want) {
				t.Errorf("behind %#v volume 1 is %#v", cut, w.Model[0])
			}
			wantEvent(t, "cut again", 8, ahead, tornEvent(writeAsk(1, 9, "new"), 0), impl.CodeCut, "", 0)
		}
	}
	for whole := range 2 {
		made := map[int]int{0: impl.CodeNone, 1: 0}[whole]
		ahead := append(someLife(), cutEvent(createAsk(7), whole))
		wantEvent(t, "a volume that is cut", 8, ahead, eventOf(readAsk(7, 3)), made, "", 0)
		gone := map[int]int{0: 0, 1: impl.CodeNone}[whole]
		told := map[int]string{0: "three", 1: ""}[whole]
		ahead = append(someLife(), tornEvent(dropAsk(1), whole))
		wantEvent(t, "a volume that is dropped", 8, ahead, eventOf(readAsk(1, 3)), gone, told, 0)
	}
}

// fullLife has so many texts on a few blocks that there is no room for more: what its
// last asks were answered is handed on.
func fullLife() []impl.Event {
	events := eventsOf(createAsk(1))
	for sector := range 12 {
		events = append(events, eventOf(writeAsk(1, sector, fmt.Sprint("text ", sector))))
	}
	return events
}

func TestLivesWithoutRoom(t *testing.T) {
	for blocks := 3; blocks <= 5; blocks++ {
		count := map[string]int{}
		for size := 1; size <= len(fullLife()); size++ {
			ahead := fullLife()[:size]
			before := wantLifeByRule(t, "no room", blocks, ahead...)
			for _, q := range []impl.Ask{writeAsk(1, 15, "new"), trimAsk(1, 0), createAsk(7), readAsk(1, 0), createAsk(1)} {
				got := serveByRule(before.Device, q)
				count[fmt.Sprintf("code %d, steps %v", got.code, len(got.steps) > 0)]++
				wantEvent(t, "no room", blocks, ahead, eventOf(q), got.code, got.told, len(got.steps))
				for _, whole := range slices.Compact([]int{0, len(got.steps) / 2, max(len(got.steps), 1) - 1, len(got.steps), len(got.steps) + 1}) {
					code, told := got.code, got.told
					if len(got.steps) > 0 {
						code, told = impl.CodeCut, ""
					}
					wantEvent(t, "no room, cut", blocks, ahead, cutEvent(q, whole), code, told, min(whole, len(got.steps)))
					wantEvent(t, "no room, torn", blocks, ahead, tornEvent(q, whole), code, told, min(whole, len(got.steps)))
				}
			}
		}
		if count["code 4, steps true"] == 0 || count["code 4, steps false"] == 0 || count["code 0, steps true"] == 0 {
			t.Errorf("on %d blocks asks came up %v", blocks, count)
		}
	}
}

// busyLife writes one sector again and again, so that what was there has to be cleaned.
func busyLife(count int) []impl.Event {
	events := eventsOf(createAsk(1), writeAsk(1, 0, "stays"))
	for i := range count {
		events = append(events, eventOf(writeAsk(1, 3, fmt.Sprint("text ", i))))
	}
	return events
}

// A wipe that is torn leaves a block of torn leaves, which is wiped then.
func TestLivesThatAreCutInTheirCleaning(t *testing.T) {
	count := map[string]int{}
	for size := range 12 {
		ahead := busyLife(size)
		before := wantLifeByRule(t, "busy", 4, ahead...)
		q := writeAsk(1, 5, "new")
		steps := serveByRule(before.Device, q).steps
		for whole, s := range steps {
			w := wantEvent(t, "cleaned", 4, ahead, tornEvent(q, whole), impl.CodeCut, "", whole)
			if s.Kind == impl.StepWipe {
				count["a wipe is torn"]++
				if !slices.Equal(w.Device.Flash.Blocks[s.Block].Leaves, tornBlock(0).Leaves) {
					t.Errorf("the wipe of block %d leaves %#v", s.Block, w.Device.Flash)
				}
			}
			if s.Kind != impl.StepWipe && slices.ContainsFunc(steps[:whole], func(s impl.Step) bool { return s.Kind == impl.StepWipe }) {
				count["what is written behind a wipe"]++
			}
			if whole < len(steps)-1 && !sameShelves(w.Model, before.Model) {
				t.Errorf("behind %d of %d steps the model is %#v", whole, len(steps), w.Model)
			}
			again := append(slices.Clone(ahead), tornEvent(q, whole))
			wantEvent(t, "asked again", 4, append(again, eventOf(q)), eventOf(readAsk(1, 5)), 0, "new", 0)
		}
	}
	for what, least := range map[string]int{"a wipe is torn": 3, "what is written behind a wipe": 3} {
		if count[what] < least {
			t.Errorf("cleanings came up %v", count)
		}
	}
}

// drawnEvent has a right ask; about one of four is cut.
func drawnEvent(draws string) impl.Event {
	e := eventOf(drawnServed(draws))
	if !askRightByRule(e.Ask) {
		e.Ask = createAsk(e.Ask.Vol)
	}
	e.Cut, e.Whole, e.Torn = draws[7] < 64, int(draws[8])%4, draws[9]%2 == 0
	return e
}

func drawnEvents(draws string, count int) []impl.Event {
	var out []impl.Event
	for i := range count {
		out = append(out, drawnEvent(draws[10*i:]))
	}
	return out
}

func TestDrawnLivesByRule(t *testing.T) {
	count := map[string]int{}
	draws := mixedText(60000)
	for i := 0; len(draws) >= 410; i, draws = i+1, draws[397:] {
		events := drawnEvents(draws, min(20+i, 40))
		for at := range events {
			// Lives without torn steps are held against all their steps.
			events[at].Torn = events[at].Torn && i%2 == 0
		}
		w := wantLifeByRule(t, "drawn", 3+i%8, events...)
		for at, code := range w.Codes {
			count[fmt.Sprint("code ", code)]++
			if events[at].Cut && code != impl.CodeCut {
				count["a cut of nothing"]++
			}
		}
	}
	for what, least := range map[string]int{"code 0": 500, "code 1": 300, "code 2": 200, "code 4": 100, "code 6": 200, "a cut of nothing": 200} {
		if count[what] < least {
			t.Errorf("drawn lives came up %v", count)
		}
	}
}

// modelOfVols has plain volumes by their numbers.
func modelOfVols(vols map[int]map[int]string) []impl.Shelf {
	var out []impl.Shelf
	for _, vol := range slices.Sorted(maps.Keys(vols)) {
		out = append(out, shelfWith(vol, vols[vol]))
	}
	return out
}

func copiedVols(vols map[int]map[int]string) map[int]map[int]string {
	out := map[int]map[int]string{}
	for vol, texts := range vols {
		out[vol] = maps.Clone(texts)
	}
	return out
}

// wantPlainEvent holds what a world tells of its last event against plain volumes,
// which know nothing of flash, and has the event done in them.
func (l *servedLife) wantPlainEvent(w impl.World, e impl.Event) {
	l.t.Helper()
	last := len(w.Codes) - 1
	before, code, told := copiedVols(l.vols), l.plainCode(e.Ask), ""
	if code == 0 {
		l.ask(e.Ask)
		if e.Ask.Kind == impl.AskRead {
			told = l.vols[e.Ask.Vol][e.Ask.Sector]
		}
	}
	changes := code == 0 && e.Ask.Kind != impl.AskRead
	switch {
	case changes && e.Cut && w.Codes[last] == impl.CodeCut:
		// It is there in whole, or not at all.
		if !sameShelves(w.Model, modelOfVols(l.vols)) {
			l.vols = before
		}
		l.count["cut"]++
	case changes && w.Codes[last] == impl.CodeFull:
		l.vols = before
		l.count["no room"]++
	case w.Codes[last] != code:
		l.t.Fatalf("%#v has code %d, not %d", e, w.Codes[last], code)
	}
	if w.Told[last] != told || !sameShelves(w.Model, modelOfVols(l.vols)) {
		l.t.Fatalf("behind %#v %q is told, not %q, and the model is %#v, not %#v", e, w.Told[last], told, w.Model, l.vols)
	}
	l.count[fmt.Sprint("code ", w.Codes[last])]++
}

// Each life is run again up to each of its events.
func TestLivesOfPlainVolumes(t *testing.T) {
	count := map[string]int{}
	draws := mixedText(20000)
	for i := 0; len(draws) >= 410; i, draws = i+1, draws[397:] {
		blocks := 3 + i%8
		events := drawnEvents(draws, 40)
		start, _ := impl.FlashNew(blocks)
		l := newServedLife(t, start, count)
		for size := 1; size <= len(events); size++ {
			w, ok := impl.RunLife(blocks, events[:size])
			if !ok || len(w.Codes) != size {
				t.Fatalf("RunLife of %d, %#v is %#v, %v", blocks, events[:size], w, ok)
			}
			l.wantPlainEvent(w, events[size-1])
			wantTrue(t, "plain volumes", blocks, events[:size], w)
			wantFound(t, "plain volumes", w.Device)
		}
	}
	for what, least := range map[string]int{"code 0": 200, "code 1": 50, "code 2": 50, "code 4": 20, "cut": 60, "no room": 20} {
		if count[what] < least {
			t.Errorf("short lives: %v", count)
		}
	}
}

// A life is told by its events alone, one behind the other.
func TestLivesGoOn(t *testing.T) {
	draws := mixedText(3000)
	for i := range 6 {
		events := drawnEvents(draws[100*i:], 40)
		w, _ := impl.RunLife(4+i, events)
		for size := range 41 {
			part, ok := impl.RunLife(4+i, events[:size])
			if !ok || !slices.Equal(part.Codes, w.Codes[:size]) || !slices.Equal(part.Told, w.Told[:size]) || !slices.Equal(part.Steps, w.Steps[:len(part.Steps)]) {
				t.Errorf("the first %d events are told as %#v, all as %#v", size, part, w)
			}
		}
	}
}

// Nothing is kept from one life to another, also when several are run at once.
func TestLivesAtOnce(t *testing.T) {
	draws := mixedText(3000)
	livesOf := func(i int) (int, []impl.Event) { return 3 + i%5, drawnEvents(draws[50*(i%5):], 12+i%5) }
	got := make([]impl.World, 40)
	var all sync.WaitGroup
	for i := range got {
		all.Go(func() { got[i], _ = impl.RunLife(livesOf(i)) })
	}
	all.Wait()
	for i, w := range got {
		if want, _ := lifeByRule(livesOf(i)); !sameWorld(w, want) {
			t.Errorf("life %d is %#v, not %#v", i, w, want)
		}
	}
}

func TestLivesAreAskedTwice(t *testing.T) {
	for range 3 {
		wantEvent(t, "a life", 8, someLife(), eventOf(readAsk(1, 3)), 0, "three", 0)
		wantEvent(t, "another life", 8, eventsOf(createAsk(1)), eventOf(readAsk(1, 3)), 0, "", 0)
		refusesToRun(t, "refused", 8, append(someLife(), impl.Event{})...)
		wantLife(t, "no event", 8, nil, impl.World{Device: newDevice(t, 8)}, true)
		wantModel(t, "a model", someShelves(), dropAsk(4), []impl.Shelf{someShelves()[0], someShelves()[2]})
		wantModel(t, "no model", nil, createAsk(4), []impl.Shelf{shelfWith(4, nil)})
		wantModelOfDevice(t, "a device", withVolumes(t, 4), shelfWith(4, nil))
		wantModelOfDevice(t, "no device", impl.Device{})
	}
}
