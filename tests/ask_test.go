package tests

import (
	"fmt"
	"maps"
	"math"
	"slices"
	"strings"
	"testing"

	"loop.example/g00195/impl"
)

// Promise 15: a plan that is refused has no records.

func writeAsk(vol, sector int, text string) impl.Ask {
	return impl.Ask{Kind: impl.AskWrite, Vol: vol, Sector: sector, Text: text}
}

func trimAsk(vol, sector int) impl.Ask {
	return impl.Ask{Kind: impl.AskTrim, Vol: vol, Sector: sector}
}

func createAsk(vol int) impl.Ask { return impl.Ask{Kind: impl.AskCreate, Vol: vol} }

func cloneAsk(vol, of int) impl.Ask { return impl.Ask{Kind: impl.AskClone, Vol: vol, Of: of} }

func dropAsk(vol int) impl.Ask { return impl.Ask{Kind: impl.AskDrop, Vol: vol} }

func readAsk(vol, sector int) impl.Ask {
	return impl.Ask{Kind: impl.AskRead, Vol: vol, Sector: sector}
}

// askLimits are what an ask of a kind may have, Text by its size.
type askLimits struct{ vol, sector, of, text [2]int }

func askLimitsByRule(kind int) (askLimits, bool) {
	limits := askLimits{vol: [2]int{1, 9}}
	if kind == 1 || kind == 2 || kind == 6 {
		limits.sector = [2]int{0, 15}
	}
	if kind == 4 {
		limits.of = [2]int{1, 9}
	}
	if kind == 1 {
		limits.text = [2]int{0, 64}
	}
	return limits, kind >= 1 && kind <= 6
}

func askRightByRule(q impl.Ask) bool {
	limits, ok := askLimitsByRule(q.Kind)
	return ok && isIn(q.Vol, limits.vol) && isIn(q.Sector, limits.sector) && isIn(q.Of, limits.of) && isIn(len(q.Text), limits.text)
}

// A plan is what PlanOf answers.
type plan struct {
	recs []impl.Rec
	text string
	code int
}

func (p plan) same(other plan) bool {
	return slices.Equal(p.recs, other.recs) && p.text == other.text && p.code == other.code
}

func planned(recs ...impl.Rec) plan { return plan{recs: recs} }

func refused(code int) plan { return plan{code: code} }

// codeByRule is chapter 15's rule of the codes.
func codeByRule(d impl.Device, q impl.Ask) int {
	isThere := volPlace(d.Store, q.Vol) >= 0
	isNew := q.Kind == 3 || q.Kind == 4
	switch {
	case !askRightByRule(q):
		return 3
	case isNew && isThere:
		return 2
	case q.Kind == 4 && volPlace(d.Store, q.Of) < 0:
		return 1
	case isNew && len(d.Store.Vols) >= 3:
		return 4
	case !isNew && !isThere:
		return 1
	}
	return 0
}

func planByRule(d impl.Device, q impl.Ask) plan {
	if code := codeByRule(d, q); code != 0 {
		return refused(code)
	}
	switch q.Kind {
	case 1:
		live := chunksByRule(d.Store)
		slices.Sort(live)
		if chunk := findByRule(d.Flash, live, q.Text); chunk != 0 {
			return planned(putRec(q.Vol, q.Sector, chunk))
		}
		return plan{recs: []impl.Rec{putRec(q.Vol, q.Sector, d.Store.Next)}, text: packByRule(q.Text)}
	case 2:
		return planned(trimRec(q.Vol, q.Sector))
	case 3:
		return planned(volRec(q.Vol, 0))
	case 4:
		return planned(volRec(q.Vol, q.Of))
	case 5:
		return planned(dropRec(q.Vol))
	}
	return planned()
}

func readOfByRule(d impl.Device, vol, sector int) (string, bool) {
	at := volPlace(d.Store, vol)
	if at < 0 {
		return "", false
	}
	chunk := getByRule(d.Store.Arena, d.Store.Vols[at].Root, sector)
	if chunk == 0 {
		return "", true
	}
	return chunkTextByRule(d.Flash, chunk)
}

func wantAskOk(t *testing.T, why string, q impl.Ask, want bool) {
	t.Helper()
	if got := impl.AskOk(q); got != want {
		t.Errorf("%s: AskOk of %#v is %v", why, q, got)
	}
	if askRightByRule(q) != want {
		t.Errorf("%s: by rule %#v is not %v", why, q, want)
	}
}

// keepsDevice hands a device like d to a call and asks that it, and the room
// behind its lists, is as it was, and that the text that is answered is new.
func keepsDevice(t *testing.T, what string, d impl.Device, call func(impl.Device) string) {
	t.Helper()
	given, like := twinDevice(d), twinDevice(d)
	text := call(given)
	if !sameDevice(deviceWithSpare(given), deviceWithSpare(like)) {
		t.Errorf("%s has written into the device: %#v, was %#v", what, deviceWithSpare(given), deviceWithSpare(like))
	}
	for _, leaf := range leavesOf(given.Flash) {
		if sharesMemory(text, leaf.Text) {
			t.Errorf("%s answers %q, which is memory of the device", what, text)
		}
	}
}

// wantPlan asks twice, and spoils what was answered first in between.
func wantPlan(t *testing.T, why string, d impl.Device, q impl.Ask, want plan) {
	t.Helper()
	given := strings.Clone(q.Text)
	q.Text = given
	keepsDevice(t, why+": PlanOf", d, func(d impl.Device) string {
		var first plan
		first.recs, first.text, first.code = impl.PlanOf(d, q)
		if !first.same(want) {
			t.Errorf("%s: PlanOf of %#v on %#v\nis  %v\nnot %v", why, q, d, first, want)
		}
		all := first.recs[:cap(first.recs)]
		for i := range all {
			all[i] = putRec(-7, -7, -7)
		}
		var again plan
		again.recs, again.text, again.code = impl.PlanOf(d, q)
		if !again.same(want) || sharesList(first.recs, again.recs) {
			t.Errorf("%s: PlanOf of %#v, again,\nis  %v\nnot %v", why, q, again, want)
		}
		if sharesMemory(again.text, given) {
			t.Errorf("%s: PlanOf answers the text that was handed in", why)
		}
		return again.text
	})
}

func refusesToPlan(t *testing.T, why string, d impl.Device, q impl.Ask, code int) {
	t.Helper()
	wantPlan(t, why, d, q, refused(code))
}

func wantPlanByRule(t *testing.T, why string, d impl.Device, q impl.Ask) {
	t.Helper()
	wantPlan(t, why, d, q, planByRule(d, q))
}

func wantReadOf(t *testing.T, why string, d impl.Device, vol, sector int, want string, wantOk bool) {
	t.Helper()
	keepsDevice(t, why+": ReadOf", d, func(d impl.Device) string {
		got, ok := impl.ReadOf(d, vol, sector)
		if got != want || ok != wantOk {
			t.Errorf("%s: ReadOf(%d, %d) on %#v is %q, %v, not %q, %v", why, vol, sector, d, got, ok, want, wantOk)
		}
		return got
	})
}

func wantReadOfByRule(t *testing.T, why string, d impl.Device, vol, sector int) {
	t.Helper()
	want, ok := readOfByRule(d, vol, sector)
	wantReadOf(t, why, d, vol, sector, want, ok)
}

func cameUp(t *testing.T, leaves ...[]impl.Leaf) impl.Device {
	t.Helper()
	d, ok := impl.MountAll(laidOut(leaves...))
	if !ok {
		t.Fatal("MountAll is false")
	}
	return d
}

// withVolumes came up with these volumes, without anything in them.
func withVolumes(t *testing.T, ids ...int) impl.Device {
	t.Helper()
	var recs []impl.Rec
	for _, id := range ids {
		recs = append(recs, volRec(id, 0))
	}
	return cameUp(t, txLeaves(1, 1, recs...))
}

// kept came up with the volumes 2 and 5. Chunk 6 can't be unpacked and 7 has no
// page; 9 is in no sector any more, and 20 was never in one, as the power went
// ahead of its transaction. Next is 20.
func kept(t *testing.T) impl.Device {
	t.Helper()
	recs := []impl.Rec{volRec(2, 0), putRec(2, 0, 3), putRec(2, 15, 4), putRec(2, 5, 6), putRec(2, 6, 7), putRec(2, 7, 9), trimRec(2, 7),
		volRec(5, 2), trimRec(5, 0), putRec(5, 1, 19)}
	chunks := []impl.Leaf{chunkLeaf(10, 3, "three"), chunkLeaf(11, 4, ""), packedLeaf(12, 6, "no packed text"), chunkLeaf(13, 19, unlike(64)),
		chunkLeaf(14, 9, "gone"), chunkLeaf(15, 20, "cut")}
	d := cameUp(t, txLeaves(1, 1, recs...), chunks)
	if d.Store.Next != 20 || !slices.Equal(impl.LiveOf(d.Store), []int{3, 4, 6, 7, 19}) || !impl.DeviceOk(d) {
		t.Fatalf("%#v came up", d)
	}
	return d
}

func TestNamesOfAsksAndCodes(t *testing.T) {
	asks := []int{impl.AskWrite, impl.AskTrim, impl.AskCreate, impl.AskClone, impl.AskDrop, impl.AskRead}
	codes := []int{impl.CodeNone, impl.CodeTaken, impl.CodeWrong, impl.CodeFull, impl.CodeDown, impl.CodeCut}
	if want := []int{1, 2, 3, 4, 5, 6}; !slices.Equal(asks, want) || !slices.Equal(codes, want) {
		t.Errorf("asks are %v, codes %v", asks, codes)
	}
	fields := struct {
		Kind, Vol, Sector, Of int
		Text                  string
	}{1, 2, 3, 4, "x"}
	if got := impl.Ask(fields); got != (impl.Ask{Kind: 1, Vol: 2, Sector: 3, Of: 4, Text: "x"}) {
		t.Errorf("an ask is %#v", got)
	}
}

func sizesBeside(limits [2]int) []int {
	return []int{0, 1, max(limits[1]-1, 0), limits[1], limits[1] + 1, limits[1] + 256, 20001}
}

// Of an ask that is right but for one field this field alone decides.
func TestEachFieldOfEachAskAtItsLimits(t *testing.T) {
	for kind := impl.AskWrite; kind <= impl.AskRead; kind++ {
		limits, _ := askLimitsByRule(kind)
		for side := range 2 {
			right := impl.Ask{Kind: kind, Vol: limits.vol[side], Sector: limits.sector[side], Of: limits.of[side], Text: strings.Repeat("x", limits.text[side])}
			wantAskOk(t, "at its limits", right, true)
			for _, n := range besideLimits(limits.vol) {
				q := right
				q.Vol = n
				wantAskOk(t, "Vol", q, isIn(n, limits.vol))
			}
			for _, n := range besideLimits(limits.sector) {
				q := right
				q.Sector = n
				wantAskOk(t, "Sector", q, isIn(n, limits.sector))
			}
			for _, n := range besideLimits(limits.of) {
				q := right
				q.Of = n
				wantAskOk(t, "Of", q, isIn(n, limits.of))
			}
			for _, n := range sizesBeside(limits.text) {
				q := right
				q.Text = strings.Repeat("x", n)
				wantAskOk(t, "Text", q, isIn(n, limits.text))
			}
		}
	}
}

func TestAsksThatAreRight(t *testing.T) {
	for vol := 1; vol <= 9; vol++ {
		for sector := range 16 {
			for _, q := range []impl.Ask{writeAsk(vol, sector, ""), writeAsk(vol, sector, "a text"), trimAsk(vol, sector), readAsk(vol, sector)} {
				wantAskOk(t, "of a sector", q, true)
			}
		}
		for of := 1; of <= 9; of++ {
			// Whether they are there, and are two, is no matter of the ask's.
			wantAskOk(t, "clone", cloneAsk(vol, of), true)
		}
		wantAskOk(t, "create", createAsk(vol), true)
		wantAskOk(t, "drop", dropAsk(vol), true)
	}
	for _, text := range drawnTexts() {
		wantAskOk(t, "any bytes", writeAsk(1, 0, text), true)
		wantAskOk(t, "too long", writeAsk(1, 0, text+strings.Repeat("\x00", 65-len(text))), false)
	}
}

// Sizes are those of bytes, whatever these are.
func TestTextsOfAsksAreCountedInBytes(t *testing.T) {
	for _, unit := range []string{"x", "\x00", "\n", "\xff", "é", "\u20ac", "\U0001F600"} {
		for count := range 70 {
			text := strings.Repeat(unit, count)
			wantAskOk(t, "write", writeAsk(3, 4, text), len(text) <= 64)
			for kind := impl.AskTrim; kind <= impl.AskRead; kind++ {
				limits, _ := askLimitsByRule(kind)
				wantAskOk(t, "no text", impl.Ask{Kind: kind, Vol: 3, Of: limits.of[0], Text: text}, text == "")
			}
		}
	}
}

func kindsThatAreNone() []int {
	out := []int{math.MinInt, -257, -6, -1, 0, 7, 8, 10, 16, 255, 256, 257, 262, 1 << 16, 1<<32 + 1, 1<<32 + 6, math.MaxInt}
	for kind := 1; kind <= 6; kind++ {
		out = append(out, -kind, kind+256, kind+1<<16, kind-1<<32, kind+math.MinInt)
	}
	return out
}

func TestKindsOfAsksThatAreNone(t *testing.T) {
	for _, kind := range kindsThatAreNone() {
		for _, q := range []impl.Ask{{}, writeAsk(1, 3, "x"), writeAsk(2, 0, ""), trimAsk(9, 15), createAsk(1), cloneAsk(2, 3), dropAsk(4), readAsk(5, 6)} {
			q.Kind = kind
			wantAskOk(t, "no kind", q, false)
			refusesToPlan(t, "no kind", kept(t), q, impl.CodeWrong)
		}
	}
	wantAskOk(t, "the zero value", impl.Ask{}, false)
}

// manyAsks are asks of each kind and of some that are none, all fields against
// each other.
func manyAsks() []impl.Ask {
	var out []impl.Ask
	for kind := -1; kind <= 8; kind++ {
		for _, vol := range []int{-1, 0, 1, 2, 3, 5, 9, 10} {
			for _, sector := range []int{-1, 0, 1, 5, 15, 16} {
				for _, of := range []int{-1, 0, 1, 2, 5, 9, 10} {
					for _, text := range []string{"", "three", "new", unlike(64), unlike(65)} {
						out = append(out, impl.Ask{Kind: kind, Vol: vol, Sector: sector, Of: of, Text: text})
					}
				}
			}
		}
	}
	return out
}

func TestAllFieldsOfAsksAgainstEachOther(t *testing.T) {
	right := 0
	for _, q := range manyAsks() {
		want := askRightByRule(q)
		wantAskOk(t, "all fields", q, want)
		if want {
			right++
		}
	}
	// 5 volumes are right, and 4 sectors, 4 texts and 4 Ofs where there may be one.
	if want := 5 * (4*4 + 4 + 1 + 4 + 1 + 4); right != want {
		t.Errorf("%d asks are right, not %d", right, want)
	}
}

func TestPlansOfEachKind(t *testing.T) {
	d := kept(t)
	for _, c := range []struct {
		ask  impl.Ask
		want plan
	}{
		{writeAsk(2, 1, "three"), planned(putRec(2, 1, 3))},
		{writeAsk(5, 0, "three"), planned(putRec(5, 0, 3))},
		{writeAsk(2, 1, "new"), plan{recs: []impl.Rec{putRec(2, 1, 20)}, text: "rnew"}},
		{writeAsk(5, 15, "abababababab"), plan{recs: []impl.Rec{putRec(5, 15, 20)}, text: "z\x02ab\x8a\x02"}},
		{trimAsk(2, 0), planned(trimRec(2, 0))},
		{trimAsk(5, 15), planned(trimRec(5, 15))},
		{createAsk(1), planned(volRec(1, 0))},
		{createAsk(9), planned(volRec(9, 0))},
		{cloneAsk(1, 2), planned(volRec(1, 2))},
		{cloneAsk(9, 5), planned(volRec(9, 5))},
		{dropAsk(2), planned(dropRec(2))},
		{dropAsk(5), planned(dropRec(5))},
		{readAsk(2, 0), planned()},
		{readAsk(5, 15), planned()},
	} {
		wantPlan(t, "each kind", d, c.ask, c.want)
		wantPlanByRule(t, "each kind, by rule", d, c.ask)
	}
}

// A write, a trim and a read of any sector, and any pair of a new volume and one
// that is there.
func TestPlansHaveTheirNumbers(t *testing.T) {
	for id := 1; id <= 9; id++ {
		d := withVolumes(t, id)
		for sector := range 16 {
			wantPlan(t, "write", d, writeAsk(id, sector, "x"), plan{recs: []impl.Rec{putRec(id, sector, 1)}, text: "rx"})
			wantPlan(t, "trim", d, trimAsk(id, sector), planned(trimRec(id, sector)))
			wantPlan(t, "read", d, readAsk(id, sector), planned())
		}
		wantPlan(t, "drop", d, dropAsk(id), planned(dropRec(id)))
		for other := 1; other <= 9; other++ {
			if other != id {
				wantPlan(t, "create", d, createAsk(other), planned(volRec(other, 0)))
				wantPlan(t, "clone", d, cloneAsk(other, id), planned(volRec(other, id)))
			}
		}
	}
}

func TestWrongAsksArePlannedNowhere(t *testing.T) {
	one, full := kept(t), withVolumes(t, 1, 2, 5)
	for _, q := range manyAsks() {
		if askRightByRule(q) {
			continue
		}
		for _, d := range []impl.Device{one, full} {
			recs, text, code := impl.PlanOf(d, q)
			if len(recs) != 0 || text != "" || code != impl.CodeWrong {
				t.Errorf("PlanOf of %#v is %v, %q, %d", q, recs, text, code)
			}
		}
	}
	for _, c := range []struct {
		why string
		ask impl.Ask
	}{
		{"there already", impl.Ask{Kind: impl.AskCreate, Vol: 1, Sector: 1}},
		{"there already, of", impl.Ask{Kind: impl.AskCreate, Vol: 1, Of: 2}},
		{"full", impl.Ask{Kind: impl.AskCreate, Vol: 3, Text: "x"}},
		{"there already, as a copy", impl.Ask{Kind: impl.AskClone, Vol: 1, Of: 2, Sector: 15}},
		{"a copy of none", impl.Ask{Kind: impl.AskClone, Vol: 3, Of: 4, Text: "x"}},
		{"a copy of 0", cloneAsk(3, 0)},
		{"a copy of 10, there already", cloneAsk(1, 10)},
		{"not there", writeAsk(3, 16, "x")},
		{"not there, a long text", writeAsk(3, 0, unlike(65))},
		{"not there, a trim", impl.Ask{Kind: impl.AskTrim, Vol: 3, Text: "x"}},
		{"not there, a drop", impl.Ask{Kind: impl.AskDrop, Vol: 3, Sector: 1}},
		{"not there, a read", readAsk(3, -1)},
		{"volume 0", dropAsk(0)},
		{"volume 10", readAsk(10, 0)},
	} {
		refusesToPlan(t, c.why, full, c.ask, impl.CodeWrong)
		refusesToPlan(t, c.why+", on no device", impl.Device{}, c.ask, impl.CodeWrong)
	}
}

// Volumes 0 and 10 stay wrong, though a store that is not right has them.
func TestWrongAsksOfVolumesThatAreThere(t *testing.T) {
	for _, id := range []int{math.MinInt, -1, 0, 10, math.MaxInt} {
		d := withVolumes(t, 5)
		d.Store = storeOf(1, impl.Arena{}, volOf(id, -1), volOf(5, -1))
		for _, q := range []impl.Ask{writeAsk(id, 0, "x"), trimAsk(id, 0), createAsk(id), cloneAsk(id, 5), cloneAsk(6, id), dropAsk(id), readAsk(id, 0)} {
			refusesToPlan(t, "of no volume's number", d, q, impl.CodeWrong)
		}
		wantReadOf(t, "of no volume's number", d, id, 0, "", true)
	}
}

// volumeSets are all sets of at most three volumes.
func volumeSets() [][]int {
	out := [][]int{nil}
	for a := 1; a <= 9; a++ {
		out = append(out, []int{a})
		for b := a + 1; b <= 9; b++ {
			out = append(out, []int{a, b})
			for c := b + 1; c <= 9; c++ {
				out = append(out, []int{a, b, c})
			}
		}
	}
	return out
}

func TestCodesOfAllVolumesThatMayBeThere(t *testing.T) {
	count := map[int]int{}
	for _, ids := range volumeSets() {
		d := withVolumes(t, ids...)
		for vol := 1; vol <= 9; vol++ {
			isThere, isFull := slices.Contains(ids, vol), len(ids) == 3
			old := 0
			if !isThere {
				old = impl.CodeNone
			}
			for _, q := range []impl.Ask{writeAsk(vol, 2, "x"), trimAsk(vol, 2), dropAsk(vol), readAsk(vol, 2)} {
				wantCode(t, d, q, old)
			}
			made := 0
			if isThere {
				made = impl.CodeTaken
			} else if isFull {
				made = impl.CodeFull
			}
			wantCode(t, d, createAsk(vol), made)
			for of := 1; of <= 9; of++ {
				copied := made
				if !isThere && !slices.Contains(ids, of) {
					copied = impl.CodeNone
				}
				wantCode(t, d, cloneAsk(vol, of), copied)
				count[copied]++
			}
		}
	}
	if count[0] == 0 || count[impl.CodeTaken] == 0 || count[impl.CodeNone] == 0 || count[impl.CodeFull] == 0 {
		t.Errorf("codes came up %v times", count)
	}
}

// wantCode asks for a code, for nothing beside it when it is above 0, and for a
// plan that the store takes when it is 0.
func wantCode(t *testing.T, d impl.Device, q impl.Ask, want int) {
	t.Helper()
	recs, text, code := impl.PlanOf(d, q)
	if code != want {
		t.Errorf("PlanOf of %#v on volumes %v has code %d, not %d", q, d.Store.Vols, code, want)
	}
	if code != 0 && (len(recs) != 0 || text != "") {
		t.Errorf("PlanOf of %#v on volumes %v is refused with %v, %q", q, d.Store.Vols, recs, text)
	}
	if _, ok := impl.EnterAll(d.Store, recs); !ok {
		t.Errorf("PlanOf of %#v on volumes %v is %v, which can't be entered", q, d.Store.Vols, recs)
	}
}

// Where several codes are true, the one that the document names first counts.
func TestCodesThatAreTrueAtOnce(t *testing.T) {
	two, full := withVolumes(t, 1, 5), withVolumes(t, 1, 5, 9)
	for _, c := range []struct {
		why    string
		device impl.Device
		ask    impl.Ask
		code   int
	}{
		{"taken", two, createAsk(5), impl.CodeTaken},
		{"taken and full", full, createAsk(5), impl.CodeTaken},
		{"full", full, createAsk(2), impl.CodeFull},
		{"taken, by a copy", two, cloneAsk(1, 5), impl.CodeTaken},
		{"taken, by a copy of itself", two, cloneAsk(1, 1), impl.CodeTaken},
		{"taken, and Of is none", two, cloneAsk(1, 2), impl.CodeTaken},
		{"taken, Of is none, and full", full, cloneAsk(1, 2), impl.CodeTaken},
		{"taken and full, by a copy", full, cloneAsk(9, 5), impl.CodeTaken},
		{"taken and full, by a copy of itself", full, cloneAsk(9, 9), impl.CodeTaken},
		{"Of is none", two, cloneAsk(2, 3), impl.CodeNone},
		{"Of is none, and itself", two, cloneAsk(2, 2), impl.CodeNone},
		{"Of is none, and full", full, cloneAsk(2, 3), impl.CodeNone},
		{"Of is none and itself, and full", full, cloneAsk(2, 2), impl.CodeNone},
		{"full, by a copy", full, cloneAsk(2, 5), impl.CodeFull},
		{"none is full for what is there", full, writeAsk(5, 0, "x"), 0},
		{"none is full for a drop", full, dropAsk(5), 0},
		{"none is full for what is not there", full, writeAsk(2, 0, "x"), impl.CodeNone},
	} {
		wantCode(t, c.device, c.ask, c.code)
		wantPlanByRule(t, c.why, c.device, c.ask)
	}
	// A volume that is dropped makes room, and is there no more.
	s, _ := impl.Enter(full.Store, dropRec(5))
	full.Store = s
	wantPlan(t, "dropped", full, createAsk(5), planned(volRec(5, 0)))
	wantPlan(t, "dropped", full, cloneAsk(2, 9), planned(volRec(2, 9)))
	refusesToPlan(t, "dropped", full, dropAsk(5), impl.CodeNone)
	refusesToPlan(t, "dropped", full, cloneAsk(2, 5), impl.CodeNone)
}

// A store that is not right may have more volumes than there may be: it is full,
// too.
func TestMoreVolumesThanThereMayBe(t *testing.T) {
	for count := range 9 {
		d := withVolumes(t)
		for id := 1; id <= count; id++ {
			d.Store.Vols = append(d.Store.Vols, volOf(id, -1))
		}
		code := 0
		if count >= 3 {
			code = impl.CodeFull
		}
		for _, q := range []impl.Ask{createAsk(9), cloneAsk(9, 1)} {
			if q.Of == 1 && count == 0 {
				continue
			}
			if _, _, got := impl.PlanOf(d, q); got != code {
				t.Errorf("%d volumes: PlanOf of %#v has code %d, not %d", count, q, got, code)
			}
			wantPlanByRule(t, "many volumes", d, q)
		}
	}
}

func TestWritesOfTextsThatAreThere(t *testing.T) {
	d := kept(t)
	for vol := 2; vol <= 5; vol += 3 {
		for sector := range 16 {
			for text, chunk := range map[string]int{"three": 3, "": 4, unlike(64): 19} {
				wantPlan(t, "there", d, writeAsk(vol, sector, text), planned(putRec(vol, sector, chunk)))
			}
		}
	}
}

// What no sector has, what can't be unpacked, and what is another text is not
// there: not by a page alone.
func TestWritesOfTextsThatAreNotThere(t *testing.T) {
	d := kept(t)
	for _, text := range []string{"gone", "cut", "no packed text", "thre", "three\x00", "Three", "rthree", "r", "z", unlike(63), "\x00", strings.Repeat("x", 64)} {
		wantPlan(t, "not there", d, writeAsk(5, 7, text), plan{recs: []impl.Rec{putRec(5, 7, 20)}, text: packByRule(text)})
	}
	for _, text := range drawnTexts() {
		wantPlanByRule(t, "drawn", d, writeAsk(2, 3, text))
		packed, _ := impl.PackText(text)
		wantPlan(t, "drawn, on an empty volume", withVolumes(t, 2), writeAsk(2, 3, text), plan{recs: []impl.Rec{putRec(2, 3, 1)}, text: packed})
	}
}

func TestWritesOfTheEmptyText(t *testing.T) {
	d := withVolumes(t, 4)
	wantPlan(t, "not there", d, writeAsk(4, 0, ""), plan{recs: []impl.Rec{putRec(4, 0, 1)}, text: "r"})
	unread := cameUp(t, txLeaves(1, 1, volRec(4, 0), putRec(4, 0, 3), putRec(4, 1, 4)), []impl.Leaf{packedLeaf(2, 3, "no packed text")})
	wantPlan(t, "chunks without a text", unread, writeAsk(4, 2, ""), plan{recs: []impl.Rec{putRec(4, 2, 5)}, text: "r"})
	there := cameUp(t, txLeaves(1, 1, volRec(4, 0), putRec(4, 0, 3), putRec(4, 1, 4)), []impl.Leaf{chunkLeaf(2, 4, "")})
	wantPlan(t, "there", there, writeAsk(4, 2, ""), planned(putRec(4, 2, 4)))
}

func TestWritesOfTheLongestText(t *testing.T) {
	for _, text := range []string{unlike(64), strings.Repeat("a", 64), strings.Repeat("\xff\x00", 32)} {
		d := withVolumes(t, 1)
		packed := packByRule(text)
		wantPlan(t, "not there", d, writeAsk(1, 15, text), plan{recs: []impl.Rec{putRec(1, 15, 1)}, text: packed})
		refusesToPlan(t, "one byte more", d, writeAsk(1, 15, text+"a"), impl.CodeWrong)
		there := cameUp(t, txLeaves(1, 1, volRec(1, 0), putRec(1, 3, 8)), []impl.Leaf{chunkLeaf(2, 8, text)})
		wantPlan(t, "there", there, writeAsk(1, 15, text), planned(putRec(1, 15, 8)))
	}
}

// Of several chunks with one text the least number counts, wherever their sectors
// and pages are.
func TestWritesOfTextsThatAreThereTwice(t *testing.T) {
	for _, order := range ordersOf([]int{4, 9, 300}) {
		recs := []impl.Rec{volRec(1, 0), volRec(2, 0), putRec(1, 0, order[0]), putRec(2, 9, order[1]), putRec(1, 12, order[2])}
		for _, pages := range ordersOf(order) {
			leaves := []impl.Leaf{chunkLeaf(5, pages[0], "same"), chunkLeaf(6, pages[1], "same"), chunkLeaf(7, pages[2], "same")}
			d := cameUp(t, txLeaves(1, 1, recs...), leaves)
			wantPlan(t, "three times", d, writeAsk(2, 1, "same"), planned(putRec(2, 1, 4)))
			newest := append(leaves, chunkLeaf(8, 4, "moved on"))
			d = cameUp(t, txLeaves(1, 1, recs...), newest)
			wantPlan(t, "two of three", d, writeAsk(2, 1, "same"), planned(putRec(2, 1, 9)))
			wantPlan(t, "the newest", d, writeAsk(2, 1, "moved on"), planned(putRec(2, 1, 4)))
		}
	}
}

func TestWritesOfWhatASectorHasAlready(t *testing.T) {
	d := kept(t)
	wantPlan(t, "the same again", d, writeAsk(2, 0, "three"), planned(putRec(2, 0, 3)))
	wantPlan(t, "another volume's", d, writeAsk(2, 2, unlike(64)), planned(putRec(2, 2, 19)))
	// Trimmed in the one, it is still the other's.
	s, _ := impl.Enter(d.Store, trimRec(2, 15))
	d.Store = s
	wantPlan(t, "another volume's alone", d, writeAsk(2, 15, ""), planned(putRec(2, 15, 4)))
	s, _ = impl.Enter(d.Store, trimRec(5, 15))
	d.Store = s
	wantPlan(t, "no volume's any more", d, writeAsk(2, 15, ""), plan{recs: []impl.Rec{putRec(2, 15, 20)}, text: "r"})
}

func TestNewChunksHaveTheNumberNext(t *testing.T) {
	for _, next := range []int{1, 2, 127, 128, 300, impl.MaxNumber - 1, impl.MaxNumber} {
		d := cameUp(t, txLeaves(1, 1, baseRec(next), volRec(3, 0)))
		wantPlan(t, "Next", d, writeAsk(3, 4, "new"), plan{recs: []impl.Rec{putRec(3, 4, next)}, text: "rnew"})
	}
	// A store whose Next is none is not right; its plan is made of it as it is.
	for _, next := range []int{math.MinInt, -1, 0, impl.MaxNumber + 1, math.MaxInt} {
		d := withVolumes(t, 3)
		d.Store.Next = next
		wantPlan(t, "no Next", d, writeAsk(3, 4, "new"), plan{recs: []impl.Rec{putRec(3, 4, next)}, text: "rnew"})
	}
}

// Trims, drops and reads ask for the volume alone, not for what is in it.
func TestPlansOfSectorsWithoutAChunk(t *testing.T) {
	for _, d := range []impl.Device{kept(t), withVolumes(t, 2, 5)} {
		for _, vol := range []int{2, 5} {
			for sector := range 16 {
				wantPlan(t, "trim", d, trimAsk(vol, sector), planned(trimRec(vol, sector)))
				wantPlan(t, "read", d, readAsk(vol, sector), planned())
			}
			wantPlan(t, "drop", d, dropAsk(vol), planned(dropRec(vol)))
		}
		for _, vol := range []int{1, 3, 4, 6, 9} {
			for sector := range 16 {
				refusesToPlan(t, "write", d, writeAsk(vol, sector, "three"), impl.CodeNone)
				refusesToPlan(t, "trim", d, trimAsk(vol, sector), impl.CodeNone)
				refusesToPlan(t, "read", d, readAsk(vol, sector), impl.CodeNone)
			}
			refusesToPlan(t, "drop", d, dropAsk(vol), impl.CodeNone)
		}
	}
}

func TestReadOfEachSector(t *testing.T) {
	d := kept(t)
	for sector := range 16 {
		two, five := "", ""
		switch sector {
		case 0:
			two = "three"
		case 1:
			five = unlike(64)
		}
		isRead := sector != 5 && sector != 6
		wantReadOf(t, "volume 2", d, 2, sector, two, isRead)
		wantReadOf(t, "volume 5", d, 5, sector, five, isRead)
		wantReadOf(t, "no volume", d, 3, sector, "", false)
	}
}

func TestReadOfVolumesThatAreNotThere(t *testing.T) {
	d := kept(t)
	for _, vol := range []int{math.MinInt, -5, -2, -1, 0, 1, 3, 4, 6, 7, 8, 9, 10, 258, 1<<32 + 2, math.MaxInt} {
		for _, sector := range append(noSectors(), 0, 1, 15) {
			wantReadOf(t, "no volume", d, vol, sector, "", false)
			wantReadOf(t, "no volumes", withVolumes(t), vol, sector, "", false)
			wantReadOf(t, "the zero value", impl.Device{}, vol, sector, "", false)
		}
	}
}

// A sector that is none has no chunk, and the volume is there.
func TestReadOfSectorsThatAreNotThere(t *testing.T) {
	full := cameUp(t, txLeaves(1, 1, baseRecsByRule(fullStore())...))
	for _, sector := range noSectors() {
		wantReadOf(t, "no sector", kept(t), 2, sector, "", true)
		wantReadOf(t, "no sector of a full volume", full, 4, sector, "", true)
		wantReadOf(t, "no sector of an empty volume", withVolumes(t, 4), 4, sector, "", true)
	}
	for sector := range 16 {
		wantReadOf(t, "a chunk without a page", full, 4, sector, "", false)
	}
}

func TestReadOfTexts(t *testing.T) {
	for _, text := range drawnTexts() {
		d := cameUp(t, txLeaves(1, 1, volRec(1, 0), putRec(1, 9, 77)), []impl.Leaf{chunkLeaf(2, 77, text)})
		wantReadOf(t, "drawn", d, 1, 9, text, true)
	}
}

// The newest page counts, and no elder one stands in for it.
func TestReadOfChunksWithSeveralPages(t *testing.T) {
	tx := txLeaves(1, 1, volRec(1, 0), putRec(1, 9, 7))
	for _, order := range ordersOf([]int{2, 3, 128}) {
		var leaves []impl.Leaf
		for _, seq := range order {
			leaves = append(leaves, chunkLeaf(seq, 7, textOfSeq(seq)))
		}
		wantReadOf(t, "newest", cameUp(t, tx, leaves), 1, 9, textOfSeq(128), true)
		for _, packed := range noPacked() {
			d := cameUp(t, tx, leaves, []impl.Leaf{packedLeaf(300, 7, packed)})
			wantReadOf(t, "the newest is none", d, 1, 9, "", false)
			wantPlan(t, "the newest is none", d, writeAsk(1, 9, textOfSeq(128)), plan{recs: []impl.Rec{putRec(1, 9, 8)}, text: packByRule(textOfSeq(128))})
		}
	}
	meta := cameUp(t, tx, []impl.Leaf{metaLeaf(9, 7)})
	wantReadOf(t, "a PageMeta of the same number", meta, 1, 9, "", false)
}

// A copy has what was there, and what is put into one is not in the other.
func TestReadOfCopies(t *testing.T) {
	chunks := []impl.Leaf{chunkLeaf(20, 1, "one"), chunkLeaf(21, 2, "two")}
	d := cameUp(t, txLeaves(1, 1, volRec(1, 0), putRec(1, 0, 1), putRec(1, 1, 1), volRec(2, 1), putRec(1, 0, 2), trimRec(2, 1)), chunks)
	wantReadOf(t, "put", d, 1, 0, "two", true)
	wantReadOf(t, "as it was", d, 2, 0, "one", true)
	wantReadOf(t, "as it was", d, 1, 1, "one", true)
	wantReadOf(t, "trimmed", d, 2, 1, "", true)
}

// askedDevices are right ones and wrong ones: wrong stores on a flash with chunks,
// a right store on wrong flashes, and numbers that are none.
func askedDevices(t *testing.T) []impl.Device {
	t.Helper()
	right := kept(t)
	out := append(mountedDevices(t), right, withVolumes(t, 1, 2, 9), impl.Device{})
	for _, c := range slices.Concat(rightStores(), wrongStores()) {
		leaves := []impl.Leaf{chunkLeaf(3, 7, "three"), chunkLeaf(4, 11, "new"), chunkLeaf(5, 101, ""), chunkLeaf(6, 12, "three")}
		out = append(out, deviceOf(laidOut(leaves), c.store, right.Seq, right.Tx, right.Base))
	}
	for _, c := range wrongFlashes() {
		out = append(out, deviceOf(c.flash, right.Store, right.Seq, right.Tx, right.Base))
	}
	for _, wrong := range wrongBlocks() {
		out = append(out, deviceOf(withBlock(right.Flash, 0, wrong.block), right.Store, right.Seq, right.Tx, right.Base),
			deviceOf(impl.Flash{Blocks: append(slices.Clone(right.Flash.Blocks), wrong.block)}, right.Store, 0, 0, 0))
	}
	for _, n := range []int{math.MinInt, -1, 0, math.MaxInt} {
		out = append(out, deviceOf(right.Flash, right.Store, n, n, n))
	}
	return out
}

func TestPlansOnRightAndWrongDevicesByRule(t *testing.T) {
	var asks []impl.Ask
	for _, vol := range []int{0, 1, 2, 3, 5, 10} {
		for _, text := range []string{"", "three", "new", "gone", unlike(64), unlike(65)} {
			asks = append(asks, writeAsk(vol, 3, text))
		}
		for of := range 6 {
			asks = append(asks, cloneAsk(vol, of))
		}
		asks = append(asks, writeAsk(vol, 16, "x"), trimAsk(vol, 15), createAsk(vol), dropAsk(vol), readAsk(vol, 0), impl.Ask{Vol: vol})
	}
	count := map[int]int{}
	for _, d := range askedDevices(t) {
		for _, q := range asks {
			wantPlanByRule(t, "any device", d, q)
			count[planByRule(d, q).code]++
		}
	}
	for code := range 5 {
		if count[code] < 10 {
			t.Errorf("code %d came up %d times", code, count[code])
		}
	}
}

func TestReadsOnRightAndWrongDevicesByRule(t *testing.T) {
	count := map[bool]int{}
	for _, d := range askedDevices(t) {
		for vol := -1; vol <= 10; vol++ {
			for _, sector := range []int{math.MinInt, -1, 0, 1, 3, 5, 6, 8, 15, 16, math.MaxInt} {
				wantReadOfByRule(t, "any device", d, vol, sector)
				_, ok := readOfByRule(d, vol, sector)
				count[ok]++
			}
		}
	}
	if count[true] < 100 || count[false] < 100 {
		t.Errorf("reads came up %v", count)
	}
}

// A flash that is not right has its pages all the same, and a store that is not
// right its volumes; trees that are not right have nothing.
func TestWhatIsToldByDevicesThatAreNotRight(t *testing.T) {
	d := kept(t)
	d.Seq, d.Tx, d.Base = 0, -1, math.MaxInt
	wantReadOf(t, "other numbers", d, 2, 0, "three", true)
	wantPlan(t, "other numbers", d, writeAsk(2, 1, "three"), planned(putRec(2, 1, 3)))
	d.Flash.Blocks = d.Flash.Blocks[:2]
	if impl.DeviceOk(d) {
		t.Fatal("a flash of two blocks is right")
	}
	wantReadOf(t, "two blocks", d, 2, 0, "three", true)
	wantPlan(t, "two blocks", d, writeAsk(2, 1, "three"), planned(putRec(2, 1, 3)))
	d.Flash = impl.Flash{}
	wantReadOf(t, "no blocks", d, 2, 0, "", false)
	wantReadOf(t, "no blocks, no chunk", d, 2, 1, "", true)
	wantPlan(t, "no blocks", d, writeAsk(2, 1, "three"), plan{recs: []impl.Rec{putRec(2, 1, 20)}, text: "rthree"})
	d = kept(t)
	d.Store.Arena.Knots = append(d.Store.Arena.Knots, impl.Knot{})
	wantReadOf(t, "a wrong knot", d, 2, 0, "", true)
	wantPlan(t, "a wrong knot", d, writeAsk(2, 1, "three"), plan{recs: []impl.Rec{putRec(2, 1, 20)}, text: "rthree"})
	wantPlan(t, "a wrong knot", d, dropAsk(2), planned(dropRec(2)))
	d = kept(t)
	d.Store.Vols = []impl.Vol{volOf(7, math.MaxInt), volOf(3, -9)}
	wantReadOf(t, "a wrong root", d, 7, 0, "", true)
	wantReadOf(t, "gone", d, 2, 0, "", false)
	wantPlan(t, "a wrong root", d, trimAsk(3, 9), planned(trimRec(3, 9)))
	refusesToPlan(t, "a wrong root", d, createAsk(7), impl.CodeTaken)
}

// drawnAsk draws asks of few volumes and texts, so that many of them come again.
func drawnAsk(draws string) impl.Ask {
	vol, sector := 1+int(draws[1])%4, int(draws[2])%5
	texts := []string{"", "a", "abababababab", unlike(64), "text"}
	q := writeAsk(vol, sector, texts[int(draws[3])%5])
	switch kind := int(draws[0]); {
	case kind < 50:
		return createAsk(vol)
	case kind < 70:
		return cloneAsk(vol, 1+sector)
	case kind < 80:
		return dropAsk(vol)
	case kind < 100:
		return trimAsk(vol, sector)
	case kind < 110:
		return readAsk(vol, sector)
	case kind < 115:
		q.Sector = 16
	case kind < 120:
		q.Of = 1
	}
	return q
}

// An askedLife is a device and the texts that its volumes should have; a sector
// that was never written, or trimmed, has none.
type askedLife struct {
	t     *testing.T
	d     impl.Device
	vols  map[int]map[int]string
	count map[string]int
}

// ask is what a plan that is not refused makes of the plain texts.
func (l *askedLife) ask(q impl.Ask) {
	switch q.Kind {
	case impl.AskWrite:
		l.vols[q.Vol][q.Sector] = q.Text
	case impl.AskTrim:
		delete(l.vols[q.Vol], q.Sector)
	case impl.AskCreate:
		l.vols[q.Vol] = map[int]string{}
	case impl.AskClone:
		l.vols[q.Vol] = maps.Clone(l.vols[q.Of])
	case impl.AskDrop:
		delete(l.vols, q.Vol)
	}
}

func (l *askedLife) texts() map[string]int {
	out := map[string]int{}
	for _, texts := range l.vols {
		for _, text := range texts {
			out[text]++
		}
	}
	return out
}

// do plans an ask and brings the plan onto the flash, the chunk's page first.
func (l *askedLife) do(q impl.Ask) {
	l.t.Helper()
	wantPlanByRule(l.t, "life", l.d, q)
	_, isKept := l.texts()[q.Text]
	recs, text, code := impl.PlanOf(l.d, q)
	l.count[fmt.Sprint("code ", code)]++
	if code != 0 {
		return
	}
	if q.Kind == impl.AskWrite && isKept != (text == "") {
		l.t.Fatalf("%#v is planned as %v, %q, and its text is kept: %v", q, recs, text, isKept)
	}
	var pages []impl.Page
	if text != "" {
		l.count["new text"]++
		pages = append(pages, dataPage(l.d.Seq, recs[0].Chunk, text))
	}
	if len(recs) > 0 {
		pages = append(pages, pagesOf(l.t, l.d.Seq+len(pages), l.d.Tx, recs)...)
	}
	f, _ := impl.DoSteps(l.d.Flash, placedSteps(l.t, l.d.Flash, pages))
	l.d, _ = impl.MountAll(f)
	l.ask(q)
}

func (l *askedLife) wantTexts() {
	l.t.Helper()
	for vol := range 11 {
		texts, isThere := l.vols[vol]
		for sector := -1; sector <= 16; sector++ {
			if got, ok := impl.ReadOf(l.d, vol, sector); got != texts[sector] || ok != isThere {
				l.t.Fatalf("ReadOf(%d, %d) is %q, %v, not %q, %v", vol, sector, got, ok, texts[sector], isThere)
			}
		}
	}
	if live := impl.LiveOf(l.d.Store); len(live) != len(l.texts()) {
		l.t.Fatalf("chunks %v are kept for the texts %v", live, l.texts())
	}
}

// What is planned and written is read, what is refused changes nothing, and each
// text is kept once.
func TestDrawnLivesOfAsks(t *testing.T) {
	count := map[string]int{}
	draws := mixedText(40000)
	for len(draws) > 300 {
		d, _ := impl.DeviceNew(impl.MaxBlocks)
		l := &askedLife{t: t, d: d, vols: map[int]map[int]string{}, count: count}
		for impl.RoomOf(l.d.Flash) >= 2 && len(draws) > 300 {
			l.do(drawnAsk(draws))
			l.wantTexts()
			draws = draws[5:]
		}
	}
	for what, least := range map[string]int{"code 0": 1000, "code 1": 100, "code 2": 100, "code 3": 50, "code 4": 50, "new text": 100} {
		if count[what] < least {
			t.Errorf("short lives: %v", count)
		}
	}
}

// A record that a refused ask would have is one that the store refuses as well,
// and one that is planned is taken.
func TestRefusedAsksAreRefusedRecords(t *testing.T) {
	for _, ids := range volumeSets() {
		d := withVolumes(t, ids...)
		for vol := 1; vol <= 9; vol++ {
			pairs := map[impl.Ask]impl.Rec{writeAsk(vol, 3, "x"): putRec(vol, 3, 1), trimAsk(vol, 3): trimRec(vol, 3),
				createAsk(vol): volRec(vol, 0), dropAsk(vol): dropRec(vol)}
			for of := 1; of <= 9; of++ {
				pairs[cloneAsk(vol, of)] = volRec(vol, of)
			}
			for q, rec := range pairs {
				recs, _, code := impl.PlanOf(d, q)
				_, ok := impl.Enter(d.Store, rec)
				if ok != (code == 0) || ok != slices.Equal(recs, []impl.Rec{rec}) || !ok && len(recs) != 0 {
					t.Errorf("PlanOf of %#v on volumes %v is %v with code %d, and Enter of %v is %v", q, ids, recs, code, rec, ok)
				}
			}
		}
	}
}

func TestPlansAreAskedTwice(t *testing.T) {
	d, empty := kept(t), withVolumes(t, 2)
	for range 3 {
		wantPlan(t, "first", d, writeAsk(2, 1, "three"), planned(putRec(2, 1, 3)))
		wantPlan(t, "another device", empty, writeAsk(2, 1, "three"), plan{recs: []impl.Rec{putRec(2, 1, 1)}, text: "rthree"})
		refusesToPlan(t, "refused", d, createAsk(2), impl.CodeTaken)
		wantReadOf(t, "first", d, 2, 0, "three", true)
		wantReadOf(t, "another device", empty, 2, 0, "", true)
	}
}
