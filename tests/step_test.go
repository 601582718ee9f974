package tests

import (
	"fmt"
	"math"
	"slices"
	"strings"
	"testing"

	"loop.example/g00195/impl"
)

// Promise 8: steps that are cut are steps that were done, and at most one that
// is torn.

func programStep(b, leaf int, text string) impl.Step {
	return impl.Step{Kind: impl.StepProgram, Block: b, Leaf: leaf, Text: text}
}

func wipeStep(b int) impl.Step { return impl.Step{Kind: impl.StepWipe, Block: b} }

// doneByRule is chapter 8's rule of one step.
func doneByRule(f impl.Flash, s impl.Step) (impl.Flash, bool) {
	if !flashRightByRule(f) {
		return f, false
	}
	switch s.Kind {
	case 1:
		return programByRule(f, s.Block, s.Leaf, s.Text)
	case 2:
		return wipeByRule(f, s.Block)
	}
	return f, false
}

// tornByRule is chapter 8's rule of one step that is torn.
func tornByRule(f impl.Flash, s impl.Step) (impl.Flash, bool) {
	if _, ok := doneByRule(f, s); !ok {
		return f, false
	}
	if s.Kind == 1 {
		return withLeaf(f, s.Block, s.Leaf, tornLeaf(s.Text[:len(s.Text)/2])), true
	}
	return withBlock(f, s.Block, tornBlock(f.Blocks[s.Block].Wear)), true
}

// stepsByRule has the flash behind each step that is taken, the first of them
// behind none.
func stepsByRule(f impl.Flash, list []impl.Step) []impl.Flash {
	behind := []impl.Flash{f}
	for _, s := range list {
		next, ok := doneByRule(behind[len(behind)-1], s)
		if !ok {
			break
		}
		behind = append(behind, next)
	}
	return behind
}

// cutByRule is chapter 8's rule of steps that are cut.
func cutByRule(f impl.Flash, list []impl.Step, whole int, torn bool) (impl.Flash, bool) {
	behind := stepsByRule(f, list)
	if whole < 0 || whole >= len(behind) {
		return f, false
	}
	if !torn || whole == len(list) {
		return behind[whole], true
	}
	if after, ok := tornByRule(behind[whole], list[whole]); ok {
		return after, true
	}
	return f, false
}

// twinSteps is a list like this one in memory of its own, with room behind it.
func twinSteps(list []impl.Step) []impl.Step {
	out := make([]impl.Step, 0, len(list)+2)
	for _, s := range list {
		s.Text = strings.Clone(s.Text)
		out = append(out, s)
	}
	return append(out, programStep(0, 0, "spare"), wipeStep(1))[:len(list)]
}

// keepsSteps hands a flash and steps like these to a call and asks that both, and
// the room behind their lists, are as they were, and that what is answered is new.
func keepsSteps(t *testing.T, what string, f impl.Flash, list []impl.Step, call func(impl.Flash, []impl.Step) impl.Flash) impl.Flash {
	t.Helper()
	given, like := twinSteps(list), twinSteps(list)
	got := keepsFlash(t, what, f, func(f impl.Flash) impl.Flash { return call(f, given) })
	if !slices.Equal(given[:cap(given)], like[:cap(like)]) {
		t.Errorf("%s has written into the steps: %#v, was %#v", what, given, like)
	}
	for _, s := range given {
		if sharesText([]impl.Leaf{fullLeaf(s.Text)}, leavesOf(got)) {
			t.Errorf("%s answers memory of the text %q", what, s.Text)
		}
	}
	return got
}

func wantFlashOf(t *testing.T, what string, f, got impl.Flash, ok bool, want impl.Flash, wantOk bool) {
	t.Helper()
	if ok != wantOk || !sameFlash(got, want) {
		t.Errorf("%s on %#v\nis  %#v, %v\nnot %#v, %v", what, f, got, ok, want, wantOk)
	}
}

func wantDone(t *testing.T, f impl.Flash, s impl.Step, want impl.Flash, wantOk bool) {
	t.Helper()
	var ok bool
	what := fmt.Sprintf("DoStep of %#v", s)
	got := keepsSteps(t, what, f, []impl.Step{s}, func(f impl.Flash, list []impl.Step) (after impl.Flash) {
		after, ok = impl.DoStep(f, list[0])
		return after
	})
	wantFlashOf(t, what, f, got, ok, want, wantOk)
}

func wantTorn(t *testing.T, f impl.Flash, s impl.Step, want impl.Flash, wantOk bool) {
	t.Helper()
	var ok bool
	what := fmt.Sprintf("Torment of %#v", s)
	got := keepsSteps(t, what, f, []impl.Step{s}, func(f impl.Flash, list []impl.Step) (after impl.Flash) {
		after, ok = impl.Torment(f, list[0])
		return after
	})
	wantFlashOf(t, what, f, got, ok, want, wantOk)
}

func wantSteps(t *testing.T, f impl.Flash, list []impl.Step, want impl.Flash, wantCount int) {
	t.Helper()
	var count int
	what := fmt.Sprintf("DoSteps of %#v", list)
	got := keepsSteps(t, what, f, list, func(f impl.Flash, list []impl.Step) (after impl.Flash) {
		after, count = impl.DoSteps(f, list)
		return after
	})
	if count != wantCount {
		t.Errorf("%s does %d, not %d", what, count, wantCount)
	}
	wantFlashOf(t, what, f, got, true, want, true)
}

func wantCut(t *testing.T, f impl.Flash, list []impl.Step, whole int, torn bool, want impl.Flash, wantOk bool) {
	t.Helper()
	var ok bool
	what := fmt.Sprintf("CutSteps at %d, %v of %#v", whole, torn, list)
	got := keepsSteps(t, what, f, list, func(f impl.Flash, list []impl.Step) (after impl.Flash) {
		after, ok = impl.CutSteps(f, list, whole, torn)
		return after
	})
	wantFlashOf(t, what, f, got, ok, want, wantOk)
}

// refusesStep asks that a step is neither done nor torn, alone or in a list.
func refusesStep(t *testing.T, f impl.Flash, s impl.Step) {
	t.Helper()
	wantDone(t, f, s, f, false)
	wantTorn(t, f, s, f, false)
	list := []impl.Step{s}
	wantSteps(t, f, list, f, 0)
	wantCut(t, f, list, 0, false, f, true)
	wantCut(t, f, list, 0, true, f, false)
	wantCut(t, f, list, 1, false, f, false)
	wantCut(t, f, list, 1, true, f, false)
}

// takesStep asks that a step is done and torn as told, alone and in a list.
func takesStep(t *testing.T, f impl.Flash, s impl.Step, done, torn impl.Flash) {
	t.Helper()
	wantDone(t, f, s, done, true)
	wantTorn(t, f, s, torn, true)
	list := []impl.Step{s}
	wantSteps(t, f, list, done, 1)
	wantCut(t, f, list, 0, false, f, true)
	wantCut(t, f, list, 0, true, torn, true)
	wantCut(t, f, list, 1, false, done, true)
	wantCut(t, f, list, 1, true, done, true)
}

func wantStepByRule(t *testing.T, f impl.Flash, s impl.Step) {
	t.Helper()
	done, ok := doneByRule(f, s)
	if !ok {
		refusesStep(t, f, s)
		return
	}
	torn, _ := tornByRule(f, s)
	takesStep(t, f, s, done, torn)
}

// wantListByRule asks for steps that are done, and for each way to cut them.
func wantListByRule(t *testing.T, f impl.Flash, list []impl.Step) {
	t.Helper()
	behind := stepsByRule(f, list)
	wantSteps(t, f, list, behind[len(behind)-1], len(behind)-1)
	for _, whole := range placesBeside(len(list) + 1) {
		for _, torn := range []bool{false, true} {
			want, ok := cutByRule(f, list, whole, torn)
			wantCut(t, f, list, whole, torn, want, ok)
		}
	}
}

func TestKindsOfSteps(t *testing.T) {
	if impl.StepProgram != 1 || impl.StepWipe != 2 {
		t.Errorf("the kinds are %d and %d", impl.StepProgram, impl.StepWipe)
	}
}

func TestAStepThatProgramsIsProgram(t *testing.T) {
	texts := []string{"", "x", mixedText(2), mixedText(impl.PageSize), mixedText(impl.PageSize + 1)}
	for _, c := range rightFlashes() {
		for _, b := range placesBeside(len(c.flash.Blocks)) {
			for _, leaf := range placesBeside(impl.PagesPer) {
				for _, text := range texts {
					s := programStep(b, leaf, text)
					want, ok := impl.Program(c.flash, b, leaf, text)
					wantDone(t, c.flash, s, want, ok)
					want, ok = tornByRule(c.flash, s)
					wantTorn(t, c.flash, s, want, ok)
				}
			}
		}
	}
}

// The Leaf and the Text of a step that wipes are not looked at.
func TestAStepThatWipesIsWipe(t *testing.T) {
	for _, c := range rightFlashes() {
		for _, b := range placesBeside(len(c.flash.Blocks)) {
			for _, leaf := range placesBeside(impl.PagesPer) {
				for _, text := range []string{"", "x", mixedText(impl.PageSize + 1)} {
					s := impl.Step{Kind: impl.StepWipe, Block: b, Leaf: leaf, Text: text}
					want, ok := impl.Wipe(c.flash, b)
					wantDone(t, c.flash, s, want, ok)
					want, ok = tornByRule(c.flash, s)
					wantTorn(t, c.flash, s, want, ok)
				}
			}
		}
	}
}

func TestStepsThatAreTaken(t *testing.T) {
	size := mixedText(impl.PageSize)
	f := flashOf(fullBlock(7, 2), blockOf(3), fullBlock(impl.MaxNumber-1, 4), blockOf(impl.MaxNumber, tornLeaf("a")))
	for _, c := range []struct {
		name string
		step impl.Step
		done impl.Flash
		torn impl.Flash
	}{
		{"the next leaf", programStep(0, 2, "abcd"), withLeaf(f, 0, 2, fullLeaf("abcd")), withLeaf(f, 0, 2, tornLeaf("ab"))},
		{"the first leaf", programStep(1, 0, "abcde"), withLeaf(f, 1, 0, fullLeaf("abcde")), withLeaf(f, 1, 0, tornLeaf("ab"))},
		{"one byte", programStep(1, 0, "a"), withLeaf(f, 1, 0, fullLeaf("a")), withLeaf(f, 1, 0, tornLeaf(""))},
		{"PageSize bytes", programStep(1, 0, size), withLeaf(f, 1, 0, fullLeaf(size)), withLeaf(f, 1, 0, tornLeaf(size[:60]))},
		{"behind a Torn leaf of a block worn to MaxNumber", programStep(3, 1, "xy"), withLeaf(f, 3, 1, fullLeaf("xy")), withLeaf(f, 3, 1, tornLeaf("x"))},
		{"a wipe of a block that is begun", wipeStep(0), withBlock(f, 0, blockOf(8)), withBlock(f, 0, tornBlock(7))},
		{"a wipe of a blank block", wipeStep(1), withBlock(f, 1, blockOf(4)), withBlock(f, 1, tornBlock(3))},
		{"a wipe up to MaxNumber", wipeStep(2), withBlock(f, 2, blockOf(impl.MaxNumber)), withBlock(f, 2, tornBlock(impl.MaxNumber-1))},
	} {
		t.Run(c.name, func(t *testing.T) { takesStep(t, f, c.step, c.done, c.torn) })
	}
}

func TestStepsThatAreRefused(t *testing.T) {
	f := flashOf(fullBlock(0, 2), badBlock(fullBlock(0, 2)), badBlock(blockOf(0)), fullBlock(impl.MaxNumber, 4), blockOf(impl.MaxNumber))
	for _, c := range []struct {
		name string
		step impl.Step
	}{
		{"a leaf that is Full", programStep(0, 1, "x")},
		{"a leaf past the next", programStep(0, 3, "x")},
		{"a leaf below all", programStep(0, -1, "x")},
		{"a leaf behind all", programStep(0, 4, "x")},
		{"a leaf behind a full block", programStep(3, 4, "x")},
		{"a leaf of a Bad block", programStep(1, 2, "x")},
		{"a leaf of a Bad blank block", programStep(2, 0, "x")},
		{"a leaf of a block below all", programStep(-1, 0, "x")},
		{"a leaf of a block behind all", programStep(5, 0, "x")},
		{"an empty text", programStep(0, 2, "")},
		{"a text that is too long", programStep(0, 2, mixedText(impl.PageSize+1))},
		{"a text of which half is too long", programStep(0, 2, mixedText(2*impl.PageSize+2))},
		{"a wipe of a Bad block", wipeStep(1)},
		{"a wipe of a Bad blank block", wipeStep(2)},
		{"a wipe of a block below all", wipeStep(-1)},
		{"a wipe of a block behind all", wipeStep(5)},
		{"a wipe far below all", wipeStep(math.MinInt)},
		{"a wipe far behind all", wipeStep(math.MaxInt)},
		{"a wipe past MaxNumber", wipeStep(3)},
		{"a wipe of a blank block past MaxNumber", wipeStep(4)},
		{"the zero step", impl.Step{}},
	} {
		t.Run(c.name, func(t *testing.T) { refusesStep(t, f, c.step) })
	}
}

// The greater of these would be one of the two in a narrower number.
func TestKindsThatAreNone(t *testing.T) {
	kinds := []int{math.MinInt, -2, -1, 0, 3, 4, math.MaxInt}
	for bits := 2; bits < 63; bits++ {
		kinds = append(kinds, 1<<bits+1, 1<<bits+2, -1<<bits+1, -1<<bits+2)
	}
	f := flashOf(fullBlock(0, 2), fullBlock(1, 4))
	for _, kind := range kinds {
		for b := range f.Blocks {
			refusesStep(t, f, impl.Step{Kind: kind, Block: b, Leaf: impl.NextBlank(f.Blocks[b]), Text: "text"})
		}
	}
}

// Without a step there is nothing that a wrong flash could refuse.
func TestStepsOnWrongFlashes(t *testing.T) {
	for _, c := range wrongFlashes() {
		for b := -1; b <= len(c.flash.Blocks); b++ {
			for leaf := -1; leaf <= impl.PagesPer; leaf++ {
				refusesStep(t, c.flash, programStep(b, leaf, "text"))
			}
			refusesStep(t, c.flash, wipeStep(b))
			refusesStep(t, c.flash, impl.Step{Kind: 3, Block: b})
		}
		wantListByRule(t, c.flash, nil)
		wantListByRule(t, c.flash, []impl.Step{wipeStep(0), wipeStep(1), programStep(0, 0, "x")})
	}
}

func TestTornTextsAreTheFirstHalf(t *testing.T) {
	f := flashOf(fullBlock(0, 1), fullBlock(5, 4))
	for size := 1; size <= impl.PageSize; size++ {
		text := mixedText(size)
		takesStep(t, f, programStep(0, 1, text), withLeaf(f, 0, 1, fullLeaf(text)), withLeaf(f, 0, 1, tornLeaf(text[:size/2])))
	}
	for text, half := range map[string]string{"a": "", "ab": "a", "abc": "a", "abcd": "ab", "\xc3\xa9\xc3\xa9": "\xc3\xa9", "\xc3\xa9": "\xc3"} {
		wantTorn(t, f, programStep(0, 1, text), withLeaf(f, 0, 1, tornLeaf(half)), true)
	}
}

// A wipe that is torn leaves nothing blank and nothing that is read, whatever
// stood there, and has not worn the block.
func TestTornWipes(t *testing.T) {
	for _, c := range []struct {
		name  string
		block impl.Block
	}{
		{"blank", blockOf(7)},
		{"begun", fullBlock(7, 1)},
		{"all but one written", fullBlock(7, 3)},
		{"full", fullBlock(7, 4)},
		{"Torn and begun", blockOf(7, fullLeaf("a"), tornLeaf("b"))},
		{"Torn with texts", blockOf(7, tornLeaf("a"), tornLeaf("b"), tornLeaf("c"), tornLeaf(mixedText(impl.PageSize)))},
		{"torn by a wipe", tornBlock(7)},
	} {
		f := flashOf(fullBlock(1, 3), c.block, badBlock(fullBlock(2, 2)), fullBlock(impl.MaxNumber, 4))
		want := withBlock(f, 1, tornBlock(7))
		wantTorn(t, f, wipeStep(1), want, true)
		wantTorn(t, want, wipeStep(1), want, true)
		wantRight(t, c.name+", torn", want, true)
		refusesStep(t, withBlock(f, 1, badBlock(c.block)), wipeStep(1))
	}
}

func TestATornLeafIsNotRead(t *testing.T) {
	f := flashOf(fullBlock(4, 1))
	torn, _ := impl.Torment(f, programStep(0, 1, "abcd"))
	wantRight(t, "torn", torn, true)
	wantRead(t, torn, 0, 0, "a", true)
	wantRead(t, torn, 0, 1, "", false)
	refusesToProgram(t, torn, 0, 1, "abcd")
	wantProgram(t, torn, 0, 2, "abcd", withLeaf(torn, 0, 2, fullLeaf("abcd")), true)
}

func TestATornPageIsNotFound(t *testing.T) {
	first, _ := impl.PageText(dataPage(1, 1, "first"))
	second, _ := impl.PageText(dataPage(2, 2, "second"))
	list := []impl.Step{programStep(0, 0, first), programStep(0, 1, second), wipeStep(0)}
	for _, c := range []struct {
		whole int
		torn  bool
		last  int
	}{
		{0, false, 0}, {0, true, 0}, {1, false, 1}, {1, true, 1}, {2, false, 2}, {2, true, 0}, {3, false, 0},
	} {
		f, ok := impl.CutSteps(flashOf(), list, c.whole, c.torn)
		if got := impl.LastSeq(f); !ok || got != c.last {
			t.Errorf("cut at %d, %v: the last Seq is %d, not %d", c.whole, c.torn, got, c.last)
		}
	}
}

func TestWhatIsTornCanBeWipedAndWrittenAgain(t *testing.T) {
	full := flashOf(fullBlock(1, 4), fullBlock(6, 3))
	for _, s := range []impl.Step{wipeStep(1), programStep(1, 3, "abcd")} {
		torn, ok := impl.Torment(full, s)
		if !ok {
			t.Fatalf("Torment of %#v is refused", s)
		}
		for leaf := range impl.PagesPer {
			refusesToProgram(t, torn, 1, leaf, "not wiped")
		}
		f := withBlock(torn, 1, blockOf(7))
		wantDone(t, torn, wipeStep(1), f, true)
		for leaf := range impl.PagesPer {
			text := mixedText(leaf + 1)
			after := withLeaf(f, 1, leaf, fullLeaf(text))
			wantDone(t, f, programStep(1, leaf, text), after, true)
			wantRead(t, after, 1, leaf, text, true)
			f = after
		}
	}
}

type namedSteps struct {
	name  string
	list  []impl.Step
	taken int
}

func startOfSteps() impl.Flash {
	return flashOf(fullBlock(5, 2), blockOf(0), fullBlock(impl.MaxNumber, 4), badBlock(blockOf(0)))
}

// listsOfSteps are told with how many of them are taken from startOfSteps on.
func listsOfSteps() []namedSteps {
	a, b := programStep(0, 2, "abcd"), programStep(0, 3, "efg")
	wipe, again := wipeStep(0), programStep(0, 0, "again")
	other, none := programStep(1, 0, mixedText(impl.PageSize)), impl.Step{Kind: 3}
	return []namedSteps{
		{"none", nil, 0},
		{"one that programs", []impl.Step{a}, 1},
		{"one that wipes", []impl.Step{wipe}, 1},
		{"all of one block", []impl.Step{a, b, wipe, again}, 4},
		{"all of two blocks", []impl.Step{other, a, wipe, wipeStep(1), again}, 5},
		{"wiped again and again", []impl.Step{wipe, wipe, wipe}, 3},
		{"the first is refused", []impl.Step{b, a, wipe}, 0},
		{"the first is no step", []impl.Step{none, a, b}, 0},
		{"the second is refused", []impl.Step{a, a, b, wipe}, 1},
		{"one in the middle is refused", []impl.Step{a, b, wipeStep(2), wipe, again}, 2},
		{"one in the middle is no step", []impl.Step{a, b, none, wipe, again}, 2},
		{"one in the middle is of a Bad block", []impl.Step{wipe, again, programStep(3, 0, "x"), other}, 2},
		{"the last is refused", []impl.Step{a, b, wipe, again, programStep(0, 2, "x")}, 4},
		{"the last wipe is refused", []impl.Step{wipe, other, wipeStep(2)}, 2},
		{"the last is no step", []impl.Step{a, other, none}, 2},
		{"several are refused", []impl.Step{a, none, b, none, wipe, none}, 1},
		{"all are refused", []impl.Step{none, none, none}, 0},
	}
}

func TestStepsAreDoneAsLongAsTheyAreTaken(t *testing.T) {
	f := startOfSteps()
	for _, c := range listsOfSteps() {
		behind := stepsByRule(f, c.list)
		if got := len(behind) - 1; got != c.taken {
			t.Fatalf("%s: by the rule %d are taken, not %d", c.name, got, c.taken)
		}
		wantSteps(t, f, c.list, behind[c.taken], c.taken)
	}
}

func TestStepsEndAtTheirFlash(t *testing.T) {
	f := startOfSteps()
	list := []impl.Step{programStep(0, 2, "abcd"), programStep(0, 3, "efg"), wipeStep(0), programStep(0, 0, "again")}
	begun := withLeaf(f, 0, 2, fullLeaf("abcd"))
	full := withLeaf(begun, 0, 3, fullLeaf("efg"))
	wiped := withBlock(f, 0, blockOf(6))
	ends := []impl.Flash{f, begun, full, wiped, withLeaf(wiped, 0, 0, fullLeaf("again"))}
	tears := []impl.Flash{withLeaf(f, 0, 2, tornLeaf("ab")), withLeaf(begun, 0, 3, tornLeaf("e")), withBlock(f, 0, tornBlock(5)), withLeaf(wiped, 0, 0, tornLeaf("ag"))}
	for whole, end := range ends {
		wantSteps(t, f, list[:whole], end, whole)
		wantCut(t, f, list, whole, false, end, true)
		if whole < len(list) {
			wantCut(t, f, list, whole, true, tears[whole], true)
		} else {
			wantCut(t, f, list, whole, true, end, true)
		}
	}
	for _, none := range []int{math.MinInt, -5, -1, 5, 6, math.MaxInt} {
		wantCut(t, f, list, none, false, f, false)
		wantCut(t, f, list, none, true, f, false)
	}
}

// What is refused behind the place of the cut has not been come to.
func TestCutStepsAreRefusedInWhole(t *testing.T) {
	f := startOfSteps()
	a, b, none := programStep(0, 2, "abcd"), programStep(0, 3, "efg"), impl.Step{Kind: 3}
	begun := withLeaf(f, 0, 2, fullLeaf("abcd"))
	for _, refused := range []impl.Step{none, a, wipeStep(2), wipeStep(3), wipeStep(4), programStep(2, 4, "x"), programStep(0, 3, "")} {
		list := []impl.Step{a, refused, b}
		wantCut(t, f, list, 0, false, f, true)
		wantCut(t, f, list, 0, true, withLeaf(f, 0, 2, tornLeaf("ab")), true)
		wantCut(t, f, list, 1, false, begun, true)
		wantCut(t, f, list, 1, true, f, false)
		for _, torn := range []bool{false, true} {
			wantCut(t, f, list, 2, torn, f, false)
			wantCut(t, f, list, 3, torn, f, false)
			wantCut(t, f, list, 4, torn, f, false)
			wantCut(t, f, list, -1, torn, f, false)
		}
	}
}

func TestListsAreCutByTheRule(t *testing.T) {
	for _, c := range listsOfSteps() {
		wantListByRule(t, startOfSteps(), c.list)
	}
}

func TestStepsInTwoPartsAreThoseAtOnce(t *testing.T) {
	f := startOfSteps()
	for _, c := range listsOfSteps() {
		all, count := impl.DoSteps(f, c.list)
		for cut := range c.taken + 1 {
			first, one := impl.DoSteps(f, c.list[:cut])
			second, two := impl.DoSteps(first, c.list[cut:])
			if one != cut || one+two != count || !sameFlash(second, all) {
				t.Errorf("%s: in two parts at %d: %d and %d, not %d: %#v, not %#v", c.name, cut, one, two, count, second, all)
			}
			left, ok := impl.CutSteps(f, c.list, cut, false)
			if !ok || !sameFlash(left, first) {
				t.Errorf("%s: cut at %d is %#v, %v, not %#v", c.name, cut, left, ok, first)
			}
		}
	}
}

func TestNoStepsAtAll(t *testing.T) {
	for _, c := range slices.Concat(rightFlashes(), wrongFlashes()) {
		for _, list := range [][]impl.Step{nil, {}} {
			wantSteps(t, c.flash, list, c.flash, 0)
			wantCut(t, c.flash, list, 0, false, c.flash, true)
			wantCut(t, c.flash, list, 0, true, c.flash, true)
			wantCut(t, c.flash, list, 1, false, c.flash, false)
			wantCut(t, c.flash, list, -1, true, c.flash, false)
		}
	}
}

// someSteps has steps of each kind at each place of a small flash and beside it.
func someSteps() []impl.Step {
	out := []impl.Step{{Kind: 0}, {Kind: 3, Text: "x"}}
	for b := -1; b <= 3; b++ {
		out = append(out, wipeStep(b))
		for leaf := -1; leaf <= impl.PagesPer; leaf++ {
			out = append(out, programStep(b, leaf, "xyz"))
		}
	}
	return out
}

func TestStepsOnAllOrdersOfBlocks(t *testing.T) {
	for _, f := range everyFlash(3) {
		for _, s := range someSteps() {
			want, ok := doneByRule(f, s)
			if got, done := impl.DoStep(f, s); done != ok || !sameFlash(got, want) {
				t.Fatalf("DoStep of %#v on %#v is %#v, %v", s, f, got, done)
			}
			want, ok = tornByRule(f, s)
			if got, torn := impl.Torment(f, s); torn != ok || !sameFlash(got, want) {
				t.Fatalf("Torment of %#v on %#v is %#v, %v", s, f, got, torn)
			}
		}
	}
}

func TestPairsOfStepsAreCutByTheRule(t *testing.T) {
	f := flashOf(fullBlock(1, 3), blockOf(0), badBlock(fullBlock(2, 1)))
	for _, first := range someSteps() {
		for _, second := range someSteps() {
			wantListByRule(t, f, []impl.Step{first, second})
		}
	}
}

// drawnSteps are mostly such as are taken one behind the other.
func drawnSteps(f impl.Flash, draws string) []impl.Step {
	var out []impl.Step
	for ; len(draws) > 2; draws = draws[3:] {
		b := int(draws[1]) % len(f.Blocks)
		s := programStep(b, impl.NextBlank(f.Blocks[b]), mixedText(int(draws[2])%impl.PageSize+1))
		switch {
		case draws[0] < 8:
			s.Leaf++
		case draws[0] < 12:
			s.Kind = 3
		case draws[0] < 16:
			s.Block = len(f.Blocks)
		case draws[0] < 90 || s.Leaf == impl.PagesPer:
			s.Kind = impl.StepWipe
		}
		out = append(out, s)
		f, _ = doneByRule(f, s)
	}
	return out
}

func TestDrawnListsAreCutByTheRule(t *testing.T) {
	draws := mixedText(9000)
	for n := 3; n <= impl.MaxBlocks; n++ {
		f, _ := impl.FlashNew(n)
		for range 9 {
			list := drawnSteps(f, draws[:90])
			draws = draws[90:]
			wantListByRule(t, f, list)
			behind := stepsByRule(f, list)
			f = behind[len(behind)-1]
		}
	}
}

// A drawn life in which the power goes again and again: what is left is right,
// and but for the torn step it is what was done.
func TestDrawnLifeOfCutSteps(t *testing.T) {
	f, _ := impl.FlashNew(4)
	draws := mixedText(20000)
	cuts := 0
	for ; len(draws) > 40; draws = draws[40:] {
		list := drawnSteps(f, draws[2:32])
		whole, torn := int(draws[0])%(len(list)+1), draws[1]%2 == 0
		want, wantOk := cutByRule(f, list, whole, torn)
		got, ok := impl.CutSteps(f, list, whole, torn)
		if ok != wantOk || !sameFlash(got, want) || !impl.FlashOk(got) {
			t.Fatalf("CutSteps at %d, %v of %#v on %#v is %#v, %v", whole, torn, list, f, got, ok)
		}
		if !ok {
			continue
		}
		done, count := impl.DoSteps(f, list[:whole])
		if count != whole || changedBlocks(done, got) > 1 {
			t.Fatalf("%d of %d are done, and behind them %#v is %#v", count, whole, done, got)
		}
		f, cuts = got, cuts+1
	}
	if cuts < 100 {
		t.Errorf("the power has gone %d times only", cuts)
	}
}

// changedBlocks counts the blocks in which two flashes differ.
func changedBlocks(f, g impl.Flash) int {
	count := 0
	for b := range f.Blocks {
		if !sameBlock(f.Blocks[b], g.Blocks[b]) {
			count++
		}
	}
	return count
}

// Blocks that are handed in with one list of leaves are answered with their own.
func TestStepsOnBlocksThatShareTheirLeaves(t *testing.T) {
	block := fullBlock(0, 2)
	f := impl.Flash{Blocks: []impl.Block{block, block, block}}
	for _, s := range []impl.Step{programStep(1, 2, "abcd"), wipeStep(1)} {
		for _, torn := range []bool{false, true} {
			want, _ := cutByRule(f, []impl.Step{s, s}, 0, torn)
			got, ok := impl.CutSteps(f, []impl.Step{s, s}, 0, torn)
			if !ok || !sameFlash(got, want) || !ownLists(got) || sharesFlash(got, f) {
				t.Errorf("%#v, torn %v, is %#v, %v", s, torn, got, ok)
			}
		}
	}
}

func TestAnswersOfStepsAreTheirOwn(t *testing.T) {
	f := startOfSteps()
	list := []impl.Step{programStep(0, 2, "abcd"), wipeStep(0)}
	for whole := range len(list) + 1 {
		first, _ := impl.CutSteps(f, list, whole, true)
		second, _ := impl.CutSteps(f, list, whole, true)
		if sharesFlash(first, second) {
			t.Errorf("two answers of CutSteps at %d stand in one memory", whole)
		}
	}
}
