package tests

import (
	"fmt"
	"math"
	"slices"
	"testing"

	"loop.example/g00195/impl"
)

// Promise 11: a tree has what was put last; other trees are as they were; what is
// swept is not needed.

func leafKnot(numbers ...int) impl.Knot { return impl.Knot{Leaf: true, Kids: numbers} }

func rootKnot(places ...int) impl.Knot { return impl.Knot{Kids: places} }

func arenaOf(knots ...impl.Knot) impl.Arena { return impl.Arena{Knots: knots} }

func sameKnot(a, b impl.Knot) bool { return a.Leaf == b.Leaf && slices.Equal(a.Kids, b.Kids) }

func sameArena(a, b impl.Arena) bool { return slices.EqualFunc(a.Knots, b.Knots, sameKnot) }

// twinArena is an arena like a in memory of its own, with room behind each list.
func twinArena(a impl.Arena) impl.Arena {
	knots := make([]impl.Knot, 0, len(a.Knots)+2)
	for _, k := range a.Knots {
		kids := append(make([]int, 0, len(k.Kids)+2), k.Kids...)
		k.Kids = append(kids, -77, 77)[:len(kids)]
		knots = append(knots, k)
	}
	return impl.Arena{Knots: append(knots, leafKnot(-77), rootKnot(77))[:len(knots)]}
}

// arenaWithSpare is a together with what stands in the room behind its lists.
func arenaWithSpare(a impl.Arena) impl.Arena {
	knots := slices.Clone(a.Knots[:cap(a.Knots)])
	for i, k := range knots {
		knots[i].Kids = k.Kids[:cap(k.Kids)]
	}
	return impl.Arena{Knots: knots}
}

// numberLists are all lists of numbers of an arena, and others beside them.
func numberLists(a impl.Arena, more ...[]int) [][]int {
	out := slices.Clone(more)
	for _, k := range a.Knots {
		out = append(out, k.Kids)
	}
	return out
}

// keepsArena hands an arena and a list like these to a call and asks that both,
// and the room behind their lists, are as they were, and that what is answered is
// new.
func keepsArena(t *testing.T, what string, a impl.Arena, list []int, call func(impl.Arena, []int) (impl.Arena, []int)) {
	t.Helper()
	given, like := twinArena(a), twinArena(a)
	spare := append(slices.Clone(list), -77, 77)
	handed := spare[:len(list)]
	got, gotList := call(given, handed)
	if !sameArena(arenaWithSpare(given), arenaWithSpare(like)) {
		t.Errorf("%s has written into the arena: %v, was %v", what, arenaWithSpare(given), arenaWithSpare(like))
	}
	if !slices.Equal(spare, append(slices.Clone(list), -77, 77)) {
		t.Errorf("%s has written into the list: %v, was %v", what, spare, list)
	}
	if sharesList(got.Knots, given.Knots) {
		t.Errorf("%s answers the knots that were handed in", what)
	}
	lists := numberLists(got, gotList)
	for i, one := range lists {
		for _, other := range append(numberLists(given, handed), lists[:i]...) {
			if sharesList(one, other) {
				t.Errorf("%s answers a list whose memory is not its own", what)
			}
		}
	}
}

func arenaRightByRule(a impl.Arena) bool {
	for place, k := range a.Knots {
		if len(k.Kids) != 4 {
			return false
		}
		for _, kid := range k.Kids {
			isLeafAhead := kid >= 0 && kid < place && a.Knots[kid].Leaf
			if k.Leaf && kid < 0 || !k.Leaf && kid != -1 && !isLeafAhead {
				return false
			}
		}
	}
	return true
}

// isTreeByRule asks for -1 or the place of a knot that is no leaf, in an arena
// that is right.
func isTreeByRule(a impl.Arena, root int) bool {
	return arenaRightByRule(a) && (root == -1 || root >= 0 && root < len(a.Knots) && !a.Knots[root].Leaf)
}

func getByRule(a impl.Arena, root, sector int) int {
	if !isTreeByRule(a, root) || root == -1 || sector < 0 || sector > 15 {
		return 0
	}
	leaf := a.Knots[root].Kids[sector/4]
	if leaf == -1 {
		return 0
	}
	return a.Knots[leaf].Kids[sector%4]
}

func allByRule(a impl.Arena, root int) []int {
	var out []int
	for sector := range 16 {
		out = append(out, getByRule(a, root, sector))
	}
	return out
}

func putByRule(a impl.Arena, root, sector, n int) (impl.Arena, int) {
	if !isTreeByRule(a, root) || sector < 0 || sector > 15 || n < 0 {
		return a, root
	}
	size := len(a.Knots)
	places := []int{-1, -1, -1, -1}
	if root != -1 {
		places = slices.Clone(a.Knots[root].Kids)
	}
	places[sector/4] = size
	numbers := slices.Clone(allByRule(a, root)[sector/4*4:][:4])
	numbers[sector%4] = n
	return arenaOf(append(slices.Clone(a.Knots), leafKnot(numbers...), rootKnot(places...))...), size + 1
}

// knotsByRule are the places of all knots that a tree has, ascending.
func knotsByRule(a impl.Arena, root int) []int {
	if !isTreeByRule(a, root) || root == -1 {
		return nil
	}
	out := append(slices.Clone(a.Knots[root].Kids), root)
	out = slices.DeleteFunc(out, func(place int) bool { return place == -1 })
	slices.Sort(out)
	return slices.Compact(out)
}

func sharedByRule(a impl.Arena, r, s int) int {
	both := append(knotsByRule(a, r), knotsByRule(a, s)...)
	size := len(both)
	slices.Sort(both)
	return size - len(slices.Compact(both))
}

func sweptByRule(a impl.Arena, roots []int) (impl.Arena, []int) {
	if !arenaRightByRule(a) || slices.ContainsFunc(roots, func(root int) bool { return !isTreeByRule(a, root) }) {
		return a, roots
	}
	var left []int
	for _, root := range roots {
		left = append(left, knotsByRule(a, root)...)
	}
	slices.Sort(left)
	left = slices.Compact(left)
	var out impl.Arena
	for _, place := range left {
		k := a.Knots[place]
		if !k.Leaf {
			k.Kids = placesIn(left, k.Kids)
		}
		out.Knots = append(out.Knots, k)
	}
	return out, placesIn(left, roots)
}

// placesIn has for each number its place in the list, -1 for -1.
func placesIn(list, numbers []int) []int {
	var out []int
	for _, n := range numbers {
		out = append(out, slices.Index(list, n))
	}
	return out
}

func wantArenaOk(t *testing.T, why string, a impl.Arena, want bool) {
	t.Helper()
	keepsArena(t, "ArenaOk", a, nil, func(a impl.Arena, _ []int) (impl.Arena, []int) {
		if got := impl.ArenaOk(a); got != want {
			t.Errorf("%s: ArenaOk of %v is %v", why, a, got)
		}
		return impl.Arena{}, nil
	})
	if arenaRightByRule(a) != want {
		t.Errorf("%s: by rule %v is not %v", why, a, want)
	}
}

func wantGet(t *testing.T, why string, a impl.Arena, root, sector, want int) {
	t.Helper()
	keepsArena(t, "GetAt", a, nil, func(a impl.Arena, _ []int) (impl.Arena, []int) {
		if got := impl.GetAt(a, root, sector); got != want {
			t.Errorf("%s: GetAt(%d, %d) of %v is %d, not %d", why, root, sector, a, got, want)
		}
		return impl.Arena{}, nil
	})
}

// wantAll asks AllAt, and GetAt of each sector.
func wantAll(t *testing.T, why string, a impl.Arena, root int, want []int) {
	t.Helper()
	keepsArena(t, "AllAt", a, nil, func(a impl.Arena, _ []int) (impl.Arena, []int) {
		got := impl.AllAt(a, root)
		if !slices.Equal(got, want) {
			t.Errorf("%s: AllAt(%d) of %v is %v, not %v", why, root, a, got, want)
		}
		return impl.Arena{}, got
	})
	for sector, n := range want {
		if got := impl.GetAt(a, root, sector); got != n {
			t.Errorf("%s: GetAt(%d, %d) of %v is %d, not %d", why, root, sector, a, got, n)
		}
	}
}

func wantPut(t *testing.T, why string, a impl.Arena, root, sector, n int, want impl.Arena, wantRoot int) {
	t.Helper()
	keepsArena(t, "PutAt", a, nil, func(a impl.Arena, _ []int) (impl.Arena, []int) {
		got, gotRoot := impl.PutAt(a, root, sector, n)
		if !sameArena(got, want) || gotRoot != wantRoot {
			t.Errorf("%s: PutAt(%d, %d, %d) of %v\nis  %v, %d\nnot %v, %d", why, root, sector, n, a, got, gotRoot, want, wantRoot)
		}
		return got, nil
	})
}

func refusesToPut(t *testing.T, why string, a impl.Arena, root, sector, n int) {
	t.Helper()
	wantPut(t, why, a, root, sector, n, a, root)
}

// wantShared asks both ways round.
func wantShared(t *testing.T, why string, a impl.Arena, r, s, want int) {
	t.Helper()
	keepsArena(t, "SharedBy", a, nil, func(a impl.Arena, _ []int) (impl.Arena, []int) {
		got, turned := impl.SharedBy(a, r, s), impl.SharedBy(a, s, r)
		if got != want || turned != want {
			t.Errorf("%s: SharedBy(%d, %d) of %v is %d, turned %d, not %d", why, r, s, a, got, turned, want)
		}
		return impl.Arena{}, nil
	})
}

func wantSwept(t *testing.T, why string, a impl.Arena, roots []int, want impl.Arena, wantRoots []int) {
	t.Helper()
	keepsArena(t, "SweepArena", a, roots, func(a impl.Arena, roots []int) (impl.Arena, []int) {
		got, gotRoots := impl.SweepArena(a, roots)
		if !sameArena(got, want) || !slices.Equal(gotRoots, wantRoots) {
			t.Errorf("%s: SweepArena of %v for %v\nis  %v, %v\nnot %v, %v", why, a, roots, got, gotRoots, want, wantRoots)
		}
		return got, gotRoots
	})
}

func refusesToSweep(t *testing.T, why string, a impl.Arena, roots ...int) {
	t.Helper()
	wantSwept(t, why, a, roots, a, roots)
}

func wantSweptByRule(t *testing.T, why string, a impl.Arena, roots ...int) {
	t.Helper()
	want, wantRoots := sweptByRule(a, roots)
	wantSwept(t, why, a, roots, want, wantRoots)
}

// noTrees are numbers that are no root of a tree, -1 not among them.
func noTrees(a impl.Arena) []int {
	out := []int{math.MinInt, math.MinInt + 1, -1 << 32, -len(a.Knots) - 1, -3, -2, len(a.Knots), len(a.Knots) + 1, 1 << 32, math.MaxInt}
	for place, k := range a.Knots {
		if k.Leaf {
			out = append(out, place)
		}
	}
	return slices.DeleteFunc(out, func(root int) bool { return root == -1 })
}

func noSectors() []int {
	return []int{math.MinInt, -1 << 32, -16, -4, -2, -1, 16, 17, 19, 20, 31, 64, 256, 1 << 32, 1<<32 + 1, math.MaxInt}
}

// putNumbers are numbers that may be put.
func putNumbers() []int { return []int{0, 1, 7, impl.MaxNumber, impl.MaxNumber + 1, math.MaxInt} }

type namedArena struct {
	name  string
	arena impl.Arena
}

// wovenArena has three leaves and, among them, trees that share: 2 has leaf 0 and
// leaf 1; 4 has leaf 3 and, twice, leaf 0; 5 is like 2; 6 has nothing; 7 has no
// leaf but 1.
func wovenArena() impl.Arena {
	return arenaOf(
		leafKnot(11, 12, 13, 14), leafKnot(21, 0, 0, 24), rootKnot(0, -1, 1, -1),
		leafKnot(0, 0, 0, 0), rootKnot(3, 0, -1, 0), rootKnot(0, -1, 1, -1),
		rootKnot(-1, -1, -1, -1), rootKnot(-1, -1, -1, 1))
}

// fullArena has one tree with a number in each sector: 101 to 116.
func fullArena() impl.Arena {
	return arenaOf(leafKnot(101, 102, 103, 104), leafKnot(105, 106, 107, 108),
		leafKnot(109, 110, 111, 112), leafKnot(113, 114, 115, 116), rootKnot(0, 1, 2, 3))
}

func rightArenas() []namedArena {
	return []namedArena{
		{"no knots", impl.Arena{}},
		{"an empty list of knots", impl.Arena{Knots: []impl.Knot{}}},
		{"a leaf", arenaOf(leafKnot(1, 2, 3, 4))},
		{"a leaf of noughts", arenaOf(leafKnot(0, 0, 0, 0))},
		{"a leaf of great numbers", arenaOf(leafKnot(math.MaxInt, impl.MaxNumber, impl.MaxNumber+1, 1<<32))},
		{"leaves alone", arenaOf(leafKnot(9, 9, 9, 9), leafKnot(9, 9, 9, 9), leafKnot(0, 1, 2, 3))},
		{"a root without leaves", arenaOf(rootKnot(-1, -1, -1, -1))},
		{"roots alone", arenaOf(rootKnot(-1, -1, -1, -1), rootKnot(-1, -1, -1, -1))},
		{"a root right behind its leaf", arenaOf(leafKnot(1, 0, 0, 0), rootKnot(-1, -1, -1, 0))},
		{"a root with one leaf four times", arenaOf(leafKnot(1, 2, 3, 4), rootKnot(0, 0, 0, 0))},
		{"a root whose leaves stand in another order", arenaOf(leafKnot(1, 0, 0, 0), leafKnot(2, 0, 0, 0), leafKnot(3, 0, 0, 0), rootKnot(2, 0, -1, 1))},
		{"a root between leaves", arenaOf(leafKnot(1, 2, 3, 4), rootKnot(0, -1, -1, -1), leafKnot(5, 6, 7, 8), rootKnot(2, 0, -1, -1))},
		{"a full tree", fullArena()},
		{"woven trees", wovenArena()},
	}
}

// wrongKnots are never right, whatever stands ahead of them.
func wrongKnots() []struct {
	name string
	knot impl.Knot
} {
	return []struct {
		name string
		knot impl.Knot
	}{
		{"a zero knot", impl.Knot{}},
		{"a leaf without Kids", leafKnot()},
		{"a leaf with an empty list", leafKnot([]int{}...)},
		{"a leaf with 1 Kid", leafKnot(1)},
		{"a leaf with 3 Kids", leafKnot(1, 2, 3)},
		{"a leaf with 5 Kids", leafKnot(1, 2, 3, 4, 5)},
		{"a leaf with 5 noughts", leafKnot(0, 0, 0, 0, 0)},
		{"a leaf with 8 Kids", leafKnot(1, 2, 3, 4, 5, 6, 7, 8)},
		{"a leaf with 16 Kids", leafKnot(make([]int, 16)...)},
		{"a leaf with 260 Kids", leafKnot(make([]int, 260)...)},
		{"a leaf that begins with -1", leafKnot(-1, 0, 0, 0)},
		{"a leaf with -1 at 1", leafKnot(0, -1, 0, 0)},
		{"a leaf with -1 at 2", leafKnot(0, 0, -1, 0)},
		{"a leaf that ends with -1", leafKnot(0, 0, 0, -1)},
		{"a leaf of -1", leafKnot(-1, -1, -1, -1)},
		{"a leaf with -2", leafKnot(1, 2, -2, 4)},
		{"a leaf with the least number", leafKnot(1, 2, 3, math.MinInt)},
		{"a root without Kids", rootKnot()},
		{"a root with 1 Kid", rootKnot(-1)},
		{"a root with 3 Kids", rootKnot(-1, -1, -1)},
		{"a root with 5 Kids", rootKnot(-1, -1, -1, -1, -1)},
		{"a root with 8 Kids", rootKnot(slices.Repeat([]int{-1}, 8)...)},
		{"a root that begins with -2", rootKnot(-2, -1, -1, -1)},
		{"a root with -2 at 1", rootKnot(-1, -2, -1, -1)},
		{"a root with -2 at 2", rootKnot(-1, -1, -2, -1)},
		{"a root that ends with -2", rootKnot(-1, -1, -1, -2)},
		{"a root with -3", rootKnot(-1, -3, -1, -1)},
		{"a root with the least number", rootKnot(math.MinInt, -1, -1, -1)},
		{"a root with the greatest number", rootKnot(-1, -1, -1, math.MaxInt)},
		{"a root with a place far beyond all", rootKnot(-1, 1<<32, -1, -1)},
	}
}

// wrongArenas have each wrong knot at each place between right ones, and roots
// whose Kids are no leaves ahead of them.
func wrongArenas() []namedArena {
	var out []namedArena
	right := arenaOf(leafKnot(1, 2, 3, 4), rootKnot(0, -1, -1, 0), leafKnot(5, 6, 7, 8), rootKnot(-1, -1, -1, -1))
	for _, wrong := range wrongKnots() {
		out = append(out, namedArena{wrong.name + " alone", arenaOf(wrong.knot)})
		for at := range right.Knots {
			knots := slices.Clone(right.Knots)
			knots[at] = wrong.knot
			out = append(out, namedArena{wrong.name, impl.Arena{Knots: knots}})
		}
		out = append(out, namedArena{wrong.name + " behind all", arenaOf(append(slices.Clone(right.Knots), wrong.knot)...)})
	}
	ahead := []impl.Knot{leafKnot(1, 2, 3, 4), rootKnot(0, -1, -1, -1)}
	for at := range 4 {
		for _, wrong := range []struct {
			name string
			kid  int
		}{{"a Kid that is no leaf", 1}, {"a Kid at its own place", 2}, {"a Kid right behind it", 3}, {"the last Kid behind it", 4}, {"a Kid beyond all knots", 5}} {
			kids := []int{-1, 0, -1, 0}
			kids[at] = wrong.kid
			knots := append(slices.Clone(ahead), rootKnot(kids...), leafKnot(0, 0, 0, 0), leafKnot(9, 9, 9, 9))
			out = append(out, namedArena{wrong.name, impl.Arena{Knots: knots}})
		}
	}
	return append(out,
		namedArena{"a root that is its own Kid, alone", arenaOf(rootKnot(0, 0, 0, 0))},
		namedArena{"roots that are each other's Kids", arenaOf(rootKnot(1, -1, -1, -1), rootKnot(0, -1, -1, -1))},
		namedArena{"a root ahead of its leaf", arenaOf(rootKnot(1, -1, -1, -1), leafKnot(1, 2, 3, 4))},
		namedArena{"a root with a root as Kid", arenaOf(rootKnot(-1, -1, -1, -1), rootKnot(-1, 0, -1, -1))})
}

func TestFanIsFour(t *testing.T) {
	if impl.Fan != 4 || impl.Sectors != impl.Fan*impl.Fan {
		t.Errorf("Fan is %d, Sectors %d", impl.Fan, impl.Sectors)
	}
}

func TestArenasThatAreRight(t *testing.T) {
	for _, c := range rightArenas() {
		wantArenaOk(t, c.name, c.arena, true)
	}
}

func TestArenasThatAreNotRight(t *testing.T) {
	for _, c := range wrongArenas() {
		wantArenaOk(t, c.name, c.arena, false)
	}
}

// A leaf's Kids and a root's are told apart by Leaf alone.
func TestKidsAsALeafAndAsARoot(t *testing.T) {
	ahead := leafKnot(0, 0, 0, 0)
	for _, c := range []struct {
		kids         []int
		leaf, others bool
	}{
		{[]int{0, 0, 0, 0}, true, true},
		{[]int{-1, -1, -1, -1}, false, true},
		{[]int{0, 0, 0, 1}, true, false},
		{[]int{-1, 0, 0, 0}, false, true},
		{[]int{5, 6, 7, 8}, true, false},
		{[]int{-1, -1, -1, 1}, false, false},
	} {
		wantArenaOk(t, "as a leaf", arenaOf(ahead, leafKnot(c.kids...)), c.leaf)
		wantArenaOk(t, "as a root", arenaOf(ahead, rootKnot(c.kids...)), c.others)
	}
}

func TestKidsOfAllNumbers(t *testing.T) {
	for size := range 12 {
		for _, kid := range []int{-1, 0} {
			kids := slices.Repeat([]int{kid}, size)
			wantArenaOk(t, "a leaf of so many", arenaOf(leafKnot(1, 1, 1, 1), leafKnot(kids...)), size == 4 && kid == 0)
			wantArenaOk(t, "a root of so many", arenaOf(leafKnot(1, 1, 1, 1), rootKnot(kids...)), size == 4)
		}
	}
}

// Each Kid of each knot of woven trees is set to each place, and beside them.
func TestArenaOkOfEachKidAtEachPlace(t *testing.T) {
	woven := wovenArena()
	for place := range woven.Knots {
		for at := range 4 {
			for _, kid := range append(placesBeside(len(woven.Knots)), -2, -3) {
				a := twinArena(woven)
				a.Knots[place].Kids[at] = kid
				want := kid == -1 || (kid == 0 || kid == 1 || kid == 3) && kid < place
				if woven.Knots[place].Leaf {
					want = kid >= 0
				}
				wantArenaOk(t, fmt.Sprintf("knot %d has %d at %d", place, kid, at), a, want)
			}
		}
	}
}

func TestGetAtOfEachSector(t *testing.T) {
	full := fullArena()
	for sector := range 16 {
		wantGet(t, "a full tree", full, 4, sector, 101+sector)
	}
	woven := wovenArena()
	none := []int{0, 0, 0, 0}
	wantAll(t, "leaves 0 and 1", woven, 2, slices.Concat([]int{11, 12, 13, 14}, none, []int{21, 0, 0, 24}, none))
	wantAll(t, "leaves 3 and 0 twice", woven, 4, slices.Concat(none, []int{11, 12, 13, 14}, none, []int{11, 12, 13, 14}))
	wantAll(t, "alike", woven, 5, impl.AllAt(woven, 2))
	wantAll(t, "no leaves", woven, 6, make([]int, 16))
	wantAll(t, "the last leaf alone", woven, 7, slices.Concat(none, none, none, []int{21, 0, 0, 24}))
	great := arenaOf(leafKnot(0, math.MaxInt, 0, 1), rootKnot(-1, 0, -1, -1))
	wantGet(t, "the greatest number", great, 1, 5, math.MaxInt)
	wantGet(t, "none", great, 1, 4, 0)
}

func TestGetAtOfSectorsThatAreNone(t *testing.T) {
	same := arenaOf(leafKnot(7, 7, 7, 7), rootKnot(0, 0, 0, 0))
	for _, c := range append(rightArenas(), namedArena{"all the same", same}) {
		for root := -1; root <= len(c.arena.Knots); root++ {
			for _, sector := range noSectors() {
				wantGet(t, c.name, c.arena, root, sector, 0)
			}
		}
	}
	wantGet(t, "the first", same, 1, 0, 7)
	wantGet(t, "the last", same, 1, 15, 7)
}

func TestTreesThatAreNoneHaveNothing(t *testing.T) {
	for _, c := range rightArenas() {
		for _, root := range append(noTrees(c.arena), -1) {
			wantAll(t, c.name, c.arena, root, make([]int, 16))
		}
	}
}

func TestArenasThatAreNotRightHaveNothing(t *testing.T) {
	for _, c := range wrongArenas() {
		for _, root := range placesBeside(len(c.arena.Knots)) {
			wantAll(t, c.name, c.arena, root, make([]int, 16))
			for _, sector := range []int{-1, 16} {
				wantGet(t, c.name, c.arena, root, sector, 0)
			}
		}
	}
	spoiled := arenaOf(append(fullArena().Knots, leafKnot(1, 2, 3, -1))...)
	wantAll(t, "a tree ahead of the fault", spoiled, 4, make([]int, 16))
}

func TestPutIntoTheTreeWithoutAnything(t *testing.T) {
	for sector := range 16 {
		for _, n := range putNumbers() {
			numbers, places := []int{0, 0, 0, 0}, []int{-1, -1, -1, -1}
			numbers[sector%4], places[sector/4] = n, 0
			wantPut(t, "no knots", impl.Arena{}, -1, sector, n, arenaOf(leafKnot(numbers...), rootKnot(places...)), 1)
			places[sector/4] = 5
			wantPut(t, "behind others", fullArena(), -1, sector, n, arenaOf(append(fullArena().Knots, leafKnot(numbers...), rootKnot(places...))...), 6)
		}
	}
	wantPut(t, "a known one", impl.Arena{}, -1, 5, 7, arenaOf(leafKnot(0, 7, 0, 0), rootKnot(-1, 0, -1, -1)), 1)
	wantPut(t, "a nought", impl.Arena{}, -1, 15, 0, arenaOf(leafKnot(0, 0, 0, 0), rootKnot(-1, -1, -1, 0)), 1)
}

func TestPutIntoATreeThatHasTheLeaf(t *testing.T) {
	full := fullArena()
	for sector := range 16 {
		for _, n := range append(putNumbers(), 101+sector) {
			numbers, places := slices.Clone(full.Knots[sector/4].Kids), []int{0, 1, 2, 3}
			numbers[sector%4], places[sector/4] = n, 5
			wantPut(t, "a full tree", full, 4, sector, n, arenaOf(append(fullArena().Knots, leafKnot(numbers...), rootKnot(places...))...), 6)
		}
	}
	woven := wovenArena()
	wantPut(t, "a leaf that comes twice", woven, 4, 6, 99,
		arenaOf(append(wovenArena().Knots, leafKnot(11, 12, 99, 14), rootKnot(3, 8, -1, 0))...), 9)
	wantPut(t, "the same number", woven, 2, 0, 11,
		arenaOf(append(wovenArena().Knots, leafKnot(11, 12, 13, 14), rootKnot(8, -1, 1, -1))...), 9)
	wantPut(t, "a nought", woven, 7, 12, 0,
		arenaOf(append(wovenArena().Knots, leafKnot(0, 0, 0, 24), rootKnot(-1, -1, -1, 8))...), 9)
}

func TestPutIntoATreeThatHasNotTheLeaf(t *testing.T) {
	woven := wovenArena()
	wantPut(t, "beside others", woven, 2, 4, 99,
		arenaOf(append(wovenArena().Knots, leafKnot(99, 0, 0, 0), rootKnot(0, 8, 1, -1))...), 9)
	wantPut(t, "the last sector", woven, 2, 15, 99,
		arenaOf(append(wovenArena().Knots, leafKnot(0, 0, 0, 99), rootKnot(0, -1, 1, 8))...), 9)
	wantPut(t, "a root without leaves", woven, 6, 0, 99,
		arenaOf(append(wovenArena().Knots, leafKnot(99, 0, 0, 0), rootKnot(8, -1, -1, -1))...), 9)
	wantPut(t, "a nought where nothing is", woven, 6, 9, 0,
		arenaOf(append(wovenArena().Knots, leafKnot(0, 0, 0, 0), rootKnot(-1, -1, 8, -1))...), 9)
}

// wantPutKeepsOthers asks that the new tree has the number there and all else as
// it was, that all knots ahead are as they were, and every other tree as well.
func wantPutKeepsOthers(t *testing.T, a impl.Arena, root, sector, n int) {
	t.Helper()
	want := impl.AllAt(a, root)
	want[sector] = n
	after, top := impl.PutAt(a, root, sector, n)
	if !impl.ArenaOk(after) || len(after.Knots) != len(a.Knots)+2 || top != len(a.Knots)+1 {
		t.Fatalf("PutAt(%d, %d, %d) of %v is %v, %d", root, sector, n, a, after, top)
	}
	if !sameArena(impl.Arena{Knots: after.Knots[:len(a.Knots)]}, a) {
		t.Errorf("PutAt(%d, %d, %d) of %v has other knots ahead: %v", root, sector, n, a, after)
	}
	wantAll(t, "the new tree", after, top, want)
	for other := -1; other < len(a.Knots); other++ {
		wantAll(t, "another tree", after, other, impl.AllAt(a, other))
	}
}

func TestPutKeepsOtherTrees(t *testing.T) {
	for _, c := range rightArenas() {
		for root := -1; root < len(c.arena.Knots); root++ {
			if !isTreeByRule(c.arena, root) {
				continue
			}
			for sector := range 16 {
				for _, n := range []int{0, 5, math.MaxInt} {
					wantPutKeepsOthers(t, c.arena, root, sector, n)
				}
				want, wantRoot := putByRule(c.arena, root, sector, 6)
				wantPut(t, c.name, c.arena, root, sector, 6, want, wantRoot)
			}
		}
	}
}

func TestPutsThatAreRefused(t *testing.T) {
	for _, c := range rightArenas() {
		for _, root := range noTrees(c.arena) {
			for _, sector := range []int{-1, 0, 7, 15, 16} {
				refusesToPut(t, c.name+", a root that is none", c.arena, root, sector, 5)
			}
		}
		for root := -1; root < len(c.arena.Knots); root++ {
			for _, sector := range noSectors() {
				refusesToPut(t, c.name+", a sector that is none", c.arena, root, sector, 5)
			}
			for _, n := range []int{-1, -2, -impl.MaxNumber, -1 << 32, math.MinInt} {
				refusesToPut(t, c.name+", a number below 0", c.arena, root, 3, n)
			}
		}
	}
}

func TestPutsIntoArenasThatAreNotRight(t *testing.T) {
	for _, c := range wrongArenas() {
		for _, root := range placesBeside(len(c.arena.Knots)) {
			for _, sector := range []int{-1, 0, 15, 16} {
				refusesToPut(t, c.name, c.arena, root, sector, 5)
			}
		}
	}
}

func TestSharedByOfTrees(t *testing.T) {
	woven := wovenArena()
	for _, c := range []struct {
		why        string
		r, s, want int
	}{
		{"itself, of two leaves", 2, 2, 3},
		{"itself, of two leaves, one of them twice", 4, 4, 3},
		{"itself, without leaves", 6, 6, 1},
		{"itself, of one leaf", 7, 7, 2},
		{"alike, but another root", 2, 5, 2},
		{"one leaf, at other Kids, twice", 2, 4, 1},
		{"one leaf, at another Kid", 2, 7, 1},
		{"other leaves", 4, 7, 0},
		{"one without leaves", 2, 6, 0},
		{"the tree without anything", 2, -1, 0},
		{"that twice", -1, -1, 0},
	} {
		wantShared(t, c.why, woven, c.r, c.s, c.want)
	}
	wantShared(t, "a full tree and itself", fullArena(), 4, 4, 5)
	one := arenaOf(leafKnot(1, 2, 3, 4), rootKnot(0, 0, 0, 0), rootKnot(-1, 0, 0, -1))
	wantShared(t, "one leaf four times", one, 1, 1, 2)
	wantShared(t, "one leaf four times and twice", one, 1, 2, 1)
	alike := arenaOf(leafKnot(1, 2, 3, 4), leafKnot(1, 2, 3, 4), rootKnot(0, -1, -1, -1), rootKnot(1, -1, -1, -1))
	wantShared(t, "leaves that are alike, at two places", alike, 2, 3, 0)
	roots := arenaOf(rootKnot(-1, -1, -1, -1), rootKnot(-1, -1, -1, -1))
	wantShared(t, "roots that are alike, at two places", roots, 0, 1, 0)
}

// What is put into a tree leaves it all leaves but one.
func TestSharedByOfATreeAndWhatWasPutIntoIt(t *testing.T) {
	for sector := range 16 {
		after, top := impl.PutAt(fullArena(), 4, sector, 7)
		wantShared(t, "a full tree", after, 4, top, 3)
		again, last := impl.PutAt(after, top, sector, 8)
		wantShared(t, "put again into the same leaf", again, 4, last, 3)
		other, last := impl.PutAt(after, top, (sector+4)%16, 8)
		wantShared(t, "put into another leaf", other, 4, last, 2)
		wantShared(t, "put into another leaf, from one to the next", other, top, last, 3)
		first, root := impl.PutAt(impl.Arena{}, -1, sector, 7)
		wantShared(t, "the tree without anything", first, -1, root, 0)
		second, next := impl.PutAt(first, -1, sector, 7)
		wantShared(t, "made twice the same", second, root, next, 0)
		third, next := impl.PutAt(second, next, (sector+8)%16, 1)
		wantShared(t, "put where nothing was", third, 3, next, 1)
	}
}

func TestSharedByOfTreesThatAreNone(t *testing.T) {
	for _, c := range rightArenas() {
		for _, none := range noTrees(c.arena) {
			for root := -1; root < len(c.arena.Knots); root++ {
				wantShared(t, c.name, c.arena, none, root, 0)
			}
			wantShared(t, c.name, c.arena, none, none, 0)
		}
		for root := -1; root < len(c.arena.Knots); root++ {
			wantShared(t, c.name, c.arena, -1, root, 0)
		}
	}
	for _, c := range wrongArenas() {
		for r := -1; r <= len(c.arena.Knots); r++ {
			for s := -1; s <= r; s++ {
				wantShared(t, c.name, c.arena, r, s, 0)
			}
		}
	}
}

func TestSweepForNoRoots(t *testing.T) {
	for _, c := range rightArenas() {
		wantSwept(t, c.name, c.arena, nil, impl.Arena{}, nil)
		wantSwept(t, c.name, c.arena, []int{}, impl.Arena{}, nil)
		wantSwept(t, c.name, c.arena, []int{-1}, impl.Arena{}, []int{-1})
		wantSwept(t, c.name, c.arena, []int{-1, -1, -1}, impl.Arena{}, []int{-1, -1, -1})
	}
}

func TestSweepForOneRootAndForSeveral(t *testing.T) {
	woven := wovenArena()
	a, b, nothing := leafKnot(11, 12, 13, 14), leafKnot(21, 0, 0, 24), leafKnot(0, 0, 0, 0)
	two := arenaOf(a, b, rootKnot(0, -1, 1, -1))
	wantSwept(t, "two leaves", woven, []int{2}, two, []int{2})
	wantSwept(t, "alike, but another root", woven, []int{5}, two, []int{2})
	wantSwept(t, "one leaf of noughts, one twice", woven, []int{4}, arenaOf(a, nothing, rootKnot(1, 0, -1, 0)), []int{2})
	wantSwept(t, "no leaves", woven, []int{6}, arenaOf(rootKnot(-1, -1, -1, -1)), []int{0})
	wantSwept(t, "one leaf", woven, []int{7}, arenaOf(b, rootKnot(-1, -1, -1, 0)), []int{1})
	wantSwept(t, "the same one twice", woven, []int{7, 7}, arenaOf(b, rootKnot(-1, -1, -1, 0)), []int{1, 1})
	wantSwept(t, "-1 among them", woven, []int{-1, 7, -1, 7}, arenaOf(b, rootKnot(-1, -1, -1, 0)), []int{-1, 1, -1, 1})
	both := arenaOf(b, rootKnot(-1, -1, -1, -1), rootKnot(-1, -1, -1, 0))
	wantSwept(t, "two", woven, []int{6, 7}, both, []int{1, 2})
	wantSwept(t, "two, in another order", woven, []int{7, 6}, both, []int{2, 1})
	wantSwept(t, "two that share", woven, []int{7, -1, 2, 7}, arenaOf(a, b, rootKnot(0, -1, 1, -1), rootKnot(-1, -1, -1, 1)), []int{3, -1, 2, 3})
	wantSwept(t, "alike, both", woven, []int{5, 2}, arenaOf(a, b, rootKnot(0, -1, 1, -1), rootKnot(0, -1, 1, -1)), []int{3, 2})
	wantSwept(t, "all", woven, []int{7, 6, 5, 4, 2}, woven, []int{7, 6, 5, 4, 2})
	wantSwept(t, "a full tree", fullArena(), []int{4}, fullArena(), []int{4})
}

// Knots that are alike stay apart, and leaves that no tree has go.
func TestSweepOfKnotsThatAreAlike(t *testing.T) {
	leaf := leafKnot(1, 2, 3, 4)
	a := arenaOf(leaf, leaf, leaf, rootKnot(2, 0, -1, -1), leaf, rootKnot(4, -1, -1, 4))
	wantSwept(t, "all", a, []int{3, 5}, arenaOf(leaf, leaf, rootKnot(1, 0, -1, -1), leaf, rootKnot(3, -1, -1, 3)), []int{2, 4})
	wantSwept(t, "the first", a, []int{3}, arenaOf(leaf, leaf, rootKnot(1, 0, -1, -1)), []int{2})
	wantSwept(t, "the last", a, []int{5}, arenaOf(leaf, rootKnot(0, -1, -1, 0)), []int{1})
}

// wantSweptRight asks for what the promise says, whatever the knots are: each
// tree is as it was, nothing is left that no tree has, and nothing more goes.
func wantSweptRight(t *testing.T, a impl.Arena, roots []int) {
	t.Helper()
	swept, places := impl.SweepArena(a, roots)
	if !impl.ArenaOk(swept) || len(places) != len(roots) {
		t.Fatalf("SweepArena of %v for %v is %v, %v", a, roots, swept, places)
	}
	for i := range roots {
		wantAll(t, "swept", swept, places[i], impl.AllAt(a, roots[i]))
		for j := range roots {
			wantShared(t, "swept", swept, places[i], places[j], impl.SharedBy(a, roots[i], roots[j]))
		}
	}
	wantSwept(t, "swept again", swept, places, swept, places)
	for place := range swept.Knots {
		if !slices.ContainsFunc(places, func(root int) bool { return slices.Contains(knotsByRule(swept, root), place) }) {
			t.Errorf("knot %d of %v is in none of the trees %v", place, swept, places)
		}
	}
	wantSweptByRule(t, "by rule", a, roots...)
}

func TestSweepForAllSetsOfRoots(t *testing.T) {
	for _, c := range rightArenas() {
		roots := []int{-1}
		for place := range c.arena.Knots {
			if isTreeByRule(c.arena, place) {
				roots = append(roots, place)
			}
		}
		for set := range 1 << len(roots) {
			var some []int
			for i, root := range roots {
				if set>>i&1 == 1 {
					some = append(some, root)
				}
			}
			wantSweptRight(t, c.arena, some)
			slices.Reverse(some)
			wantSweptRight(t, c.arena, some)
			wantSweptRight(t, c.arena, slices.Concat(some, some))
		}
	}
}

func TestSweepsThatAreRefused(t *testing.T) {
	for _, c := range rightArenas() {
		for _, none := range noTrees(c.arena) {
			refusesToSweep(t, c.name, c.arena, none)
			refusesToSweep(t, c.name+", twice", c.arena, none, none)
			refusesToSweep(t, c.name+", behind -1", c.arena, -1, none)
			refusesToSweep(t, c.name+", ahead of -1", c.arena, none, -1)
			for root := range c.arena.Knots {
				refusesToSweep(t, c.name+", among others", c.arena, root, none, root)
				refusesToSweep(t, c.name+", behind another", c.arena, root, none)
				refusesToSweep(t, c.name+", ahead of another", c.arena, none, root)
			}
		}
	}
}

func TestSweepOfArenasThatAreNotRight(t *testing.T) {
	for _, c := range wrongArenas() {
		refusesToSweep(t, c.name, c.arena)
		refusesToSweep(t, c.name, c.arena, -1)
		for _, root := range placesBeside(len(c.arena.Knots)) {
			refusesToSweep(t, c.name, c.arena, root)
			refusesToSweep(t, c.name, c.arena, -1, root, root)
		}
	}
}

// wantTreesByRule holds all functions against the document's rule, at each root
// and beside them.
func wantTreesByRule(t *testing.T, a impl.Arena) {
	t.Helper()
	if impl.ArenaOk(a) != arenaRightByRule(a) {
		t.Fatalf("ArenaOk of %v is %v", a, impl.ArenaOk(a))
	}
	for r := -2; r <= len(a.Knots); r++ {
		if got, want := impl.AllAt(a, r), allByRule(a, r); !slices.Equal(got, want) {
			t.Fatalf("AllAt(%d) of %v is %v, not %v", r, a, got, want)
		}
		for _, sector := range []int{-1, 0, 6, 15, 16} {
			got, root := impl.PutAt(a, r, sector, 5)
			if want, wantRoot := putByRule(a, r, sector, 5); !sameArena(got, want) || root != wantRoot {
				t.Fatalf("PutAt(%d, %d, 5) of %v is %v, %d, not %v, %d", r, sector, a, got, root, want, wantRoot)
			}
		}
		for s := -2; s <= len(a.Knots); s++ {
			if got, want := impl.SharedBy(a, r, s), sharedByRule(a, r, s); got != want {
				t.Fatalf("SharedBy(%d, %d) of %v is %d, not %d", r, s, a, got, want)
			}
			got, roots := impl.SweepArena(a, []int{r, s})
			if want, wantRoots := sweptByRule(a, []int{r, s}); !sameArena(got, want) || !slices.Equal(roots, wantRoots) {
				t.Fatalf("SweepArena of %v for %d, %d is %v, %v, not %v, %v", a, r, s, got, roots, want, wantRoots)
			}
		}
	}
}

// All arenas of up to 4 of these knots, right ones and others.
func TestAllSmallArenasByRule(t *testing.T) {
	knots := []impl.Knot{
		leafKnot(1, 2, 3, 4), leafKnot(0, 0, 0, 0), leafKnot(1, -1, 0, 0), leafKnot(1, 2, 3),
		rootKnot(-1, -1, -1, -1), rootKnot(0, -1, -1, -1), rootKnot(0, 1, -1, 0), rootKnot(-1, -1, 1, 2),
		rootKnot(-1, -2, -1, -1), rootKnot(-1, -1, -1, -1, -1),
	}
	right := 0
	var try func(list []impl.Knot)
	try = func(list []impl.Knot) {
		a := impl.Arena{Knots: list}
		wantTreesByRule(t, a)
		if arenaRightByRule(a) {
			right++
		}
		if len(list) == 4 || len(list) == 3 && !arenaRightByRule(a) {
			return
		}
		for _, k := range knots {
			try(append(slices.Clone(list), k))
		}
	}
	try(nil)
	if right < 200 {
		t.Errorf("only %d are right", right)
	}
}

func TestDrawnArenasByRule(t *testing.T) {
	draws := mixedText(30000)
	right := 0
	for size := 0; len(draws) > 5*size; size = (size + 1) % 9 {
		var a impl.Arena
		for ; len(a.Knots) < size; draws = draws[5:] {
			k := impl.Knot{Leaf: draws[0] < 130}
			for _, draw := range []byte(draws[1:5]) {
				kid := int(draw) / 2 % 40
				if !k.Leaf {
					kid = kid%(len(a.Knots)+1) - 1
				}
				if !k.Leaf && kid >= 0 && !a.Knots[kid].Leaf && draw < 250 {
					kid = -1
				}
				k.Kids = append(k.Kids, kid)
			}
			a.Knots = append(a.Knots, k)
		}
		if arenaRightByRule(a) {
			right++
		}
		wantTreesByRule(t, a)
	}
	if right < 500 {
		t.Errorf("only %d are right", right)
	}
}

// A tree as it should be: its root, and what is in its sectors.
type plainTree struct {
	root    int
	numbers [16]int
}

func wantPlainTrees(t *testing.T, a impl.Arena, trees []plainTree) {
	t.Helper()
	for _, tree := range trees {
		if got := impl.AllAt(a, tree.root); !slices.Equal(got, tree.numbers[:]) {
			t.Fatalf("the tree %d of %v has %v, not %v", tree.root, a, got, tree.numbers)
		}
	}
}

// A drawn life: numbers are put into any of the trees that there are; now and
// then most trees go, and the arena is swept.
func TestADrawnLifeOfTrees(t *testing.T) {
	var a impl.Arena
	trees := []plainTree{{root: -1}}
	for draws := mixedText(9000); len(draws) >= 3; draws = draws[3:] {
		of, sector, n := int(draws[0])%len(trees), int(draws[1])%16, int(draws[2])/3
		tree := trees[of]
		tree.numbers[sector] = n
		a, tree.root = impl.PutAt(a, tree.root, sector, n)
		trees = append(trees, tree)
		wantPlainTrees(t, a, trees)
		if len(trees) < 40 {
			continue
		}
		trees = trees[30+int(draws[0])%8:]
		var roots []int
		for _, tree := range trees {
			roots = append(roots, tree.root)
		}
		var size int
		a, roots = impl.SweepArena(a, roots)
		for i := range trees {
			trees[i].root = roots[i]
			size += len(knotsByRule(a, roots[i]))
		}
		if len(a.Knots) > size {
			t.Fatalf("%d knots are left, of %d in all trees", len(a.Knots), size)
		}
		wantPlainTrees(t, a, trees)
	}
}

// Lists of Kids that stand in one memory are apart in the answer, also when it is
// as it is.
func TestArenasWhoseListsShare(t *testing.T) {
	kids := []int{0, 0, 0, 0, 0}
	shared := arenaOf(leafKnot(kids[:4]...), leafKnot(kids[1:]...), rootKnot(kids[:4]...), rootKnot(kids[:4]...))
	wrong := arenaOf(append(slices.Clone(shared.Knots), leafKnot(kids...))...)
	for _, a := range []impl.Arena{shared, wrong} {
		for _, root := range []int{-1, 0, 2, 3, 9} {
			put, _ := impl.PutAt(a, root, 5, 7)
			swept, roots := impl.SweepArena(a, []int{root, 2})
			wantOwnLists(t, put, kids)
			wantOwnLists(t, swept, kids, roots)
		}
	}
	if !slices.Equal(kids, []int{0, 0, 0, 0, 0}) {
		t.Errorf("what was handed in is %v", kids)
	}
}

func wantOwnLists(t *testing.T, a impl.Arena, more ...[]int) {
	t.Helper()
	lists := numberLists(a, more...)
	for i, one := range lists {
		for _, other := range lists[:i] {
			if sharesList(one, other) {
				t.Errorf("two lists stand in one memory: %v and %v of %v", one, other, a)
			}
		}
	}
}

// What is done to one answer is not seen in the next one.
func TestAnswersOfTreesAreTheirOwn(t *testing.T) {
	woven := wovenArena()
	roots := []int{7, 2}
	first, _ := impl.PutAt(woven, 2, 0, 5)
	swept, places := impl.SweepArena(woven, roots)
	all := impl.AllAt(woven, 2)
	for _, list := range append(append(numberLists(first), numberLists(swept)...), places, all) {
		for i := range list {
			list[i] = -9
		}
	}
	for _, a := range []impl.Arena{first, swept} {
		for i := range a.Knots {
			a.Knots[i] = impl.Knot{}
		}
	}
	if !sameArena(woven, wovenArena()) || !slices.Equal(roots, []int{7, 2}) {
		t.Errorf("what was handed in is %v, %v", woven, roots)
	}
	wantPut(t, "asked again", woven, 2, 0, 5, arenaOf(append(wovenArena().Knots, leafKnot(5, 12, 13, 14), rootKnot(8, -1, 1, -1))...), 9)
	wantSweptByRule(t, "asked again", woven, 7, 2)
	wantAll(t, "asked again", woven, 2, allByRule(woven, 2))
}

// An arena may be far greater than a volume needs.
func TestGreatArenas(t *testing.T) {
	var a impl.Arena
	for i := range 3000 {
		a.Knots = append(a.Knots, leafKnot(i, i+1, i+2, i+3), rootKnot(2*i, -1, i/2*2, -1))
	}
	last := len(a.Knots) - 1
	wantArenaOk(t, "great", a, true)
	if got := impl.GetAt(a, last, 2); got != 3001 {
		t.Errorf("the last tree has %d", got)
	}
	after, root := impl.PutAt(a, last, 1, 0)
	if root != last+2 || len(after.Knots) != last+3 || impl.GetAt(after, root, 1) != 0 || impl.GetAt(after, root, 9) != 1500 {
		t.Errorf("PutAt gives the root %d", root)
	}
	swept, places := impl.SweepArena(after, []int{root, last})
	if len(swept.Knots) != 5 || !slices.Equal(places, []int{4, 2}) || impl.SharedBy(swept, 4, 2) != 1 {
		t.Errorf("swept: %v, %v", swept, places)
	}
}
