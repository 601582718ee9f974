package tests

import (
	"fmt"
	"math"
	"slices"
	"testing"

	"loop.example/g00195/impl"
)

// Promise 12: a store stays right; its records make it again.

func storeOf(next int, arena impl.Arena, vols ...impl.Vol) impl.Store {
	return impl.Store{Vols: vols, Arena: arena, Next: next}
}

func volOf(id, root int) impl.Vol { return impl.Vol{Id: id, Root: root} }

// alike asks for the same volumes at the same roots, and the same knots.
func alike(a, b impl.Store) bool {
	return slices.Equal(a.Vols, b.Vols) && sameArena(a.Arena, b.Arena) && a.Next == b.Next
}

// twinStore is a store like s in memory of its own, with room behind each list.
func twinStore(s impl.Store) impl.Store {
	vols := append(make([]impl.Vol, 0, len(s.Vols)+2), s.Vols...)
	vols = append(vols, volOf(-77, 77), volOf(77, -77))[:len(vols)]
	return impl.Store{Vols: vols, Arena: twinArena(s.Arena), Next: s.Next}
}

// storeWithSpare is s together with what stands in the room behind its lists.
func storeWithSpare(s impl.Store) impl.Store {
	return impl.Store{Vols: s.Vols[:cap(s.Vols)], Arena: arenaWithSpare(s.Arena), Next: s.Next}
}

func sharesStore(a, b impl.Store) bool {
	if sharesList(a.Vols, b.Vols) || sharesList(a.Arena.Knots, b.Arena.Knots) {
		return true
	}
	for _, one := range numberLists(a.Arena) {
		for _, other := range numberLists(b.Arena) {
			if sharesList(one, other) {
				return true
			}
		}
	}
	return false
}

// keepsStore hands a store like s to a call and asks that it, and the room behind
// its lists, is as it was, and that a store that is answered is new.
func keepsStore(t *testing.T, what string, s impl.Store, call func(impl.Store) impl.Store) {
	t.Helper()
	given, like := twinStore(s), twinStore(s)
	got := call(given)
	if !alike(storeWithSpare(given), storeWithSpare(like)) {
		t.Errorf("%s has written into the store: %v, was %v", what, storeWithSpare(given), storeWithSpare(like))
	}
	if sharesStore(got, given) {
		t.Errorf("%s answers memory that was handed in", what)
	}
	wantOwnLists(t, got.Arena)
}

func rootsOf(s impl.Store) []int {
	var out []int
	for _, v := range s.Vols {
		out = append(out, v.Root)
	}
	return out
}

func volPlace(s impl.Store, id int) int {
	return slices.IndexFunc(s.Vols, func(v impl.Vol) bool { return v.Id == id })
}

func volsRightByRule(s impl.Store) bool {
	last := 0
	for _, v := range s.Vols {
		if v.Id <= last || v.Id > 9 || !isTreeByRule(s.Arena, v.Root) {
			return false
		}
		last = v.Id
	}
	return len(s.Vols) <= 3
}

func storeRightByRule(s impl.Store) bool {
	if !volsRightByRule(s) || !arenaRightByRule(s.Arena) || s.Next < 1 || s.Next > 1000000000 {
		return false
	}
	for place, k := range s.Arena.Knots {
		isNeeded := slices.ContainsFunc(s.Vols, func(v impl.Vol) bool { return slices.Contains(knotsByRule(s.Arena, v.Root), place) })
		if !isNeeded || k.Leaf && slices.Max(k.Kids) >= s.Next {
			return false
		}
	}
	return true
}

// changeByRule is what a right record makes of a right store ahead of the sweep.
func changeByRule(s impl.Store, r impl.Rec) (impl.Store, bool) {
	at, of := volPlace(s, r.Vol), volPlace(s, r.Arg)
	switch {
	case r.Kind == 1:
		s.Vols, s.Next = nil, max(r.Arg, 1)
	case r.Kind == 2 && at < 0 && len(s.Vols) < 3 && (r.Arg == 0 || of >= 0):
		root := -1
		if r.Arg != 0 {
			root = s.Vols[of].Root
		}
		s.Vols = append(slices.Clone(s.Vols), volOf(r.Vol, root))
		slices.SortFunc(s.Vols, func(a, b impl.Vol) int { return a.Id - b.Id })
	case r.Kind == 3 && at >= 0:
		s.Vols = slices.Concat(s.Vols[:at], s.Vols[at+1:])
	case r.Kind >= 4 && at >= 0 && r.Chunk < 1000000000:
		s.Vols = slices.Clone(s.Vols)
		s.Arena, s.Vols[at].Root = putByRule(s.Arena, s.Vols[at].Root, r.Arg, r.Chunk)
		s.Next = max(s.Next, r.Chunk+1)
	default:
		return s, false
	}
	return s, true
}

func enterByRule(s impl.Store, r impl.Rec) (impl.Store, bool) {
	if !storeRightByRule(s) || !recRightByRule(r) {
		return s, false
	}
	after, ok := changeByRule(s, r)
	if !ok {
		return s, false
	}
	var roots []int
	after.Arena, roots = sweptByRule(after.Arena, rootsOf(after))
	after.Vols = slices.Clone(after.Vols)
	for i := range after.Vols {
		after.Vols[i].Root = roots[i]
	}
	return after, true
}

func enterAllByRule(s impl.Store, list []impl.Rec) (impl.Store, bool) {
	after := s
	for _, r := range list {
		next, ok := enterByRule(after, r)
		if !ok {
			return s, false
		}
		after = next
	}
	return after, true
}

func chunksByRule(s impl.Store) []int {
	var out []int
	for _, v := range s.Vols {
		out = append(out, allByRule(s.Arena, v.Root)...)
	}
	return slices.DeleteFunc(out, func(n int) bool { return n == 0 })
}

func countOf(list []int, n int) int {
	count := 0
	for _, one := range list {
		if one == n {
			count++
		}
	}
	return count
}

func baseRecsByRule(s impl.Store) []impl.Rec {
	out := []impl.Rec{baseRec(s.Next)}
	for _, v := range s.Vols {
		out = append(out, volRec(v.Id, 0))
		for sector := range 16 {
			if n := getByRule(s.Arena, v.Root, sector); n != 0 {
				out = append(out, putRec(v.Id, sector, n))
			}
		}
	}
	return out
}

func wantStoreOk(t *testing.T, why string, s impl.Store, want bool) {
	t.Helper()
	keepsStore(t, "StoreOk", s, func(s impl.Store) impl.Store {
		if got := impl.StoreOk(s); got != want {
			t.Errorf("%s: StoreOk of %v is %v", why, s, got)
		}
		return impl.Store{}
	})
	if storeRightByRule(s) != want {
		t.Errorf("%s: by rule %v is not %v", why, s, want)
	}
}

func wantEntered(t *testing.T, why string, s impl.Store, r impl.Rec, want impl.Store, wantOk bool) {
	t.Helper()
	keepsStore(t, "Enter", s, func(s impl.Store) impl.Store {
		got, ok := impl.Enter(s, r)
		if !alike(got, want) || ok != wantOk {
			t.Errorf("%s: Enter of %v into %v\nis  %v, %v\nnot %v, %v", why, r, s, got, ok, want, wantOk)
		}
		if ok && !impl.StoreOk(got) {
			t.Errorf("%s: Enter of %v into %v is %v, which is not right", why, r, s, got)
		}
		return got
	})
}

func wantEnter(t *testing.T, why string, s impl.Store, r impl.Rec, want impl.Store) {
	t.Helper()
	wantEntered(t, why, s, r, want, true)
}

func refusesToEnter(t *testing.T, why string, s impl.Store, r impl.Rec) {
	t.Helper()
	wantEntered(t, why, s, r, s, false)
}

func wantEnterByRule(t *testing.T, why string, s impl.Store, r impl.Rec) {
	t.Helper()
	want, ok := enterByRule(s, r)
	wantEntered(t, why, s, r, want, ok)
}

func wantEnteredAll(t *testing.T, why string, s impl.Store, list []impl.Rec, want impl.Store, wantOk bool) {
	t.Helper()
	given := append(slices.Clone(list), putRec(7, 7, 7))
	keepsStore(t, "EnterAll", s, func(s impl.Store) impl.Store {
		got, ok := impl.EnterAll(s, given[:len(list)])
		if !alike(got, want) || ok != wantOk {
			t.Errorf("%s: EnterAll of %v into %v\nis  %v, %v\nnot %v, %v", why, list, s, got, ok, want, wantOk)
		}
		return got
	})
	if !slices.Equal(given, append(slices.Clone(list), putRec(7, 7, 7))) {
		t.Errorf("%s: EnterAll has written into the list: %v, was %v", why, given, list)
	}
}

func wantChunk(t *testing.T, why string, s impl.Store, vol, sector, want int) {
	t.Helper()
	keepsStore(t, "ChunkOf", s, func(s impl.Store) impl.Store {
		if got := impl.ChunkOf(s, vol, sector); got != want {
			t.Errorf("%s: ChunkOf(%d, %d) of %v is %d, not %d", why, vol, sector, s, got, want)
		}
		return impl.Store{}
	})
}

func wantRefs(t *testing.T, why string, s impl.Store, chunk, want int) {
	t.Helper()
	keepsStore(t, "RefsOf", s, func(s impl.Store) impl.Store {
		if got := impl.RefsOf(s, chunk); got != want {
			t.Errorf("%s: RefsOf(%d) of %v is %d, not %d", why, chunk, s, got, want)
		}
		return impl.Store{}
	})
}

func wantLive(t *testing.T, why string, s impl.Store, want ...int) {
	t.Helper()
	keepsStore(t, "LiveOf", s, func(s impl.Store) impl.Store {
		got := impl.LiveOf(s)
		if !slices.Equal(got, want) {
			t.Errorf("%s: LiveOf %v is %v, not %v", why, s, got, want)
		}
		return storeOf(0, arenaOf(leafKnot(got...)))
	})
}

func wantBaseRecs(t *testing.T, why string, s impl.Store, want ...impl.Rec) {
	t.Helper()
	keepsStore(t, "BaseRecs", s, func(s impl.Store) impl.Store {
		if got := impl.BaseRecs(s); !slices.Equal(got, want) {
			t.Errorf("%s: BaseRecs of %v are %v, not %v", why, s, got, want)
		}
		return impl.Store{}
	})
}

// wantSame asks both ways round.
func wantSame(t *testing.T, why string, a, b impl.Store, want bool) {
	t.Helper()
	keepsStore(t, "SameStore", a, func(a impl.Store) impl.Store {
		keepsStore(t, "SameStore", b, func(b impl.Store) impl.Store {
			got, turned := impl.SameStore(a, b), impl.SameStore(b, a)
			if got != want || turned != want {
				t.Errorf("%s: SameStore of %v and %v is %v, turned %v", why, a, b, got, turned)
			}
			return impl.Store{}
		})
		return impl.Store{}
	})
}

type namedStore struct {
	name  string
	store impl.Store
}

// fullStore has one volume, 4, with 101 to 116 in its sectors.
func fullStore() impl.Store { return storeOf(117, fullArena(), volOf(4, 4)) }

// wovenStore has three volumes: 2 and 5 have leaf 0, 2 and 8 leaf 1.
func wovenStore() impl.Store {
	arena := arenaOf(leafKnot(11, 12, 13, 14), leafKnot(21, 0, 0, 11), rootKnot(0, -1, 1, -1),
		leafKnot(0, 0, 12, 0), rootKnot(3, 0, -1, 0), rootKnot(-1, -1, -1, 1))
	return storeOf(30, arena, volOf(2, 2), volOf(5, 4), volOf(8, 5))
}

// twoStore has volume 3, with 7 in sector 5, and volume 6, without anything.
func twoStore() impl.Store {
	return storeOf(8, arenaOf(leafKnot(0, 7, 0, 0), rootKnot(-1, 0, -1, -1)), volOf(3, 1), volOf(6, -1))
}

func rightStores() []namedStore {
	const most = impl.MaxNumber
	leaf, root := leafKnot(0, 7, 0, 0), rootKnot(-1, 0, -1, -1)
	return []namedStore{
		{"nothing", storeOf(1, impl.Arena{})},
		{"nothing, with empty lists", storeOf(1, impl.Arena{Knots: []impl.Knot{}}, []impl.Vol{}...)},
		{"nothing, some chunks were used", storeOf(300, impl.Arena{})},
		{"nothing, all chunks were used", storeOf(most, impl.Arena{})},
		{"the first volume, without anything", storeOf(1, impl.Arena{}, volOf(1, -1))},
		{"the last volume, without anything", storeOf(5, impl.Arena{}, volOf(9, -1))},
		{"three volumes without anything", storeOf(1, impl.Arena{}, volOf(1, -1), volOf(5, -1), volOf(9, -1))},
		{"a root without leaves", storeOf(1, arenaOf(rootKnot(-1, -1, -1, -1)), volOf(7, 0))},
		{"a leaf of noughts", storeOf(1, arenaOf(leafKnot(0, 0, 0, 0), rootKnot(-1, -1, 0, -1)), volOf(1, 1))},
		{"one chunk", storeOf(8, arenaOf(leaf, root), volOf(2, 1))},
		{"one chunk, and Next far above it", storeOf(900, arenaOf(leaf, root), volOf(2, 1))},
		{"the greatest chunk", storeOf(most, arenaOf(leafKnot(0, 0, 0, most-1), rootKnot(-1, -1, -1, 0)), volOf(9, 1))},
		{"a full volume", fullStore()},
		{"a volume with something and one without", twoStore()},
		{"two volumes with one root", storeOf(8, arenaOf(leaf, root), volOf(1, 1), volOf(2, 1))},
		{"three volumes with one root", storeOf(8, arenaOf(leaf, root), volOf(1, 1), volOf(2, 1), volOf(9, 1))},
		{"two full volumes with one root", storeOf(117, fullArena(), volOf(3, 4), volOf(8, 4))},
		{"two volumes that are alike", storeOf(8, arenaOf(leaf, root, leaf, rootKnot(-1, 2, -1, -1)), volOf(1, 1), volOf(2, 3))},
		{"two volumes with one leaf", storeOf(8, arenaOf(leaf, root, rootKnot(0, 0, 0, 0)), volOf(4, 2), volOf(6, 1))},
		{"woven volumes", wovenStore()},
	}
}

// withVols is a store with other volumes and the same knots.
func withVols(s impl.Store, vols ...impl.Vol) impl.Store { return storeOf(s.Next, s.Arena, vols...) }

func withNext(s impl.Store, next int) impl.Store { return storeOf(next, s.Arena, s.Vols...) }

// wrongStores miss one thing each that chapter 12 wants.
func wrongStores() []namedStore {
	one := storeOf(8, arenaOf(leafKnot(0, 7, 0, 0), rootKnot(-1, 0, -1, -1)), volOf(2, 1))
	empty := storeOf(1, impl.Arena{})
	out := []namedStore{
		{"the zero value", impl.Store{}},
		{"four volumes", withVols(empty, volOf(1, -1), volOf(2, -1), volOf(3, -1), volOf(4, -1))},
		{"nine volumes", withVols(empty, volOf(1, -1), volOf(2, -1), volOf(3, -1), volOf(4, -1), volOf(5, -1), volOf(6, -1), volOf(7, -1), volOf(8, -1), volOf(9, -1))},
		{"four volumes with one root", withVols(one, volOf(1, 1), volOf(2, 1), volOf(3, 1), volOf(4, 1))},
		{"volume 0", withVols(empty, volOf(0, -1))},
		{"volume 0, with something", withVols(one, volOf(0, 1))},
		{"volume 10", withVols(empty, volOf(10, -1))},
		{"volume 10 behind another", withVols(one, volOf(9, 1), volOf(10, -1))},
		{"volume below 0", withVols(empty, volOf(-1, -1))},
		{"the least volume", withVols(empty, volOf(math.MinInt, -1))},
		{"the greatest volume", withVols(empty, volOf(math.MaxInt, -1))},
		{"volumes alike", withVols(empty, volOf(4, -1), volOf(4, -1))},
		{"volumes alike, one root", withVols(one, volOf(4, 1), volOf(4, 1))},
		{"the last volumes alike", withVols(one, volOf(4, 1), volOf(9, -1), volOf(9, -1))},
		{"volumes alike, another between", withVols(empty, volOf(4, -1), volOf(5, -1), volOf(4, -1))},
		{"volumes that descend", withVols(one, volOf(5, -1), volOf(4, 1))},
		{"the first volumes descend", withVols(one, volOf(5, 1), volOf(4, -1), volOf(9, -1))},
		{"the last volumes descend", withVols(one, volOf(1, 1), volOf(9, -1), volOf(8, -1))},
		{"a knot that no tree has", withVols(one, volOf(2, -1))},
		{"knots and no volume", withVols(one)},
		{"a leaf that no tree has", storeOf(8, arenaOf(append(one.Arena.Knots, leafKnot(0, 0, 0, 0))...), one.Vols...)},
		{"a leaf ahead that no tree has", storeOf(8, arenaOf(leafKnot(0, 7, 0, 0), leafKnot(0, 7, 0, 0), rootKnot(-1, 1, -1, -1)), volOf(2, 2))},
		{"a root that no volume has", storeOf(8, arenaOf(append(one.Arena.Knots, rootKnot(-1, 0, -1, -1))...), one.Vols...)},
		{"a root without leaves that no volume has", storeOf(8, arenaOf(append(one.Arena.Knots, rootKnot(-1, -1, -1, -1))...), one.Vols...)},
		{"a full volume, one knot more", storeOf(117, arenaOf(append(fullArena().Knots, leafKnot(0, 0, 0, 0))...), volOf(4, 4))},
	}
	for _, root := range noTrees(one.Arena) {
		out = append(out,
			namedStore{"a root that is none", withVols(one, volOf(2, 1), volOf(3, root))},
			namedStore{"a root that is none ahead", withVols(one, volOf(1, root), volOf(2, 1))},
			namedStore{"a root and no knots", withVols(empty, volOf(1, root))})
	}
	for _, next := range []int{math.MinInt, -1, 0, impl.MaxNumber + 1, math.MaxInt} {
		out = append(out,
			namedStore{"nothing, a Next that is none", withNext(empty, next)},
			namedStore{"one volume, a Next that is none", withNext(one, next)})
	}
	for _, next := range []int{1, 6, 7} {
		out = append(out, namedStore{"a chunk that was never used", withNext(one, next)})
	}
	return append(out, wrongStoresOfArenas()...)
}

// wrongStoresOfArenas have arenas that are not right, with and without a volume.
func wrongStoresOfArenas() []namedStore {
	var out []namedStore
	for _, c := range wrongArenas() {
		out = append(out, namedStore{c.name, storeOf(100, c.arena)}, namedStore{c.name, storeOf(100, c.arena, volOf(1, -1))})
		for place, k := range c.arena.Knots {
			if !k.Leaf {
				out = append(out, namedStore{c.name, storeOf(100, c.arena, volOf(1, -1), volOf(3, place))})
			}
		}
	}
	return out
}

// manyRecs are records of each Kind, right and wrong, of all volumes and sectors.
func manyRecs() []impl.Rec {
	const most = impl.MaxNumber
	out := recsOf(append(rightRecs(), wrongRecs()...))
	for vol := range 11 {
		for arg := -1; arg <= 16; arg++ {
			out = append(out, volRec(vol, arg), trimRec(vol, arg), putRec(vol, arg, 11))
		}
		for _, chunk := range []int{-1, 0, 1, 6, 7, 8, 12, 116, 117, 118, 299, 300, most - 2, most - 1, most, most + 1} {
			out = append(out, putRec(vol, 0, chunk), putRec(vol, 5, chunk), putRec(vol, 15, chunk))
		}
		out = append(out, dropRec(vol))
	}
	return out
}

func TestStoreNewHasNothing(t *testing.T) {
	s := impl.StoreNew()
	if !alike(s, storeOf(1, impl.Arena{})) || !impl.StoreOk(s) {
		t.Errorf("StoreNew is %v", s)
	}
	wantLive(t, "new", s)
	wantBaseRecs(t, "new", s, baseRec(1))
	for vol := -1; vol <= 10; vol++ {
		wantChunk(t, "new", s, vol, 0, 0)
	}
}

func TestStoresThatAreRight(t *testing.T) {
	for _, c := range rightStores() {
		wantStoreOk(t, c.name, c.store, true)
	}
}

func TestStoresThatAreNotRight(t *testing.T) {
	for _, c := range wrongStores() {
		wantStoreOk(t, c.name, c.store, false)
	}
}

// All lists of up to three volumes 0 to 10, and some of four.
func TestIdsAscendWithinTheirLimits(t *testing.T) {
	empty := impl.StoreNew()
	for a := range 11 {
		isFirst := a >= 1 && a <= 9
		wantStoreOk(t, "one", withVols(empty, volOf(a, -1)), isFirst)
		for b := range 11 {
			isSecond := isFirst && b > a && b <= 9
			wantStoreOk(t, "two", withVols(empty, volOf(a, -1), volOf(b, -1)), isSecond)
			for c := range 11 {
				wantStoreOk(t, "three", withVols(empty, volOf(a, -1), volOf(b, -1), volOf(c, -1)), isSecond && c > b && c <= 9)
				wantStoreOk(t, "four", withVols(empty, volOf(a, -1), volOf(b, -1), volOf(c, -1), volOf(9, -1)), false)
			}
		}
	}
}

func TestNextIsAboveAllNumbers(t *testing.T) {
	const most = impl.MaxNumber
	for sector := range 16 {
		for _, n := range []int{0, 1, 2, 127, 128, 5000, most - 2, most - 1, most, most + 1, math.MaxInt} {
			arena, root := putByRule(impl.Arena{}, -1, sector, n)
			for _, next := range []int{math.MinInt, -1, 0, 1, 2, n - 1, n, n + 1, n + 2, most - 1, most, most + 1, math.MaxInt} {
				want := next >= 1 && next <= most && next > n
				wantStoreOk(t, fmt.Sprintf("sector %d has %d, Next is %d", sector, n, next), storeOf(next, arena, volOf(4, root)), want)
			}
		}
	}
	woven := wovenStore()
	for place, k := range woven.Arena.Knots {
		for at := range k.Kids {
			if !k.Leaf {
				continue
			}
			for _, n := range []int{29, 30, 31} {
				s := twinStore(woven)
				s.Arena.Knots[place].Kids[at] = n
				wantStoreOk(t, fmt.Sprintf("leaf %d has %d at %d", place, n, at), s, n < 30)
			}
		}
	}
}

// Each volume has each root, those that are none as well.
func TestRootsOfVolumes(t *testing.T) {
	for _, c := range rightStores() {
		for at := range c.store.Vols {
			for _, root := range append(placesBeside(len(c.store.Arena.Knots)), -2, -3) {
				s := twinStore(c.store)
				s.Vols[at].Root = root
				wantStoreOk(t, c.name, s, storeRightByRule(s))
			}
		}
	}
	root := rootKnot(-1, -1, -1, -1)
	three := arenaOf(root, leafKnot(0, 0, 0, 0), rootKnot(1, -1, -1, -1), root)
	wantStoreOk(t, "in order", storeOf(1, three, volOf(1, 0), volOf(2, 2), volOf(3, 3)), true)
	wantStoreOk(t, "in another order", storeOf(1, three, volOf(1, 3), volOf(2, 0), volOf(3, 2)), true)
	wantStoreOk(t, "the first is missing", storeOf(1, three, volOf(1, 3), volOf(2, 3), volOf(3, 2)), false)
	wantStoreOk(t, "the last is missing", storeOf(1, three, volOf(1, 0), volOf(2, 0), volOf(3, 2)), false)
	wantStoreOk(t, "one with a leaf is missing", storeOf(1, three, volOf(1, 0), volOf(2, 3), volOf(3, -1)), false)
	wantStoreOk(t, "a leaf", storeOf(1, three, volOf(1, 0), volOf(2, 1), volOf(3, 3)), false)
}

func TestEnterABase(t *testing.T) {
	for _, c := range rightStores() {
		wantEnter(t, c.name, c.store, baseRec(0), storeOf(1, impl.Arena{}))
		for _, next := range []int{1, 2, 7, 300, impl.MaxNumber - 1, impl.MaxNumber} {
			wantEnter(t, c.name, c.store, baseRec(next), storeOf(next, impl.Arena{}))
		}
		for _, next := range []int{-1, impl.MaxNumber + 1, math.MinInt, math.MaxInt} {
			refusesToEnter(t, c.name, c.store, baseRec(next))
		}
	}
}

func TestEnterAVolumeOfNone(t *testing.T) {
	empty, two := impl.StoreNew(), twoStore()
	for id := 1; id <= 9; id++ {
		wantEnter(t, "the first one", empty, volRec(id, 0), withVols(empty, volOf(id, -1)))
	}
	wantEnter(t, "ahead of all", two, volRec(1, 0), withVols(two, volOf(1, -1), volOf(3, 1), volOf(6, -1)))
	wantEnter(t, "right ahead of all", two, volRec(2, 0), withVols(two, volOf(2, -1), volOf(3, 1), volOf(6, -1)))
	wantEnter(t, "between", two, volRec(4, 0), withVols(two, volOf(3, 1), volOf(4, -1), volOf(6, -1)))
	wantEnter(t, "right behind all", two, volRec(7, 0), withVols(two, volOf(3, 1), volOf(6, -1), volOf(7, -1)))
	wantEnter(t, "behind all", two, volRec(9, 0), withVols(two, volOf(3, 1), volOf(6, -1), volOf(9, -1)))
}

func TestEnterAVolumeOfAVolume(t *testing.T) {
	two := twoStore()
	wantEnter(t, "of one with something", two, volRec(1, 3), withVols(two, volOf(1, 1), volOf(3, 1), volOf(6, -1)))
	wantEnter(t, "between, of the one ahead", two, volRec(5, 3), withVols(two, volOf(3, 1), volOf(5, 1), volOf(6, -1)))
	wantEnter(t, "behind, of the first", two, volRec(9, 3), withVols(two, volOf(3, 1), volOf(6, -1), volOf(9, 1)))
	wantEnter(t, "of one without anything", two, volRec(4, 6), withVols(two, volOf(3, 1), volOf(4, -1), volOf(6, -1)))
	full := fullStore()
	wantEnter(t, "of a full one", full, volRec(2, 4), withVols(full, volOf(2, 4), volOf(4, 4)))
	again, _ := impl.Enter(full, volRec(2, 4))
	wantEnter(t, "of one that is of another", again, volRec(7, 2), withVols(full, volOf(2, 4), volOf(4, 4), volOf(7, 4)))
}

func TestVolumesThatAreRefused(t *testing.T) {
	two, empty := twoStore(), impl.StoreNew()
	for _, of := range []int{0, 3, 6, 1, 9} {
		refusesToEnter(t, "an Id that is there", two, volRec(3, of))
		refusesToEnter(t, "another Id that is there", two, volRec(6, of))
	}
	for _, of := range []int{1, 2, 4, 5, 7, 8, 9} {
		refusesToEnter(t, "an Arg that is none", two, volRec(1, of))
		refusesToEnter(t, "no volume at all", empty, volRec(3, of))
	}
	for id := 1; id <= 9; id++ {
		refusesToEnter(t, "of itself", empty, volRec(id, id))
		refusesToEnter(t, "of itself, beside others", two, volRec(id, id))
		for of := range 10 {
			refusesToEnter(t, "MaxVols are there", wovenStore(), volRec(id, of))
		}
	}
	refusesToEnter(t, "volume 0", two, volRec(0, 0))
	refusesToEnter(t, "volume 10", two, volRec(10, 0))
	refusesToEnter(t, "of volume 10", two, volRec(1, 10))
	refusesToEnter(t, "of a volume below 0", two, volRec(1, -1))
}

func TestEnterADrop(t *testing.T) {
	two, woven := twoStore(), wovenStore()
	wantEnter(t, "one without anything", two, dropRec(6), withVols(two, volOf(3, 1)))
	wantEnter(t, "one with something", two, dropRec(3), storeOf(8, impl.Arena{}, volOf(6, -1)))
	wantEnter(t, "the only one", fullStore(), dropRec(4), storeOf(117, impl.Arena{}))
	a, b, c := leafKnot(11, 12, 13, 14), leafKnot(21, 0, 0, 11), leafKnot(0, 0, 12, 0)
	wantEnter(t, "the first of three that share", woven, dropRec(2),
		storeOf(30, arenaOf(a, b, c, rootKnot(2, 0, -1, 0), rootKnot(-1, -1, -1, 1)), volOf(5, 3), volOf(8, 4)))
	wantEnter(t, "the second", woven, dropRec(5),
		storeOf(30, arenaOf(a, b, rootKnot(0, -1, 1, -1), rootKnot(-1, -1, -1, 1)), volOf(2, 2), volOf(8, 3)))
	wantEnter(t, "the last", woven, dropRec(8),
		storeOf(30, arenaOf(a, b, rootKnot(0, -1, 1, -1), c, rootKnot(3, 0, -1, 0)), volOf(2, 2), volOf(5, 4)))
	same := storeOf(117, fullArena(), volOf(3, 4), volOf(8, 4))
	wantEnter(t, "one of two with one root", same, dropRec(3), withVols(same, volOf(8, 4)))
	wantEnter(t, "the other one", same, dropRec(8), withVols(same, volOf(3, 4)))
	for _, c := range rightStores() {
		for id := range 11 {
			if volPlace(c.store, id) < 0 {
				refusesToEnter(t, c.name, c.store, dropRec(id))
			}
		}
	}
}

func TestEnterAPut(t *testing.T) {
	two, full := twoStore(), fullStore()
	wantEnter(t, "where nothing was, into the same leaf", two, putRec(3, 6, 7),
		storeOf(8, arenaOf(leafKnot(0, 7, 7, 0), rootKnot(-1, 0, -1, -1)), volOf(3, 1), volOf(6, -1)))
	wantEnter(t, "over another", two, putRec(3, 5, 4),
		storeOf(8, arenaOf(leafKnot(0, 4, 0, 0), rootKnot(-1, 0, -1, -1)), volOf(3, 1), volOf(6, -1)))
	wantEnter(t, "the same again", two, putRec(3, 5, 7), two)
	wantEnter(t, "into another leaf", two, putRec(3, 15, 8),
		storeOf(9, arenaOf(leafKnot(0, 7, 0, 0), leafKnot(0, 0, 0, 8), rootKnot(-1, 0, -1, 1)), volOf(3, 2), volOf(6, -1)))
	wantEnter(t, "into a volume without anything", two, putRec(6, 0, 3),
		storeOf(8, arenaOf(leafKnot(0, 7, 0, 0), rootKnot(-1, 0, -1, -1), leafKnot(3, 0, 0, 0), rootKnot(2, -1, -1, -1)), volOf(3, 1), volOf(6, 3)))
	wantEnter(t, "into a full one", full, putRec(4, 4, 1),
		storeOf(117, arenaOf(full.Arena.Knots[0], full.Arena.Knots[2], full.Arena.Knots[3], leafKnot(1, 106, 107, 108), rootKnot(0, 3, 1, 2)), volOf(4, 4)))
}

func TestNextStaysAboveWhatIsPut(t *testing.T) {
	const most = impl.MaxNumber
	for _, c := range rightStores() {
		for _, v := range c.store.Vols {
			for sector := range 16 {
				for _, chunk := range []int{1, 2, c.store.Next - 1, c.store.Next, c.store.Next + 1, c.store.Next + 100, most - 2, most - 1} {
					if chunk < 1 || chunk >= most {
						continue
					}
					after, ok := impl.Enter(c.store, putRec(v.Id, sector, chunk))
					if !ok || after.Next != max(c.store.Next, chunk+1) || impl.ChunkOf(after, v.Id, sector) != chunk {
						t.Errorf("%s: Next was %d; %d is put: %v, %v", c.name, c.store.Next, chunk, after, ok)
					}
				}
				refusesToEnter(t, c.name+", MaxNumber", c.store, putRec(v.Id, sector, most))
				refusesToEnter(t, c.name+", above MaxNumber", c.store, putRec(v.Id, sector, most+1))
				refusesToEnter(t, c.name+", no chunk", c.store, putRec(v.Id, sector, 0))
			}
		}
	}
}

func TestEnterATrim(t *testing.T) {
	two, full := twoStore(), fullStore()
	wantEnter(t, "the only chunk", two, trimRec(3, 5),
		storeOf(8, arenaOf(leafKnot(0, 0, 0, 0), rootKnot(-1, 0, -1, -1)), volOf(3, 1), volOf(6, -1)))
	wantEnter(t, "beside a chunk", two, trimRec(3, 4), two)
	wantEnter(t, "where there is no leaf", two, trimRec(3, 0),
		storeOf(8, arenaOf(leafKnot(0, 7, 0, 0), leafKnot(0, 0, 0, 0), rootKnot(1, 0, -1, -1)), volOf(3, 2), volOf(6, -1)))
	wantEnter(t, "a volume without anything", two, trimRec(6, 15),
		storeOf(8, arenaOf(leafKnot(0, 7, 0, 0), rootKnot(-1, 0, -1, -1), leafKnot(0, 0, 0, 0), rootKnot(-1, -1, -1, 2)), volOf(3, 1), volOf(6, 3)))
	wantEnter(t, "the last of a full one", full, trimRec(4, 15),
		storeOf(117, arenaOf(full.Arena.Knots[0], full.Arena.Knots[1], full.Arena.Knots[2], leafKnot(113, 114, 115, 0), rootKnot(0, 1, 2, 3)), volOf(4, 4)))
}

func TestPutsAndTrimsOfVolumesThatAreNone(t *testing.T) {
	for _, c := range rightStores() {
		for _, id := range []int{math.MinInt, -1, 0, 1, 2, 3, 4, 5, 6, 7, 8, 9, 10, math.MaxInt} {
			if volPlace(c.store, id) >= 0 {
				continue
			}
			for sector := range 16 {
				refusesToEnter(t, c.name, c.store, putRec(id, sector, 1))
				refusesToEnter(t, c.name, c.store, trimRec(id, sector))
			}
		}
		for _, v := range c.store.Vols {
			for _, sector := range noSectors() {
				refusesToEnter(t, c.name, c.store, putRec(v.Id, sector, 1))
				refusesToEnter(t, c.name, c.store, trimRec(v.Id, sector))
			}
		}
	}
}

// What is put into a volume of a volume, or into that one, leaves the other as it
// was; so does what is trimmed and dropped.
func TestVolumesOfAVolumeAreApart(t *testing.T) {
	for _, c := range rightStores() {
		for _, v := range c.store.Vols {
			id := 1
			for volPlace(c.store, id) >= 0 {
				id++
			}
			both, ok := impl.Enter(c.store, volRec(id, v.Id))
			if !ok {
				continue
			}
			if !sameArena(both.Arena, c.store.Arena) || both.Next != c.store.Next {
				t.Errorf("%s: a volume of %d makes %v of %v", c.name, v.Id, both, c.store)
			}
			numbers := allByRule(c.store.Arena, v.Root)
			wantSectors(t, c.name, both, id, numbers)
			for _, pair := range [][2]int{{id, v.Id}, {v.Id, id}} {
				wantApart(t, c.name, both, pair[0], pair[1], numbers)
			}
		}
	}
}

func wantSectors(t *testing.T, why string, s impl.Store, vol int, want []int) {
	t.Helper()
	for sector, n := range want {
		if got := impl.ChunkOf(s, vol, sector); got != n {
			t.Errorf("%s: ChunkOf(%d, %d) of %v is %d, not %d", why, vol, sector, s, got, n)
		}
	}
}

func wantApart(t *testing.T, why string, s impl.Store, changed, other int, numbers []int) {
	t.Helper()
	for sector := range 16 {
		for _, n := range []int{0, 5} {
			r := putRec(changed, sector, n)
			if n == 0 {
				r = trimRec(changed, sector)
			}
			after, ok := impl.Enter(s, r)
			if !ok || !impl.StoreOk(after) {
				t.Fatalf("%s: Enter of %v into %v is %v, %v", why, r, s, after, ok)
			}
			want := slices.Clone(numbers)
			want[sector] = n
			wantSectors(t, why+", the one that changes", after, changed, want)
			wantSectors(t, why+", the other one", after, other, numbers)
		}
	}
	left, ok := impl.Enter(s, dropRec(changed))
	if !ok || !impl.StoreOk(left) || volPlace(left, changed) >= 0 {
		t.Fatalf("%s: without %d, %v is %v, %v", why, changed, s, left, ok)
	}
	wantSectors(t, why+", one is dropped", left, changed, make([]int, 16))
	wantSectors(t, why+", one is dropped, the other one", left, other, numbers)
}

// Trees share all leaves that nothing was put into.
func TestVolumesOfAVolumeShareTheirLeaves(t *testing.T) {
	s, ok := impl.EnterAll(fullStore(), []impl.Rec{volRec(5, 4), volRec(6, 5)})
	if !ok || len(s.Arena.Knots) != 5 {
		t.Fatalf("copies cost knots: %v, %v", s, ok)
	}
	s, ok = impl.Enter(s, putRec(5, 3, 200))
	if !ok || len(s.Arena.Knots) != 7 || impl.SharedBy(s.Arena, s.Vols[0].Root, s.Vols[1].Root) != 3 || s.Vols[0].Root != s.Vols[2].Root {
		t.Errorf("put into one of three: %v, %v", s, ok)
	}
	s, ok = impl.EnterAll(s, []impl.Rec{dropRec(4), dropRec(6)})
	if !ok || len(s.Arena.Knots) != 5 || s.Next != 201 {
		t.Errorf("one is left: %v, %v", s, ok)
	}
	wantSectors(t, "one is left", s, 5, []int{101, 102, 103, 200, 105, 106, 107, 108, 109, 110, 111, 112, 113, 114, 115, 116})
}

func TestEnterOfAllRecordsByRule(t *testing.T) {
	for _, c := range rightStores() {
		for _, r := range manyRecs() {
			wantEnterByRule(t, c.name, c.store, r)
		}
	}
}

func TestWrongRecordsAreNotEntered(t *testing.T) {
	for _, c := range rightStores() {
		for _, wrong := range wrongRecs() {
			refusesToEnter(t, c.name+", "+wrong.name, c.store, wrong.rec)
		}
	}
}

func TestNothingIsEnteredIntoWrongStores(t *testing.T) {
	recs := []impl.Rec{baseRec(0), baseRec(5), volRec(7, 0), volRec(7, 2), dropRec(2), dropRec(1), putRec(2, 5, 7), putRec(1, 0, 1), trimRec(2, 5), trimRec(9, 15), {}}
	for _, c := range wrongStores() {
		for _, r := range recs {
			refusesToEnter(t, c.name, c.store, r)
		}
		wantEnteredAll(t, c.name, c.store, recs[:1], c.store, false)
		wantEnteredAll(t, c.name, c.store, recs, c.store, false)
	}
}

func TestEnterAllOfNoRecords(t *testing.T) {
	for _, c := range append(rightStores(), wrongStores()...) {
		wantEnteredAll(t, c.name, c.store, nil, c.store, true)
		wantEnteredAll(t, c.name, c.store, []impl.Rec{}, c.store, true)
	}
}

func TestEnterAllOfSeveralRecords(t *testing.T) {
	recs := []impl.Rec{volRec(1, 0), putRec(1, 2, 4), volRec(2, 1), putRec(1, 3, 9), trimRec(2, 2), volRec(9, 1), dropRec(1)}
	leaf, both := leafKnot(0, 0, 0, 0), leafKnot(0, 0, 4, 9)
	want := storeOf(10, arenaOf(both, rootKnot(0, -1, -1, -1), leaf, rootKnot(2, -1, -1, -1)), volOf(2, 3), volOf(9, 1))
	wantEnteredAll(t, "several", impl.StoreNew(), recs, want, true)
	wantEnteredAll(t, "one", impl.StoreNew(), recs[:1], storeOf(1, impl.Arena{}, volOf(1, -1)), true)
	wantEnteredAll(t, "a base in the midst", impl.StoreNew(), append(slices.Clone(recs), baseRec(3), volRec(1, 0)), storeOf(3, impl.Arena{}, volOf(1, -1)), true)
	for _, c := range rightStores() {
		list := append([]impl.Rec{baseRec(0)}, recs...)
		wantEnteredAll(t, c.name+", from a base on", c.store, list, want, true)
	}
}

// Each record that is refused, at each place among others.
func TestEnterAllIsRefusedAsAWhole(t *testing.T) {
	recs := []impl.Rec{volRec(1, 0), putRec(1, 2, 4), baseRec(20), volRec(5, 0), putRec(5, 0, 7), volRec(6, 5), trimRec(5, 0)}
	refused := []impl.Rec{{}, volRec(3, 4), dropRec(9), putRec(8, 0, 1), putRec(5, 0, impl.MaxNumber), putRec(1, 16, 2), trimRec(7, 0), baseRec(-1)}
	for _, s := range []impl.Store{impl.StoreNew(), twoStore(), storeOf(5, impl.Arena{}, volOf(2, -1))} {
		after, ok := impl.EnterAll(s, recs)
		if !ok || after.Next != 20 || len(after.Vols) != 2 {
			t.Fatalf("EnterAll into %v is %v, %v", s, after, ok)
		}
		for at := range len(recs) + 1 {
			for _, r := range refused {
				wantEnteredAll(t, fmt.Sprintf("%v at %d", r, at), s, slices.Insert(slices.Clone(recs), at, r), s, false)
			}
		}
	}
	wantEnteredAll(t, "the only one", twoStore(), refused[1:2], twoStore(), false)
}

func TestChunkOfEachSector(t *testing.T) {
	for _, c := range rightStores() {
		for _, v := range c.store.Vols {
			for sector, n := range allByRule(c.store.Arena, v.Root) {
				wantChunk(t, c.name, c.store, v.Id, sector, n)
			}
			for _, sector := range noSectors() {
				wantChunk(t, c.name, c.store, v.Id, sector, 0)
			}
		}
		for _, id := range []int{math.MinInt, -1, 0, 1, 2, 3, 4, 5, 6, 7, 8, 9, 10, math.MaxInt} {
			for sector := -1; sector <= 16 && volPlace(c.store, id) < 0; sector++ {
				wantChunk(t, c.name, c.store, id, sector, 0)
			}
		}
	}
	for sector := range 16 {
		wantChunk(t, "a full volume", fullStore(), 4, sector, 101+sector)
	}
	wantChunk(t, "the first of two", twoStore(), 3, 5, 7)
	wantChunk(t, "the second of two", twoStore(), 6, 5, 0)
}

func TestRefsOfChunks(t *testing.T) {
	woven := wovenStore()
	for _, c := range []struct{ chunk, want int }{{11, 5}, {12, 4}, {13, 3}, {14, 3}, {21, 2}, {22, 0}, {29, 0}, {30, 0}, {1, 0}, {2, 0}} {
		wantRefs(t, "woven", woven, c.chunk, c.want)
	}
	same, _ := impl.EnterAll(fullStore(), []impl.Rec{volRec(1, 4), volRec(9, 1)})
	for chunk := 101; chunk <= 116; chunk++ {
		wantRefs(t, "one volume", fullStore(), chunk, 1)
		wantRefs(t, "three volumes with one root", same, chunk, 3)
	}
	leaf := storeOf(8, arenaOf(leafKnot(7, 7, 7, 7), rootKnot(0, 0, 0, 0)), volOf(1, 1), volOf(2, 1), volOf(3, 1))
	wantRefs(t, "all sectors of all volumes", leaf, 7, 48)
	for _, c := range rightStores() {
		all := chunksByRule(c.store)
		for _, chunk := range []int{math.MinInt, -7, -2, -1, 0} {
			wantRefs(t, c.name, c.store, chunk, 0)
		}
		for _, chunk := range []int{1, 7, 8, 11, 101, 116, 117, impl.MaxNumber - 1, impl.MaxNumber, impl.MaxNumber + 1, math.MaxInt} {
			wantRefs(t, c.name, c.store, chunk, countOf(all, chunk))
		}
	}
}

func TestLiveChunksAscendEachOnce(t *testing.T) {
	wantLive(t, "woven", wovenStore(), 11, 12, 13, 14, 21)
	wantLive(t, "one chunk", twoStore(), 7)
	wantLive(t, "the greatest chunk", storeOf(impl.MaxNumber, arenaOf(leafKnot(0, 0, 0, impl.MaxNumber-1), rootKnot(-1, 0, -1, -1)), volOf(1, 1)), impl.MaxNumber-1)
	descending := storeOf(99, arenaOf(leafKnot(9, 8, 7, 9), leafKnot(6, 5, 98, 1), rootKnot(0, 1, -1, 0)), volOf(1, 2), volOf(7, 2))
	wantLive(t, "descending", descending, 1, 5, 6, 7, 8, 9, 98)
	for _, c := range rightStores() {
		want := chunksByRule(c.store)
		slices.Sort(want)
		wantLive(t, c.name, c.store, slices.Compact(want)...)
		for _, chunk := range impl.LiveOf(c.store) {
			if impl.RefsOf(c.store, chunk) == 0 {
				t.Errorf("%s: %d is live, and no sector has it", c.name, chunk)
			}
		}
	}
	for _, empty := range []impl.Store{impl.StoreNew(), storeOf(1, impl.Arena{}, volOf(1, -1)), storeOf(9, arenaOf(leafKnot(0, 0, 0, 0), rootKnot(0, -1, -1, 0)), volOf(1, 1))} {
		wantLive(t, "empty", empty)
	}
}

func TestBaseRecordsInOrder(t *testing.T) {
	wantBaseRecs(t, "nothing", storeOf(300, impl.Arena{}), baseRec(300))
	wantBaseRecs(t, "volumes without anything", storeOf(2, impl.Arena{}, volOf(1, -1), volOf(9, -1)), baseRec(2), volRec(1, 0), volRec(9, 0))
	wantBaseRecs(t, "one with something, one without", twoStore(), baseRec(8), volRec(3, 0), putRec(3, 5, 7), volRec(6, 0))
	wantBaseRecs(t, "woven", wovenStore(), baseRec(30),
		volRec(2, 0), putRec(2, 0, 11), putRec(2, 1, 12), putRec(2, 2, 13), putRec(2, 3, 14), putRec(2, 8, 21), putRec(2, 11, 11),
		volRec(5, 0), putRec(5, 2, 12), putRec(5, 4, 11), putRec(5, 5, 12), putRec(5, 6, 13), putRec(5, 7, 14),
		putRec(5, 12, 11), putRec(5, 13, 12), putRec(5, 14, 13), putRec(5, 15, 14),
		volRec(8, 0), putRec(8, 12, 21), putRec(8, 15, 11))
	for _, c := range rightStores() {
		wantBaseRecs(t, c.name, c.store, baseRecsByRule(c.store)...)
	}
}

// From nothing and from each other right store.
func TestBaseRecordsMakeTheStoreAgain(t *testing.T) {
	for _, c := range rightStores() {
		recs := impl.BaseRecs(c.store)
		for _, r := range recs {
			if !impl.RecOk(r) {
				t.Errorf("%s: the record %v is not right", c.name, r)
			}
		}
		for _, from := range rightStores() {
			again, ok := impl.EnterAll(from.store, recs)
			if !ok || !impl.StoreOk(again) {
				t.Fatalf("%s from %s: EnterAll of %v is %v, %v", c.name, from.name, recs, again, ok)
			}
			wantSame(t, c.name+" from "+from.name, again, c.store, true)
			wantBaseRecs(t, c.name+" from "+from.name, again, recs...)
		}
	}
}

func TestSameStoreOfStoresThatDiffer(t *testing.T) {
	two := twoStore()
	wantSame(t, "itself", two, two, true)
	wantSame(t, "another Id", two, withVols(two, volOf(2, 1), volOf(6, -1)), false)
	wantSame(t, "another last Id", two, withVols(two, volOf(3, 1), volOf(7, -1)), false)
	wantSame(t, "one volume fewer", two, withVols(two, volOf(3, 1)), false)
	wantSame(t, "one volume more", two, withVols(two, volOf(3, 1), volOf(6, -1), volOf(7, -1)), false)
	wantSame(t, "none", two, storeOf(8, impl.Arena{}), false)
	wantSame(t, "each other's sectors", two, withVols(two, volOf(3, -1), volOf(6, 1)), false)
	wantSame(t, "Next one more", two, withNext(two, 9), false)
	wantSame(t, "nothing, and another Next", impl.StoreNew(), storeOf(2, impl.Arena{}), false)
	full := fullStore()
	for sector := range 16 {
		for _, n := range []int{0, 1, 116 - sector, 116} {
			if n == 101+sector {
				continue
			}
			arena, root := putByRule(full.Arena, 4, sector, n)
			wantSame(t, fmt.Sprintf("sector %d has %d", sector, n), full, storeOf(117, arena, volOf(4, root)), false)
		}
		first, second := full, withVols(full, volOf(3, 4), volOf(4, 4))
		arena, root := putByRule(full.Arena, 4, sector, 1)
		wantSame(t, "the last of two volumes differs", second, storeOf(117, arena, volOf(3, 4), volOf(4, root)), false)
		wantSame(t, "the first of two volumes differs", second, storeOf(117, arena, volOf(3, root), volOf(4, 4)), false)
		wantSame(t, "one volume fewer", first, second, false)
	}
}

func TestSameStoreOfOtherArenas(t *testing.T) {
	full, other := fullStore(), arenaOf(leafKnot(113, 114, 115, 116), leafKnot(109, 110, 111, 112),
		leafKnot(105, 106, 107, 108), leafKnot(101, 102, 103, 104), rootKnot(3, 2, 1, 0))
	wantSame(t, "leaves in another order", full, storeOf(117, other, volOf(4, 4)), true)
	spare := arenaOf(append(fullArena().Knots, leafKnot(1, 2, 3, 4), rootKnot(5, -1, -1, -1))...)
	wantSame(t, "knots that no tree has", full, storeOf(117, spare, volOf(4, 4)), true)
	without := storeOf(1, impl.Arena{}, volOf(1, -1))
	wantSame(t, "no tree, and a root without leaves", without, storeOf(1, arenaOf(rootKnot(-1, -1, -1, -1)), volOf(1, 0)), true)
	wantSame(t, "no tree, and a leaf of noughts", without, storeOf(1, arenaOf(leafKnot(0, 0, 0, 0), rootKnot(-1, 0, -1, 0)), volOf(1, 1)), true)
	leaf, root := leafKnot(0, 7, 0, 0), rootKnot(-1, 0, -1, -1)
	shared := storeOf(8, arenaOf(leaf, root), volOf(1, 1), volOf(2, 1))
	apart := storeOf(8, arenaOf(leaf, root, leaf, rootKnot(-1, 2, -1, -1)), volOf(1, 3), volOf(2, 1))
	wantSame(t, "one root, and two that are alike", shared, apart, true)
}

// Each right store is the same as itself, and as the others just when their
// records are.
func TestSameStoreOfAllPairs(t *testing.T) {
	for _, a := range rightStores() {
		for _, b := range rightStores() {
			wantSame(t, a.name+" and "+b.name, a.store, b.store, slices.Equal(baseRecsByRule(a.store), baseRecsByRule(b.store)))
		}
	}
}

// The document asks for no right store here: what can be seen of it is told.
func TestWrongStoresAreAskedToo(t *testing.T) {
	for _, c := range wrongStores() {
		chunks := chunksByRule(c.store)
		live := slices.Clone(chunks)
		slices.Sort(live)
		wantLive(t, c.name, c.store, slices.Compact(live)...)
		for _, chunk := range append([]int{-1, 0, 1, 7}, chunks...) {
			wantRefs(t, c.name, c.store, chunk, countOf(chunks, chunk))
		}
		for _, v := range c.store.Vols {
			first := c.store.Vols[volPlace(c.store, v.Id)]
			for sector, n := range allByRule(c.store.Arena, first.Root) {
				wantChunk(t, c.name, c.store, v.Id, sector, n)
			}
		}
		wantBaseRecs(t, c.name, c.store, baseRecsByRule(c.store)...)
		wantSame(t, c.name, c.store, c.store, true)
	}
}

// A store as it should be: its volumes, by Id, and what is in their sectors.
type plainStore struct {
	vols map[int][16]int
	next int
}

// enter is what a right record makes of it; false when it is refused.
func (p *plainStore) enter(r impl.Rec) bool {
	numbers, isThere := p.vols[r.Vol]
	switch r.Kind {
	case impl.RecBase:
		p.vols, p.next = map[int][16]int{}, max(1, r.Arg)
		return true
	case impl.RecVol:
		of, ok := p.vols[r.Arg]
		if isThere || len(p.vols) == 3 || r.Arg != 0 && !ok {
			return false
		}
		p.vols[r.Vol] = of
		return true
	case impl.RecDrop:
		delete(p.vols, r.Vol)
		return isThere
	}
	if !isThere || r.Chunk == impl.MaxNumber {
		return false
	}
	numbers[r.Arg] = r.Chunk
	p.vols[r.Vol] = numbers
	p.next = max(p.next, r.Chunk+1)
	return true
}

func wantPlainStore(t *testing.T, s impl.Store, p plainStore) {
	t.Helper()
	if !impl.StoreOk(s) || len(s.Vols) != len(p.vols) || s.Next != p.next {
		t.Fatalf("the store is %v, not %v", s, p)
	}
	refs := map[int]int{}
	for id := range 11 {
		numbers, isThere := p.vols[id]
		if volPlace(s, id) >= 0 != isThere {
			t.Fatalf("volume %d of %v: %v", id, s, isThere)
		}
		for sector, n := range numbers {
			if got := impl.ChunkOf(s, id, sector); got != n {
				t.Fatalf("ChunkOf(%d, %d) of %v is %d, not %d", id, sector, s, got, n)
			}
			refs[n]++
		}
	}
	delete(refs, 0)
	live := impl.LiveOf(s)
	if len(live) != len(refs) || !slices.IsSorted(live) {
		t.Fatalf("LiveOf %v is %v, not %v", s, live, refs)
	}
	for chunk, want := range refs {
		if got := impl.RefsOf(s, chunk); got != want || !slices.Contains(live, chunk) {
			t.Fatalf("RefsOf(%d) of %v is %d, not %d; live are %v", chunk, s, got, want, live)
		}
	}
}

// drawnRec draws a right record, of few volumes, so that most of them are there.
func drawnRec(draws string) impl.Rec {
	kind, vol, arg, chunk := int(draws[0]), 1+int(draws[1])%5, int(draws[2])%16, int(draws[3])
	switch {
	case kind < 3:
		return baseRec(chunk % 4)
	case kind < 40:
		return volRec(vol, arg%6)
	case kind < 60:
		return dropRec(vol)
	case kind < 90:
		return trimRec(vol, arg)
	case kind == 90:
		return putRec(vol, arg, impl.MaxNumber)
	}
	return putRec(vol, arg, 1+chunk/4)
}

// A drawn life: each record does what it does to plain volumes, what is refused
// changes nothing, and the records of what there is make it again.
func TestADrawnLifeOfAStore(t *testing.T) {
	s, plain := impl.StoreNew(), plainStore{vols: map[int][16]int{}, next: 1}
	entered := map[int]int{}
	var all []impl.Rec
	for draws := mixedText(12000); len(draws) >= 4; draws = draws[4:] {
		r := drawnRec(draws)
		after, ok := impl.Enter(s, r)
		if want := plain.enter(r); ok != want {
			t.Fatalf("Enter of %v into %v is %v", r, s, ok)
		}
		if !ok && !alike(after, s) {
			t.Fatalf("%v is refused, and makes %v of %v", r, after, s)
		}
		wantEnterByRule(t, "drawn", s, r)
		if ok {
			entered[r.Kind]++
			all = append(all, r)
		}
		wantPlainStore(t, after, plain)
		again, ok := impl.EnterAll(s, impl.BaseRecs(after))
		if !ok || !impl.SameStore(again, after) {
			t.Fatalf("the records of %v make %v, %v", after, again, ok)
		}
		wantPlainStore(t, again, plain)
		s = after
	}
	whole, ok := impl.EnterAll(impl.StoreNew(), all)
	if !ok || !alike(whole, s) {
		t.Errorf("all records at once make %v, %v, not %v", whole, ok, s)
	}
	for kind := impl.RecBase; kind <= impl.RecTrim; kind++ {
		if entered[kind] < 10 {
			t.Errorf("only %d records of Kind %d were entered", entered[kind], kind)
		}
	}
}

// All lists of up to 4 of these records, into three stores.
func TestAllShortListsOfRecordsByRule(t *testing.T) {
	recs := []impl.Rec{
		baseRec(0), volRec(1, 0), volRec(2, 1), volRec(9, 2), volRec(3, 0), dropRec(1), dropRec(2),
		putRec(1, 0, 5), putRec(2, 1, 9), putRec(3, 15, impl.MaxNumber), trimRec(1, 0), trimRec(2, 7),
	}
	for _, s := range []impl.Store{impl.StoreNew(), twoStore(), storeOf(8, arenaOf(leafKnot(3, 0, 0, 0), rootKnot(0, -1, -1, -1)), volOf(1, 1))} {
		var try func(list []impl.Rec)
		try = func(list []impl.Rec) {
			got, ok := impl.EnterAll(s, list)
			if want, wantOk := enterAllByRule(s, list); !alike(got, want) || ok != wantOk {
				t.Fatalf("EnterAll of %v into %v\nis  %v, %v\nnot %v, %v", list, s, got, ok, want, wantOk)
			}
			if len(list) == 4 {
				return
			}
			for _, r := range recs {
				try(append(slices.Clone(list), r))
			}
		}
		try(nil)
	}
}

// Lists that stand in one memory are apart in the answer, also when it is as it
// is.
func TestStoresWhoseListsShare(t *testing.T) {
	kids := []int{0, 0, 0, 0, 0}
	shared := arenaOf(leafKnot(kids[:4]...), leafKnot(kids[1:]...), rootKnot(0, 1, -1, -1))
	right := storeOf(3, shared, volOf(1, 2))
	wrong := storeOf(0, shared, volOf(1, 2))
	for _, s := range []impl.Store{right, wrong} {
		for _, r := range []impl.Rec{{}, baseRec(0), volRec(2, 1), volRec(1, 0), dropRec(1), dropRec(2), putRec(1, 9, 2), trimRec(1, 0)} {
			entered, _ := impl.Enter(s, r)
			all, _ := impl.EnterAll(s, []impl.Rec{r})
			none, _ := impl.EnterAll(s, nil)
			for _, got := range []impl.Store{entered, all, none} {
				wantOwnLists(t, got.Arena, kids)
				if sharesStore(got, s) {
					t.Errorf("%v: the answer %v stands in the memory of %v", r, got, s)
				}
			}
		}
	}
	if !slices.Equal(kids, []int{0, 0, 0, 0, 0}) {
		t.Errorf("what was handed in is %v", kids)
	}
}

// What is done to one answer is not seen in the next one.
func TestAnswersOfStoresAreTheirOwn(t *testing.T) {
	woven := wovenStore()
	list := []impl.Rec{trimRec(2, 0), dropRec(5)}
	entered, _ := impl.Enter(woven, list[0])
	refused, _ := impl.Enter(woven, volRec(1, 0))
	all, _ := impl.EnterAll(woven, list)
	none, _ := impl.EnterAll(woven, nil)
	for _, s := range []impl.Store{entered, refused, all, none} {
		for _, list := range numberLists(s.Arena) {
			clear(list)
		}
		clear(s.Vols)
		clear(s.Arena.Knots)
	}
	clear(impl.LiveOf(woven))
	clear(impl.BaseRecs(woven))
	if !alike(woven, wovenStore()) || !slices.Equal(list, []impl.Rec{trimRec(2, 0), dropRec(5)}) {
		t.Errorf("what was handed in is %v, %v", woven, list)
	}
	wantEnterByRule(t, "asked again", woven, list[0])
	wantLive(t, "asked again", woven, 11, 12, 13, 14, 21)
	wantBaseRecs(t, "asked again", woven, baseRecsByRule(woven)...)
	if first := impl.StoreNew(); !alike(first, storeOf(1, impl.Arena{})) {
		t.Errorf("StoreNew is %v", first)
	}
}
