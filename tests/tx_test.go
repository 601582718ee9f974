package tests

import (
	"fmt"
	"math"
	"slices"
	"strings"
	"testing"

	"loop.example/g00195/impl"
)

// Promise 10: a transaction is there when all its pages are, and not when one is
// missing.

// smallRecs are as many records of 3 bytes each: 30 of them fill a page.
func smallRecs(count int) []impl.Rec {
	var out []impl.Rec
	for i := range count {
		out = append(out, putRec(1+i%9, i%16, 1+i%127))
	}
	return out
}

// recOfSize has a text of this many bytes, 3 to 7.
func recOfSize(size int) impl.Rec { return putRec(1, 2, 1<<(7*(size-3))) }

// recsOfSize have texts of this many bytes together, beginning with the small
// ones.
func recsOfSize(size int) []impl.Rec {
	var out []impl.Rec
	for ; size >= 6; size -= 3 {
		out = append(out, recOfSize(3))
	}
	return append(out, recOfSize(size))
}

// partsByRule cuts records as chapter 10 says: each page takes as many as fit.
func partsByRule(recs []impl.Rec) []string {
	texts := []string{}
	for len(texts) == 0 || len(recs) > 0 {
		count := 0
		for count < len(recs) && len(recBytes(recs[:count+1]...)) <= 90 {
			count++
		}
		texts = append(texts, recBytes(recs[:count]...))
		recs = recs[count:]
	}
	return texts
}

func txPagesByRule(seq, tx int, recs []impl.Rec) ([]impl.Page, bool) {
	const most = 1000000000
	if slices.ContainsFunc(recs, func(r impl.Rec) bool { return !recRightByRule(r) }) {
		return nil, false
	}
	texts := partsByRule(recs)
	if len(texts) > 9 || tx < 1 || tx > most {
		return nil, false
	}
	var pages []impl.Page
	for part, text := range texts {
		if seq < 1 || seq > most {
			return nil, false
		}
		pages = append(pages, metaPage(seq, tx, part, len(texts), text))
		seq++
	}
	return pages, true
}

// wantTxPages asks for a number of pages as well, 0 for a false, so that the rule
// alone doesn't decide.
func wantTxPages(t *testing.T, why string, seq, tx int, recs []impl.Rec, count int) {
	t.Helper()
	want, wantOk := txPagesByRule(seq, tx, recs)
	if len(want) != count {
		t.Fatalf("%s: %d pages by rule, not %d", why, len(want), count)
	}
	given := append(slices.Clone(recs), smallRecs(3)...)
	twin := slices.Clone(given)
	got, ok := impl.TxPages(seq, tx, given[:len(recs)])
	if !slices.Equal(got, want) || ok != wantOk {
		t.Errorf("%s: TxPages(%d, %d) of %d records is %#v, %v, not %#v, %v", why, seq, tx, len(recs), got, ok, want, wantOk)
	}
	if !slices.Equal(given, twin) {
		t.Errorf("%s: TxPages has written into its records", why)
	}
	for _, p := range got {
		if !impl.PageOk(p) {
			t.Errorf("%s: %#v is no right page", why, p)
		}
	}
}

func TestPagesOfNoRecords(t *testing.T) {
	for _, recs := range [][]impl.Rec{nil, {}} {
		wantTxPages(t, "none", 5, 2, recs, 1)
		got, ok := impl.TxPages(5, 2, recs)
		want := impl.Page{Kind: 2, Seq: 5, Tx: 2, Part: 0, Count: 1, Text: ""}
		if !ok || len(got) != 1 || got[0] != want {
			t.Errorf("no records: %#v, %v", got, ok)
		}
	}
}

func TestPagesOfOneRecord(t *testing.T) {
	for _, c := range rightRecs() {
		wantTxPages(t, c.name, 1, 1, []impl.Rec{c.rec}, 1)
	}
	got, ok := impl.TxPages(7, 300, []impl.Rec{putRec(1, 3, 300)})
	want := impl.Page{Kind: 2, Seq: 7, Tx: 300, Part: 0, Count: 1, Text: "\x41\x03\xac\x02"}
	if !ok || len(got) != 1 || got[0] != want {
		t.Errorf("one record: %#v, %v", got, ok)
	}
}

func TestPagesAreInOrder(t *testing.T) {
	got, ok := impl.TxPages(41, 6, smallRecs(70))
	all := recBytes(smallRecs(70)...)
	want := []impl.Page{
		{Kind: 2, Seq: 41, Tx: 6, Part: 0, Count: 3, Text: all[:90]},
		{Kind: 2, Seq: 42, Tx: 6, Part: 1, Count: 3, Text: all[90:180]},
		{Kind: 2, Seq: 43, Tx: 6, Part: 2, Count: 3, Text: all[180:]},
	}
	if !ok || !slices.Equal(got, want) {
		t.Errorf("70 records: %#v, %v", got, ok)
	}
}

func TestRecordsThatJustFillPages(t *testing.T) {
	for pages := 1; pages <= 9; pages++ {
		full := 30 * pages
		wantTxPages(t, "one too few to fill them", 1, 1, smallRecs(full-1), pages)
		wantTxPages(t, "they are full", 1, 1, smallRecs(full), pages)
		if pages < 9 {
			wantTxPages(t, "one more", 1, 1, smallRecs(full+1), pages+1)
		}
	}
	wantTxPages(t, "one more than 9 pages take", 1, 1, smallRecs(271), 0)
	wantTxPages(t, "10 full pages", 1, 1, smallRecs(300), 0)
	wantTxPages(t, "very many", 1, 1, smallRecs(9000), 0)
}

// A page takes the next record when it is just full with it, and not when one
// byte is too much; the record then begins the next page, whole.
func TestRecordsOfAllSizesAtTheEndOfAPage(t *testing.T) {
	for size := 3; size <= 7; size++ {
		last := recOfSize(size)
		for ahead := 80; ahead <= 90; ahead++ {
			recs := append(recsOfSize(ahead), last)
			count := 1
			if ahead+size > 90 {
				count = 2
			}
			why := fmt.Sprintf("%d bytes, and %d more", ahead, size)
			wantTxPages(t, why, 10, 3, recs, count)
			wantTxPages(t, why+", and more behind", 10, 3, append(recs, smallRecs(20)...), 2)
			if pages, _ := impl.TxPages(10, 3, recs); count == 2 && pages[1].Text != recBytes(last) {
				t.Errorf("%s: the second page is %q", why, pages[1].Text)
			}
		}
	}
}

// A record that is small isn't put on a page that is left already.
func TestSmallRecordsStayBehindGreatOnes(t *testing.T) {
	recs := slices.Concat(recsOfSize(86), []impl.Rec{recOfSize(7), recOfSize(3)})
	wantTxPages(t, "a small one behind a great one", 1, 1, recs, 2)
	nine := recsOfSize(84)
	for range 8 {
		nine = slices.Concat(nine, []impl.Rec{recOfSize(7)}, recsOfSize(81))
	}
	wantTxPages(t, "9 pages with room on each", 1, 1, nine, 9)
	wantTxPages(t, "one more, for which there is room on the first", 1, 1, append(nine, recOfSize(3)), 0)
}

// 13 records of 7 bytes would be 91 bytes: 12 stand on a page.
func TestPagesThatAreNeverJustFull(t *testing.T) {
	great := slices.Repeat([]impl.Rec{recOfSize(7)}, 109)
	wantTxPages(t, "12 of 7 bytes", 1, 1, great[:12], 1)
	wantTxPages(t, "13 of 7 bytes", 1, 1, great[:13], 2)
	wantTxPages(t, "9 pages of 12 records", 1, 1, great[:108], 9)
	wantTxPages(t, "one more, though all bytes would fit", 1, 1, great, 0)
	bases := slices.Repeat([]impl.Rec{baseRec(impl.MaxNumber)}, 109)
	wantTxPages(t, "9 pages of bases", 1, 1, bases[:108], 9)
	wantTxPages(t, "one base more", 1, 1, bases, 0)
}

func TestPagesOfAllNumbersOfRecords(t *testing.T) {
	for count := range 275 {
		pages := max(1, (count+29)/30)
		if pages > 9 {
			pages = 0
		}
		wantTxPages(t, "so many", 100, 200, smallRecs(count), pages)
	}
}

func TestWrongRecordsHaveNoPages(t *testing.T) {
	for _, c := range wrongRecs() {
		wantTxPages(t, c.name, 1, 1, []impl.Rec{c.rec}, 0)
		for _, count := range []int{1, 2, 29, 30, 31, 90, 269} {
			right := smallRecs(count)
			for _, at := range []int{0, count / 2, count} {
				wantTxPages(t, c.name+" among others", 1, 1, slices.Insert(slices.Clone(right), at, c.rec), 0)
			}
		}
	}
}

func TestNumbersOfPagesAtTheirLimits(t *testing.T) {
	const most = impl.MaxNumber
	numbers := []int{math.MinInt, math.MinInt + 1, -most, -1, 0, 1, 2, most / 2, most - 9, most - 8, most - 7, most - 2, most - 1, most, most + 1, most + 9, 1 << 32, 1<<32 + 1, math.MaxInt - 8, math.MaxInt - 1, math.MaxInt}
	for pages := 1; pages <= 9; pages++ {
		recs := smallRecs(30 * pages)
		for _, seq := range numbers {
			for _, tx := range numbers {
				count := 0
				if seq >= 1 && seq <= most-pages+1 && tx >= 1 && tx <= most {
					count = pages
				}
				wantTxPages(t, "numbers", seq, tx, recs, count)
			}
		}
	}
	wantTxPages(t, "the last Seq is MaxNumber", most-1, most, smallRecs(31), 2)
	wantTxPages(t, "the last Seq is beyond it", most, most, smallRecs(31), 0)
	wantTxPages(t, "without records at MaxNumber", most, most, nil, 1)
	wantTxPages(t, "without records beyond it", most+1, 1, nil, 0)
	wantTxPages(t, "without records, tx 0", 1, 0, nil, 0)
	wantTxPages(t, "without records, seq 0", 0, 1, nil, 0)
}

func TestDrawnRecordsHavePages(t *testing.T) {
	draws := mixedText(60000)
	for size := 0; len(draws) > 6*size && size < 200; size++ {
		recs := drawnRecs(draws[:6*size])
		draws = draws[6*size:]
		count := len(partsByRule(recs))
		if count > 9 {
			count = 0
		}
		wantTxPages(t, "drawn", 1+size, 2+size, recs, count)
	}
}

func TestPagesStandInMemoryOfTheirOwn(t *testing.T) {
	recs := smallRecs(100)
	first, _ := impl.TxPages(1, 1, recs)
	second, _ := impl.TxPages(1, 1, recs)
	if sharesList(first, second) {
		t.Error("two answers stand in one memory")
	}
	for i, p := range first {
		for j, q := range first[:i] {
			if sharesMemory(p.Text, q.Text) {
				t.Errorf("the texts of pages %d and %d stand in one memory", i, j)
			}
		}
	}
	for i := range first {
		first[i] = impl.Page{}
	}
	wantTxPages(t, "asked again", 1, 1, recs, 4)
}

// foundOf lays pages on places in turn: where they stand doesn't count.
func foundOf(pages ...impl.Page) []impl.Found {
	var out []impl.Found
	for i, p := range pages {
		out = append(out, impl.Found{Block: i * 7 % 5, Leaf: i * 3 % 4, Page: p})
	}
	return out
}

func firstWhere(list []impl.Found, is func(p impl.Page) bool) (impl.Page, bool) {
	at := slices.IndexFunc(list, func(f impl.Found) bool { return f.Page.Kind == 2 && is(f.Page) })
	if at < 0 {
		return impl.Page{}, false
	}
	return list[at].Page, true
}

// gatheredByRule has what chapter 10 says of one Tx. It ends at the first page
// that is missing, however great a Count is.
func gatheredByRule(list []impl.Found, num int) (impl.Tx, bool) {
	page, ok := firstWhere(list, func(p impl.Page) bool { return p.Tx == num && p.Part == 0 })
	if !ok {
		return impl.Tx{}, false
	}
	count, seq, text := page.Count, page.Seq, page.Text
	for part := 1; part < count; part++ {
		page, ok = firstWhere(list, func(p impl.Page) bool { return p.Tx == num && p.Part == part && p.Count == count })
		if !ok {
			return impl.Tx{}, false
		}
		seq, text = min(seq, page.Seq), text+page.Text
	}
	recs, ok := readRecsByRule(text)
	return impl.Tx{Num: num, Seq: seq, Recs: recs}, ok
}

func gatherByRule(list []impl.Found) []impl.Tx {
	var nums []int
	for _, f := range list {
		nums = append(nums, f.Page.Tx)
	}
	slices.Sort(nums)
	var out []impl.Tx
	for _, num := range slices.Compact(nums) {
		if tx, ok := gatheredByRule(list, num); ok {
			out = append(out, tx)
		}
	}
	return out
}

func sameTx(a, b impl.Tx) bool {
	return a.Num == b.Num && a.Seq == b.Seq && slices.Equal(a.Recs, b.Recs)
}

func wantGathered(t *testing.T, why string, list []impl.Found, want ...impl.Tx) {
	t.Helper()
	given := append(slices.Clone(list), foundOf(metaPage(1, 1, 0, 1, ""))...)
	twin := slices.Clone(given)
	got := impl.Gather(given[:len(list)])
	if !slices.EqualFunc(got, want, sameTx) {
		t.Errorf("%s: Gather of %#v is %#v, not %#v", why, list, got, want)
	}
	if !slices.Equal(given, twin) {
		t.Errorf("%s: Gather has written into its list", why)
	}
	for i := range got {
		for j := range i {
			if sharesList(got[i].Recs, got[j].Recs) {
				t.Errorf("%s: two lists of one answer stand in one memory", why)
			}
		}
	}
}

func wantGatheredByRule(t *testing.T, why string, list []impl.Found) {
	t.Helper()
	wantGathered(t, why, list, gatherByRule(list)...)
}

func pagesOf(t *testing.T, seq, tx int, recs []impl.Rec) []impl.Page {
	t.Helper()
	pages, ok := impl.TxPages(seq, tx, recs)
	if !ok {
		t.Fatalf("TxPages(%d, %d) of %d records is refused", seq, tx, len(recs))
	}
	return pages
}

func TestNothingIsGatheredFromNothing(t *testing.T) {
	wantGathered(t, "nil", nil)
	wantGathered(t, "none", []impl.Found{})
	wantGathered(t, "zero values", make([]impl.Found, 3))
}

// What TxPages makes is gathered, and on a flash it is gathered as well.
func TestWhatIsPagedIsGathered(t *testing.T) {
	for count := range 271 {
		recs := smallRecs(count)
		pages := pagesOf(t, 20, 4, recs)
		wantGathered(t, "paged", foundOf(pages...), impl.Tx{Num: 4, Seq: 20, Recs: recs})
	}
	for _, c := range rightRecs() {
		pages := pagesOf(t, impl.MaxNumber, impl.MaxNumber, []impl.Rec{c.rec})
		wantGathered(t, c.name, foundOf(pages...), impl.Tx{Num: impl.MaxNumber, Seq: impl.MaxNumber, Recs: []impl.Rec{c.rec}})
	}
	flash, _ := impl.FlashNew(3)
	recs := smallRecs(100)
	for i, p := range pagesOf(t, 9, 2, recs) {
		text, _ := impl.PageText(p)
		flash, _ = impl.Program(flash, 1, i, text)
		if i < 3 {
			wantGathered(t, "not all are on the flash", impl.ScanAll(flash))
		}
	}
	wantGathered(t, "on a flash", impl.ScanAll(flash), impl.Tx{Num: 2, Seq: 9, Recs: recs})
}

func TestPagesAreGatheredInEveryOrder(t *testing.T) {
	for count := 1; count <= 6; count++ {
		recs := smallRecs(30*count - 7)
		pages := pagesOf(t, 50, 8, recs)
		want := impl.Tx{Num: 8, Seq: 50, Recs: recs}
		for _, order := range ordersOf([]int{0, 1, 2, 3, 4, 5}[:count]) {
			var mixed []impl.Page
			for _, at := range order {
				mixed = append(mixed, pages[at])
			}
			wantGathered(t, "in an order", foundOf(mixed...), want)
		}
	}
}

func TestNothingIsGatheredWhenOnePageIsMissing(t *testing.T) {
	for count := 1; count <= 9; count++ {
		recs := smallRecs(30 * count)
		pages := pagesOf(t, 50, 8, recs)
		wantGathered(t, "all are there", foundOf(pages...), impl.Tx{Num: 8, Seq: 50, Recs: recs})
		for missing := range pages {
			rest := slices.Delete(slices.Clone(pages), missing, missing+1)
			wantGathered(t, "one is missing", foundOf(rest...))
			slices.Reverse(rest)
			wantGathered(t, "one is missing, the last one first", foundOf(rest...))
			twice := append(rest, rest...)
			wantGathered(t, "one is missing, the others come twice", foundOf(twice...))
		}
		for set := range 1 << count {
			var some []impl.Page
			for part := range pages {
				if set>>part&1 == 1 {
					some = append(some, pages[part])
				}
			}
			wantGatheredByRule(t, "some of them", foundOf(some...))
			if got := impl.Gather(foundOf(some...)); len(got) == 1 != (set == 1<<count-1) {
				t.Errorf("%d of %d pages: %#v", len(some), count, got)
			}
		}
	}
}

// The first page of a Part counts, in its text and in its Seq; another one of
// that Part changes nothing.
func TestPagesThatComeTwice(t *testing.T) {
	one, two := recBytes(putRec(1, 1, 1)), recBytes(trimRec(2, 2))
	other := recBytes(dropRec(3))
	a, b := metaPage(10, 5, 0, 2, one), metaPage(11, 5, 1, 2, two)
	want := impl.Tx{Num: 5, Seq: 10, Recs: []impl.Rec{putRec(1, 1, 1), trimRec(2, 2)}}
	for _, seq := range []int{math.MinInt, 1, 10, 12, math.MaxInt} {
		a2, b2 := metaPage(seq, 5, 0, 2, other), metaPage(seq, 5, 1, 2, other)
		wantGathered(t, "Part 0 again", foundOf(a, b, a2), want)
		wantGathered(t, "Part 0 again between", foundOf(a, a2, b), want)
		wantGathered(t, "Part 1 again", foundOf(a, b, b2), want)
		wantGathered(t, "Part 1 again, ahead of Part 0", foundOf(b, b2, a), want)
		wantGathered(t, "all again", foundOf(a, b, a2, b2), want)
		wantGathered(t, "all again, and again", foundOf(b, a, b2, a2, b2, a2), want)
		wantGathered(t, "Part 0 alone again and again", foundOf(a, a2, a2))
		wantGathered(t, "another Part 0 first", foundOf(a2, a, b),
			impl.Tx{Num: 5, Seq: min(seq, 11), Recs: []impl.Rec{dropRec(3), trimRec(2, 2)}})
		wantGathered(t, "another Part 1 first", foundOf(b2, a, b),
			impl.Tx{Num: 5, Seq: min(seq, 10), Recs: []impl.Rec{putRec(1, 1, 1), dropRec(3)}})
	}
	bad := metaPage(9, 5, 1, 2, "\x00")
	wantGathered(t, "one that is no record comes first", foundOf(a, bad, b))
	wantGathered(t, "one that is no record comes second", foundOf(a, b, bad), want)
	whole := metaPage(3, 5, 0, 1, one)
	wantGathered(t, "a whole one three times", foundOf(whole, whole, whole),
		impl.Tx{Num: 5, Seq: 3, Recs: []impl.Rec{putRec(1, 1, 1)}})
}

// The first page of Part 0 tells the Count; pages of another one are not looked
// at, wherever they stand and whatever their Seq.
func TestPagesOfAnotherCount(t *testing.T) {
	one, two, other := recBytes(putRec(1, 1, 1)), recBytes(trimRec(2, 2)), recBytes(dropRec(3))
	a, b := metaPage(10, 5, 0, 2, one), metaPage(11, 5, 1, 2, two)
	want := impl.Tx{Num: 5, Seq: 10, Recs: []impl.Rec{putRec(1, 1, 1), trimRec(2, 2)}}
	for _, count := range []int{math.MinInt, math.MinInt + 1, -2, -1, 0, 1, 3, 4, 9, 10, 258, 1<<32 + 2, math.MaxInt} {
		for part := -1; part <= 3; part++ {
			p := metaPage(4, 5, part, count, other)
			wantGathered(t, "behind the others", foundOf(a, b, p), want)
			wantGathered(t, "between the others", foundOf(a, p, b), want)
			wantGathered(t, "no Part 1 of this Count", foundOf(a, p))
			if part != 0 {
				wantGathered(t, "ahead of the others", foundOf(p, a, b), want)
				wantGathered(t, "ahead of the others, turned", foundOf(p, b, a), want)
			}
		}
		first := metaPage(4, 5, 0, count, other)
		wantGatheredByRule(t, "a Part 0 of another Count first", foundOf(first, a, b))
		if got := impl.Gather(foundOf(first, a, b)); len(got) == 1 != (count <= 1) {
			t.Errorf("Part 0 of Count %d ahead of the others: %#v", count, got)
		}
	}
	wantGathered(t, "Part 0 of 3 ahead, and the others of 3 behind",
		foundOf(metaPage(1, 5, 0, 3, one), a, b, metaPage(2, 5, 1, 3, two), metaPage(3, 5, 2, 3, other)),
		impl.Tx{Num: 5, Seq: 1, Recs: []impl.Rec{putRec(1, 1, 1), trimRec(2, 2), dropRec(3)}})
}

// No further Part is below a Count that is below 2, so Part 0 is all there is.
func TestCountsBelowTwoAskForPartZeroAlone(t *testing.T) {
	text := recBytes(volRec(1, 0))
	for _, count := range []int{math.MinInt, math.MinInt + 1, -1 << 40, -9, -2, -1, 0, 1} {
		want := impl.Tx{Num: 7, Seq: 30, Recs: []impl.Rec{volRec(1, 0)}}
		first := metaPage(30, 7, 0, count, text)
		wantGathered(t, "alone", foundOf(first), want)
		for _, part := range []int{math.MinInt, -2, -1, 0, 1, 2, 8, math.MaxInt} {
			more := metaPage(3, 7, part, count, recBytes(dropRec(1)))
			wantGathered(t, "another one of this Count behind", foundOf(first, more), want)
			if part != 0 {
				wantGathered(t, "another one of this Count ahead", foundOf(more, first), want)
			}
		}
	}
}

func TestVeryGreatCountsAreNotWhole(t *testing.T) {
	for _, count := range []int{3, 10, 1000, 1 << 40, math.MaxInt - 1, math.MaxInt} {
		pages := []impl.Page{metaPage(1, 7, 0, count, ""), metaPage(2, 7, 1, count, "")}
		for part := 2; part < 200; part++ {
			pages = append(pages, metaPage(3, 7, count-part, count, ""))
		}
		list := foundOf(pages...)
		if count > 400 {
			wantGathered(t, "far too few of them", list)
		} else {
			wantGatheredByRule(t, "all of them, and more", list)
		}
	}
}

// What a right page may be is not asked: more than 9 pages are gathered too, and
// texts that are too long.
func TestPagesThatAreNotRightAreGathered(t *testing.T) {
	recs := smallRecs(5000)
	var pages []impl.Page
	for i := 0; i < len(recs); i += 2 {
		pages = append(pages, metaPage(-i, -3, i/2, 2500, recBytes(recs[i:i+2]...)))
	}
	want := impl.Tx{Num: -3, Seq: -4998, Recs: recs}
	wantGathered(t, "2500 pages", foundOf(pages...), want)
	wantGathered(t, "2500 pages but the last", foundOf(pages[:2499]...))
	slices.Reverse(pages)
	wantGathered(t, "2500 pages, the last one first", foundOf(pages...), want)
	wantGathered(t, "2500 pages but the first", foundOf(pages[:2499]...))
	long := metaPage(math.MinInt, math.MinInt, 0, 1, recBytes(recs...))
	wantGathered(t, "a long text", foundOf(long), impl.Tx{Num: math.MinInt, Seq: math.MinInt, Recs: recs})
}

func TestPartsBelowZeroAndBeyondTheCount(t *testing.T) {
	recs := smallRecs(70)
	pages := pagesOf(t, 6, 2, recs)
	want := impl.Tx{Num: 2, Seq: 6, Recs: recs}
	for _, part := range []int{math.MinInt, -256, -3, -2, -1, 3, 4, 256, math.MaxInt} {
		p := metaPage(1, 2, part, 3, recBytes(dropRec(1)))
		for at := range 4 {
			wantGathered(t, "among the others", foundOf(slices.Insert(slices.Clone(pages), at, p)...), want)
		}
		for missing := range pages {
			rest := slices.Clone(pages)
			rest[missing] = p
			wantGathered(t, "in the place of one", foundOf(rest...))
		}
		wantGathered(t, "alone", foundOf(p, p, p))
	}
}

// A chunk's page has a Tx as well, which is a chunk's number.
func TestPagesOfOtherKindsAreNotGathered(t *testing.T) {
	recs := smallRecs(40)
	pages := pagesOf(t, 6, 2, recs)
	want := impl.Tx{Num: 2, Seq: 6, Recs: recs}
	text := recBytes(dropRec(1))
	for _, kind := range []int{math.MinInt, -2, 0, impl.PageData, 3, 258, math.MaxInt} {
		for part := range 2 {
			for _, count := range []int{1, 2} {
				p := impl.Page{Kind: kind, Seq: 1, Tx: 2, Part: part, Count: count, Text: text}
				for at := range 3 {
					wantGathered(t, "among the others", foundOf(slices.Insert(slices.Clone(pages), at, p)...), want)
				}
				wantGathered(t, "Part 1 is missing", foundOf(pages[0], p))
				wantGathered(t, "Part 1 is missing", foundOf(p, pages[0]))
				wantGathered(t, "Part 0 is missing", foundOf(p, pages[1]))
				wantGathered(t, "alone", foundOf(p))
			}
		}
	}
	data := dataPage(5, 9, text)
	wantGathered(t, "another number's chunk", foundOf(data, pages[1], data, pages[0]), want)
}

// Texts count together: a record may go from one page to the next, and one text
// that is no record spoils them all.
func TestTextsThatAreTogetherNoRecords(t *testing.T) {
	recs := []impl.Rec{putRec(1, 3, 300), trimRec(2, 5), baseRec(impl.MaxNumber)}
	text := recBytes(recs...)
	for at := range len(text) + 1 {
		for to := at; to <= len(text); to++ {
			pages := []impl.Page{metaPage(3, 1, 0, 3, text[:at]), metaPage(2, 1, 1, 3, text[at:to]), metaPage(4, 1, 2, 3, text[to:])}
			wantGathered(t, "cut anywhere", foundOf(pages...), impl.Tx{Num: 1, Seq: 2, Recs: recs})
			wantGatheredByRule(t, "the Parts change places", foundOf(
				metaPage(3, 1, 1, 3, text[:at]), metaPage(2, 1, 0, 3, text[at:to]), metaPage(4, 1, 2, 3, text[to:])))
		}
	}
	pages := pagesOf(t, 1, 6, smallRecs(90))
	other := metaPage(9, 7, 0, 1, recBytes(dropRec(4)))
	for part := range pages {
		for _, bad := range []string{"\x00", "\x41", "\x41\x03\x00", "\x41\x10\x02", pages[part].Text[1:], pages[part].Text + "\x80"} {
			spoiled := slices.Clone(pages)
			spoiled[part].Text = bad
			wantGathered(t, "spoiled", foundOf(spoiled...))
			wantGathered(t, "spoiled, beside another one", foundOf(append(spoiled, other)...),
				impl.Tx{Num: 7, Seq: 9, Recs: []impl.Rec{dropRec(4)}})
			wantGathered(t, "spoiled, and then all as they should be", foundOf(append(spoiled, pages...)...))
		}
	}
}

// The least Seq is that of the pages that were taken, of no other ones.
func TestLeastSeqOfATransaction(t *testing.T) {
	for _, seqs := range ordersOf([]int{0, 1, 2}) {
		for _, unit := range []int{-5, 1, 300} {
			var pages []impl.Page
			for part, seq := range seqs {
				pages = append(pages, metaPage(seq*unit+3, 5, part, 3, ""))
			}
			least := min(pages[0].Seq, pages[1].Seq, pages[2].Seq)
			wantGathered(t, "least", foundOf(pages...), impl.Tx{Num: 5, Seq: least})
			wantGathered(t, "least, with others that are less", foundOf(append(pages,
				metaPage(-9999, 5, 0, 3, ""), metaPage(-9999, 5, 2, 3, ""), metaPage(-9999, 5, 3, 3, ""),
				metaPage(-9999, 5, 1, 2, ""), metaPage(-9999, 6, 1, 3, ""), dataPage(-9999, 5, ""))...), impl.Tx{Num: 5, Seq: least})
		}
	}
	for _, seq := range []int{math.MinInt, -1, 0, 1, math.MaxInt} {
		wantGathered(t, "alone", foundOf(metaPage(seq, 5, 0, 1, "")), impl.Tx{Num: 5, Seq: seq})
	}
}

func TestTransactionsOneAmongTheOther(t *testing.T) {
	var lists [][]impl.Page
	var want []impl.Tx
	for i, num := range []int{math.MinInt, -4, 0, 1, 2, 300, impl.MaxNumber, math.MaxInt} {
		recs := smallRecs(13*i + 20)
		pages := pagesOf(t, 1000-50*i, 1, recs)
		for at := range pages {
			pages[at].Tx = num
		}
		lists = append(lists, pages)
		want = append(want, impl.Tx{Num: num, Seq: 1000 - 50*i, Recs: recs})
	}
	for _, step := range []int{1, 3, 5, 7} {
		var pages []impl.Page
		for part := 3; part >= 0; part-- {
			for i := range lists {
				if list := lists[i*step%8]; part < len(list) {
					pages = append(pages, list[part])
				}
			}
		}
		wantGathered(t, "all", foundOf(pages...), want...)
		for missing := range pages {
			left := slices.DeleteFunc(slices.Clone(want), func(tx impl.Tx) bool { return tx.Num == pages[missing].Tx })
			rest := slices.Delete(slices.Clone(pages), missing, missing+1)
			wantGathered(t, "one page is missing, and with it one transaction", foundOf(rest...), left...)
		}
	}
}

// All lists of up to 4 of these pages: two transactions, two Counts.
func TestAllShortListsAreGatheredByRule(t *testing.T) {
	one, two := recBytes(dropRec(1)), recBytes(dropRec(2))
	pages := []impl.Page{
		metaPage(5, 1, 0, 2, one), metaPage(4, 1, 0, 2, two), metaPage(3, 1, 1, 2, two), metaPage(6, 1, 1, 2, "\x41"),
		metaPage(2, 1, 0, 1, one), metaPage(1, 1, 1, 3, one), metaPage(7, 1, 0, 0, two), metaPage(8, 1, -1, 2, two),
		metaPage(9, 2, 0, 2, one), metaPage(10, 2, 1, 2, two), dataPage(11, 1, one),
	}
	gathered := 0
	var try func(list []impl.Page)
	try = func(list []impl.Page) {
		found := foundOf(list...)
		gathered += len(gatherByRule(found))
		wantGatheredByRule(t, "short", found)
		if len(list) == 4 {
			return
		}
		for _, p := range pages {
			try(append(slices.Clone(list), p))
		}
	}
	try(nil)
	if gathered < 1000 {
		t.Errorf("only %d are gathered", gathered)
	}
}

func TestDrawnListsAreGatheredByRule(t *testing.T) {
	draws := mixedText(60000)
	texts := []string{"", recBytes(dropRec(1)), recBytes(putRec(1, 2, 300)), "\x41", "\x03\x02"}
	gathered := 0
	for size := 0; len(draws) > 6*size; size = (size + 1) % 40 {
		var pages []impl.Page
		for ; len(pages) < size; draws = draws[6:] {
			p := metaPage(int(draws[0]), int(draws[1])%5-1, int(draws[2])%5-1, int(draws[3])%6-1, texts[int(draws[4])/2%len(texts)])
			if draws[5] < 20 {
				p.Kind = impl.PageData
			}
			pages = append(pages, p)
		}
		gathered += len(gatherByRule(foundOf(pages...)))
		wantGatheredByRule(t, "drawn", foundOf(pages...))
	}
	if gathered < 100 {
		t.Errorf("only %d are gathered", gathered)
	}
}

func TestAnswersOfGatherAreTheirOwn(t *testing.T) {
	list := foundOf(append(pagesOf(t, 1, 1, smallRecs(40)), pagesOf(t, 3, 2, smallRecs(40))...)...)
	first, second := impl.Gather(list), impl.Gather(list)
	if sharesList(first, second) || sharesList(first[0].Recs, second[0].Recs) || sharesList(first[1].Recs, second[1].Recs) {
		t.Error("two answers stand in one memory")
	}
	for i := range first {
		_ = append(first[i].Recs[:1], dropRec(9), dropRec(9))
		first[i] = impl.Tx{}
	}
	wantGathered(t, "asked again", list, second...)
	wantGatheredByRule(t, "asked again", list)
}

// sinceByRule goes from the first to the last: each base begins anew.
func sinceByRule(list []impl.Tx) []impl.Tx {
	var out []impl.Tx
	for _, tx := range list {
		if len(tx.Recs) > 0 && tx.Recs[0].Kind == 1 {
			out = nil
		}
		out = append(out, tx)
	}
	return out
}

func copiedTxs(list []impl.Tx) []impl.Tx {
	out := slices.Clone(list)
	for i := range out {
		out[i].Recs = slices.Clone(out[i].Recs)
	}
	return out
}

func wantSince(t *testing.T, why string, list, want []impl.Tx) {
	t.Helper()
	twin := copiedTxs(list[:cap(list)])
	got := impl.SinceBase(list)
	if !slices.EqualFunc(got, want, sameTx) {
		t.Errorf("%s: SinceBase of %#v is %#v, not %#v", why, list, got, want)
	}
	if !slices.EqualFunc(list[:cap(list)], twin, sameTx) {
		t.Errorf("%s: SinceBase has written into its list", why)
	}
	if sharesList(got, list) {
		t.Errorf("%s: the answer stands in the list's memory", why)
	}
	for i := range got {
		for j := range list {
			if sharesList(got[i].Recs, list[j].Recs) {
				t.Errorf("%s: records of the answer stand in the list's memory", why)
			}
		}
		for j := range i {
			if sharesList(got[i].Recs, got[j].Recs) {
				t.Errorf("%s: two lists of one answer stand in one memory", why)
			}
		}
	}
}

func txOf(num int, recs ...impl.Rec) impl.Tx { return impl.Tx{Num: num, Seq: 10 * num, Recs: recs} }

func TestSinceBaseOfNoTransaction(t *testing.T) {
	wantSince(t, "nil", nil, nil)
	wantSince(t, "none", []impl.Tx{}, nil)
}

func TestSinceBaseWithoutABase(t *testing.T) {
	list := []impl.Tx{txOf(1, dropRec(1)), txOf(2), txOf(3, putRec(1, 1, 1), trimRec(1, 2)), txOf(4, volRec(1, 0))}
	for size := range len(list) + 1 {
		wantSince(t, "all", list[:size], copiedTxs(list[:size]))
	}
}

func TestSinceBaseOfOneAndOfSeveralBases(t *testing.T) {
	for size := 1; size <= 5; size++ {
		for bases := range 1 << size {
			var list []impl.Tx
			last := 0
			for i := range size {
				if bases>>i&1 == 1 {
					list, last = append(list, txOf(i, baseRec(5), volRec(1, 0))), i
				} else {
					list = append(list, txOf(i, volRec(2, 0), putRec(2, 0, 7)))
				}
			}
			wantSince(t, "bases", list, copiedTxs(list[last:]))
		}
	}
}

func TestSinceBaseOfTransactionsWithoutRecords(t *testing.T) {
	list := []impl.Tx{txOf(1), {Num: 2, Seq: 20, Recs: []impl.Rec{}}, txOf(3)}
	wantSince(t, "one without", list[:1], []impl.Tx{txOf(1)})
	wantSince(t, "all without", list, []impl.Tx{txOf(1), txOf(2), txOf(3)})
	behind := append([]impl.Tx{txOf(7), txOf(8, baseRec(1))}, list...)
	wantSince(t, "behind a base", behind, append([]impl.Tx{txOf(8, baseRec(1))}, list...))
}

// A base counts as the first record alone.
func TestSinceBaseOfABaseThatIsNotFirst(t *testing.T) {
	late := []impl.Tx{txOf(1, dropRec(1)), txOf(2, volRec(1, 0), baseRec(5)), txOf(3, dropRec(1), dropRec(1), baseRec(0))}
	wantSince(t, "no base is first", late, copiedTxs(late))
	list := append([]impl.Tx{txOf(8), txOf(9, baseRec(3))}, late...)
	wantSince(t, "a base, and others that are not first", list, copiedTxs(list[1:]))
	both := append(slices.Clone(late), txOf(4, baseRec(2), baseRec(1)))
	wantSince(t, "two bases in one", both, copiedTxs(both[3:]))
}

// Where it stands in the list counts, not its numbers; and its Kind alone, not
// whether it is right.
func TestSinceBaseLooksAtPlaceAndKindAlone(t *testing.T) {
	list := []impl.Tx{
		{Num: 9, Seq: 900, Recs: []impl.Rec{baseRec(9)}},
		{Num: -1, Seq: math.MinInt, Recs: []impl.Rec{baseRec(1)}},
		{Num: 300, Seq: math.MaxInt, Recs: []impl.Rec{dropRec(1)}},
		{Num: 300, Seq: 2, Recs: []impl.Rec{{Kind: 17}}},
	}
	wantSince(t, "place", list, copiedTxs(list[1:]))
	wrong := append(slices.Clone(list), impl.Tx{Recs: []impl.Rec{{Kind: impl.RecBase, Vol: 7, Arg: -1, Chunk: 3}}})
	wantSince(t, "Kind", wrong, copiedTxs(wrong[4:]))
	for _, c := range slices.Concat(rightRecs(), wrongRecs()) {
		list := []impl.Tx{txOf(1, dropRec(1)), txOf(2, c.rec)}
		wantSince(t, c.name, list, copiedTxs(sinceByRule(list)))
	}
}

func TestSinceBaseOfDrawnLists(t *testing.T) {
	draws := mixedText(20000)
	for size := 0; len(draws) > 36; size = (size + 1) % 12 {
		var list []impl.Tx
		for range size {
			if len(draws) <= 36 {
				break
			}
			count := int(draws[0]) % 6
			list = append(list, impl.Tx{Num: int(draws[1]), Seq: int(draws[2]), Recs: drawnRecs(draws[:6*count])})
			draws = draws[6*count+1:]
		}
		draws = draws[1:]
		wantSince(t, "drawn", list, copiedTxs(sinceByRule(list)))
	}
}

// Lists of records that stand in one memory are apart in the answer.
func TestSinceBaseOfListsThatShare(t *testing.T) {
	recs := smallRecs(6)
	list := []impl.Tx{{Num: 1, Recs: recs}, {Num: 2, Recs: recs[:3]}, {Num: 3, Recs: recs[3:]}, {Num: 4, Recs: recs}}
	wantSince(t, "shared", list, copiedTxs(list))
	wantSince(t, "spare room", list[:2], copiedTxs(list[:2]))
	got := impl.SinceBase(list[:2])
	_ = append(got, impl.Tx{Num: 77})
	_ = append(got[1].Recs, dropRec(9))
	if list[2].Num != 3 || recs[3] != smallRecs(6)[3] || !strings.HasPrefix(recBytes(recs...), recBytes(got[1].Recs...)) {
		t.Error("what is put behind an answer has changed what was handed in")
	}
}
