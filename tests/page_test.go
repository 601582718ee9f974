package tests

import (
	"cmp"
	"encoding/binary"
	"math"
	"slices"
	"strings"
	"testing"

	"loop.example/g00195/impl"
)

// Promise 6: pages come back from their bytes; a scan ascends.

func dataPage(seq, tx int, text string) impl.Page {
	return impl.Page{Kind: impl.PageData, Seq: seq, Tx: tx, Count: 1, Text: text}
}

func metaPage(seq, tx, part, count int, text string) impl.Page {
	return impl.Page{Kind: impl.PageMeta, Seq: seq, Tx: tx, Part: part, Count: count, Text: text}
}

// pageRightByRule is chapter 6's rule for PageOk.
func pageRightByRule(p impl.Page) bool {
	counted := 1 <= p.Count && p.Count <= 9 && 0 <= p.Part && p.Part < p.Count
	alone := p.Count == 1 && p.Part == 0
	return (p.Kind == 1 && alone || p.Kind == 2 && counted) &&
		1 <= p.Seq && p.Seq <= 1000000000 &&
		1 <= p.Tx && p.Tx <= 1000000000 &&
		len(p.Text) <= 90
}

// sealedByRule is chapter 2's rule for Sealed.
func sealedByRule(text string) string {
	return string(binary.BigEndian.AppendUint32([]byte(text), sumByBits(4294967295, text)))
}

// bodyByRule has the bytes of a page ahead of its seal, right or not, as far as
// its numbers are not below 0.
func bodyByRule(p impl.Page) string {
	out := []byte{byte(p.Kind)}
	for _, number := range []int{p.Seq, p.Tx, p.Part, p.Count} {
		out = binary.AppendUvarint(out, uint64(number))
	}
	return string(out) + p.Text
}

func pageBytes(p impl.Page) string { return sealedByRule(bodyByRule(p)) }

// readPageByRule reads what may be a page, and then asks whether it is right
// and whether these are its bytes.
func readPageByRule(text string) (impl.Page, bool) {
	if len(text) < 5 {
		return impl.Page{}, false
	}
	rest := text[1 : len(text)-4]
	var numbers [4]int
	for i := range numbers {
		number, size := binary.Uvarint([]byte(rest))
		if size <= 0 {
			return impl.Page{}, false
		}
		numbers[i], rest = int(number), rest[size:]
	}
	p := impl.Page{Kind: int(text[0]), Seq: numbers[0], Tx: numbers[1], Part: numbers[2], Count: numbers[3], Text: rest}
	if !pageRightByRule(p) || pageBytes(p) != text {
		return impl.Page{}, false
	}
	return p, true
}

func wantPageText(t *testing.T, p impl.Page) {
	t.Helper()
	want, wantOk := "", pageRightByRule(p)
	if wantOk {
		want = pageBytes(p)
	}
	p.Text = strings.Clone(p.Text)
	if impl.PageOk(p) != wantOk {
		t.Errorf("PageOk of %#v is not %v", p, wantOk)
	}
	got, ok := impl.PageText(p)
	if got != want || ok != wantOk {
		t.Errorf("PageText of %#v is %q, %v, not %q, %v", p, got, ok, want, wantOk)
	}
	if sharesMemory(got, p.Text) {
		t.Errorf("PageText of %#v answers memory of what was handed in", p)
	}
}

func wantReadPage(t *testing.T, why, text string, want impl.Page, wantOk bool) {
	t.Helper()
	given := strings.Clone(text)
	got, ok := impl.ReadPage(given)
	if got != want || ok != wantOk {
		t.Errorf("%s: ReadPage of %q is %#v, %v, not %#v, %v", why, text, got, ok, want, wantOk)
	}
	if given != text {
		t.Errorf("%s: ReadPage of %q has made %q of it", why, text, given)
	}
	if sharesMemory(got.Text, given) {
		t.Errorf("%s: ReadPage of %q answers memory of what was handed in", why, text)
	}
}

func wantReadByRule(t *testing.T, why, text string) {
	t.Helper()
	want, ok := readPageByRule(text)
	wantReadPage(t, why, text, want, ok)
}

func refusesToReadPage(t *testing.T, why, text string) {
	t.Helper()
	wantReadPage(t, why, text, impl.Page{}, false)
}

type namedPage struct {
	name string
	page impl.Page
}

// rightPages are pages as chapter 6 wants them, at its limits as well.
func rightPages() []namedPage {
	const most = impl.MaxNumber
	longest := mixedText(impl.MaxPart)
	return []namedPage{
		{"data", dataPage(1, 1, "x")},
		{"data of no bytes", dataPage(3, 2, "")},
		{"data of MaxPart bytes", dataPage(4, 5, longest)},
		{"data at the limits of its numbers", dataPage(most, most, longest)},
		{"meta", metaPage(1, 2, 0, 1, "x")},
		{"meta of no bytes", metaPage(7, 8, 1, 2, "")},
		{"meta of MaxPart bytes", metaPage(300, 200, 4, 5, longest)},
		{"Seq of MaxNumber", metaPage(most, 1, 0, 1, "s")},
		{"Tx of MaxNumber", metaPage(1, most, 0, 1, "t")},
		{"Count 9, first Part", metaPage(5, 6, 0, 9, "first")},
		{"Count 9, last Part", metaPage(5, 6, 8, 9, "last")},
		{"Count 2, last Part", metaPage(5, 6, 1, 2, "last")},
		{"the greatest", metaPage(most, most, 8, 9, longest)},
		{"text of noughts", metaPage(127, 128, 0, 1, strings.Repeat("\x00", impl.MaxPart))},
		{"text like numbers that go on", dataPage(128, 127, "\x80\x80\x01\xff")},
		{"text like a page", dataPage(9, 9, pageBytes(metaPage(1, 2, 0, 1, "x")))},
	}
}

// wrongPages miss one thing each that chapter 6 wants.
func wrongPages() []namedPage {
	const over = impl.MaxNumber + 1
	long := mixedText(impl.MaxPart + 1)
	of := func(kind int) impl.Page { return impl.Page{Kind: kind, Seq: 1, Tx: 1, Count: 1, Text: "x"} }
	return []namedPage{
		{"nothing at all", impl.Page{}},
		{"Kind 0", of(0)},
		{"Kind above the two", of(3)},
		{"Kind below 0", of(-1)},
		{"Kind that is PageData in its last byte", of(257)},
		{"Kind that is PageMeta in its last byte", of(258)},
		{"Kind below 0 that is PageMeta in its last byte", of(-254)},
		{"Kind far away", of(math.MaxInt)},
		{"data, Seq 0", dataPage(0, 1, "x")},
		{"data, Seq below 0", dataPage(-1, 1, "x")},
		{"data, Seq above MaxNumber", dataPage(over, 1, "x")},
		{"data, Tx 0", dataPage(1, 0, "x")},
		{"data, Tx below 0", dataPage(1, -1, "x")},
		{"data, Tx above MaxNumber", dataPage(1, over, "x")},
		{"meta, Seq 0", metaPage(0, 1, 0, 1, "x")},
		{"meta, Seq below 0", metaPage(-1, 1, 0, 1, "x")},
		{"meta, Seq far below 0", metaPage(math.MinInt, 1, 0, 1, "x")},
		{"meta, Seq above MaxNumber", metaPage(over, 1, 0, 1, "x")},
		{"meta, Seq far above MaxNumber", metaPage(math.MaxInt, 1, 0, 1, "x")},
		{"meta, Tx 0", metaPage(1, 0, 0, 1, "x")},
		{"meta, Tx below 0", metaPage(1, -1, 0, 1, "x")},
		{"meta, Tx far below 0", metaPage(1, math.MinInt, 0, 1, "x")},
		{"meta, Tx above MaxNumber", metaPage(1, over, 0, 1, "x")},
		{"meta, Tx far above MaxNumber", metaPage(1, math.MaxInt, 0, 1, "x")},
		{"meta, Count 0", metaPage(1, 1, 0, 0, "x")},
		{"meta, Count and Part below 0", metaPage(1, 1, -2, -1, "x")},
		{"meta, Count 10", metaPage(1, 1, 0, 10, "x")},
		{"meta, Count 10, last Part", metaPage(1, 1, 9, 10, "x")},
		{"meta, Count far above 9", metaPage(1, 1, 0, math.MaxInt, "x")},
		{"meta, Part below 0", metaPage(1, 1, -1, 1, "x")},
		{"meta, Part far below 0", metaPage(1, 1, math.MinInt, 9, "x")},
		{"meta, Part of Count 1", metaPage(1, 1, 1, 1, "x")},
		{"meta, Part of Count 5", metaPage(1, 1, 5, 5, "x")},
		{"meta, Part of Count 9", metaPage(1, 1, 9, 9, "x")},
		{"meta, Part above Count", metaPage(1, 1, 6, 5, "x")},
		{"meta, Part far above Count", metaPage(1, 1, math.MaxInt, 9, "x")},
		{"data, Count 0", impl.Page{Kind: impl.PageData, Seq: 1, Tx: 1}},
		{"data, Count 2", impl.Page{Kind: impl.PageData, Seq: 1, Tx: 1, Count: 2}},
		{"data, Count 9", impl.Page{Kind: impl.PageData, Seq: 1, Tx: 1, Count: 9}},
		{"data, Count 2, Part 1", impl.Page{Kind: impl.PageData, Seq: 1, Tx: 1, Part: 1, Count: 2}},
		{"data, Count 1, Part 1", impl.Page{Kind: impl.PageData, Seq: 1, Tx: 1, Part: 1, Count: 1}},
		{"data, Part below 0", impl.Page{Kind: impl.PageData, Seq: 1, Tx: 1, Part: -1, Count: 1}},
		{"data of more than MaxPart bytes", dataPage(1, 1, long)},
		{"meta of more than MaxPart bytes", metaPage(1, 1, 0, 1, long)},
		{"meta of far more than MaxPart bytes", metaPage(1, 1, 0, 1, mixedText(impl.MaxText+1))},
	}
}

func TestKindsAndLimitsOfPages(t *testing.T) {
	got := []int{impl.PageData, impl.PageMeta, impl.MaxPart}
	if want := []int{1, 2, 90}; !slices.Equal(got, want) {
		t.Errorf("constants are %v, not %v", got, want)
	}
}

func TestRightPagesAreWritten(t *testing.T) {
	for _, c := range rightPages() {
		if !impl.PageOk(c.page) {
			t.Errorf("%s: PageOk of %#v is false", c.name, c.page)
		}
		wantPageText(t, c.page)
	}
}

func TestWrongPagesAreRefused(t *testing.T) {
	for _, c := range wrongPages() {
		if impl.PageOk(c.page) {
			t.Errorf("%s: PageOk of %#v is true", c.name, c.page)
		}
		if got, ok := impl.PageText(c.page); ok || got != "" {
			t.Errorf("%s: PageText of %#v is %q, %v", c.name, c.page, got, ok)
		}
	}
}

// Each value of a field is held against each of the others.
func TestPagesOfAllFieldsAtTheirLimits(t *testing.T) {
	kinds := []int{math.MinInt, -1, 0, 1, 2, 3, 257, 258}
	numbers := []int{math.MinInt, -1, 0, 1, impl.MaxNumber, impl.MaxNumber + 1, math.MaxInt}
	counts := []int{math.MinInt, -1, 0, 1, 2, 8, 9, 10, math.MaxInt}
	texts := []string{"", "x", mixedText(89), mixedText(90), mixedText(91)}
	for _, kind := range kinds {
		for _, seq := range numbers {
			for _, tx := range numbers {
				for _, count := range counts {
					for _, part := range counts {
						for _, text := range texts {
							wantPageText(t, impl.Page{Kind: kind, Seq: seq, Tx: tx, Part: part, Count: count, Text: text})
						}
					}
				}
			}
		}
	}
}

func TestBytesOfKnownPages(t *testing.T) {
	for _, c := range []struct {
		page impl.Page
		body string
	}{
		{metaPage(1, 2, 0, 1, "x"), "\x02\x01\x02\x00\x01x"},
		{dataPage(1, 1, ""), "\x01\x01\x01\x00\x01"},
		{dataPage(300, 128, "ab"), "\x01\xac\x02\x80\x01\x00\x01ab"},
		{metaPage(127, 16384, 8, 9, "\x00"), "\x02\x7f\x80\x80\x01\x08\x09\x00"},
		{metaPage(impl.MaxNumber, impl.MaxNumber, 0, 2, ""), "\x02\x80\x94\xeb\xdc\x03\x80\x94\xeb\xdc\x03\x00\x02"},
	} {
		want := sealedText(t, c.body)
		if got, ok := impl.PageText(c.page); !ok || got != want {
			t.Errorf("PageText of %#v is %q, %v, not %q", c.page, got, ok, want)
		}
		wantReadPage(t, "known", want, c.page, true)
	}
}

func TestTheGreatestPageFitsALeaf(t *testing.T) {
	greatest := metaPage(impl.MaxNumber, impl.MaxNumber, 8, 9, mixedText(impl.MaxPart))
	text, ok := impl.PageText(greatest)
	if !ok || len(text) != 107 {
		t.Fatalf("PageText of the greatest page has %d bytes, %v", len(text), ok)
	}
	f, ok := impl.Program(flashOf(), 2, 0, text)
	if !ok {
		t.Fatal("the greatest page does not fit a leaf")
	}
	wantScan(t, "the greatest", f, []impl.Found{{Block: 2, Leaf: 0, Page: greatest}})
}

func wantPageBack(t *testing.T, p impl.Page) {
	t.Helper()
	text, ok := impl.PageText(p)
	if !ok {
		t.Fatalf("PageText of %#v is refused", p)
	}
	wantReadPage(t, "written", text, p, true)
}

func TestPagesComeBackFromTheirBytes(t *testing.T) {
	for _, c := range rightPages() {
		wantPageBack(t, c.page)
	}
	for _, number := range someNumbers() {
		if number >= 1 && number <= impl.MaxNumber {
			wantPageBack(t, dataPage(number, 1, "d"))
			wantPageBack(t, dataPage(1, number, "d"))
			wantPageBack(t, metaPage(number, impl.MaxNumber+1-number, 2, 3, "m"))
		}
	}
	for count := 1; count <= 9; count++ {
		for part := range count {
			wantPageBack(t, metaPage(10, 20, part, count, "p"))
		}
	}
	for size := range impl.MaxPart + 1 {
		wantPageBack(t, dataPage(1, 2, mixedText(size)))
		wantPageBack(t, metaPage(1, 2, 0, 1, everyByte()[256-size:]))
	}
	for b := range 256 {
		wantPageBack(t, dataPage(1, 2, string([]byte{byte(b)})))
	}
}

func TestPagesWithOneByteTurnedAreNone(t *testing.T) {
	for _, c := range rightPages() {
		text := pageBytes(c.page)
		for at := range text {
			for mask := 1; mask < 256; mask++ {
				refusesToReadPage(t, c.name+", a byte turned", turned(text, at, byte(mask)))
			}
		}
	}
}

func TestPagesCutShortOrMadeLongerAreNone(t *testing.T) {
	for _, c := range rightPages() {
		text := pageBytes(c.page)
		for size := range text {
			refusesToReadPage(t, c.name+", cut behind", text[:size])
			refusesToReadPage(t, c.name+", cut ahead", text[size+1:])
		}
		for b := range 256 {
			more := string([]byte{byte(b)})
			refusesToReadPage(t, c.name+", longer behind", text+more)
			refusesToReadPage(t, c.name+", longer ahead", more+text)
		}
		refusesToReadPage(t, c.name+", twice", text+text)
		// The first sum is then the end of its Text, as far as MaxPart has room.
		wantReadByRule(t, c.name+", sealed twice", sealedByRule(text))
	}
}

// longerForm is a number in so many bytes more than it needs.
func longerForm(number, more int) string {
	out := binary.AppendUvarint(nil, uint64(number))
	for range more {
		out[len(out)-1] |= 128
		out = append(out, 0)
	}
	return string(out)
}

func TestNumbersInLongerFormsAreNoPage(t *testing.T) {
	for _, c := range rightPages() {
		numbers := []int{c.page.Seq, c.page.Tx, c.page.Part, c.page.Count}
		for long := range numbers {
			for more := range 5 {
				body := string([]byte{byte(c.page.Kind)})
				for i, number := range numbers {
					if i == long {
						body += longerForm(number, more)
					} else {
						body += longerForm(number, 0)
					}
				}
				text := sealedByRule(body + c.page.Text)
				if more == 0 {
					wantReadPage(t, c.name, text, c.page, true)
				} else {
					refusesToReadPage(t, c.name+", a number in a longer form", text)
				}
			}
		}
	}
}

func TestSealedBytesOfWrongPagesAreNone(t *testing.T) {
	for _, c := range wrongPages() {
		p := c.page
		if min(p.Kind, p.Seq, p.Tx, p.Part, p.Count) >= 0 && p.Kind < 256 {
			refusesToReadPage(t, c.name, pageBytes(p))
		}
	}
	for kind := range 256 {
		for _, c := range rightPages() {
			c.page.Kind = kind
			wantReadByRule(t, c.name+" of each Kind", pageBytes(c.page))
		}
	}
	for part := range 130 {
		for count := range 130 {
			wantReadByRule(t, "data of each Part and Count", pageBytes(impl.Page{Kind: 1, Seq: 1, Tx: 1, Part: part, Count: count}))
			wantReadByRule(t, "meta of each Part and Count", pageBytes(impl.Page{Kind: 2, Seq: 1, Tx: 1, Part: part, Count: count}))
		}
	}
}

func TestSealedBytesThatEndTooSoonAreNoPage(t *testing.T) {
	refusesToReadPage(t, "nothing, sealed", sealedByRule(""))
	for _, c := range rightPages() {
		body := bodyByRule(c.page)
		head := len(body) - len(c.page.Text)
		for size := range head {
			refusesToReadPage(t, c.name+", numbers missing", sealedByRule(body[:size]))
		}
		for size := head; size <= len(body); size++ {
			want := c.page
			want.Text = body[head:size]
			wantReadPage(t, c.name+", text cut", sealedByRule(body[:size]), want, true)
		}
	}
	refusesToReadPage(t, "a number that goes on at the end", sealedByRule("\x02\x01\x01\x00\x81"))
	refusesToReadPage(t, "a number without an end", sealedByRule("\x02"+strings.Repeat("\xff", 80)))
	refusesToReadPage(t, "as many bytes as may be sealed", sealedByRule(mixedText(impl.MaxText)))
	refusesToReadPage(t, "a page and as many bytes as may be sealed", sealedByRule("\x01\x01\x01\x00\x01"+mixedText(impl.MaxText-5)))
}

// All short texts over bytes that count here, each of them sealed.
func TestShortSealedTextsAreReadByRule(t *testing.T) {
	pages := 0
	for size := range 7 {
		for _, body := range textsOver("\x00\x01\x02\x09\x0a\x80", size) {
			text := sealedByRule(body)
			if _, ok := readPageByRule(text); ok {
				pages++
			}
			wantReadByRule(t, "short", text)
		}
	}
	if pages == 0 {
		t.Error("none of them is a page")
	}
}

func TestTextsThatAreNotSealedAreNoPage(t *testing.T) {
	body := bodyByRule(metaPage(1, 2, 0, 1, "x"))
	sum := sumByBits(4294967295, body)
	for _, c := range []struct{ why, text string }{
		{"nothing", ""},
		{"one byte", "\x01"},
		{"three bytes", "\x01\x01\x01"},
		{"four bytes", "\x00\x00\x00\x00"},
		{"noughts", strings.Repeat("\x00", impl.PageSize)},
		{"no sum", body},
		{"a sum of 0", body + "\x00\x00\x00\x00"},
		{"a sum from its lowest byte on", body + string(binary.LittleEndian.AppendUint32(nil, sum))},
		{"a sum whose bits are turned", body + string(binary.BigEndian.AppendUint32(nil, ^sum))},
		{"a sum that starts at 0", body + string(binary.BigEndian.AppendUint32(nil, sumByBits(0, body)))},
		{"a sum ahead", string(binary.BigEndian.AppendUint32(nil, sum)) + body},
		{"the sum of another", body + sealedByRule("")},
		{"as long as may be", mixedText(impl.MaxText)},
		{"longer than what is sealed", sealedByRule(mixedText(impl.MaxText + 1))},
		{"far longer", mixedText(10 * impl.MaxText)},
	} {
		refusesToReadPage(t, c.why, c.text)
	}
	for size := range impl.PageSize + 1 {
		wantReadByRule(t, "mixed bytes", mixedText(size))
	}
}

func byPlace(a, b impl.Found) int {
	return cmp.Or(cmp.Compare(a.Page.Seq, b.Page.Seq), cmp.Compare(a.Block, b.Block), cmp.Compare(a.Leaf, b.Leaf))
}

// scanByRule is chapter 6's rule for ScanAll: it has each one behind all that
// are less.
func scanByRule(f impl.Flash) []impl.Found {
	var all []impl.Found
	for b, block := range f.Blocks {
		for i, leaf := range block.Leaves {
			if page, ok := readPageByRule(leaf.Text); ok && leaf.Is == 1 {
				all = append(all, impl.Found{Block: b, Leaf: i, Page: page})
			}
		}
	}
	out := make([]impl.Found, len(all))
	for _, one := range all {
		place := 0
		for _, other := range all {
			if byPlace(other, one) < 0 {
				place++
			}
		}
		out[place] = one
	}
	return out
}

// wantScan asks for what ScanAll and LastSeq answer, that what was handed in is
// as it was, and that what is answered is new.
func wantScan(t *testing.T, what string, f impl.Flash, want []impl.Found) {
	t.Helper()
	given, like := twinFlash(f), twinFlash(f)
	got, last := impl.ScanAll(given), impl.LastSeq(given)
	if !slices.Equal(got, want) {
		t.Errorf("%s: ScanAll of %#v\nis  %#v\nnot %#v", what, f, got, want)
	}
	wantLast := 0
	for _, found := range want {
		wantLast = max(wantLast, found.Page.Seq)
	}
	if last != wantLast {
		t.Errorf("%s: LastSeq of %#v is %d, not %d", what, f, last, wantLast)
	}
	if !sameFlash(withSpare(given), withSpare(like)) {
		t.Errorf("%s: ScanAll or LastSeq has written into what was handed in: %#v, was %#v", what, withSpare(given), withSpare(like))
	}
	for _, found := range got {
		if sharesText([]impl.Leaf{fullLeaf(found.Page.Text)}, leavesOf(given)) {
			t.Errorf("%s: ScanAll answers memory of what was handed in", what)
		}
	}
	for i := 1; i < len(got); i++ {
		if byPlace(got[i-1], got[i]) >= 0 {
			t.Errorf("%s: ScanAll does not ascend: %#v", what, got)
		}
	}
}

func wantScanByRule(t *testing.T, what string, f impl.Flash) {
	t.Helper()
	wantScan(t, what, f, scanByRule(f))
}

// pageLeaf is a Full leaf with a page of this Seq.
func pageLeaf(seq int) impl.Leaf { return fullLeaf(pageBytes(dataPage(seq, 1, "x"))) }

// foundAt is what a scan tells of a pageLeaf.
func foundAt(b, leaf, seq int) impl.Found {
	return impl.Found{Block: b, Leaf: leaf, Page: dataPage(seq, 1, "x")}
}

func TestScanOfBlankFlashesIsEmpty(t *testing.T) {
	for n := 3; n <= impl.MaxBlocks; n++ {
		f, _ := impl.FlashNew(n)
		wantScan(t, "blank", f, nil)
	}
}

func TestScanOfFullLeavesAlone(t *testing.T) {
	text := pageBytes(dataPage(1, 1, "x"))
	greater := pageBytes(dataPage(9, 1, "x"))
	f := flashOf(blockOf(0, tornLeaf(text), fullLeaf(text), tornLeaf(greater)), blockOf(3, fullLeaf(text), tornLeaf("")))
	wantScan(t, "Torn and blank", f, []impl.Found{foundAt(0, 1, 1), foundAt(1, 0, 1)})
	wantScan(t, "all Torn", flashOf(blockOf(0, tornLeaf(text), tornLeaf(text), tornLeaf(greater), tornLeaf(text))), nil)
	blank := impl.Leaf{Is: impl.Blank, Text: greater}
	wantScan(t, "blank and not empty", flashOf(blockOf(0, fullLeaf(text), blank)), []impl.Found{foundAt(0, 0, 1)})
	for _, is := range []int{math.MinInt, -1, 3, math.MaxInt} {
		none := impl.Leaf{Is: is, Text: greater}
		wantScan(t, "no such state", flashOf(blockOf(0, none, fullLeaf(text))), []impl.Found{foundAt(0, 1, 1)})
	}
}

func TestScanLeavesOutWhatIsNoPage(t *testing.T) {
	text := pageBytes(dataPage(9, 1, "x"))
	for _, c := range []struct{ name, text string }{
		{"nothing", ""},
		{"one byte", "x"},
		{"mixed bytes", mixedText(impl.PageSize)},
		{"a byte turned", turned(text, 1, 1)},
		{"cut short", text[:len(text)-1]},
		{"made longer", text + "\x00"},
		{"not sealed", bodyByRule(dataPage(9, 1, "x"))},
		{"Seq in a longer form", sealedByRule("\x01\x89\x00\x01\x00\x01x")},
		{"Seq 0", pageBytes(dataPage(0, 1, "x"))},
		{"Seq above MaxNumber", pageBytes(dataPage(impl.MaxNumber+1, 1, "x"))},
		{"Kind 3", pageBytes(impl.Page{Kind: 3, Seq: 9, Tx: 1, Count: 1})},
		{"Text above MaxPart", pageBytes(dataPage(9, 1, mixedText(impl.MaxPart+1)))},
	} {
		wantScan(t, c.name+" alone", flashOf(blockOf(0, fullLeaf(c.text))), nil)
		f := flashOf(blockOf(0, fullLeaf(c.text), pageLeaf(2), fullLeaf(c.text), pageLeaf(1)), blockOf(0, fullLeaf(c.text)))
		wantScan(t, c.name, f, []impl.Found{foundAt(0, 3, 1), foundAt(0, 1, 2)})
	}
}

// ordersOf are all orders of these numbers.
func ordersOf(numbers []int) [][]int {
	if len(numbers) == 0 {
		return [][]int{nil}
	}
	var out [][]int
	for i, first := range numbers {
		for _, rest := range ordersOf(slices.Concat(numbers[:i], numbers[i+1:])) {
			out = append(out, slices.Concat([]int{first}, rest))
		}
	}
	return out
}

// leavesInOrder lays pages of these Seqs on 3 blocks in turn.
func leavesInOrder(seqs []int) impl.Flash {
	blocks := make([][]impl.Leaf, 3)
	for i, seq := range seqs {
		blocks[i%3] = append(blocks[i%3], pageLeaf(seq))
	}
	return flashOf(blockOf(0, blocks[0]...), blockOf(0, blocks[1]...), blockOf(0, blocks[2]...))
}

// Bytes of a Seq don't ascend as the number does, nor do its figures.
func TestScanAscendsInAnyOrderOfSeq(t *testing.T) {
	for _, seqs := range ordersOf([]int{1, 2, 9, 10, 128, 300}) {
		wantScanByRule(t, "orders", leavesInOrder(seqs))
	}
	for _, seqs := range ordersOf([]int{127, 255, 256, 16384, impl.MaxNumber - 1, impl.MaxNumber}) {
		wantScanByRule(t, "orders of great numbers", leavesInOrder(seqs))
	}
	for _, seqs := range ordersOf([]int{5, 5, 7, 7, 7}) {
		wantScanByRule(t, "orders of numbers that come again", leavesInOrder(seqs))
	}
	f := leavesInOrder([]int{300, 2, 128, 10})
	wantScan(t, "known", f, []impl.Found{foundAt(1, 0, 2), foundAt(0, 1, 10), foundAt(2, 0, 128), foundAt(0, 0, 300)})
}

// One Seq stands on each leaf of as many blocks as may be, with a page of its
// own on each; so many would come out of place in a sort that is not stable.
func TestScanOfOneSeqGoesByBlockThenLeaf(t *testing.T) {
	var f impl.Flash
	var want []impl.Found
	for b := range impl.MaxBlocks {
		var leaves []impl.Leaf
		for leaf := range impl.PagesPer {
			page := dataPage(7, 1000-10*b-leaf, mixedText(90-b))
			leaves = append(leaves, fullLeaf(pageBytes(page)))
			want = append(want, impl.Found{Block: b, Leaf: leaf, Page: page})
		}
		f.Blocks = append(f.Blocks, blockOf(b, leaves...))
	}
	wantScan(t, "one Seq", f, want)
	lesser := withLeaf(f, 9, 3, pageLeaf(6))
	wantScan(t, "one less at the end", lesser, slices.Concat([]impl.Found{foundAt(9, 3, 6)}, want[:39]))
	greater := withLeaf(f, 0, 0, pageLeaf(8))
	wantScan(t, "one greater at the beginning", greater, slices.Concat(want[1:], []impl.Found{foundAt(0, 0, 8)}))
}

func TestScanOfPagesOfBothKinds(t *testing.T) {
	pages := []impl.Page{metaPage(4, 9, 1, 2, "b"), dataPage(4, 9, "c"), metaPage(3, 9, 0, 2, "a"), dataPage(2, 9, "")}
	var leaves []impl.Leaf
	for _, page := range pages {
		leaves = append(leaves, fullLeaf(pageBytes(page)))
	}
	wantScan(t, "both", flashOf(blockOf(0), blockOf(0, leaves...)), []impl.Found{
		{Block: 1, Leaf: 3, Page: pages[3]},
		{Block: 1, Leaf: 2, Page: pages[2]},
		{Block: 1, Leaf: 0, Page: pages[0]},
		{Block: 1, Leaf: 1, Page: pages[1]},
	})
}

func TestScanOfBadBlocks(t *testing.T) {
	f := flashOf(badBlock(blockOf(0, pageLeaf(5), pageLeaf(3))), blockOf(0, pageLeaf(4)), badBlock(blockOf(0)))
	want := []impl.Found{foundAt(0, 1, 3), foundAt(1, 0, 4), foundAt(0, 0, 5)}
	wantScan(t, "Bad", f, want)
	for b := range f.Blocks {
		wantScan(t, "marked Bad", impl.MarkBad(f, b), want)
	}
}

// withPages is a flash like f that has pages for its texts, whatever its leaves
// are.
func withPages(f impl.Flash, seqs []int) impl.Flash {
	out := twinFlash(f)
	at := 0
	for _, block := range out.Blocks {
		for i := range block.Leaves {
			if leaf := &block.Leaves[i]; leaf.Text != "" {
				leaf.Text = pageBytes(metaPage(seqs[at%len(seqs)], at+1, 0, 1, "x"))
				at++
			}
		}
	}
	return out
}

// Scanning asks for no right flash: a page on a Full leaf is told.
func TestScanOfRightAndWrongFlashes(t *testing.T) {
	for _, c := range slices.Concat(rightFlashes(), wrongFlashes()) {
		wantScanByRule(t, c.name, c.flash)
		wantScanByRule(t, c.name+", with pages", withPages(c.flash, []int{5, 300, 2, 5, impl.MaxNumber, 1, 128}))
	}
	six := []impl.Leaf{pageLeaf(6), pageLeaf(5), pageLeaf(4), pageLeaf(3), pageLeaf(2), pageLeaf(1)}
	f := impl.Flash{Blocks: []impl.Block{{Bad: true, Wear: -1, Leaves: six}}}
	want := []impl.Found{foundAt(0, 5, 1), foundAt(0, 4, 2), foundAt(0, 3, 3), foundAt(0, 2, 4), foundAt(0, 1, 5), foundAt(0, 0, 6)}
	wantScan(t, "one block of six leaves", f, want)
}

// A drawn life of pages on a flash: each scan is what the rule tells, and what
// was programmed and not wiped since is all that is found.
func TestDrawnLifeOfPages(t *testing.T) {
	f, _ := impl.FlashNew(6)
	there := 0
	for draws := mixedText(6000); len(draws) > 5; draws = draws[6:] {
		b := int(draws[0]) % 6
		if draws[1] < 20 {
			there -= impl.NextBlank(f.Blocks[b])
			f, _ = impl.Wipe(f, b)
		}
		seq := 1 + int(draws[2])*int(draws[3])%200
		page := metaPage(seq, 1+int(draws[4]), int(draws[5])%9, 9, draws[:int(draws[5])%6])
		text, ok := impl.PageText(page)
		if !ok {
			t.Fatalf("PageText of %#v is refused", page)
		}
		if g, ok := impl.Program(f, b, impl.NextBlank(f.Blocks[b]), text); ok {
			f = g
			there++
		}
		wantScanByRule(t, "drawn", f)
		if got := len(impl.ScanAll(f)); got != there {
			t.Fatalf("%d pages are found, not %d", got, there)
		}
	}
}

func TestScanIsAskedTwice(t *testing.T) {
	f := leavesInOrder([]int{300, 2, 128, 10, 2})
	first := impl.ScanAll(f)
	like := slices.Clone(first)
	second := impl.ScanAll(f)
	if sharesList(first, second) {
		t.Error("two scans answer one memory")
	}
	for i := range second {
		second[i] = impl.Found{}
	}
	if !slices.Equal(first, like) || !slices.Equal(impl.ScanAll(f), like) {
		t.Error("a scan is not as it was")
	}
}
