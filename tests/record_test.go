package tests

import (
	"encoding/binary"
	"math"
	"slices"
	"strings"
	"testing"

	"loop.example/g00195/impl"
)

// Promise 9: records come back from their bytes.

func baseRec(next int) impl.Rec { return impl.Rec{Kind: impl.RecBase, Arg: next} }

func volRec(vol, of int) impl.Rec { return impl.Rec{Kind: impl.RecVol, Vol: vol, Arg: of} }

func dropRec(vol int) impl.Rec { return impl.Rec{Kind: impl.RecDrop, Vol: vol} }

func putRec(vol, sector, chunk int) impl.Rec {
	return impl.Rec{Kind: impl.RecPut, Vol: vol, Arg: sector, Chunk: chunk}
}

func trimRec(vol, sector int) impl.Rec {
	return impl.Rec{Kind: impl.RecTrim, Vol: vol, Arg: sector}
}

// fieldLimits are the least and the greatest that each field may be.
type fieldLimits struct{ vol, arg, chunk [2]int }

// limitsByRule is chapter 9's rule for RecOk; false for a Kind that is none.
func limitsByRule(kind int) (fieldLimits, bool) {
	const most = 1000000000
	switch kind {
	case 1:
		return fieldLimits{arg: [2]int{0, most}}, true
	case 2:
		return fieldLimits{vol: [2]int{1, 9}, arg: [2]int{0, 9}}, true
	case 3:
		return fieldLimits{vol: [2]int{1, 9}}, true
	case 4:
		return fieldLimits{vol: [2]int{1, 9}, arg: [2]int{0, 15}, chunk: [2]int{1, most}}, true
	case 5:
		return fieldLimits{vol: [2]int{1, 9}, arg: [2]int{0, 15}}, true
	}
	return fieldLimits{}, false
}

func isIn(n int, limits [2]int) bool { return limits[0] <= n && n <= limits[1] }

func recRightByRule(r impl.Rec) bool {
	limits, ok := limitsByRule(r.Kind)
	return ok && isIn(r.Vol, limits.vol) && isIn(r.Arg, limits.arg) && isIn(r.Chunk, limits.chunk)
}

// recBytes has the bytes of records one behind the other, right or not, as far
// as their numbers are not below 0.
func recBytes(recs ...impl.Rec) string {
	var out []byte
	for _, r := range recs {
		out = append(out, byte(16*r.Kind+r.Vol))
		out = binary.AppendUvarint(out, uint64(r.Arg))
		out = binary.AppendUvarint(out, uint64(r.Chunk))
	}
	return string(out)
}

// readRecsByRule reads what may be records, and then asks whether they are right
// and whether these are their bytes.
func readRecsByRule(text string) ([]impl.Rec, bool) {
	var recs []impl.Rec
	for rest := []byte(text); len(rest) > 0; {
		arg, argSize := binary.Uvarint(rest[1:])
		if argSize <= 0 {
			return nil, false
		}
		chunk, chunkSize := binary.Uvarint(rest[1+argSize:])
		if chunkSize <= 0 {
			return nil, false
		}
		r := impl.Rec{Kind: int(rest[0] >> 4), Vol: int(rest[0] & 15), Arg: int(arg), Chunk: int(chunk)}
		if !recRightByRule(r) {
			return nil, false
		}
		recs = append(recs, r)
		rest = rest[1+argSize+chunkSize:]
	}
	return recs, recBytes(recs...) == text
}

func wantRec(t *testing.T, why string, r impl.Rec, want bool) {
	t.Helper()
	if impl.RecOk(r) != want {
		t.Errorf("%s: RecOk of %#v is not %v", why, r, want)
	}
	wantText := ""
	if want {
		wantText = recBytes(r)
	}
	if got, ok := impl.RecText(r); got != wantText || ok != want {
		t.Errorf("%s: RecText of %#v is %q, %v, not %q, %v", why, r, got, ok, wantText, want)
	}
}

func wantRecs(t *testing.T, why, text string, want []impl.Rec, wantOk bool) {
	t.Helper()
	given := strings.Clone(text)
	got, ok := impl.ReadRecs(given)
	if !slices.Equal(got, want) || ok != wantOk {
		t.Errorf("%s: ReadRecs of %q is %#v, %v, not %#v, %v", why, text, got, ok, want, wantOk)
	}
	if given != text {
		t.Errorf("%s: ReadRecs of %q has made %q of it", why, text, given)
	}
	if ok {
		wantTextsOf(t, why, got, text)
	}
}

// wantTextsOf asks that a text is just the RecTexts of what was read from it.
func wantTextsOf(t *testing.T, why string, recs []impl.Rec, text string) {
	t.Helper()
	all := ""
	for _, r := range recs {
		one, ok := impl.RecText(r)
		if !ok {
			t.Errorf("%s: %#v is read, and not right", why, r)
		}
		all += one
	}
	if all != text {
		t.Errorf("%s: %#v is read from %q, and has the texts %q", why, recs, text, all)
	}
}

func wantRecsByRule(t *testing.T, why, text string) {
	t.Helper()
	if want, ok := readRecsByRule(text); ok {
		wantRecs(t, why, text, want, true)
	} else {
		refusesToReadRecs(t, why, text)
	}
}

func refusesToReadRecs(t *testing.T, why, text string) {
	t.Helper()
	wantRecs(t, why, text, nil, false)
}

type namedRec struct {
	name string
	rec  impl.Rec
}

// rightRecs are records as chapter 9 wants them, at its limits as well.
func rightRecs() []namedRec {
	const most = impl.MaxNumber
	return []namedRec{
		{"base of 0", baseRec(0)},
		{"base of 1", baseRec(1)},
		{"base beyond the volumes", baseRec(10)},
		{"base beyond the sectors", baseRec(16)},
		{"base of two bytes", baseRec(300)},
		{"base of MaxNumber", baseRec(most)},
		{"the first volume of none", volRec(1, 0)},
		{"the first volume of the last", volRec(1, 9)},
		{"the last volume of none", volRec(9, 0)},
		{"the last volume of the last", volRec(9, 9)},
		{"a volume of itself", volRec(4, 4)},
		{"a volume beyond MaxVols", volRec(impl.MaxVols+1, 2)},
		{"drop of the first volume", dropRec(1)},
		{"drop of the last volume", dropRec(9)},
		{"put", putRec(1, 3, 2)},
		{"put at the least", putRec(1, 0, 1)},
		{"put at the greatest", putRec(9, 15, most)},
		{"put beyond the volumes", putRec(5, 10, 300)},
		{"put of 127", putRec(2, 7, 127)},
		{"put of 128", putRec(2, 7, 128)},
		{"trim at the least", trimRec(1, 0)},
		{"trim at the greatest", trimRec(9, 15)},
		{"trim beyond the volumes", trimRec(3, 10)},
	}
}

// wrongRecs miss one thing each that chapter 9 wants.
func wrongRecs() []namedRec {
	const over = impl.MaxNumber + 1
	of := func(kind, vol, arg, chunk int) impl.Rec {
		return impl.Rec{Kind: kind, Vol: vol, Arg: arg, Chunk: chunk}
	}
	return []namedRec{
		{"nothing at all", impl.Rec{}},
		{"base below 0", baseRec(-1)},
		{"base above MaxNumber", baseRec(over)},
		{"base far above MaxNumber", baseRec(math.MaxInt)},
		{"base far below 0", baseRec(math.MinInt)},
		{"base with a Vol", of(1, 1, 5, 0)},
		{"base with a Vol below 0", of(1, -1, 5, 0)},
		{"base with a Chunk", of(1, 0, 5, 1)},
		{"base with a Chunk below 0", of(1, 0, 5, -1)},
		{"volume 0", volRec(0, 0)},
		{"volume 10", volRec(10, 0)},
		{"volume below 0", volRec(-1, 0)},
		{"volume of one below 0", volRec(1, -1)},
		{"volume of 10", volRec(1, 10)},
		{"volume of a sector", volRec(1, 15)},
		{"volume with a Chunk", of(2, 1, 0, 1)},
		{"volume with a Chunk below 0", of(2, 1, 0, -1)},
		{"drop of volume 0", dropRec(0)},
		{"drop of volume 10", dropRec(10)},
		{"drop with an Arg", of(3, 1, 1, 0)},
		{"drop with an Arg below 0", of(3, 1, -1, 0)},
		{"drop with a Chunk", of(3, 1, 0, 1)},
		{"put in volume 0", putRec(0, 3, 2)},
		{"put in volume 10", putRec(10, 3, 2)},
		{"put below the sectors", putRec(1, -1, 2)},
		{"put beyond the sectors", putRec(1, 16, 2)},
		{"put far beyond the sectors", putRec(1, impl.MaxNumber, 2)},
		{"put of no chunk", putRec(1, 3, 0)},
		{"put of a chunk below 0", putRec(1, 3, -1)},
		{"put of a chunk above MaxNumber", putRec(1, 3, over)},
		{"put of a chunk far above MaxNumber", putRec(1, 3, math.MaxInt)},
		{"trim in volume 0", trimRec(0, 3)},
		{"trim in volume 10", trimRec(10, 3)},
		{"trim below the sectors", trimRec(1, -1)},
		{"trim beyond the sectors", trimRec(1, 16)},
		{"trim far beyond the sectors", trimRec(1, math.MaxInt)},
		{"trim with a Chunk", of(5, 1, 3, 1)},
		{"trim with a Chunk below 0", of(5, 1, 3, -1)},
		{"Kind 0", of(0, 1, 3, 2)},
		{"Kind 0 with no Vol", of(0, 0, 3, 0)},
		{"Kind 6", of(6, 1, 3, 2)},
		{"Kind 6 like a trim", of(6, 1, 3, 0)},
		{"Kind 6 like a base", of(6, 0, 3, 0)},
		{"Kind below 0", of(-1, 1, 3, 2)},
	}
}

// writable asks whether a record has bytes at all, right or not.
func writable(r impl.Rec) bool {
	return isIn(r.Kind, [2]int{0, 15}) && isIn(r.Vol, [2]int{0, 15}) && min(r.Arg, r.Chunk) >= 0
}

func recsOf(list []namedRec) []impl.Rec {
	var out []impl.Rec
	for _, c := range list {
		out = append(out, c.rec)
	}
	return out
}

func TestKindsAndLimitsOfRecords(t *testing.T) {
	got := []int{impl.RecBase, impl.RecVol, impl.RecDrop, impl.RecPut, impl.RecTrim, impl.MaxVols, impl.Sectors}
	if want := []int{1, 2, 3, 4, 5, 3, 16}; !slices.Equal(got, want) {
		t.Errorf("constants are %v, not %v", got, want)
	}
}

func TestRightRecordsAreWritten(t *testing.T) {
	for _, c := range rightRecs() {
		wantRec(t, c.name, c.rec, true)
	}
}

func TestWrongRecordsAreRefused(t *testing.T) {
	for _, c := range wrongRecs() {
		wantRec(t, c.name, c.rec, false)
	}
}

// besideLimits are both limits, what is right beside them, and the greatest and
// least numbers.
func besideLimits(limits [2]int) []int {
	return []int{math.MinInt, limits[0] - 1, limits[0], limits[0] + 1, limits[1] - 1, limits[1], limits[1] + 1, math.MaxInt}
}

// Of a record that is right but for one field this field alone decides.
func TestEachFieldOfEachKindAtItsLimits(t *testing.T) {
	for kind := impl.RecBase; kind <= impl.RecTrim; kind++ {
		limits, _ := limitsByRule(kind)
		for side := range 2 {
			right := impl.Rec{Kind: kind, Vol: limits.vol[side], Arg: limits.arg[side], Chunk: limits.chunk[side]}
			wantRec(t, "at its limits", right, true)
			for _, n := range besideLimits(limits.vol) {
				r := right
				r.Vol = n
				wantRec(t, "Vol", r, isIn(n, limits.vol))
			}
			for _, n := range besideLimits(limits.arg) {
				r := right
				r.Arg = n
				wantRec(t, "Arg", r, isIn(n, limits.arg))
			}
			for _, n := range besideLimits(limits.chunk) {
				r := right
				r.Chunk = n
				wantRec(t, "Chunk", r, isIn(n, limits.chunk))
			}
		}
	}
}

// Each value of a field is held against each of the others. Some of them would
// be right in a narrower number.
func TestRecordsOfAllFieldsAtTheirLimits(t *testing.T) {
	const most = impl.MaxNumber
	kinds := []int{math.MinInt, -1, 0, 1, 2, 3, 4, 5, 6, 7, 15, 16, 17, 257, 260, math.MaxInt}
	vols := []int{math.MinInt, -255, -1, 0, 1, 2, 8, 9, 10, 15, 16, 17, 257, 1<<32 + 1, math.MaxInt}
	args := []int{math.MinInt, -1, 0, 1, 8, 9, 10, 14, 15, 16, 17, 256, 1 << 32, most - 1, most, most + 1, math.MaxInt}
	chunks := []int{math.MinInt, -1, 0, 1, 2, 256, 1 << 32, most - 1, most, most + 1, math.MaxInt}
	right := 0
	for _, kind := range kinds {
		for _, vol := range vols {
			for _, arg := range args {
				for _, chunk := range chunks {
					r := impl.Rec{Kind: kind, Vol: vol, Arg: arg, Chunk: chunk}
					if recRightByRule(r) {
						right++
					}
					wantRec(t, "all fields", r, recRightByRule(r))
				}
			}
		}
	}
	// 12 Args of RecBase; for each of 4 Vols 4 Args of RecVol, 1 of RecDrop, 7 of
	// RecPut with 5 Chunks each, and 7 of RecTrim.
	if want := 12 + 4*4 + 4 + 4*7*5 + 4*7; right != want {
		t.Errorf("%d of them are right, not %d", right, want)
	}
}

// A record of a Kind that is none is refused whatever Kind it is like.
func TestKindsOfRecordsThatAreNone(t *testing.T) {
	kinds := []int{math.MinInt, -5, -4, -3, -2, -1, 0, 6, 7, 8, 15, 16, math.MaxInt}
	for bits := 3; bits < 63; bits++ {
		for kind := impl.RecBase; kind <= impl.RecTrim; kind++ {
			kinds = append(kinds, 1<<bits+kind, -1<<bits+kind)
		}
	}
	for _, kind := range kinds {
		for _, c := range rightRecs() {
			c.rec.Kind = kind
			wantRec(t, c.name+" of a Kind that is none", c.rec, false)
		}
	}
}

func TestBytesOfKnownRecords(t *testing.T) {
	for _, c := range []struct {
		rec  impl.Rec
		text string
	}{
		{baseRec(0), "\x10\x00\x00"},
		{baseRec(300), "\x10\xac\x02\x00"},
		{baseRec(impl.MaxNumber), "\x10\x80\x94\xeb\xdc\x03\x00"},
		{volRec(1, 0), "\x21\x00\x00"},
		{volRec(9, 9), "\x29\x09\x00"},
		{dropRec(2), "\x32\x00\x00"},
		{putRec(1, 3, 2), "\x41\x03\x02"},
		{putRec(9, 15, 128), "\x49\x0f\x80\x01"},
		{putRec(3, 0, impl.MaxNumber), "\x43\x00\x80\x94\xeb\xdc\x03"},
		{trimRec(7, 15), "\x57\x0f\x00"},
	} {
		if got, ok := impl.RecText(c.rec); !ok || got != c.text {
			t.Errorf("RecText of %#v is %q, %v, not %q", c.rec, got, ok, c.text)
		}
		wantRecs(t, "known", c.text, []impl.Rec{c.rec}, true)
	}
	wantRecs(t, "known, all behind one another", "\x10\x05\x00\x21\x00\x00\x41\x03\x02\x51\x03\x00\x22\x01\x00\x31\x00\x00",
		[]impl.Rec{baseRec(5), volRec(1, 0), putRec(1, 3, 2), trimRec(1, 3), volRec(2, 1), dropRec(1)}, true)
}

func TestNoTextHasNoRecords(t *testing.T) {
	wantRecs(t, "no text", "", nil, true)
}

func wantRecsBack(t *testing.T, why string, recs ...impl.Rec) {
	t.Helper()
	text := ""
	for _, r := range recs {
		one, ok := impl.RecText(r)
		if !ok {
			t.Fatalf("%s: RecText of %#v is refused", why, r)
		}
		text += one
	}
	wantRecs(t, why, text, recs, true)
}

func TestEachRecordComesBack(t *testing.T) {
	for _, c := range rightRecs() {
		wantRecsBack(t, c.name, c.rec)
	}
	for vol := 1; vol <= 9; vol++ {
		wantRecsBack(t, "drop", dropRec(vol))
		for of := range 10 {
			wantRecsBack(t, "volume", volRec(vol, of))
		}
		for sector := range impl.Sectors {
			wantRecsBack(t, "trim", trimRec(vol, sector))
			for chunk := 1; chunk < 260; chunk++ {
				wantRecsBack(t, "put", putRec(vol, sector, chunk))
			}
		}
	}
	for _, number := range someNumbers() {
		if number <= impl.MaxNumber {
			wantRecsBack(t, "base", baseRec(number))
		}
		if number >= 1 && number <= impl.MaxNumber {
			wantRecsBack(t, "put", putRec(4, 11, number))
		}
	}
}

func TestSeveralRecordsComeBackInOrder(t *testing.T) {
	right := recsOf(rightRecs())
	for _, first := range right {
		wantRecsBack(t, "one again and again", first, first, first)
		for _, second := range right {
			wantRecsBack(t, "two", first, second)
			for _, third := range right {
				wantRecsBack(t, "three", first, second, third)
			}
		}
	}
	for size := range right {
		wantRecsBack(t, "the first ones", right[:size]...)
		wantRecsBack(t, "the last ones", right[size:]...)
	}
	slices.Reverse(right)
	wantRecsBack(t, "all, the last one first", right...)
}

// No text is too long for them: a transaction's pages are read together.
func TestManyRecordsComeBack(t *testing.T) {
	var recs []impl.Rec
	for i := range impl.MaxText {
		recs = append(recs, putRec(1+i%9, i%16, 1+i*40000))
	}
	wantRecsBack(t, "many", recs...)
	text := recBytes(recs...)
	refusesToReadRecs(t, "many, a byte missing", text[:len(text)-1])
	refusesToReadRecs(t, "many, a byte too many", text+"\x00")
}

// A record that is cut anywhere is none, alone and behind others; so is a byte
// behind a record.
func TestRecordsCutShortOrMadeLongerAreNone(t *testing.T) {
	right := recsOf(rightRecs())
	for i, r := range right {
		ahead, text := recBytes(right[:i]...), recBytes(r)
		for size := 1; size < len(text); size++ {
			refusesToReadRecs(t, "cut alone", text[:size])
			refusesToReadRecs(t, "cut behind others", ahead+text[:size])
		}
		for b := range 256 {
			more := string([]byte{byte(b)})
			refusesToReadRecs(t, "a byte too many", text+more)
			refusesToReadRecs(t, "a byte too many behind others", ahead+text+more)
			wantRecsByRule(t, "a byte ahead", more+text)
			wantRecsByRule(t, "a byte between", ahead+more+text)
		}
		for at := range text {
			wantRecsByRule(t, "a byte out of it", text[:at]+text[at+1:])
			wantRecsByRule(t, "a byte out of it, ahead of others", text[:at]+text[at+1:]+ahead)
		}
	}
}

// A byte that is turned may make another right record of it: the rule tells.
func TestRecordsWithOneByteTurned(t *testing.T) {
	refused, taken := 0, 0
	for i, c := range rightRecs() {
		text := recBytes(c.rec)
		others := recBytes(recsOf(rightRecs()[:i])...)
		for at := range text {
			for mask := 1; mask < 256; mask++ {
				one := turned(text, at, byte(mask))
				wantRecsByRule(t, c.name+", a byte turned", one)
				wantRecsByRule(t, c.name+", a byte turned behind others", others+one)
				wantRecsByRule(t, c.name+", a byte turned ahead of others", one+others)
				if got, ok := impl.ReadRecs(one); !ok {
					refused++
				} else if taken++; slices.Equal(got, []impl.Rec{c.rec}) {
					t.Errorf("%s: %q and %q are read as one record", c.name, text, one)
				}
			}
		}
	}
	if refused < taken {
		t.Errorf("%d are refused and %d are taken", refused, taken)
	}
}

func TestNumbersInLongerFormsAreNoRecord(t *testing.T) {
	right := recsOf(rightRecs())
	for i, r := range right {
		for argMore := range 5 {
			for chunkMore := range 5 {
				text := recBytes(r)[:1] + longerForm(r.Arg, argMore) + longerForm(r.Chunk, chunkMore)
				if argMore+chunkMore == 0 {
					wantRecs(t, "no longer form", text, []impl.Rec{r}, true)
					continue
				}
				refusesToReadRecs(t, "a longer form", text)
				refusesToReadRecs(t, "a longer form behind others", recBytes(right[:i]...)+text)
				refusesToReadRecs(t, "a longer form ahead of others", text+recBytes(right[i:]...))
			}
		}
	}
}

// All first bytes with numbers that right records have: those of a Kind or Vol
// that is none are refused, and all others that are not right.
func TestFirstBytesOfRecords(t *testing.T) {
	numbers := []int{0, 1, 9, 10, 15, 16, 17, 127, 128, impl.MaxNumber, impl.MaxNumber + 1}
	for b := range 256 {
		for _, arg := range numbers {
			for _, chunk := range numbers {
				r := impl.Rec{Kind: b / 16, Vol: b % 16, Arg: arg, Chunk: chunk}
				text := recBytes(r)
				if recRightByRule(r) {
					wantRecs(t, "a first byte", text, []impl.Rec{r}, true)
					continue
				}
				refusesToReadRecs(t, "a first byte", text)
				refusesToReadRecs(t, "a first byte behind a record", "\x41\x03\x02"+text)
				refusesToReadRecs(t, "a first byte ahead of a record", text+"\x41\x03\x02")
			}
		}
	}
}

func TestBytesOfWrongRecordsAreNone(t *testing.T) {
	right := recBytes(recsOf(rightRecs())...)
	count := 0
	for _, c := range wrongRecs() {
		if !writable(c.rec) {
			continue
		}
		count++
		text := recBytes(c.rec)
		refusesToReadRecs(t, c.name, text)
		refusesToReadRecs(t, c.name+", behind right ones", right+text)
		refusesToReadRecs(t, c.name+", ahead of right ones", text+right)
		refusesToReadRecs(t, c.name+", between right ones", right+text+right)
	}
	if count < 20 {
		t.Errorf("only %d of them have bytes", count)
	}
}

// Sectors end below 16, whatever else Arg may be in other records.
func TestNumbersBeyondTheSectorsAreNoRecord(t *testing.T) {
	for sector := range 300 {
		put, trim := putRec(1, sector, 2), trimRec(1, sector)
		wantRec(t, "put", put, sector < 16)
		wantRec(t, "trim", trim, sector < 16)
		wantRecsByRule(t, "put", recBytes(put))
		wantRecsByRule(t, "trim", recBytes(trim))
	}
	for _, sector := range someNumbers() {
		if sector >= 16 {
			wantRec(t, "put", putRec(9, sector, 1), false)
			refusesToReadRecs(t, "put", recBytes(putRec(9, sector, 1)))
			refusesToReadRecs(t, "trim", recBytes(trimRec(9, sector)))
		}
	}
}

func TestNumbersWithoutAnEndAreNoRecord(t *testing.T) {
	for _, c := range []struct{ why, text string }{
		{"Arg goes on at the end", "\x41\x83"},
		{"Chunk goes on at the end", "\x41\x03\x82"},
		{"Arg without an end", "\x10" + strings.Repeat("\xff", 100)},
		{"Chunk without an end", "\x41\x03" + strings.Repeat("\x80", 100)},
		{"Arg that wraps round to 0", "\x10\x80\x80\x80\x80\x80\x80\x80\x80\x80\x02\x00"},
		{"Chunk that wraps round to 1", "\x41\x03\x81\x80\x80\x80\x80\x80\x80\x80\x80\x02"},
		{"Chunk of 64 bits", "\x41\x03\xff\xff\xff\xff\xff\xff\xff\xff\xff\x01"},
	} {
		refusesToReadRecs(t, c.why, c.text)
		refusesToReadRecs(t, c.why+", behind a record", "\x41\x03\x02"+c.text)
	}
}

// All short texts over bytes that count here.
func TestShortTextsAreReadByRule(t *testing.T) {
	read := 0
	for size := range 7 {
		for _, text := range textsOver("\x00\x01\x10\x19\x21\x31\x41\x51\x80", size) {
			if _, ok := readRecsByRule(text); ok {
				read++
			}
			wantRecsByRule(t, "short", text)
		}
	}
	if read < 100 {
		t.Errorf("only %d of them are records", read)
	}
}

func TestMixedBytesAreReadByRule(t *testing.T) {
	mixed := mixedText(4000)
	for at := range len(mixed) - 12 {
		for size := range 12 {
			wantRecsByRule(t, "mixed", mixed[at:at+size])
		}
	}
}

// drawnRecs are right, of each Kind in turn, with drawn numbers.
func drawnRecs(draws string) []impl.Rec {
	var out []impl.Rec
	for ; len(draws) > 5; draws = draws[6:] {
		vol, sector := 1+int(draws[1])%9, int(draws[2])%16
		number := int(binary.BigEndian.Uint32([]byte(draws[2:6]))) >> (int(draws[1]) % 32) % impl.MaxNumber
		kinds := []impl.Rec{baseRec(number), volRec(vol, sector%10), dropRec(vol), putRec(vol, sector, 1+number), trimRec(vol, sector)}
		out = append(out, kinds[int(draws[0])%len(kinds)])
	}
	return out
}

func TestDrawnRecordsComeBack(t *testing.T) {
	draws := mixedText(18000)
	for size := 0; len(draws) > 6*size; size++ {
		recs := drawnRecs(draws[:6*size])
		draws = draws[6*size:]
		wantRecsBack(t, "drawn", recs...)
		text := recBytes(recs...)
		for at := range text {
			wantRecsByRule(t, "drawn and cut", text[:at])
			wantRecsByRule(t, "drawn, and a byte turned", turned(text, at, 1<<(at%8)))
		}
	}
}

func TestAnswersOfReadRecsAreTheirOwn(t *testing.T) {
	text := recBytes(recsOf(rightRecs())...)
	first, _ := impl.ReadRecs(text)
	second, _ := impl.ReadRecs(text)
	if sharesList(first, second) {
		t.Error("two answers stand in one memory")
	}
	for i := range second {
		second[i] = impl.Rec{}
	}
	_ = append(second[:1], baseRec(7))
	wantRecs(t, "asked again", text, first, true)
}
