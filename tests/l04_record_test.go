package tests

import (
	"bytes"
	"math"
	"math/big"
	"slices"
	"strconv"
	"testing"

	"loop.example/g00408/impl"
)

// farNumbers leave all bounds of a record; some are right ones once they are cut down to a byte.
var farNumbers = []int64{math.MinInt64, math.MinInt64 + 1, -1 << 32, -256, -255, -1, 100, 128, 255, 256, 257, 258, 1<<32 + 1, math.MaxInt64 - 254, math.MaxInt64}

var kindsOfTx = []int64{impl.RecBegin, impl.RecCommit, impl.RecAbort}
var kindsOfRuns = []int64{impl.RecDelta, impl.RecComp}

// record takes the numbers in the order in which they are packed.
func record(kind int64, tx int64, page int64, runs ...impl.Run) impl.Record {
	return impl.Record{Kind: kind, Tx: tx, Page: page, Runs: runs}
}

func image(page int64, data []byte) impl.Record {
	return record(impl.RecImage, 0, page, run(0, data...))
}

func cloneRecord(r impl.Record) impl.Record {
	r.Runs = cloneRuns(r.Runs)
	return r
}

func sameRecord(a impl.Record, b impl.Record) bool {
	return a.Kind == b.Kind && a.Tx == b.Tx && a.Page == b.Page && sameRuns(a.Runs, b.Runs)
}

// expectedSum is one power of 31 and each byte times its own one, where the program goes from byte to byte.
func expectedSum(data []byte) int64 {
	power := func(n int) *big.Int {
		return new(big.Int).Exp(big.NewInt(31), big.NewInt(int64(n)), nil)
	}
	sum := power(len(data))
	for i, b := range data {
		sum.Add(sum, new(big.Int).Mul(big.NewInt(int64(b)), power(len(data)-1-i)))
	}
	return sum.Mod(sum, big.NewInt(65521)).Int64()
}

// sealed puts the right sum behind, whatever stands ahead of it.
func sealed(data ...byte) []byte {
	sum := expectedSum(data)
	return append(slices.Clone(data), byte(sum/256), byte(sum%256))
}

// whole puts the right length in front and the right sum behind, whatever stands between.
func whole(data ...byte) []byte {
	return sealed(append([]byte{byte(len(data) + 3)}, data...)...)
}

func runBytes(runs ...impl.Run) []byte {
	var data []byte
	for _, r := range runs {
		data = append(data, byte(r.At), byte(len(r.Bytes)))
		data = append(data, r.Bytes...)
	}
	return data
}

func expectedPack(r impl.Record) []byte {
	head := []byte{byte(r.Kind), byte(r.Tx), byte(r.Page), byte(len(r.Runs))}
	return whole(append(head, runBytes(r.Runs...)...)...)
}

type namedRecord struct {
	name   string
	record impl.Record
	text   string
}

// edgeRecords have no fault, and each is at some edge.
func edgeRecords() []namedRecord {
	list := []namedRecord{
		{"begin", record(impl.RecBegin, 1, 0), "begin 1"},
		{"begin of the last", record(impl.RecBegin, 99, 0), "begin 99"},
		{"commit", record(impl.RecCommit, 1, 0), "commit 1"},
		{"commit of the last", record(impl.RecCommit, 99, 0), "commit 99"},
		{"abort", record(impl.RecAbort, 1, 0), "abort 1"},
		{"abort of the last", record(impl.RecAbort, 99, 0), "abort 99"},
		{"image of zeros", image(0, make([]byte, 64)), "image 0 0 64"},
		{"image of the last page", image(11, basePage()), "image 0 11 64"},
		{"image of 255", image(5, bytes.Repeat([]byte{255}, 64)), "image 0 5 64"},
	}
	for kind, word := range map[int64]string{impl.RecDelta: "delta", impl.RecComp: "comp"} {
		list = append(list,
			namedRecord{word + " of one byte", record(kind, 1, 0, run(0, 0)), word + " 1 0 1"},
			namedRecord{word + " of the last place", record(kind, 99, 11, run(63, 255)), word + " 99 11 1"},
			namedRecord{word + " of both ends", record(kind, 1, 11, run(0, 9), run(63, 8)), word + " 1 11 2"},
			namedRecord{word + " of both ends, long", record(kind, 99, 0, runOf(0, 31), runOf(32, 32)), word + " 99 0 63"},
			namedRecord{word + " of all bytes", record(kind, 10, 10, runOf(0, 64)), word + " 10 10 64"},
			namedRecord{word + " of many runs", record(kind, 50, 6, manyRuns(32)...), word + " 50 6 32"},
			namedRecord{word + " of the most bytes", record(kind, 50, 6, append(manyRuns(31), runOf(62, 2))...), word + " 50 6 33"},
			namedRecord{word + " that looks like records", record(kind, 3, 1, run(1, whole(1, 1, 0, 0)...)), word + " 3 1 7"},
		)
	}
	return list
}

// tailsBehind are bytes that may stand behind a record; some would be records or more of the same one.
func tailsBehind(data []byte) [][]byte {
	return [][]byte{
		nil,
		{0},
		{1},
		{255},
		{7, 1},
		make([]byte, 300),
		bytes.Repeat([]byte{255}, 300),
		seqCell(0, 256),
		data,
		data[1:],
		data[len(data)-2:],
		whole(1, 1, 0, 0),
		impl.PackRecord(image(3, basePage())).Bytes,
	}
}

// expectReadBack asks all that is promised of a record without a fault.
func expectReadBack(t *testing.T, r impl.Record) {
	t.Helper()
	if code := impl.RecordFault(r); code != impl.OK {
		t.Fatalf("RecordFault(%+v) = %d", r, code)
	}
	packed := impl.PackRecord(r)
	if want := expectedPack(r); packed.Code != impl.OK || !bytes.Equal(packed.Bytes, want) {
		t.Fatalf("PackRecord(%+v) = %+v, want %v", r, packed, want)
	}
	if len(packed.Bytes) > 255 || int(packed.Bytes[0]) != len(packed.Bytes) {
		t.Fatalf("%+v: %d bytes, %d told in front", r, len(packed.Bytes), packed.Bytes[0])
	}
	expectRead(t, packed.Bytes, r)
}

func expectRead(t *testing.T, data []byte, r impl.Record) {
	t.Helper()
	for _, tail := range tailsBehind(data) {
		got := impl.ReadRecord(append(slices.Clone(data), tail...))
		if got.Code != impl.OK || got.Used != int64(len(data)) || !sameRecord(got.Record, r) {
			t.Fatalf("ReadRecord(%v and %v behind) = %+v, want %+v", data, tail, got, r)
		}
		if !impl.SameRecords([]impl.Record{got.Record}, []impl.Record{r}) {
			t.Fatalf("SameRecords of %+v and what was read of it is false", r)
		}
	}
}

func expectNoRecord(t *testing.T, name string, data []byte) {
	t.Helper()
	got := impl.ReadRecord(data)
	if got.Code != impl.ErrText || got.Used != 0 || !sameRecord(got.Record, impl.Record{}) {
		t.Errorf("%s: ReadRecord(%v) = %+v, want code %d alone", name, data, got, impl.ErrText)
	}
}

func TestRecordNumbers(t *testing.T) {
	got := []int64{impl.RecBegin, impl.RecDelta, impl.RecComp, impl.RecImage, impl.RecCommit, impl.RecAbort, impl.MaxPages}
	if !slices.Equal(got, []int64{1, 2, 3, 4, 5, 6, 12}) {
		t.Errorf("numbers = %v", got)
	}
}

// The sum of the first by hand: 38, 1179, 36550, 19193 (1133050 less 17 times 65521), 5294: 20 times 256 and 174.
func TestPackRecordBytes(t *testing.T) {
	cases := []struct {
		name   string
		record impl.Record
		data   []byte
	}{
		{"begin", record(impl.RecBegin, 1, 0), []byte{7, 1, 1, 0, 0, 20, 174}},
		{"commit", record(impl.RecCommit, 4, 0), []byte{7, 5, 4, 0, 0, 241, 124}},
		{"commit with a low sum", record(impl.RecCommit, 8, 0), []byte{7, 5, 8, 0, 0, 0, 143}},
		{"abort", record(impl.RecAbort, 99, 0), []byte{7, 6, 99, 0, 0, 202, 152}},
		{"delta", record(impl.RecDelta, 3, 1, run(5, 9, 8)), []byte{11, 2, 3, 1, 1, 5, 2, 9, 8, 163, 236}},
		{"delta with the sum 0", record(impl.RecDelta, 1, 4, run(62, 190)), []byte{10, 2, 1, 4, 1, 62, 1, 190, 0, 0}},
		{"comp", record(impl.RecComp, 99, 11, run(0, 255), run(2, 0, 1)), []byte{14, 3, 99, 11, 2, 0, 1, 255, 2, 2, 0, 1, 15, 33}},
		{"image", image(0, make([]byte, 64)), append(append([]byte{73, 4, 0, 0, 1, 0, 64}, make([]byte, 64)...), 102, 6)},
	}
	for _, c := range cases {
		if got := impl.PackRecord(c.record); got.Code != impl.OK || !bytes.Equal(got.Bytes, c.data) {
			t.Errorf("%s: PackRecord = %+v, want %v", c.name, got, c.data)
		}
		expectReadBack(t, c.record)
	}
}

func TestRecordsAtEdges(t *testing.T) {
	for _, c := range edgeRecords() {
		expectReadBack(t, c.record)
		if got := impl.RecordText(c.record); got.Code != impl.OK || got.Text != c.text {
			t.Errorf("%s: RecordText = %+v, want %q", c.name, got, c.text)
		}
	}
}

// The longest one there is has as many bytes as runs with one place between leave room for.
func TestLongestRecord(t *testing.T) {
	longest := record(impl.RecDelta, 99, 11, append(manyRuns(31), runOf(62, 2))...)
	if got := impl.PackRecord(longest); len(got.Bytes) != 104 || got.Bytes[0] != 104 || got.Bytes[4] != 32 {
		t.Errorf("PackRecord = %+v", got)
	}
}

func TestRecordsOfAllTxsAndPages(t *testing.T) {
	for tx := int64(1); tx <= 99; tx++ {
		for _, kind := range kindsOfTx {
			expectReadBack(t, record(kind, tx, 0))
		}
		for page := int64(0); page < 12; page++ {
			for _, kind := range kindsOfRuns {
				expectReadBack(t, record(kind, tx, page, run(tx%60, byte(tx)), run(62, byte(page))))
			}
		}
	}
	for page := int64(0); page < 12; page++ {
		expectReadBack(t, image(page, seqCell(byte(page), 64)))
	}
}

func TestRecordsOfAllPlacesAndLengths(t *testing.T) {
	for at := range 64 {
		for length := 1; at+length <= 64; length++ {
			expectReadBack(t, record(impl.RecDelta, 7, 3, runOf(int64(at), length)))
		}
	}
	for b := range 256 {
		expectReadBack(t, record(impl.RecComp, 7, 3, run(9, byte(b))))
	}
}

// What turned between two pages is what records are made of.
func TestRecordsOfWhatTurned(t *testing.T) {
	a, mask := basePage(), uint64(1)
	for range 500 {
		mask = mask*6364136223846793005 + 1442695040888963407
		for _, kind := range kindsOfRuns {
			tx, page := int64(mask>>40%99)+1, int64(mask>>50%12)
			expectReadBack(t, record(kind, tx, page, impl.DiffBytes(a, turnedAt(a, placesOf(mask)...)).Runs...))
		}
	}
}

func TestNilAndEmptyRunsAreTheSame(t *testing.T) {
	for _, kind := range []int64{impl.RecBegin, impl.RecDelta, impl.RecComp, impl.RecImage, impl.RecCommit, impl.RecAbort} {
		without := impl.Record{Kind: kind, Tx: 1}
		if kind == impl.RecImage {
			without.Tx = 0
		}
		empty := without
		empty.Runs = []impl.Run{}
		if impl.RecordFault(without) != impl.RecordFault(empty) || impl.RecordText(without) != impl.RecordText(empty) {
			t.Errorf("%+v and %+v are not the same", without, empty)
		}
		if a, b := impl.PackRecord(without), impl.PackRecord(empty); a.Code != b.Code || !bytes.Equal(a.Bytes, b.Bytes) {
			t.Errorf("PackRecord = %+v and %+v", a, b)
		}
		if !impl.SameRecords([]impl.Record{without}, []impl.Record{empty}) {
			t.Errorf("SameRecords of %+v and %+v is false", without, empty)
		}
	}
}

// expectFault asks all that tells the RecordFault.
func expectFault(t *testing.T, name string, r impl.Record, code int64) {
	t.Helper()
	if got := impl.RecordFault(r); got != code {
		t.Errorf("%s: RecordFault(%+v) = %d, want %d", name, r, got, code)
	}
	packed, text := impl.PackRecord(r), impl.RecordText(r)
	if packed.Code != code || text.Code != code {
		t.Errorf("%s: codes %d and %d, want %d", name, packed.Code, text.Code, code)
	}
	if code != impl.OK && (len(packed.Bytes) != 0 || text.Text != "") {
		t.Errorf("%s: %+v and %+v beside a code", name, packed, text)
	}
}

func TestWrongKinds(t *testing.T) {
	wrong := []int64{math.MinInt64, math.MinInt64 + 1, -1 << 32, -256, -255, -6, -1, 0, 7, 8, 255, 256, 257, 258, 260, 1<<32 + 1, math.MaxInt64}
	for _, kind := range wrong {
		name := "kind " + strconv.FormatInt(kind, 10)
		expectFault(t, name, record(kind, 0, 0), impl.ErrForm)
		expectFault(t, name+" of a Tx", record(kind, 1, 0), impl.ErrForm)
		expectFault(t, name+" of a page", record(kind, 1, 1, runOf(0, 1)), impl.ErrForm)
		expectFault(t, name+" of an image", record(kind, 0, 1, runOf(0, 64)), impl.ErrForm)
		expectFault(t, name+" with Tx 100", record(kind, 100, 0), impl.ErrForm)
		expectFault(t, name+" with wrong runs", record(kind, 1, 1, runOf(64, 1)), impl.ErrForm)
		expectFault(t, name+" with many runs", record(kind, 1, 1, manyRuns(65)...), impl.ErrForm)
	}
}

func TestTooMuchOfTxKinds(t *testing.T) {
	for _, kind := range kindsOfTx {
		name := "kind " + strconv.FormatInt(kind, 10)
		expectFault(t, name, record(kind, 1, 0), impl.OK)
		for _, page := range append([]int64{1, 11, 12}, farNumbers...) {
			expectFault(t, name+" with a page", record(kind, 1, page), impl.ErrForm)
			expectFault(t, name+" with a page, Tx 0", record(kind, 0, page), impl.ErrForm)
			expectFault(t, name+" with a page, Tx 100", record(kind, 100, page), impl.ErrForm)
		}
		lists := [][]impl.Run{{runOf(0, 1)}, {runOf(0, 64)}, {{}}, {runOf(64, 1)}, {runOf(-1, 1)}, {runOf(0, 1), runOf(1, 1)}, manyRuns(65)}
		for _, runs := range lists {
			for _, tx := range []int64{0, 1, 100, math.MinInt64} {
				expectFault(t, name+" with runs", record(kind, tx, 0, runs...), impl.ErrForm)
				expectFault(t, name+" with runs and a page", record(kind, tx, 5, runs...), impl.ErrForm)
			}
		}
		for _, tx := range append([]int64{0}, farNumbers...) {
			expectFault(t, name+" with a wrong Tx", record(kind, tx, 0), impl.ErrRange)
		}
	}
}

func TestWrongImages(t *testing.T) {
	all := runOf(0, 64)
	for _, tx := range append([]int64{1, 50, 99}, farNumbers...) {
		expectFault(t, "image of a Tx", record(impl.RecImage, tx, 1, all), impl.ErrForm)
		expectFault(t, "image of a Tx, page 12", record(impl.RecImage, tx, 12, all), impl.ErrForm)
		expectFault(t, "image of a Tx, many runs", record(impl.RecImage, tx, 1, manyRuns(65)...), impl.ErrForm)
		expectFault(t, "image of a Tx, no runs", record(impl.RecImage, tx, 1), impl.ErrForm)
		expectFault(t, "image of a Tx, a wrong run", record(impl.RecImage, tx, 1, runOf(1, 64)), impl.ErrForm)
	}
	for _, page := range append([]int64{12, 13, 64}, farNumbers...) {
		expectFault(t, "image of a wrong page", record(impl.RecImage, 0, page, all), impl.ErrRange)
		expectFault(t, "image of a wrong page, no runs", record(impl.RecImage, 0, page), impl.ErrRange)
		expectFault(t, "image of a wrong page, many runs", record(impl.RecImage, 0, page, manyRuns(65)...), impl.ErrRange)
		expectFault(t, "image of a wrong page, short", record(impl.RecImage, 0, page, runOf(0, 63)), impl.ErrRange)
	}
	cases := []struct {
		name string
		runs []impl.Run
		code int64
	}{
		{"no runs", nil, impl.ErrForm},
		{"a byte less", []impl.Run{runOf(0, 63)}, impl.ErrForm},
		{"all but the first", []impl.Run{runOf(1, 63)}, impl.ErrForm},
		{"one byte", []impl.Run{runOf(0, 1)}, impl.ErrForm},
		{"two runs of nearly all", []impl.Run{runOf(0, 32), runOf(33, 31)}, impl.ErrForm},
		{"two runs that touch", []impl.Run{runOf(0, 32), runOf(32, 32)}, impl.ErrForm},
		{"twice all", []impl.Run{all, all}, impl.ErrForm},
		{"all, then one beyond", []impl.Run{all, runOf(64, 1)}, impl.ErrRange},
		{"all, then one without bytes", []impl.Run{all, {}}, impl.ErrRange},
		{"as many as there can be", manyRuns(32), impl.ErrForm},
		{"a byte more", []impl.Run{runOf(0, 65)}, impl.ErrRange},
		{"all from 1 on", []impl.Run{runOf(1, 64)}, impl.ErrRange},
		{"all from -1 on", []impl.Run{runOf(-1, 64)}, impl.ErrRange},
		{"all from the least on", []impl.Run{runOf(math.MinInt64, 64)}, impl.ErrRange},
		{"all from the greatest on", []impl.Run{runOf(math.MaxInt64, 64)}, impl.ErrRange},
		{"320 bytes", []impl.Run{runOf(0, 320)}, impl.ErrRange},
		{"one without bytes", []impl.Run{{}}, impl.ErrRange},
		{"too many", manyRuns(65), impl.ErrMany},
		{"all", []impl.Run{all}, impl.OK},
	}
	for _, c := range cases {
		expectFault(t, "image: "+c.name, record(impl.RecImage, 0, 3, c.runs...), c.code)
	}
}

func TestWrongDeltasAndComps(t *testing.T) {
	cases := []struct {
		name string
		runs []impl.Run
		code int64
	}{
		{"no runs", nil, impl.ErrForm},
		{"they touch", []impl.Run{runOf(1, 1), runOf(2, 1)}, impl.ErrForm},
		{"they fall", []impl.Run{runOf(9, 1), runOf(2, 1)}, impl.ErrForm},
		{"one more than there can be", manyRuns(33), impl.ErrForm},
		{"one without bytes", []impl.Run{{}}, impl.ErrRange},
		{"one beyond", []impl.Run{runOf(64, 1)}, impl.ErrRange},
		{"one over the end", []impl.Run{runOf(60, 5)}, impl.ErrRange},
		{"one below 0", []impl.Run{runOf(-1, 1)}, impl.ErrRange},
		{"At 256", []impl.Run{runOf(256, 1)}, impl.ErrRange},
		{"256 bytes", []impl.Run{runOf(0, 256)}, impl.ErrRange},
		{"257 bytes", []impl.Run{runOf(0, 257)}, impl.ErrRange},
		{"PageBytes runs", manyRuns(64), impl.ErrForm},
		{"too many", manyRuns(65), impl.ErrMany},
		{"too many, all beyond", make([]impl.Run, 257), impl.ErrMany},
		{"one place between", []impl.Run{runOf(1, 1), runOf(3, 1)}, impl.OK},
	}
	for _, kind := range kindsOfRuns {
		for _, c := range cases {
			name := "kind " + strconv.FormatInt(kind, 10) + ", " + c.name
			expectFault(t, name, record(kind, 1, 0, c.runs...), c.code)
			expectFault(t, name, record(kind, 99, 11, c.runs...), c.code)
			for _, tx := range append([]int64{0}, farNumbers...) {
				expectFault(t, name+", a wrong Tx", record(kind, tx, 0, c.runs...), impl.ErrRange)
				expectFault(t, name+", a wrong Tx and page", record(kind, tx, -1, c.runs...), impl.ErrRange)
			}
			for _, page := range append([]int64{12, 13, 64}, farNumbers...) {
				expectFault(t, name+", a wrong page", record(kind, 1, page, c.runs...), impl.ErrRange)
			}
		}
	}
}

func TestReadRecordOfTooFewBytes(t *testing.T) {
	expectNoRecord(t, "nil", nil)
	expectNoRecord(t, "no bytes", []byte{})
	for _, c := range edgeRecords() {
		data := impl.PackRecord(c.record).Bytes
		for length := range data {
			expectNoRecord(t, c.name+" up to "+strconv.Itoa(length), slices.Clone(data[:length]))
			// There is more memory behind this beginning, and none of it counts.
			expectNoRecord(t, c.name+" up to "+strconv.Itoa(length)+", cut", data[:length])
			if behind := data[length+1:]; !isRecord(behind) {
				expectNoRecord(t, c.name+" behind "+strconv.Itoa(length), behind)
			}
		}
	}
}

func TestReadRecordOfOneByteTurned(t *testing.T) {
	for _, c := range edgeRecords() {
		data := impl.PackRecord(c.record).Bytes
		turned := append(slices.Clone(data), make([]byte, 256)...)
		for at := range data {
			for turn := 1; turn < 256; turn++ {
				turned[at] = data[at] ^ byte(turn)
				name := c.name + ", byte " + strconv.Itoa(at)
				expectNoRecord(t, name, turned[:len(data)])
				expectNoRecord(t, name+", bytes behind", turned)
			}
			turned[at] = data[at]
		}
	}
}

// Only the length in front is wrong: the sum is that of just these bytes, or of as many as are told.
func TestReadRecordOfAnotherLengthInFront(t *testing.T) {
	for _, c := range edgeRecords() {
		data := impl.PackRecord(c.record).Bytes
		body := data[:len(data)-2]
		for told := range 256 {
			if told == len(data) {
				continue
			}
			front := append([]byte{byte(told)}, body[1:]...)
			name := c.name + ", " + strconv.Itoa(told) + " told"
			expectNoRecord(t, name, sealed(front...))
			expectNoRecord(t, name+", bytes behind", append(sealed(front...), make([]byte, 256)...))
			if told >= 2 {
				there := append(front, make([]byte, 256)...)[:told-2]
				expectNoRecord(t, name+" and there", sealed(there...))
				expectNoRecord(t, name+" and there, bytes behind", append(sealed(there...), body...))
			}
		}
	}
}

// 65521 and more is no sum, though it leaves one.
func TestReadRecordOfSumsThatAreNone(t *testing.T) {
	for low := range 15 {
		data := []byte{10, 2, 1, 4, 1, 62, 1, 190 + byte(low), 0, byte(low)}
		expectRead(t, data, record(impl.RecDelta, 1, 4, run(62, 190+byte(low))))
		data[8], data[9] = 255, byte(65521+low-255*256)
		expectNoRecord(t, "sum "+strconv.Itoa(65521+low), data)
	}
	data := impl.PackRecord(record(impl.RecDelta, 3, 1, run(5, 9, 8))).Bytes
	end := len(data) - 2
	for sum := range 1 << 16 {
		turned := append(slices.Clone(data[:end]), byte(sum>>8), byte(sum))
		if got := impl.ReadRecord(turned); (got.Code == impl.OK) != bytes.Equal(turned, data) {
			t.Fatalf("ReadRecord(%v) = %+v", turned, got)
		}
	}
	data[end], data[end+1] = data[end+1], data[end]
	expectNoRecord(t, "the lower byte of the sum first", data)
}

// The length and the sum are right, but not what stands between.
func TestReadRecordOfRightSumsAndWrongRecords(t *testing.T) {
	all := seqCell(7, 64)
	cases := []struct {
		name string
		body []byte
	}{
		{"nothing", nil},
		{"a kind alone", []byte{1}},
		{"a kind and a Tx", []byte{1, 1}},
		{"no number of runs", []byte{1, 1, 0}},
		{"kind 0", []byte{0, 1, 0, 0}},
		{"kind 7", []byte{7, 1, 0, 0}},
		{"kind 255", []byte{255, 1, 0, 0}},
		{"begin of Tx 0", []byte{1, 0, 0, 0}},
		{"begin of Tx 100", []byte{1, 100, 0, 0}},
		{"begin of Tx 255", []byte{1, 255, 0, 0}},
		{"begin of a page", []byte{1, 1, 1, 0}},
		{"commit of a page", []byte{5, 1, 255, 0}},
		{"abort of a run", []byte{6, 1, 0, 1, 5, 1, 9}},
		{"begin of a run that is not there", []byte{1, 1, 0, 1}},
		{"begin and a byte more", []byte{1, 1, 0, 0, 0}},
		{"begin and two bytes more", []byte{1, 1, 0, 0, 0, 0}},
		{"begin and a run that is not told", []byte{1, 1, 0, 0, 5, 1, 9}},
		{"delta of Tx 0", []byte{2, 0, 1, 1, 5, 1, 9}},
		{"comp of Tx 100", []byte{3, 100, 1, 1, 5, 1, 9}},
		{"delta of page 12", []byte{2, 1, 12, 1, 5, 1, 9}},
		{"comp of page 255", []byte{3, 1, 255, 1, 5, 1, 9}},
		{"delta without runs", []byte{2, 1, 1, 0}},
		{"delta, a run that is not told", []byte{2, 1, 1, 0, 5, 1, 9}},
		{"delta, fewer runs told", []byte{2, 1, 1, 1, 5, 1, 9, 7, 1, 9}},
		{"delta, more runs told", []byte{2, 1, 1, 2, 5, 1, 9}},
		{"delta, 255 runs told", []byte{2, 1, 1, 255, 5, 1, 9}},
		{"delta, a run without a length", []byte{2, 1, 1, 1, 5}},
		{"delta, a run without bytes", []byte{2, 1, 1, 1, 5, 0}},
		{"delta, a second run without bytes", []byte{2, 1, 1, 2, 5, 1, 9, 7, 0}},
		{"delta, a run with a byte too few", []byte{2, 1, 1, 1, 5, 3, 9, 9}},
		{"delta, a run with bytes in the sum", []byte{2, 1, 1, 1, 5, 4, 9, 9}},
		{"delta, a run with a byte too many", []byte{2, 1, 1, 1, 5, 1, 9, 9}},
		{"delta, a run of 255", []byte{2, 1, 1, 1, 5, 255, 9, 9}},
		{"delta, a place beyond", []byte{2, 1, 1, 1, 64, 1, 9}},
		{"delta, the place 255", []byte{2, 1, 1, 1, 255, 1, 9}},
		{"delta over the end", []byte{2, 1, 1, 1, 63, 2, 9, 9}},
		{"delta, runs that touch", []byte{2, 1, 1, 2, 5, 1, 9, 6, 1, 9}},
		{"delta, runs that fall", []byte{2, 1, 1, 2, 5, 1, 9, 3, 1, 9}},
		{"delta, runs of one place", []byte{2, 1, 1, 2, 5, 1, 9, 5, 1, 9}},
		{"comp, 65 bytes", append([]byte{3, 1, 1}, append([]byte{1, 0, 65}, seqCell(1, 65)...)...)},
		{"comp, 33 runs", append([]byte{3, 1, 1, 33}, runBytes(manyRuns(33)...)...)},
		{"comp, 65 runs", append([]byte{3, 1, 1, 65}, runBytes(manyRuns(65)...)...)},
		{"comp, 100 runs without bytes", append([]byte{3, 1, 1, 100}, make([]byte, 200)...)},
		{"image of a Tx", append([]byte{4, 1, 1, 1, 0, 64}, all...)},
		{"image of page 12", append([]byte{4, 0, 12, 1, 0, 64}, all...)},
		{"image without runs", []byte{4, 0, 1, 0}},
		{"image of 63 bytes", append([]byte{4, 0, 1, 1, 0, 63}, all[1:]...)},
		{"image from 1 on", append([]byte{4, 0, 1, 1, 1, 63}, all[1:]...)},
		{"image beyond the end", append([]byte{4, 0, 1, 1, 1, 64}, all...)},
		{"image of 65 bytes", append([]byte{4, 0, 1, 1, 0, 65}, seqCell(1, 65)...)},
		{"image of two runs", append([]byte{4, 0, 1, 2, 0, 32}, append(seqCell(1, 32), append([]byte{33, 31}, seqCell(1, 31)...)...)...)},
		{"image and a run of one byte", append(append([]byte{4, 0, 1, 2, 0, 64}, all...), 0, 1, 9)},
		{"image and a byte more", append(append([]byte{4, 0, 1, 1, 0, 64}, all...), 0)},
	}
	for _, c := range cases {
		data := whole(c.body...)
		expectNoRecord(t, c.name, data)
		for _, tail := range tailsBehind(data) {
			expectNoRecord(t, c.name+", bytes behind", append(slices.Clone(data), tail...))
		}
	}
}

// isRecord says when bytes begin with a record: their length and sum are right, and what is between is a right record.
func isRecord(data []byte) bool {
	if len(data) < 7 || data[0] < 7 || int(data[0]) > len(data) {
		return false
	}
	data = data[:data[0]]
	body := data[:len(data)-2]
	if !bytes.Equal(sealed(body...), data) {
		return false
	}
	r, rest := record(int64(body[1]), int64(body[2]), int64(body[3])), body[5:]
	for range body[4] {
		if len(rest) < 2 || len(rest) < 2+int(rest[1]) {
			return false
		}
		r.Runs = append(r.Runs, impl.Run{At: int64(rest[0]), Bytes: rest[2 : 2+rest[1]]})
		rest = rest[2+rest[1]:]
	}
	return len(rest) == 0 && impl.RecordFault(r) == impl.OK
}

// Bytes near to short records: what is none is not read, and what is read packs to just these bytes.
func TestReadRecordTakesNothingElse(t *testing.T) {
	read := 0
	expect := func(data []byte) {
		got := impl.ReadRecord(data)
		if (got.Code == impl.OK) != isRecord(data) {
			t.Fatalf("ReadRecord(%v) = %+v", data, got)
		}
		if got.Code == impl.OK {
			read++
			if packed := impl.PackRecord(got.Record); !bytes.Equal(packed.Bytes, data[:got.Used]) {
				t.Fatalf("ReadRecord(%v) = %+v, which is packed as %+v", data, got, packed)
			}
		}
	}
	for kind := range 9 {
		for tx := range 102 {
			for page := range 14 {
				expect(whole(byte(kind), byte(tx), byte(page), 0))
			}
		}
	}
	for count := range 4 {
		for at := range 67 {
			for length := range 5 {
				expect(whole(2, 1, 1, byte(count), byte(at), byte(length), 3, 4))
				expect(whole(3, 1, 1, byte(count), byte(at), byte(length), 3, 4, 9, 1, 5))
			}
		}
	}
	state := uint64(1)
	for range 20000 {
		var data []byte
		for range 20 {
			state = state*6364136223846793005 + 1442695040888963407
			data = append(data, byte(state>>33)%12)
		}
		expect(data)
		expect(whole(data[:4+data[19]]...))
	}
	if read <= 3*99 {
		t.Errorf("only %d were read: none with runs", read)
	}
}

func TestRecordTextOfMoreRuns(t *testing.T) {
	cases := map[string]impl.Record{
		"delta 3 1 2":   record(impl.RecDelta, 3, 1, run(5, 9, 8)),
		"delta 12 10 9": record(impl.RecDelta, 12, 10, runOf(0, 2), runOf(10, 3), runOf(60, 4)),
		"comp 7 0 33":   record(impl.RecComp, 7, 0, append(manyRuns(31), runOf(62, 2))...),
		"commit 4":      record(impl.RecCommit, 4, 0),
		"abort 40":      record(impl.RecAbort, 40, 0),
		"begin 8":       record(impl.RecBegin, 8, 0),
		"image 0 7 64":  image(7, basePage()),
	}
	for text, r := range cases {
		if got := impl.RecordText(r); got.Code != impl.OK || got.Text != text {
			t.Errorf("RecordText(%+v) = %+v, want %q", r, got, text)
		}
	}
}

func TestSameRecords(t *testing.T) {
	base := record(impl.RecDelta, 3, 1, run(5, 9, 8), run(20, 7))
	others := map[string]impl.Record{
		"another Kind":           record(impl.RecComp, 3, 1, run(5, 9, 8), run(20, 7)),
		"another Tx":             record(impl.RecDelta, 4, 1, run(5, 9, 8), run(20, 7)),
		"another Page":           record(impl.RecDelta, 3, 2, run(5, 9, 8), run(20, 7)),
		"Tx 259":                 record(impl.RecDelta, 259, 1, run(5, 9, 8), run(20, 7)),
		"no runs":                record(impl.RecDelta, 3, 1),
		"a run less":             record(impl.RecDelta, 3, 1, run(5, 9, 8)),
		"a run more":             record(impl.RecDelta, 3, 1, run(5, 9, 8), run(20, 7), run(30, 1)),
		"another place":          record(impl.RecDelta, 3, 1, run(6, 9, 8), run(20, 7)),
		"another place behind":   record(impl.RecDelta, 3, 1, run(5, 9, 8), run(21, 7)),
		"another byte":           record(impl.RecDelta, 3, 1, run(5, 9, 7), run(20, 7)),
		"another byte behind":    record(impl.RecDelta, 3, 1, run(5, 9, 8), run(20, 8)),
		"a byte less":            record(impl.RecDelta, 3, 1, run(5, 9), run(20, 7)),
		"a byte more":            record(impl.RecDelta, 3, 1, run(5, 9, 8, 0), run(20, 7)),
		"a byte in the next run": record(impl.RecDelta, 3, 1, run(5, 9), run(20, 8, 7)),
		"runs in another order":  record(impl.RecDelta, 3, 1, run(20, 7), run(5, 9, 8)),
		"zero":                   {},
	}
	list := func(records ...impl.Record) []impl.Record { return records }
	expect := func(name string, a []impl.Record, b []impl.Record, want bool) {
		t.Helper()
		if impl.SameRecords(a, b) != want || impl.SameRecords(b, a) != want {
			t.Errorf("%s: SameRecords is not %v both ways", name, want)
		}
	}
	expect("itself", list(base), list(cloneRecord(base)), true)
	for name, other := range others {
		expect(name, list(base), list(other), false)
		expect(name+", itself", list(other), list(cloneRecord(other)), true)
		expect(name+", behind", list(base, base), list(base, other), false)
		expect(name+", ahead", list(base, base), list(other, base), false)
		expect(name+", in another order", list(base, other), list(other, base), false)
		expect(name+", both", list(base, other), list(cloneRecord(base), cloneRecord(other)), true)
		expect(name+", one more", list(base), list(base, other), false)
		expect(name+", none", nil, list(other), false)
	}
	expect("nil", nil, nil, true)
	expect("nil and none", nil, list(), true)
	expect("none", []impl.Record{}, []impl.Record{}, true)
	expect("nil and zero", nil, list(impl.Record{}), false)
	expect("nil and no runs", list(impl.Record{Kind: 1}), list(impl.Record{Kind: 1, Runs: []impl.Run{}}), true)
	expect("nil and no bytes", list(record(2, 1, 1, impl.Run{At: 3})), list(record(2, 1, 1, impl.Run{At: 3, Bytes: []byte{}})), true)
	expect("no runs and one without bytes", list(record(2, 1, 1)), list(record(2, 1, 1, impl.Run{})), false)
}

// All is compared, also of records with a fault: whatever their numbers are.
func TestSameRecordsFarOutOfBounds(t *testing.T) {
	for i, a := range farNumbers {
		for j, b := range farNumbers {
			pairs := [][2]impl.Record{
				{record(a, 0, 0), record(b, 0, 0)},
				{record(1, a, 0), record(1, b, 0)},
				{record(1, 1, a), record(1, 1, b)},
				{record(1, 1, 1, runOf(a, 1)), record(1, 1, 1, runOf(b, 1))},
			}
			for _, p := range pairs {
				if impl.SameRecords(p[:1], p[1:]) != (i == j) {
					t.Errorf("SameRecords(%+v, %+v) is not %v", p[0], p[1], i == j)
				}
			}
		}
	}
	long := record(2, 1, 1, manyRuns(300)...)
	other := cloneRecord(long)
	if !impl.SameRecords([]impl.Record{long}, []impl.Record{other}) {
		t.Error("300 runs are not the same")
	}
	other.Runs[299].Bytes[0]++
	if impl.SameRecords([]impl.Record{long}, []impl.Record{other}) {
		t.Error("300 runs are the same, but the last is not")
	}
}

func TestRecordsAreNotChanged(t *testing.T) {
	records := []impl.Record{
		{},
		record(7, 1, 1, runOf(0, 1)),
		record(impl.RecBegin, 1, 0, runOf(0, 1)),
		record(impl.RecDelta, 100, 1, runOf(0, 1)),
		record(impl.RecDelta, 1, 1, runOf(9, 1), runOf(1, 1)),
		record(impl.RecComp, 1, 1, runOf(60, 5)),
		record(impl.RecComp, 1, 1, make([]impl.Run, 65)...),
		record(impl.RecImage, 0, 1, runOf(0, 63)),
	}
	for _, c := range edgeRecords() {
		records = append(records, c.record)
	}
	for _, r := range records {
		kept := cloneRecord(r)
		impl.RecordFault(r)
		impl.RecordText(r)
		data := append(slices.Clone(impl.PackRecord(r).Bytes), 1, 2, 3)
		keptData := slices.Clone(data)
		impl.ReadRecord(data)
		for cut := range data {
			impl.ReadRecord(data[:cut])
			impl.ReadRecord(data[cut:])
		}
		for _, other := range records {
			impl.SameRecords([]impl.Record{r, other}, []impl.Record{other, r})
		}
		if !sameRecord(r, kept) || !bytes.Equal(data, keptData) {
			t.Errorf("%+v turned to %+v, %v to %v", kept, r, keptData, data)
		}
	}
}

// scribbleAll turns all that a list has memory for, also behind its end.
func scribbleAll(list []byte) {
	scribble(list[:cap(list)])
}

func TestPackedBytesAreNewMemory(t *testing.T) {
	for _, c := range edgeRecords() {
		kept := cloneRecord(c.record)
		first, second := impl.PackRecord(c.record).Bytes, impl.PackRecord(c.record).Bytes
		want := slices.Clone(second)
		scribbleAll(first)
		if !sameRecord(c.record, kept) || !bytes.Equal(second, want) || !bytes.Equal(impl.PackRecord(c.record).Bytes, want) {
			t.Errorf("%s: the bytes share memory", c.name)
		}
		for i := range c.record.Runs {
			scribble(c.record.Runs[i].Bytes)
		}
		if !bytes.Equal(second, want) {
			t.Errorf("%s: the bytes turn with the record", c.name)
		}
	}
}

func TestReadRecordsAreNewMemory(t *testing.T) {
	for _, c := range edgeRecords() {
		data := append(slices.Clone(impl.PackRecord(c.record).Bytes), seqCell(50, 100)...)
		kept := slices.Clone(data)
		first, second := impl.ReadRecord(data).Record, impl.ReadRecord(data).Record
		expectRunsApart(t, c.name, first.Runs)
		for i := range first.Runs {
			before := cloneRuns(first.Runs)
			scribbleAll(first.Runs[i].Bytes)
			for j := range first.Runs {
				if j != i && !bytes.Equal(first.Runs[j].Bytes, before[j].Bytes) {
					t.Errorf("%s: runs %d and %d share memory behind their ends", c.name, i, j)
				}
			}
		}
		clear(first.Runs[:cap(first.Runs)])
		if !bytes.Equal(data, kept) || !sameRecord(second, c.record) || !sameRecord(impl.ReadRecord(data).Record, c.record) {
			t.Errorf("%s: what was read shares memory", c.name)
		}
		scribble(data)
		if !sameRecord(second, c.record) {
			t.Errorf("%s: what was read turns with its bytes", c.name)
		}
	}
}

func TestRecordAnswersHangOnArgumentsAlone(t *testing.T) {
	list := edgeRecords()
	for _, a := range list {
		data, text := impl.PackRecord(a.record).Bytes, impl.RecordText(a.record)
		for _, b := range list {
			impl.PackRecord(b.record)
			impl.ReadRecord(impl.PackRecord(b.record).Bytes)
			impl.RecordText(b.record)
			impl.RecordFault(impl.Record{Kind: 7})
			impl.ReadRecord(nil)
			if !bytes.Equal(impl.PackRecord(a.record).Bytes, data) || impl.RecordText(a.record) != text || !sameRecord(impl.ReadRecord(data).Record, a.record) {
				t.Fatalf("%s is another one behind %s", a.name, b.name)
			}
		}
	}
}

// Runs may share memory among themselves, or with other records, where they are handed in.
func TestRecordsOfSharedMemory(t *testing.T) {
	page := basePage()
	r := record(impl.RecDelta, 1, 1, impl.Run{At: 0, Bytes: page[:5]}, impl.Run{At: 10, Bytes: page[2:7]}, impl.Run{At: 20, Bytes: page[:1]})
	expectReadBack(t, r)
	if !bytes.Equal(page, basePage()) {
		t.Error("the page turned")
	}
	cut := record(impl.RecComp, 1, 1, []impl.Run{runOf(0, 1), runOf(5, 1), runOf(64, 1)}[:2]...)
	expectReadBack(t, cut)
	data := impl.ReadRecord(impl.PackRecord(r).Bytes).Record
	expectRunsApart(t, "shared memory", data.Runs)
}
