package tests

import (
	"bytes"
	"math"
	"slices"
	"strconv"
	"strings"
	"testing"

	"loop.example/g00408/impl"
)

const maxLog = 16000

// recordsOf have together just this many bytes (none, or 10 and more), and are all unlike their neighbours.
func recordsOf(t *testing.T, count int) []impl.Record {
	t.Helper()
	var list []impl.Record
	for left := count; left > 0; {
		take := min(left, 73)
		if behind := left - take; behind > 0 && behind < 10 {
			take -= 10
		}
		i := int64(len(list))
		list = append(list, record(kindsOfRuns[i%2], i%99+1, i%12, runOf(0, take-9)))
		left -= take
	}
	if got := len(expectedPackAll(list)); got != count {
		t.Fatalf("%d bytes of records, want %d", got, count)
	}
	return list
}

func bytesOf(t *testing.T, count int) []byte {
	t.Helper()
	return expectedPackAll(recordsOf(t, count))
}

// packOf takes one record at a time: the tests of records ask for its very bytes.
func packOf(r impl.Record) []byte {
	return impl.PackRecord(r).Bytes
}

func expectedPackAll(list []impl.Record) []byte {
	var data []byte
	for _, r := range list {
		data = append(data, packOf(r)...)
	}
	return data
}

// kindRecords has one of each Kind, of unlike lengths where they can be.
func kindRecords() []impl.Record {
	return []impl.Record{
		record(impl.RecBegin, 1, 0),
		record(impl.RecDelta, 1, 0, runOf(0, 4), runOf(61, 3)),
		record(impl.RecComp, 1, 0, runOf(10, 1)),
		image(2, basePage()),
		record(impl.RecCommit, 1, 0),
		record(impl.RecAbort, 99, 0),
	}
}

// allEdgeRecords stand in one order in every run of the tests.
func allEdgeRecords() []impl.Record {
	named := edgeRecords()
	slices.SortFunc(named, func(a namedRecord, b namedRecord) int { return strings.Compare(a.name, b.name) })
	var list []impl.Record
	for _, c := range named {
		list = append(list, c.record)
	}
	return list
}

// logLists are lists of records without a fault, whose bytes fit into a log.
func logLists(t *testing.T) map[string][]impl.Record {
	lists := map[string][]impl.Record{
		"nil":             nil,
		"none":            {},
		"each kind":       kindRecords(),
		"each kind twice": append(kindRecords(), kindRecords()...),
		"the same twice":  {record(impl.RecBegin, 7, 0), record(impl.RecBegin, 7, 0)},
		"all edges":       allEdgeRecords(),
		"just MaxLog":     recordsOf(t, maxLog),
		"a byte less":     recordsOf(t, maxLog-1),
	}
	for _, r := range append(kindRecords(), allEdgeRecords()...) {
		lists["one: "+impl.RecordText(r).Text] = []impl.Record{r}
	}
	for i := range 60 {
		lists[strconv.Itoa(10+37*i)+" bytes"] = recordsOf(t, 10+37*i)
	}
	return lists
}

func sameRecordLists(a []impl.Record, b []impl.Record) bool {
	return slices.EqualFunc(a, b, sameRecord)
}

func cloneRecords(list []impl.Record) []impl.Record {
	var own []impl.Record
	for _, r := range list {
		own = append(own, cloneRecord(r))
	}
	return own
}

func logOf(sure []impl.Record, loose []impl.Record) impl.Log {
	return impl.Log{Sure: expectedPackAll(sure), Loose: expectedPackAll(loose)}
}

func cloneLog(l impl.Log) impl.Log {
	return impl.Log{Sure: bytes.Clone(l.Sure), Loose: bytes.Clone(l.Loose)}
}

func sameLog(a impl.Log, b impl.Log) bool {
	return bytes.Equal(a.Sure, b.Sure) && bytes.Equal(a.Loose, b.Loose)
}

// expectRecords asks that just these records are read, and just their bytes used.
func expectRecords(t *testing.T, name string, data []byte, want []impl.Record) {
	t.Helper()
	got := impl.ReadLog(data)
	if got.Code != impl.OK || got.Used != int64(len(expectedPackAll(want))) || !sameRecordLists(got.Records, want) {
		t.Fatalf("%s: ReadLog = code %d, used %d, %d records %+v, want %d records %+v", name, got.Code, got.Used, len(got.Records), got.Records, len(want), want)
	}
	if !impl.SameRecords(got.Records, want) {
		t.Fatalf("%s: SameRecords of what was read and what was packed is false", name)
	}
}

func expectReadCode(t *testing.T, name string, data []byte, code int64) {
	t.Helper()
	if got := impl.ReadLog(data); got.Code != code || got.Used != 0 || len(got.Records) != 0 {
		t.Errorf("%s: ReadLog = code %d, used %d, %d records, want code %d alone", name, got.Code, got.Used, len(got.Records), code)
	}
}

func expectPackCode(t *testing.T, name string, list []impl.Record, code int64) {
	t.Helper()
	if got := impl.PackAll(list); got.Code != code || len(got.Bytes) != 0 {
		t.Errorf("%s: PackAll = code %d and %d bytes, want code %d alone", name, got.Code, len(got.Bytes), code)
	}
}

// expectLog asks for these very records, split so, and that the log has no fault.
func expectLog(t *testing.T, name string, got impl.LogResult, sure []impl.Record, loose []impl.Record) {
	t.Helper()
	if want := logOf(sure, loose); got.Code != impl.OK || !sameLog(got.Log, want) {
		t.Fatalf("%s: code %d, %d bytes sure and %d loose, want %d and %d: %+v", name, got.Code, len(got.Log.Sure), len(got.Log.Loose), len(want.Sure), len(want.Loose), got)
	}
	expectRecords(t, name+", what is sure", got.Log.Sure, sure)
	expectRecords(t, name+", what is loose", got.Log.Loose, loose)
	if code := impl.LogFault(got.Log); code != impl.OK {
		t.Fatalf("%s: LogFault = %d", name, code)
	}
}

func expectLogCode(t *testing.T, name string, got impl.LogResult, code int64) {
	t.Helper()
	if got.Code != code || len(got.Log.Sure) != 0 || len(got.Log.Loose) != 0 {
		t.Errorf("%s: code %d, %d bytes sure and %d loose, want code %d alone", name, got.Code, len(got.Log.Sure), len(got.Log.Loose), code)
	}
}

// expectLogFault asks all that ask the LogFault first, with wrong other arguments too.
func expectLogFault(t *testing.T, name string, l impl.Log, code int64) {
	t.Helper()
	if got := impl.LogFault(l); got != code {
		t.Errorf("%s: LogFault = %d, want %d", name, got, code)
	}
	for _, r := range []impl.Record{record(impl.RecBegin, 1, 0), {}, record(impl.RecBegin, 0, 0), record(impl.RecDelta, 1, 0, manyRuns(65)...)} {
		expectLogCode(t, name+", AppendLog", impl.AppendLog(l, r), code)
	}
	expectLogCode(t, name+", SyncLog", impl.SyncLog(l), code)
	for _, kept := range []int64{0, 1, -1, int64(len(l.Loose)), int64(len(l.Loose)) + 1, math.MinInt64, math.MaxInt64} {
		expectLogCode(t, name+", CrashLog", impl.CrashLog(l, kept), code)
	}
}

// wholeWithin are the records of a list that end within so many bytes.
func wholeWithin(list []impl.Record, count int) []impl.Record {
	end := 0
	for i, r := range list {
		end += len(packOf(r))
		if end > count {
			return list[:i]
		}
	}
	return list
}

func TestMaxLogNumber(t *testing.T) {
	if impl.MaxLog != 16000 {
		t.Errorf("MaxLog = %d", impl.MaxLog)
	}
}

func TestPackAllBytes(t *testing.T) {
	got := impl.PackAll([]impl.Record{record(impl.RecBegin, 1, 0), record(impl.RecDelta, 3, 1, run(5, 9, 8)), record(impl.RecCommit, 4, 0)})
	want := []byte{7, 1, 1, 0, 0, 20, 174, 11, 2, 3, 1, 1, 5, 2, 9, 8, 163, 236, 7, 5, 4, 0, 0, 241, 124}
	if got.Code != impl.OK || !bytes.Equal(got.Bytes, want) {
		t.Errorf("PackAll = %+v, want %v", got, want)
	}
}

func TestRecordsAreReadBackFromAllTheirBytes(t *testing.T) {
	for name, list := range logLists(t) {
		packed := impl.PackAll(list)
		if packed.Code != impl.OK || !bytes.Equal(packed.Bytes, expectedPackAll(list)) {
			t.Fatalf("%s: PackAll = %+v", name, packed)
		}
		expectRecords(t, name, packed.Bytes, list)
		if again := impl.PackAll(impl.ReadLog(packed.Bytes).Records); again.Code != impl.OK || !bytes.Equal(again.Bytes, packed.Bytes) {
			t.Fatalf("%s: what was read is packed as %+v", name, again)
		}
	}
}

// The order of records is that of their bytes, for all pairs.
func TestPairsOfRecordsAreReadBack(t *testing.T) {
	list := allEdgeRecords()
	for _, a := range list {
		for _, b := range list {
			pair := []impl.Record{a, b}
			data := impl.PackAll(pair).Bytes
			if !bytes.Equal(data, slices.Concat(impl.PackRecord(a).Bytes, impl.PackRecord(b).Bytes)) {
				t.Fatalf("PackAll(%+v) = %v", pair, data)
			}
			expectRecords(t, "a pair", data, pair)
		}
	}
}

func TestLogWithoutBytes(t *testing.T) {
	for _, none := range [][]byte{nil, {}} {
		expectRecords(t, "no bytes", none, nil)
		l := impl.Log{Sure: none, Loose: none}
		if code := impl.LogFault(l); code != impl.OK {
			t.Errorf("LogFault = %d", code)
		}
		expectLog(t, "SyncLog", impl.SyncLog(l), nil, nil)
		expectLog(t, "CrashLog", impl.CrashLog(l, 0), nil, nil)
		expectLogCode(t, "CrashLog with 1", impl.CrashLog(l, 1), impl.ErrRange)
		expectLogCode(t, "CrashLog with -1", impl.CrashLog(l, -1), impl.ErrRange)
		for _, r := range allEdgeRecords() {
			expectLog(t, "AppendLog", impl.AppendLog(l, r), nil, []impl.Record{r})
		}
	}
	for _, list := range [][]impl.Record{nil, {}} {
		if got := impl.PackAll(list); got.Code != impl.OK || len(got.Bytes) != 0 {
			t.Errorf("PackAll of none = %+v", got)
		}
	}
}

// Wherever the bytes end, the whole records ahead are there, and no more.
func TestReadLogOfHalfARecord(t *testing.T) {
	for _, list := range [][]impl.Record{kindRecords(), allEdgeRecords()} {
		data := expectedPackAll(list)
		for cut := range len(data) + 1 {
			name := "up to " + strconv.Itoa(cut)
			expectRecords(t, name, bytes.Clone(data[:cut]), wholeWithin(list, cut))
			// There is more memory behind this beginning, and none of it counts.
			expectRecords(t, name+", cut", data[:cut], wholeWithin(list, cut))
		}
	}
}

// noRecords are bytes of which no record is at the beginning.
func noRecords() map[string][]byte {
	begin, long := packOf(record(impl.RecBegin, 1, 0)), packOf(image(4, basePage()))
	lists := map[string][]byte{
		"one byte":                 {3},
		"a length alone":           {7},
		"zeros":                    make([]byte, 300),
		"a 0":                      {0},
		"255":                      bytes.Repeat([]byte{255}, 300),
		"a 0 ahead of a record":    append([]byte{0}, begin...),
		"all but the first byte":   begin[1:],
		"all but the last byte":    begin[:6],
		"half an image":            long[:40],
		"an image but a byte":      long[:72],
		"no kind":                  whole(7, 1, 0, 0),
		"Tx 0":                     whole(1, 0, 0, 0),
		"a delta without runs":     whole(2, 1, 0, 0),
		"a begin and a byte in it": whole(1, 1, 0, 0, 0),
		"a text":                   []byte("begin 1\n"),
	}
	turned := bytes.Clone(begin)
	turned[6]++
	lists["a wrong sum"] = turned
	lists["a wrong sum, then a record"] = append(bytes.Clone(turned), begin...)
	return lists
}

func TestReadLogOfBytesBehindRecords(t *testing.T) {
	lists := [][]impl.Record{nil, {record(impl.RecBegin, 1, 0)}, {image(11, basePage())}, kindRecords(), recordsOf(t, 1000)}
	for name, none := range noRecords() {
		for _, list := range lists {
			data := append(expectedPackAll(list), none...)
			expectRecords(t, name, data, list)
			// What cannot be read ends the records, also where others would stand behind it.
			expectRecords(t, name+", records behind", append(data, expectedPackAll(kindRecords())...), list)
		}
	}
}

func TestReadLogOfOneByteTurned(t *testing.T) {
	list := append(kindRecords(), kindRecords()...)
	data := expectedPackAll(list)
	for at := range data {
		for _, turn := range []byte{1, 2, 4, 8, 16, 32, 64, 128, 255} {
			turned := bytes.Clone(data)
			turned[at] ^= turn
			expectRecords(t, "byte "+strconv.Itoa(at), turned, wholeWithin(list, at))
		}
	}
}

func TestReadLogAroundMaxLog(t *testing.T) {
	list := recordsOf(t, maxLog)
	data := expectedPackAll(list)
	expectRecords(t, "MaxLog bytes", data, list)
	expectRecords(t, "MaxLog bytes, the last cut off", data[:maxLog-1], list[:len(list)-1])
	expectRecords(t, "MaxLog zeros", make([]byte, maxLog), nil)
	short := recordsOf(t, 500)
	filled := append(expectedPackAll(short), make([]byte, maxLog-500)...)
	expectRecords(t, "MaxLog bytes, most no record", filled, short)

	expectReadCode(t, "one more, all records", bytesOf(t, maxLog+1), impl.ErrMany)
	expectReadCode(t, "one more, behind records", append(bytes.Clone(data), 7), impl.ErrMany)
	expectReadCode(t, "one more, most no record", append(filled, 0), impl.ErrMany)
	expectReadCode(t, "one more, zeros", make([]byte, maxLog+1), impl.ErrMany)
	expectReadCode(t, "twice as many", append(bytes.Clone(data), data...), impl.ErrMany)
	expectReadCode(t, "a million", make([]byte, 1000000), impl.ErrMany)
}

// Used and Records tell the same beginning, whatever the bytes are.
func TestReadLogOfAnyBytes(t *testing.T) {
	state := uint64(5)
	next := func(below uint64) int {
		state = state*6364136223846793005 + 1442695040888963407
		return int(state >> 33 % below)
	}
	list := allEdgeRecords()
	for range 3000 {
		var want []impl.Record
		for range next(6) {
			want = append(want, list[next(uint64(len(list)))])
		}
		data := expectedPackAll(want)
		for range next(40) {
			data = append(data, byte(next(12)))
		}
		got := impl.ReadLog(data)
		if behind := data[len(expectedPackAll(want)):]; isRecord(behind) {
			continue
		}
		if got.Code != impl.OK || !sameRecordLists(got.Records, want) || !bytes.Equal(impl.PackAll(got.Records).Bytes, data[:got.Used]) {
			t.Fatalf("ReadLog(%v) = %+v, want %+v", data, got, want)
		}
	}
}

func TestPackAllAroundMaxLog(t *testing.T) {
	for _, count := range []int{maxLog - 1, maxLog} {
		if got := impl.PackAll(recordsOf(t, count)); got.Code != impl.OK || len(got.Bytes) != count {
			t.Errorf("PackAll of %d bytes = code %d and %d bytes", count, got.Code, len(got.Bytes))
		}
	}
	for _, count := range []int{maxLog + 1, maxLog + 7, maxLog + 256, 2 * maxLog, 65536 + 10, 100000} {
		expectPackCode(t, strconv.Itoa(count)+" bytes", recordsOf(t, count), impl.ErrMany)
	}
	expectPackCode(t, "a begin more", append(recordsOf(t, maxLog), record(impl.RecBegin, 1, 0)), impl.ErrMany)
	short := slices.Repeat([]impl.Record{record(impl.RecCommit, 9, 0)}, 2286)
	expectPackCode(t, "2286 commits", short, impl.ErrMany)
	if got := impl.PackAll(short[:2285]); got.Code != impl.OK || len(got.Bytes) != 15995 {
		t.Errorf("PackAll of 2285 commits = code %d and %d bytes", got.Code, len(got.Bytes))
	}
}

type faultyRecord struct {
	name   string
	record impl.Record
	code   int64
}

// faultyRecords have each RecordFault, with each way to it that comes from another part of a record.
func faultyRecords() []faultyRecord {
	return []faultyRecord{
		{"zero", impl.Record{}, impl.ErrForm},
		{"kind 7", record(7, 1, 0), impl.ErrForm},
		{"kind 257", record(257, 1, 0), impl.ErrForm},
		{"the least kind", record(math.MinInt64, 1, 0), impl.ErrForm},
		{"begin with a page", record(impl.RecBegin, 1, 1), impl.ErrForm},
		{"commit with runs", record(impl.RecCommit, 1, 0, runOf(0, 1)), impl.ErrForm},
		{"image of a Tx", record(impl.RecImage, 1, 0, runOf(0, 64)), impl.ErrForm},
		{"Tx 0", record(impl.RecBegin, 0, 0), impl.ErrRange},
		{"Tx 100", record(impl.RecAbort, 100, 0), impl.ErrRange},
		{"Tx 257", record(impl.RecCommit, 257, 0), impl.ErrRange},
		{"page 12", record(impl.RecDelta, 1, 12, runOf(0, 1)), impl.ErrRange},
		{"page -1", record(impl.RecImage, 0, -1, runOf(0, 64)), impl.ErrRange},
		{"too many runs", record(impl.RecDelta, 1, 0, manyRuns(65)...), impl.ErrMany},
		{"a run beyond", record(impl.RecComp, 1, 0, runOf(64, 1)), impl.ErrRange},
		{"a run without bytes", record(impl.RecComp, 1, 0, impl.Run{}), impl.ErrRange},
		{"runs that touch", record(impl.RecDelta, 1, 0, runOf(0, 1), runOf(1, 1)), impl.ErrForm},
		{"no runs", record(impl.RecDelta, 1, 0), impl.ErrForm},
		{"a short image", record(impl.RecImage, 0, 0, runOf(0, 63)), impl.ErrForm},
	}
}

func TestPackAllOfFaults(t *testing.T) {
	lists := map[string][]impl.Record{
		"alone":                   nil,
		"among some":              kindRecords(),
		"among just MaxLog bytes": recordsOf(t, maxLog),
		"among MaxLog and one":    recordsOf(t, maxLog+1),
		"among twice MaxLog":      recordsOf(t, 2*maxLog),
	}
	for where, list := range lists {
		for _, c := range faultyRecords() {
			for _, at := range []int{0, len(list) / 2, len(list)} {
				name := c.name + ", " + where + ", at " + strconv.Itoa(at)
				expectPackCode(t, name, slices.Insert(slices.Clone(list), at, c.record), c.code)
			}
		}
	}
}

// The first record that has a fault tells it, whatever those behind have.
func TestPackAllTellsTheFirstFault(t *testing.T) {
	right := kindRecords()
	for _, a := range faultyRecords() {
		for _, b := range faultyRecords() {
			name := a.name + ", then " + b.name
			expectPackCode(t, name, []impl.Record{a.record, b.record}, a.code)
			expectPackCode(t, name+", records between", slices.Concat(right, []impl.Record{a.record}, right, []impl.Record{b.record}), a.code)
		}
	}
}

func TestLogFaultOfRightLogs(t *testing.T) {
	for name, list := range logLists(t) {
		for _, cut := range []int{0, 1, len(list) / 2, len(list) - 1, len(list)} {
			if cut < 0 || cut > len(list) {
				continue
			}
			if code := impl.LogFault(logOf(list[:cut], list[cut:])); code != impl.OK {
				t.Errorf("%s, cut at %d: LogFault = %d", name, cut, code)
			}
		}
	}
}

func TestLogFaultOfBytesBehindRecords(t *testing.T) {
	lists := map[string][]impl.Record{"none": nil, "one": {record(impl.RecBegin, 1, 0)}, "some": kindRecords()}
	for where, list := range lists {
		right := expectedPackAll(list)
		for what, none := range noRecords() {
			name, wrong := what+" behind "+where, append(bytes.Clone(right), none...)
			expectLogFault(t, name+" in Sure", impl.Log{Sure: wrong, Loose: right}, impl.ErrText)
			expectLogFault(t, name+" in Sure, nothing loose", impl.Log{Sure: wrong}, impl.ErrText)
			expectLogFault(t, name+" in Loose", impl.Log{Sure: right, Loose: wrong}, impl.ErrText)
			expectLogFault(t, name+" in Loose, nothing sure", impl.Log{Loose: wrong}, impl.ErrText)
			expectLogFault(t, name+" in both", impl.Log{Sure: wrong, Loose: wrong}, impl.ErrText)
		}
	}
}

// All bytes together are records, but a part of one is in Sure and the rest in Loose.
func TestLogFaultOfARecordCutInTwo(t *testing.T) {
	list := kindRecords()
	data := expectedPackAll(list)
	for cut := range len(data) + 1 {
		l := impl.Log{Sure: data[:cut], Loose: data[cut:]}
		if len(expectedPackAll(wholeWithin(list, cut))) == cut {
			if code := impl.LogFault(l); code != impl.OK {
				t.Errorf("between two records, at %d: LogFault = %d", cut, code)
			}
			continue
		}
		expectLogFault(t, "cut at "+strconv.Itoa(cut), l, impl.ErrText)
	}
}

func TestLogFaultAroundMaxLog(t *testing.T) {
	begin := packOf(record(impl.RecBegin, 1, 0))
	for _, sure := range []int{0, 10, 7000, 8000, maxLog - 10, maxLog} {
		right := impl.Log{Sure: bytesOf(t, sure), Loose: bytesOf(t, maxLog-sure)}
		if code := impl.LogFault(right); code != impl.OK {
			t.Errorf("%d of MaxLog bytes sure: LogFault = %d", sure, code)
		}
		name := strconv.Itoa(sure) + " sure, one more than MaxLog"
		expectLogFault(t, name+", no record behind", impl.Log{Sure: right.Sure, Loose: append(bytes.Clone(right.Loose), 0)}, impl.ErrMany)
		expectLogFault(t, name+", no record behind Sure", impl.Log{Sure: append(bytes.Clone(right.Sure), 0), Loose: right.Loose}, impl.ErrMany)
		expectLogFault(t, name+", no records", impl.Log{Sure: make([]byte, sure), Loose: make([]byte, maxLog+1-sure)}, impl.ErrMany)
		expectLogFault(t, name+", records", impl.Log{Sure: bytes.Clone(right.Sure), Loose: append(bytes.Clone(begin), right.Loose...)}, impl.ErrMany)
	}
	for _, sure := range []int{0, 10, 7000, maxLog - 10, maxLog - 9, maxLog + 1} {
		l := impl.Log{Sure: bytesOf(t, sure), Loose: bytesOf(t, maxLog+1-sure)}
		expectLogFault(t, strconv.Itoa(sure)+" of MaxLog and one sure, all records", l, impl.ErrMany)
	}
	all := bytesOf(t, maxLog)
	expectLogFault(t, "MaxLog each", impl.Log{Sure: all, Loose: all}, impl.ErrMany)
	expectLogFault(t, "MaxLog zeros", impl.Log{Sure: make([]byte, maxLog/2), Loose: make([]byte, maxLog/2)}, impl.ErrText)
}

// splitLogs are all ways to split a list of records into what is sure and what is loose.
func splitLogs(list []impl.Record, expect func(sure []impl.Record, loose []impl.Record)) {
	for cut := range len(list) + 1 {
		expect(list[:cut], list[cut:])
	}
}

func TestWhatIsAppendedComesBehind(t *testing.T) {
	for _, r := range allEdgeRecords() {
		splitLogs(kindRecords(), func(sure []impl.Record, loose []impl.Record) {
			got := impl.AppendLog(logOf(sure, loose), r)
			expectLog(t, "AppendLog", got, sure, append(slices.Clone(loose), r))
			both := slices.Concat(got.Log.Sure, got.Log.Loose)
			expectRecords(t, "both together", both, slices.Concat(sure, loose, []impl.Record{r}))
		})
	}
}

func TestAppendLogAroundMaxLog(t *testing.T) {
	for _, r := range kindRecords() {
		need := len(packOf(r))
		for _, more := range []int{-1, 0, 1, 2, need} {
			list := recordsOf(t, maxLog-need+more)
			for _, cut := range []int{0, len(list) / 2, len(list)} {
				got := impl.AppendLog(logOf(list[:cut], list[cut:]), r)
				name := impl.RecordText(r).Text + ", " + strconv.Itoa(maxLog+more) + " bytes"
				if more > 0 {
					expectLogCode(t, name, got, impl.ErrFull)
				} else {
					expectLog(t, name, got, list[:cut], append(slices.Clone(list[cut:]), r))
				}
			}
		}
	}
}

func TestAppendLogOfFaults(t *testing.T) {
	full := recordsOf(t, maxLog)
	for _, c := range faultyRecords() {
		splitLogs(kindRecords(), func(sure []impl.Record, loose []impl.Record) {
			expectLogCode(t, c.name, impl.AppendLog(logOf(sure, loose), c.record), c.code)
		})
		expectLogCode(t, c.name+", a full log", impl.AppendLog(logOf(full, nil), c.record), c.code)
		expectLogCode(t, c.name+", a full loose log", impl.AppendLog(logOf(nil, full), c.record), c.code)
		expectLogCode(t, c.name+", no record in Loose", impl.AppendLog(impl.Log{Loose: []byte{1}}, c.record), impl.ErrText)
		expectLogCode(t, c.name+", too long a log", impl.AppendLog(impl.Log{Sure: make([]byte, maxLog+1)}, c.record), impl.ErrMany)
	}
	expectLogCode(t, "a full log with a wrong end", impl.AppendLog(impl.Log{Sure: make([]byte, maxLog)}, full[0]), impl.ErrText)
}

func TestSyncLogMakesAllSure(t *testing.T) {
	for name, list := range logLists(t) {
		if len(list) > 40 {
			list = slices.Clip(list[:40])
		}
		splitLogs(list, func(sure []impl.Record, loose []impl.Record) {
			once := impl.SyncLog(logOf(sure, loose))
			expectLog(t, name, once, list, nil)
			expectLog(t, name+", again", impl.SyncLog(once.Log), list, nil)
		})
	}
	full := recordsOf(t, maxLog)
	expectLog(t, "MaxLog loose", impl.SyncLog(logOf(nil, full)), full, nil)
	expectLog(t, "MaxLog, half of it loose", impl.SyncLog(logOf(full[:90], full[90:])), full, nil)
	expectLog(t, "MaxLog sure", impl.SyncLog(logOf(full, nil)), full, nil)
}

// Whatever is kept of what was loose: all that was sure is there, then just the whole ones.
func TestCrashLogWithEachKept(t *testing.T) {
	lists := [][]impl.Record{kindRecords(), {image(0, basePage())}, {record(impl.RecBegin, 5, 0), record(impl.RecBegin, 5, 0)}}
	for _, list := range lists {
		splitLogs(list, func(sure []impl.Record, loose []impl.Record) {
			l := logOf(sure, loose)
			for kept := range len(l.Loose) + 1 {
				name := strconv.Itoa(len(sure)) + " sure, kept " + strconv.Itoa(kept)
				want := append(slices.Clone(sure), wholeWithin(loose, kept)...)
				got := impl.CrashLog(l, int64(kept))
				expectLog(t, name, got, want, nil)
				expectLog(t, name+", again", impl.CrashLog(got.Log, 0), want, nil)
			}
			if got, synced := impl.CrashLog(l, int64(len(l.Loose))), impl.SyncLog(l); !sameLog(got.Log, synced.Log) {
				t.Errorf("all kept is %+v, all synced %+v", got, synced)
			}
		})
	}
}

func TestCrashLogJustAroundARecord(t *testing.T) {
	a, b, c := record(impl.RecBegin, 1, 0), record(impl.RecDelta, 1, 2, runOf(3, 5)), record(impl.RecCommit, 1, 0)
	l := logOf([]impl.Record{a}, []impl.Record{b, c, a})
	counts := map[int64]int{0: 1, 1: 1, 13: 1, 14: 2, 15: 2, 20: 2, 21: 3, 22: 3, 27: 3, 28: 4}
	for kept, count := range counts {
		expectLog(t, "kept "+strconv.FormatInt(kept, 10), impl.CrashLog(l, kept), []impl.Record{a, b, c, a}[:count], nil)
	}
	expectLogCode(t, "kept 29", impl.CrashLog(l, 29), impl.ErrRange)
}

func TestCrashLogOfAFullLog(t *testing.T) {
	list := recordsOf(t, maxLog)
	for _, cut := range []int{0, 100, len(list) - 1, len(list)} {
		l := logOf(list[:cut], list[cut:])
		length := len(l.Loose)
		for _, kept := range []int{0, 1, length / 2, length - 1, length} {
			if kept < 0 || kept > length {
				continue
			}
			want := append(slices.Clone(list[:cut]), wholeWithin(list[cut:], kept)...)
			expectLog(t, "kept "+strconv.Itoa(kept), impl.CrashLog(l, int64(kept)), want, nil)
		}
		expectLogCode(t, "one more", impl.CrashLog(l, int64(length)+1), impl.ErrRange)
	}
}

func TestCrashLogOfWrongKept(t *testing.T) {
	splitLogs(kindRecords(), func(sure []impl.Record, loose []impl.Record) {
		l := logOf(sure, loose)
		length := int64(len(l.Loose))
		wrong := []int64{-1, -2, -256, length + 1, length + 2, length + 256, length + 1<<32, -1 << 32, math.MinInt64, math.MinInt64 + 1, math.MinInt64 + length, math.MaxInt64 - 1, math.MaxInt64}
		for _, kept := range wrong {
			name := strconv.FormatInt(length, 10) + " loose, kept " + strconv.FormatInt(kept, 10)
			expectLogCode(t, name, impl.CrashLog(l, kept), impl.ErrRange)
		}
		if len(sure) > 0 {
			expectLogCode(t, "as many as there are in all", impl.CrashLog(l, length+int64(len(l.Sure))), impl.ErrRange)
		}
	})
}

// A long walk beside a model that has records alone.
func TestLogsOverLongWalks(t *testing.T) {
	state := uint64(11)
	next := func(below int) int {
		state = state*6364136223846793005 + 1442695040888963407
		return int(state>>33) % below
	}
	list := allEdgeRecords()
	var l impl.Log
	var sure, loose []impl.Record
	for range 2000 {
		var got impl.LogResult
		switch next(8) {
		case 0:
			sure, loose = slices.Concat(sure, loose), nil
			got = impl.SyncLog(l)
		case 1:
			kept := next(len(l.Loose) + 1)
			sure, loose = slices.Concat(sure, wholeWithin(loose, kept)), nil
			got = impl.CrashLog(l, int64(kept))
		default:
			r := list[next(len(list))]
			got = impl.AppendLog(l, r)
			if len(l.Sure)+len(l.Loose)+len(packOf(r)) > maxLog {
				expectLogCode(t, "AppendLog", got, impl.ErrFull)
				l, sure, loose = impl.Log{}, nil, nil
				continue
			}
			loose = append(slices.Clip(loose), r)
		}
		expectLog(t, "a walk", got, sure, loose)
		l = got.Log
	}
}

// logCalls are calls of each function, told by the logs and records that they answer.
func logCalls(l impl.Log, list []impl.Record, data []byte) map[string]func() ([]byte, []byte, []impl.Record) {
	ofLog := func(r impl.LogResult) ([]byte, []byte, []impl.Record) { return r.Log.Sure, r.Log.Loose, nil }
	type answer = func() ([]byte, []byte, []impl.Record)
	return map[string]answer{
		"LogFault":              func() ([]byte, []byte, []impl.Record) { return []byte{byte(impl.LogFault(l))}, nil, nil },
		"AppendLog":             func() ([]byte, []byte, []impl.Record) { return ofLog(impl.AppendLog(l, list[1])) },
		"AppendLog of a fault":  func() ([]byte, []byte, []impl.Record) { return ofLog(impl.AppendLog(l, impl.Record{})) },
		"SyncLog":               func() ([]byte, []byte, []impl.Record) { return ofLog(impl.SyncLog(l)) },
		"CrashLog with nothing": func() ([]byte, []byte, []impl.Record) { return ofLog(impl.CrashLog(l, 0)) },
		"CrashLog with a part":  func() ([]byte, []byte, []impl.Record) { return ofLog(impl.CrashLog(l, 10)) },
		"CrashLog with all":     func() ([]byte, []byte, []impl.Record) { return ofLog(impl.CrashLog(l, int64(len(l.Loose)))) },
		"CrashLog with too much": func() ([]byte, []byte, []impl.Record) {
			return ofLog(impl.CrashLog(l, int64(len(l.Loose))+1))
		},
		"ReadLog": func() ([]byte, []byte, []impl.Record) { return nil, nil, impl.ReadLog(data).Records },
		"PackAll": func() ([]byte, []byte, []impl.Record) { return impl.PackAll(list).Bytes, nil, nil },
	}
}

// expectRecordsApart scribbles all memory of each record in turn: no other one of the answer follows.
func expectRecordsApart(t *testing.T, name string, list []impl.Record) {
	t.Helper()
	for i := range list {
		expectRunsApart(t, name, list[i].Runs)
		kept := cloneRecords(list)
		for j := range list[i].Runs {
			scribbleAll(list[i].Runs[j].Bytes)
		}
		clear(list[i].Runs[:cap(list[i].Runs)])
		for j := range list {
			if j != i && !sameRecord(list[j], kept[j]) {
				t.Errorf("%s: records %d and %d share memory", name, i, j)
			}
		}
	}
}

func TestLogAnswersAreNewMemory(t *testing.T) {
	list := append(kindRecords(), allEdgeRecords()...)
	logs := map[string]impl.Log{
		"both":          logOf(list[:5], list[5:9]),
		"nothing loose": logOf(list[:5], nil),
		"nothing sure":  logOf(nil, list[:5]),
		"nothing":       {},
		"empty lists":   {Sure: make([]byte, 0, 100), Loose: make([]byte, 0, 100)},
		"a fault":       {Sure: []byte{7, 1}, Loose: []byte{3}},
	}
	for where, l := range logs {
		data := append(expectedPackAll(list), 3, 1)
		keptLog, keptList, keptData := cloneLog(l), cloneRecords(list), bytes.Clone(data)
		for what, call := range logCalls(l, list, data) {
			name := what + ", " + where
			sure, loose, records := call()
			sure2, loose2, records2 := call()
			want, wantLoose, wantRecords := bytes.Clone(sure2), bytes.Clone(loose2), cloneRecords(records2)
			scribbleAll(sure)
			if !bytes.Equal(loose, wantLoose) {
				t.Errorf("%s: Sure and Loose of the answer share memory", name)
			}
			kept := bytes.Clone(sure)
			scribbleAll(loose)
			if !bytes.Equal(sure, kept) {
				t.Errorf("%s: Loose and Sure of the answer share memory", name)
			}
			expectRecordsApart(t, name, records)
			clear(records[:cap(records)])
			if !bytes.Equal(sure2, want) || !bytes.Equal(loose2, wantLoose) || !sameRecordLists(records2, wantRecords) {
				t.Errorf("%s: two answers share memory", name)
			}
			if !sameLog(l, keptLog) || !sameRecordLists(list, keptList) || !bytes.Equal(data, keptData) {
				t.Fatalf("%s: the answer shares memory with what was handed in, or that was changed", name)
			}
			if sure3, loose3, records3 := call(); !bytes.Equal(sure3, want) || !bytes.Equal(loose3, wantLoose) || !sameRecordLists(records3, wantRecords) {
				t.Errorf("%s: the answer is another one behind the first", name)
			}
		}
	}
}

// All that was handed in is turned behind the calls, and no answer follows.
func TestLogAnswersDoNotFollow(t *testing.T) {
	type answer struct {
		sure    []byte
		loose   []byte
		records []impl.Record
	}
	list := append(kindRecords(), allEdgeRecords()...)
	l, data := logOf(list[:5], list[5:9]), expectedPackAll(list)
	got, want := map[string]answer{}, map[string]answer{}
	for name, call := range logCalls(l, list, data) {
		sure, loose, records := call()
		got[name] = answer{sure, loose, records}
		want[name] = answer{bytes.Clone(sure), bytes.Clone(loose), cloneRecords(records)}
	}
	scribbleAll(l.Sure)
	scribbleAll(l.Loose)
	scribbleAll(data)
	for _, r := range list {
		for i := range r.Runs {
			scribbleAll(r.Runs[i].Bytes)
		}
		clear(r.Runs)
	}
	clear(list)
	for name, g := range got {
		w := want[name]
		if !bytes.Equal(g.sure, w.sure) || !bytes.Equal(g.loose, w.loose) || !sameRecordLists(g.records, w.records) {
			t.Errorf("%s: the answer turns with what was handed in", name)
		}
	}
}

// Sure and Loose may be two pieces of one list, with memory behind each, where they are handed in.
func TestLogsOfSharedMemory(t *testing.T) {
	list := kindRecords()
	data := append(expectedPackAll(list), seqCell(0, 200)...)
	kept := bytes.Clone(data)
	end := len(data) - 200
	splitLogs(list, func(sure []impl.Record, loose []impl.Record) {
		cut := len(expectedPackAll(sure))
		l := impl.Log{Sure: data[:cut], Loose: data[cut:end]}
		expectLog(t, "AppendLog", impl.AppendLog(l, list[3]), sure, append(slices.Clone(loose), list[3]))
		expectLog(t, "SyncLog", impl.SyncLog(l), list, nil)
		for part := range len(l.Loose) + 1 {
			expectLog(t, "CrashLog", impl.CrashLog(l, int64(part)), append(slices.Clone(sure), wholeWithin(loose, part)...), nil)
		}
		twice := impl.Log{Sure: data[:cut], Loose: data[:cut]}
		expectLog(t, "SyncLog of one list twice", impl.SyncLog(twice), slices.Concat(sure, sure), nil)
		expectLog(t, "AppendLog to one list twice", impl.AppendLog(twice, list[0]), sure, append(slices.Clone(sure), list[0]))
		if !bytes.Equal(data, kept) {
			t.Fatal("what was handed in was changed")
		}
	})
	expectRecords(t, "memory behind", data[:end], list)
}

// An appended log is one beginning for two others, and they don't meet.
func TestTwoLogsOfOneBeginning(t *testing.T) {
	list := kindRecords()
	base := impl.AppendLog(impl.AppendLog(logOf(list[:2], nil), list[2]).Log, list[3]).Log
	kept := cloneLog(base)
	first := impl.AppendLog(base, list[4])
	second := impl.AppendLog(base, list[5])
	synced := impl.SyncLog(base)
	behind := impl.AppendLog(synced.Log, list[0])
	expectLog(t, "the first", first, list[:2], []impl.Record{list[2], list[3], list[4]})
	expectLog(t, "the second", second, list[:2], []impl.Record{list[2], list[3], list[5]})
	expectLog(t, "behind the synced one", behind, list[:4], list[:1])
	expectLog(t, "the synced one", synced, list[:4], nil)
	if !sameLog(base, kept) {
		t.Error("the beginning was changed")
	}
}

func TestLogAnswersHangOnArgumentsAlone(t *testing.T) {
	list := kindRecords()
	l, data := logOf(list[:2], list[2:]), append(expectedPackAll(list), 9)
	for range 3 {
		impl.ReadLog([]byte{1, 2, 3})
		impl.ReadLog(make([]byte, maxLog+1))
		impl.LogFault(impl.Log{Sure: []byte{1}})
		impl.CrashLog(l, -1)
		impl.AppendLog(l, impl.Record{})
		impl.PackAll([]impl.Record{{}})
		expectRecords(t, "ReadLog", data, list)
		expectLog(t, "AppendLog", impl.AppendLog(l, list[0]), list[:2], append(slices.Clone(list[2:]), list[0]))
		expectLog(t, "SyncLog", impl.SyncLog(l), list, nil)
		expectLog(t, "CrashLog", impl.CrashLog(l, 10), append(slices.Clone(list[:2]), list[2]), nil)
		if got := impl.PackAll(list); got.Code != impl.OK || !bytes.Equal(got.Bytes, data[:len(data)-1]) {
			t.Errorf("PackAll = %+v", got)
		}
	}
}
