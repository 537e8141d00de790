package tests

import (
	"bytes"
	"math"
	"slices"
	"strconv"
	"testing"

	"loop.example/g00408/impl"
)

const fullLog = 4000

func cloneStore(s impl.Store) impl.Store {
	return impl.Store{Up: s.Up, Pages: clonePages(s.Pages), Log: cloneLog(s.Log), Txs: cloneTxs(s.Txs), Next: s.Next}
}

func sameStore(a impl.Store, b impl.Store) bool {
	return a.Up == b.Up && samePages(a.Pages, b.Pages) && sameLog(a.Log, b.Log) && sameTxs(a.Txs, b.Txs) && a.Next == b.Next
}

func sameStoreResult(a impl.StoreResult, b impl.StoreResult) bool {
	return a.Code == b.Code && a.Value == b.Value && sameStore(a.Store, b.Store)
}

// plainIn is a store without pages and log.
func plainIn(s impl.Store) impl.Plain {
	return impl.Plain{Rows: impl.RowsIn(s.Pages).Rows, Txs: s.Txs, Next: s.Next}
}

// recordsTo lead from no pages on to these, a record a page, of each kind that turns something.
func recordsTo(pages [][]byte) []impl.Record {
	var list []impl.Record
	for i, page := range pages {
		r := turned([]int64{impl.RecDelta, impl.RecComp, impl.RecDelta}[i%3], int64(99-i), int64(i), impl.NewPage(0).Page, page)
		if i%3 == 2 || len(r.Runs) == 0 {
			r = image(int64(i), page)
		}
		list = append(list, r)
	}
	return list
}

// pagesTold are those to which records lead, from these pages on: false, where one does not fit.
func pagesTold(pages [][]byte, list []impl.Record) ([][]byte, bool) {
	pages = clonePages(pages)
	for _, r := range list {
		if len(r.Runs) == 0 {
			continue
		}
		if r.Page > int64(len(pages)) {
			return nil, false
		}
		data := make([]byte, 64)
		data[1] = 64
		if r.Page < int64(len(pages)) {
			data = bytes.Clone(pages[r.Page])
		}
		for _, run := range r.Runs {
			copy(data[run.At:], run.Bytes)
		}
		pages = withEdit(pages, impl.Edit{Page: r.Page, Bytes: data})
	}
	return pages, true
}

// storeOf has the transactions and Next of p, whatever its rows are.
func storeOf(pages [][]byte, p impl.Plain) impl.Store {
	return impl.Store{Up: true, Pages: clonePages(pages), Log: logOf(recordsTo(pages), nil), Txs: cloneTxs(p.Txs), Next: p.Next}
}

// retold has a log that tells its pages, where there is one.
func retold(s impl.Store) impl.Store {
	s.Log = logOf(recordsTo(s.Pages), nil)
	return s
}

// openPages have the rows of openPlain: 1/6 stands behind a stub, and a moved cell is told by nobody.
func openPages(t *testing.T) [][]byte {
	t.Helper()
	return [][]byte{
		pageWith(t, cellOf(impl.FlagRow, told(1, 8)), stubCell(1, 2), cellOf(impl.FlagRow, told(2, 4)), nil, rowCell(1, 5, 3, "c")),
		pageWith(t, movedCell(3, 3, 3, "lone"), rowCell(2, 7, 7, ""), movedCell(1, 6, 6, "six"), rowCell(1, 9, 9, "")),
	}
}

// openStore is openPlain with pages, and with a log of which the last record is loose.
func openStore(t *testing.T) impl.Store {
	t.Helper()
	pages := openPages(t)
	s := storeOf(pages, openPlain())
	s.Log = logOf(recordsTo(pages)[:1], append(recordsTo(pages)[1:], begin(50)))
	if !slices.Equal(plainIn(s).Rows, openPlain().Rows) {
		t.Fatalf("openStore has the rows %+v", plainIn(s).Rows)
	}
	return s
}

func allRead(data []byte) ([]impl.Record, bool) {
	read := impl.ReadLog(data)
	return read.Records, read.Code == impl.OK && int(read.Used) == len(data)
}

// expectedStoreFault goes by the words of the chapter.
func expectedStoreFault(s impl.Store) int64 {
	if len(s.Log.Sure)+len(s.Log.Loose) > maxLog {
		return impl.ErrMany
	}
	sure, isSure := allRead(s.Log.Sure)
	loose, isLoose := allRead(s.Log.Loose)
	if !isSure || !isLoose {
		return impl.ErrText
	}
	if !s.Up {
		if len(s.Pages) > 0 || len(s.Txs) > 0 || len(loose) > 0 {
			return impl.ErrForm
		}
		if s.Next < 1 || s.Next > 100 {
			return impl.ErrRange
		}
		return impl.OK
	}
	if code := impl.PagesFault(s.Pages); code != impl.OK {
		return code
	}
	if code := expectedPlainFault(plainIn(s)); code != impl.OK {
		return code
	}
	pages, ok := pagesTold(nil, slices.Concat(sure, loose))
	if !ok || !samePages(pages, s.Pages) {
		return impl.ErrState
	}
	return impl.OK
}

// anyOps are right and wrong ones of each kind, of those that openStore has and of others.
func anyOps() []impl.Op {
	ops := []impl.Op{rowOp(impl.OpPut, 9, told(3, 8)), rowOp(impl.OpSet, 9, rowOf(1, 9, 2, "")), rowOp(impl.OpSet, 9, rowOf(1, 9, 9, "")), rowOp(impl.OpDrop, 9, rowOf(1, 9, 0, "")), backOp(3, 1), backOp(7, 7)}
	for kind := int64(minKind - 1); kind <= maxKind+1; kind++ {
		for _, tx := range []int64{3, 7, 50} {
			ops = append(ops, rightOp(kind, tx))
		}
		ops = append(ops, impl.Op{Kind: kind, Tx: 100, Mark: 8, Row: rowOf(9, 0, 0, "A")})
	}
	return ops
}

func expectStoreCode(t *testing.T, name string, s impl.Store, o impl.Op, code int64) {
	t.Helper()
	if got := impl.DoStore(s, o); !sameStoreResult(got, impl.StoreResult{Code: code}) {
		t.Errorf("%s: DoStore of %+v = %+v, want code %d alone", name, o, got, code)
	}
}

func expectRowsOf(t *testing.T, name string, s impl.Store, want impl.RowsResult) {
	t.Helper()
	if got := impl.RowsOf(s); got.Code != want.Code || !slices.Equal(got.Rows, want.Rows) {
		t.Errorf("%s: RowsOf = %+v, want %+v", name, got, want)
	}
}

func expectLogged(t *testing.T, name string, s impl.Store, want impl.RecordsResult) {
	t.Helper()
	if got := impl.LoggedIn(s); got.Code != want.Code || got.Used != want.Used || !sameRecordLists(got.Records, want.Records) {
		t.Errorf("%s: LoggedIn = %+v, want %+v", name, got, want)
	}
}

// expectSound asks for all that is promised of a store without a fault, whatever was done to it.
func expectSound(t *testing.T, name string, s impl.Store) {
	t.Helper()
	if code := impl.StoreFault(s); code != impl.OK {
		t.Fatalf("%s: StoreFault(%+v) = %d", name, s, code)
	}
	sure, _ := allRead(s.Log.Sure)
	loose, _ := allRead(s.Log.Loose)
	list := slices.Concat(sure, loose)
	expectLogged(t, name, s, impl.RecordsResult{Used: int64(len(s.Log.Sure) + len(s.Log.Loose)), Records: list})
	if !s.Up {
		expectRowsOf(t, name, s, impl.RowsResult{Code: impl.ErrState})
		return
	}
	view, _ := expectedView(s.Pages)
	expectRowsOf(t, name, s, impl.RowsResult{Rows: rowsFound(view)})
	var pages [][]byte
	for _, r := range impl.LoggedIn(s).Records {
		turned := impl.ApplyRecord(pages, r)
		if turned.Code != impl.OK {
			t.Fatalf("%s: ApplyRecord(%+v) = %d", name, r, turned.Code)
		}
		pages = turned.Pages
	}
	if !samePages(pages, s.Pages) {
		t.Fatalf("%s: the log tells %v, the pages are %v", name, pages, s.Pages)
	}
}

// expectStoreFault asks all that ask the StoreFault, beside other things that are wrong.
func expectStoreFault(t *testing.T, name string, s impl.Store, code int64) {
	t.Helper()
	expectFaultAt(t, name, s, code, anyOps()...)
}

func expectFaultAt(t *testing.T, name string, s impl.Store, code int64, ops ...impl.Op) {
	t.Helper()
	if model := expectedStoreFault(s); model != code {
		t.Fatalf("%s: the model has code %d, want %d", name, model, code)
	}
	kept := cloneStore(s)
	if got := impl.StoreFault(s); got != code {
		t.Errorf("%s: StoreFault = %d, want %d", name, got, code)
	}
	if code == impl.OK {
		expectSound(t, name, s)
	} else {
		expectRowsOf(t, name, s, impl.RowsResult{Code: code})
		expectLogged(t, name, s, impl.RecordsResult{Code: code})
	}
	if !s.Up && code == impl.OK {
		code = impl.ErrState
	}
	if code != impl.OK {
		for _, o := range ops {
			expectStoreCode(t, name, s, o, code)
		}
	}
	if !sameStore(s, kept) {
		t.Fatalf("%s: the store was changed", name)
	}
}

func TestFullLogNumber(t *testing.T) {
	if impl.FullLog != fullLog {
		t.Errorf("FullLog = %d", impl.FullLog)
	}
}

func TestNewStore(t *testing.T) {
	for next := int64(1); next <= 100; next++ {
		got := impl.NewStore(next)
		if !sameStoreResult(got, impl.StoreResult{Store: impl.Store{Up: true, Next: next}}) {
			t.Errorf("NewStore(%d) = %+v", next, got)
		}
		expectStoreFault(t, "a new one", got.Store, impl.OK)
	}
	for _, next := range []int64{math.MinInt64, -1 << 32, -256, -100, -1, 0, 101, 102, 255, 256, 257, 1 << 16, 1 << 32, 1<<32 + 1, math.MaxInt64} {
		if got := impl.NewStore(next); !sameStoreResult(got, impl.StoreResult{Code: impl.ErrRange}) {
			t.Errorf("NewStore(%d) = %+v, want ErrRange alone", next, got)
		}
	}
}

// idleRecords have together just this many bytes (none, or 10 and more), and turn nothing in a page 0 like this one.
func idleRecords(t *testing.T, page []byte, count int) []impl.Record {
	t.Helper()
	list := recordsOf(t, count)
	for i, r := range list {
		list[i] = record(r.Kind, r.Tx, 0, impl.Run{Bytes: bytes.Clone(page[:len(r.Runs[0].Bytes)])})
	}
	if got := len(expectedPackAll(list)); got != count {
		t.Fatalf("%d bytes of idle records, want %d", got, count)
	}
	return list
}

// paddedTo has so many bytes in its log, of which the last ones are loose or sure.
func paddedTo(t *testing.T, s impl.Store, count int, isLoose bool) impl.Store {
	t.Helper()
	own := cloneStore(s)
	idle := expectedPackAll(idleRecords(t, s.Pages[0], count-len(s.Log.Sure)-len(s.Log.Loose)))
	if isLoose {
		own.Log.Loose = append(own.Log.Loose, idle...)
	} else {
		own.Log.Sure = slices.Concat(own.Log.Sure, own.Log.Loose, idle)
		own.Log.Loose = nil
	}
	return own
}

func TestStoreFaultOfNone(t *testing.T) {
	expectStoreFault(t, "open ones", openStore(t), impl.OK)
	expectRowsOf(t, "open ones", openStore(t), impl.RowsResult{Rows: openPlain().Rows})
	for _, next := range []int64{1, 2, 50, 99, 100} {
		expectStoreFault(t, "nothing", impl.Store{Up: true, Next: next}, impl.OK)
		expectStoreFault(t, "empty lists", impl.Store{Up: true, Pages: [][]byte{}, Log: impl.Log{Sure: []byte{}, Loose: []byte{}}, Txs: []impl.Tx{}, Next: next}, impl.OK)
		expectStoreFault(t, "down", impl.Store{Next: next}, impl.OK)
		expectStoreFault(t, "down, empty lists", impl.Store{Pages: [][]byte{}, Log: impl.Log{Sure: []byte{}, Loose: []byte{}}, Txs: []impl.Tx{}, Next: next}, impl.OK)
		expectStoreFault(t, "down, with a log", impl.Store{Log: logOf(kindRecords(), nil), Next: next}, impl.OK)
	}
	// Of one that is down nobody asks whether its records fit one behind the other.
	expectStoreFault(t, "down, page 11 first", impl.Store{Log: logOf([]impl.Record{record(impl.RecDelta, 1, 11, runOf(0, 64)), commit(3)}, nil), Next: 1}, impl.OK)
	expectStoreFault(t, "down, a log of MaxLog bytes", impl.Store{Log: logOf(recordsOf(t, maxLog), nil), Next: 1}, impl.OK)
	for count := range 13 {
		pages := make([][]byte, count)
		for i := range pages {
			pages[i] = pageWith(t, rowCell(1, int64(1+i), 0, ""), movedCell(2, 2, 2, "lone"))
		}
		expectStoreFault(t, strconv.Itoa(count)+" pages", storeOf(pages, impl.Plain{Next: 1}), impl.OK)
	}
	// Nobody asks whom the records tell to be open, nor what they turned on the way.
	s := openStore(t)
	on := append(recordsTo(s.Pages), begin(1), begin(1), abort(77), commit(3), turned(impl.RecDelta, 80, 1, s.Pages[1], filled(7)), turned(impl.RecComp, 80, 1, filled(7), s.Pages[1]), image(0, filled(9)), image(0, s.Pages[0]))
	for at := range on {
		s.Log = logOf(on[:at], on[at:])
		expectStoreFault(t, "turned there and back", s, impl.OK)
	}
	for _, isLoose := range []bool{false, true} {
		expectStoreFault(t, "a log of MaxLog bytes", paddedTo(t, openStore(t), maxLog, isLoose), impl.OK)
		expectStoreFault(t, "a log of a byte less", paddedTo(t, openStore(t), maxLog-1, isLoose), impl.OK)
		expectStoreFault(t, "a log of more than FullLog bytes", paddedTo(t, openStore(t), fullLog+1, isLoose), impl.OK)
	}
}

// storeFault makes a store wrong; rank says how early it is asked.
type storeFault struct {
	name string
	rank int
	code int64
	make func(s *impl.Store)
}

const (
	rankLog = 1 + iota
	rankForm
	rankPages
	rankPlain
)

func logFaults(t *testing.T) []storeFault {
	t.Helper()
	var faults []storeFault
	add := func(name string, code int64, turn func(l *impl.Log)) {
		faults = append(faults, storeFault{name, rankLog, code, func(s *impl.Store) { turn(&s.Log) }})
	}
	add("more than MaxLog bytes", impl.ErrMany, func(l *impl.Log) { l.Sure = append(packOf(begin(5)), bytesOf(t, maxLog)...) })
	add("more than MaxLog bytes that are loose", impl.ErrMany, func(l *impl.Log) { l.Loose = append(packOf(begin(5)), bytesOf(t, maxLog)...) })
	add("16001 bytes that are no records", impl.ErrMany, func(l *impl.Log) { l.Sure, l.Loose = make([]byte, 8000), make([]byte, 8001) })
	add("bytes behind Sure", impl.ErrText, func(l *impl.Log) { l.Sure = append(l.Sure, 0) })
	add("bytes ahead of Sure", impl.ErrText, func(l *impl.Log) { l.Sure = append([]byte{0}, l.Sure...) })
	add("bytes behind Loose", impl.ErrText, func(l *impl.Log) { l.Loose = append(l.Loose, 7, 1, 1) })
	add("a record that is cut in two", impl.ErrText, func(l *impl.Log) {
		l.Sure, l.Loose = append(l.Sure, packOf(begin(5))[:3]...), append(packOf(begin(5))[3:], l.Loose...)
	})
	add("a turned byte", impl.ErrText, func(l *impl.Log) { l.Loose = append(l.Loose, packOf(begin(5))...); l.Loose[len(l.Loose)-5]++ })
	return faults
}

// nextFaults are faults of one that is down or Up.
func nextFaults(rank int) []storeFault {
	var faults []storeFault
	for _, next := range []int64{math.MinInt64, -1, 0, 101, 256 + 1, 1<<32 + 1, math.MaxInt64} {
		faults = append(faults, storeFault{"Next " + strconv.FormatInt(next, 10), rank, impl.ErrRange, func(s *impl.Store) { s.Next = next }})
	}
	return faults
}

func downFaults(t *testing.T) []storeFault {
	t.Helper()
	faults := append(logFaults(t), nextFaults(rankForm+1)...)
	add := func(name string, turn func(s *impl.Store)) {
		faults = append(faults, storeFault{name, rankForm, impl.ErrForm, turn})
	}
	add("a page", func(s *impl.Store) { s.Pages = [][]byte{impl.NewPage(0).Page} })
	add("the pages of its log", func(s *impl.Store) { s.Pages = openPages(t) })
	add("a page that is none", func(s *impl.Store) { s.Pages = [][]byte{nil} })
	add("13 pages", func(s *impl.Store) { s.Pages = make([][]byte, 13) })
	add("a transaction", func(s *impl.Store) { s.Txs = []impl.Tx{{Id: 1}} })
	add("a transaction that is none", func(s *impl.Store) { s.Txs = []impl.Tx{{}} })
	add("5 transactions", func(s *impl.Store) { s.Txs = append(plainTxs(4), impl.Tx{Id: 99}) })
	add("a record that is loose", func(s *impl.Store) { s.Log.Loose = packOf(begin(1)) })
	add("all of these", func(s *impl.Store) {
		s.Pages, s.Txs, s.Log.Loose = openPages(t), plainTxs(4), packOf(commit(1))
	})
	return faults
}

func TestStoreFaultOfOnesThatAreDown(t *testing.T) {
	faults := downFaults(t)
	for _, f := range faults {
		for _, list := range [][]impl.Record{nil, recordsTo(openPages(t)), kindRecords()} {
			one := impl.Store{Log: logOf(list, nil), Next: 10}
			f.make(&one)
			expectStoreFault(t, f.name, one, f.code)
			for _, g := range faults {
				if f.rank < g.rank {
					two := impl.Store{Log: logOf(list, nil), Next: 10}
					g.make(&two)
					f.make(&two)
					expectStoreFault(t, f.name+", and "+g.name, two, f.code)
				}
			}
		}
	}
}

// oneMoreIs takes the place of the last page, where there may be no more.
func oneMoreIs(page func(number int64) []byte) func(s *impl.Store) {
	return func(s *impl.Store) {
		s.Pages = clonePages(s.Pages[:min(len(s.Pages), 11)])
		s.Pages = append(s.Pages, page(int64(len(s.Pages))))
	}
}

func pagesFaults(t *testing.T) []storeFault {
	t.Helper()
	faults := []storeFault{
		{"13 pages", rankPages, impl.ErrMany, func(s *impl.Store) {
			for len(s.Pages) < 13 {
				s.Pages = append(s.Pages, impl.NewPage(0).Page)
			}
		}},
		{"13 pages that are none", rankPages, impl.ErrMany, func(s *impl.Store) { s.Pages = make([][]byte, 13) }},
	}
	for _, f := range faultyPages(t) {
		faults = append(faults, storeFault{f.name, rankPages, f.code, oneMoreIs(f.page)})
	}
	return faults
}

// rowsFaults are PlainFaults of the rows that stand in the pages.
func rowsFaults(t *testing.T) []storeFault {
	t.Helper()
	rows := func(list []impl.Row) func(s *impl.Store) {
		return func(s *impl.Store) {
			var edits impl.EditsResult
			for _, r := range list {
				edits = impl.InsertEdits(edits.Pages, r)
			}
			s.Pages = edits.Pages
		}
	}
	more := slices.Concat(openPlain().Rows, manyRows(3*99+10, 5, 1))
	return []storeFault{
		{"84 rows", rankPlain, impl.ErrMany, func(s *impl.Store) { s.Pages, _ = fullPages(t, 12) }},
		{"61 rows", rankPlain, impl.ErrMany, rows(smallRows(90, maxRows+1))},
		{"60 rows", rankPlain + 3, impl.ErrMany, rows(smallRows(90, maxRows))},
		{"13 rows and locks", rankPlain + 3, impl.ErrMany, rows(more)},
		{"a row that was put is gone", rankPlain + 4, impl.ErrState, rows(changedRows(openPlain().Rows, drop(rowOf(1, 6, 6, "six"))))},
		{"a row is another one", rankPlain + 4, impl.ErrState, rows(changedRows(openPlain().Rows, turn(rowOf(1, 6, 6, "six"), rowOf(1, 6, 6, "seven"))))},
		{"a row that was dropped", rankPlain + 4, impl.ErrState, rows(changedRows(openPlain().Rows, put(rowOf(2, 8, 8, "gone"))))},
	}
}

func plainFaultsOfTxs() []storeFault {
	faults := nextFaults(rankPlain + 2)
	add := func(name string, rank int, code int64, turn func(s *impl.Store)) {
		faults = append(faults, storeFault{name, rankPlain + rank, code, turn})
	}
	for _, f := range append(rowsAndTxsFaults(), nextRoomAndStateFaults()...) {
		before, after := openPlain(), openPlain()
		f.make(&after)
		if slices.Equal(before.Rows, after.Rows) && !sameTxs(before.Txs, after.Txs) {
			add(f.name, f.rank-rankRows, f.code, func(s *impl.Store) { s.Txs = cloneTxs(after.Txs) })
		}
	}
	for _, next := range []int64{1, 3, 7, 9} {
		add("Next "+strconv.FormatInt(next, 10), 2, impl.ErrRange, func(s *impl.Store) { s.Next = next })
	}
	return faults
}

// Each is wrong alone: the log tells the pages, where they can be told.
func TestStoreFaultOfEachCode(t *testing.T) {
	for _, f := range slices.Concat(pagesFaults(t), rowsFaults(t), plainFaultsOfTxs()) {
		s := openStore(t)
		f.make(&s)
		expectStoreFault(t, f.name+", and the log of others", s, f.code)
		if len(s.Pages) < 13 && !slices.ContainsFunc(s.Pages, func(page []byte) bool { return len(page) != 64 }) {
			expectStoreFault(t, f.name, retold(s), f.code)
		}
	}
	for _, f := range logFaults(t) {
		s := openStore(t)
		f.make(&s)
		expectStoreFault(t, f.name, s, f.code)
	}
}

// Of two the one that is asked first is told, and each of them is told ahead of a log of other pages.
func TestStoreFaultOfTwo(t *testing.T) {
	faults, ops := slices.Concat(logFaults(t), pagesFaults(t), rowsFaults(t), plainFaultsOfTxs()), anyOps()
	for i, f := range faults {
		for j, g := range faults {
			if f.rank >= g.rank {
				continue
			}
			s := openStore(t)
			g.make(&s)
			f.make(&s)
			expectFaultAt(t, f.name+", and "+g.name, s, f.code, ops[(i+j)%len(ops)])
		}
		for name, list := range otherRecords(t) {
			s := openStore(t)
			s.Log = logOf(list, nil)
			f.make(&s)
			expectStoreFault(t, f.name+", and "+name, s, f.code)
		}
	}
}

// otherRecords do not lead to openPages.
func otherRecords(t *testing.T) map[string][]impl.Record {
	t.Helper()
	pages := openPages(t)
	right := recordsTo(pages)
	unused := bytes.Clone(pages[0])
	unused[20] = 1
	far := record(impl.RecDelta, 1, 3, runOf(0, 1))
	return map[string][]impl.Record{
		"no records":                    nil,
		"records that turn nothing":     {begin(1), commit(1)},
		"a page fewer":                  right[:1],
		"a page more":                   append(slices.Clone(right), image(2, impl.NewPage(0).Page)),
		"the second page first":         {right[1], right[0]},
		"the pages turned round":        recordsTo([][]byte{pages[1], pages[0]}),
		"a byte that nobody uses":       recordsTo([][]byte{unused, pages[1]}),
		"a byte that was turned":        append(slices.Clone(right), record(impl.RecComp, 1, 1, run(63, 99))),
		"another page, and then it":     append(slices.Clone(right), image(1, pages[0])),
		"an image on a new page of 9":   {image(0, impl.NewPage(9).Page), right[1]},
		"a page too far":                append(slices.Clone(right), far),
		"a page too far, in the middle": {right[0], far, right[1]},
		"a page too far, first of all":  {far, right[0], right[1]},
		"page 1 first of all":           {right[1]},
	}
}

// The records of Sure come ahead of those of Loose, and all of them count.
func TestStoreFaultOfRecordsThatTellOthers(t *testing.T) {
	for name, list := range otherRecords(t) {
		for at := range len(list) + 1 {
			s := openStore(t)
			s.Log = logOf(list[:at], list[at:])
			expectStoreFault(t, name+", "+strconv.Itoa(at)+" sure", s, impl.ErrState)
		}
	}
	s := openStore(t)
	s.Log.Sure, s.Log.Loose = s.Log.Loose, s.Log.Sure
	expectStoreFault(t, "Sure and Loose turned round", s, impl.ErrState)
	s = openStore(t)
	s.Log.Loose = nil
	expectStoreFault(t, "without what is loose", s, impl.ErrState)
	s = openStore(t)
	s.Log.Sure = nil
	expectStoreFault(t, "without what is sure", s, impl.ErrState)
	for at := range 64 {
		for page := range 2 {
			s = openStore(t)
			s.Pages[page][at] ^= 1
			code := expectedStoreFault(s)
			if code == impl.OK {
				t.Fatalf("byte %d of page %d makes no fault", at, page)
			}
			expectStoreFault(t, "a byte of a page", s, code)
		}
	}
	two := [][]byte{pageWith(t, rowCell(1, 1, 1, "")), pageWith(t, rowCell(1, 2, 1, ""))}
	for _, pages := range [][][]byte{nil, two[:1], append(slices.Clone(two), impl.NewPage(0).Page), {two[1], two[0]}} {
		s = storeOf(two, impl.Plain{Next: 1})
		s.Pages = pages
		expectStoreFault(t, "more or fewer pages", s, impl.ErrState)
	}
}

// A record that does not fit is told also where there are no pages, so that nothing would be another one.
func TestStoreFaultOfRecordsThatDoNotFitToNoPages(t *testing.T) {
	for page := int64(1); page < 12; page++ {
		far := record(impl.RecDelta, 1, page, run(3, 9))
		for _, list := range [][]impl.Record{{far}, {begin(1), far}, {far, commit(1)}} {
			for at := range len(list) + 1 {
				expectStoreFault(t, "a page too far, of no pages", impl.Store{Up: true, Log: logOf(list[:at], list[at:]), Next: 2}, impl.ErrState)
			}
		}
	}
	for at := range 3 {
		list := []impl.Record{begin(1), commit(1)}
		expectStoreFault(t, "records that turn nothing, of no pages", impl.Store{Up: true, Log: logOf(list[:at], list[at:]), Next: 2}, impl.OK)
	}
}

// Sure and Loose, each alone, and both.
func TestLoggedIn(t *testing.T) {
	pages := openPages(t)
	list := append(recordsTo(pages), begin(1), record(impl.RecDelta, 1, 0, run(63, pages[0][63])), image(1, pages[1]), commit(1), abort(2))
	for at := range len(list) + 1 {
		s := storeOf(pages, openPlain())
		s.Log = logOf(list[:at], list[at:])
		expectLogged(t, strconv.Itoa(at)+" sure", s, impl.RecordsResult{Used: int64(len(expectedPackAll(list))), Records: list})
	}
	expectLogged(t, "down", impl.Store{Log: logOf(list, nil), Next: 1}, impl.RecordsResult{Used: int64(len(expectedPackAll(list))), Records: list})
	expectLogged(t, "nothing", impl.Store{Up: true, Next: 1}, impl.RecordsResult{})
	expectLogged(t, "down, nothing", impl.Store{Next: 1}, impl.RecordsResult{})
	full := paddedTo(t, openStore(t), maxLog, true)
	if got := impl.LoggedIn(full); got.Code != impl.OK || got.Used != maxLog || len(got.Records) != 2+1+len(idleRecords(t, full.Pages[0], maxLog-len(openStore(t).Log.Sure)-len(openStore(t).Log.Loose))) {
		t.Errorf("LoggedIn of MaxLog bytes: code %d, used %d, %d records", got.Code, got.Used, len(got.Records))
	}
}
