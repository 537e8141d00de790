package tests

import (
	"slices"
	"testing"

	"loop.example/g00408/impl"
)

// expectStored asks for just that answer: these records behind those that were logged, all sure behind a commit and a
// check, the pages to which they lead, and what a plain one makes of the op.
func expectStored(t *testing.T, name string, s impl.Store, o impl.Op, value int64, list ...impl.Record) impl.Store {
	t.Helper()
	kept, got, did := cloneStore(s), impl.DoStore(s, o), impl.DoPlain(plainIn(s), o)
	if did.Code != impl.OK || did.Value != value {
		t.Fatalf("%s: DoPlain of %+v = %+v, want %d", name, o, did, value)
	}
	pages, _ := pagesTold(s.Pages, list)
	want := impl.Store{Up: true, Pages: pages, Log: cloneLog(s.Log), Txs: did.Plain.Txs, Next: did.Plain.Next}
	want.Log.Loose = append(want.Log.Loose, expectedPackAll(list)...)
	if o.Kind == impl.OpCommit || o.Kind == impl.OpCheck {
		want.Log = impl.Log{Sure: slices.Concat(want.Log.Sure, want.Log.Loose)}
	}
	if !sameStoreResult(got, impl.StoreResult{Value: value, Store: want}) {
		logged, ahead := impl.LoggedIn(got.Store).Records, impl.LoggedIn(s).Records
		t.Fatalf("%s: DoStore of %+v = %+v, records %+v, want %d, %+v, records %+v", name, o, got, logged[min(len(ahead), len(logged)):], value, want, list)
	}
	expectSound(t, name, got.Store)
	expectRowsOf(t, name, got.Store, impl.RowsResult{Rows: did.Plain.Rows})
	if !sameStore(s, kept) {
		t.Fatalf("%s: the store was changed", name)
	}
	return got.Store
}

// expectNotStored asks for a code alone of an op of which just that is wrong.
func expectNotStored(t *testing.T, name string, s impl.Store, o impl.Op, code int64) {
	t.Helper()
	if fault := impl.StoreFault(s); fault != impl.OK {
		t.Fatalf("%s: the store has the StoreFault %d", name, fault)
	}
	kept := cloneStore(s)
	expectStoreCode(t, name, s, o, code)
	if !sameStore(s, kept) {
		t.Fatalf("%s: the store was changed", name)
	}
}

// storeAll has ops without a code alone.
func storeAll(t *testing.T, s impl.Store, ops ...impl.Op) impl.Store {
	t.Helper()
	for _, o := range ops {
		got := impl.DoStore(s, o)
		if got.Code != impl.OK || impl.StoreFault(got.Store) != impl.OK {
			t.Fatalf("DoStore(%+v, %+v) = %+v", s, o, got)
		}
		s = got.Store
	}
	return s
}

var (
	beginOp = impl.Op{Kind: impl.OpBegin}
	checkOp = impl.Op{Kind: impl.OpCheck}
)

// All bytes of a first transaction, told by hand.
func TestFirstTransactionOfAllByBytes(t *testing.T) {
	s := impl.NewStore(7).Store
	s = expectStored(t, "a begin", s, beginOp, 7, begin(7))
	page := make([]byte, 64)
	copy(page, []byte{1, 58, 58, 6})
	copy(page[58:], []byte{0, 0, 1, 0, 8, 0})
	born := record(impl.RecDelta, 7, 0, run(0, 1, 58, 58, 6), run(60, 1), run(62, 8))
	s = expectStored(t, "a put", s, rowOp(impl.OpPut, 7, told(1, 8)), 0, born)
	if !samePages(s.Pages, [][]byte{page}) {
		t.Fatalf("the pages are %v", s.Pages)
	}
	s = expectStored(t, "a set", s, rowOp(impl.OpSet, 7, told(1, 7)), 0, record(impl.RecDelta, 7, 0, run(62, 7)))
	s = expectStored(t, "a drop", s, rowOp(impl.OpDrop, 7, told(1, 7)), 0, record(impl.RecDelta, 7, 0, run(0, 0), run(2, 0, 0)))
	// What is there no more leaves its bytes: low is 58 still, and the next cell stands ahead of it.
	copy(page, []byte{0, 58, 0, 0})
	page[62] = 7
	if !samePages(s.Pages, [][]byte{page}) {
		t.Fatalf("the pages are %v", s.Pages)
	}
	s = expectStored(t, "a put again", s, rowOp(impl.OpPut, 7, told(2, 3)), 0, record(impl.RecDelta, 7, 0, run(0, 1, 52, 52, 6), run(54, 2), run(56, 3)))
	s = expectStored(t, "a commit", s, txOp(impl.OpCommit, 7), 0, commit(7))
	if len(s.Log.Loose) != 0 || len(s.Log.Sure) != 7+(7+6+3+3)+(7+3)+(7+3+4)+(7+6+3+3)+7 {
		t.Errorf("the log is %+v", s.Log)
	}
}

func TestDoStoreBegins(t *testing.T) {
	s := impl.NewStore(1).Store
	for id := int64(1); id <= 4; id++ {
		s = expectStored(t, "a begin", s, beginOp, id, begin(id))
	}
	expectNotStored(t, "four are there", s, beginOp, impl.ErrMany)
	s = expectStored(t, "a commit", s, txOp(impl.OpCommit, 2), 0, commit(2))
	s = expectStored(t, "behind a commit", s, beginOp, 5, begin(5))
	expectNotStored(t, "four again", s, beginOp, impl.ErrMany)
	open := expectStored(t, "beside open ones", openStore(t), beginOp, 10, begin(10))
	expectNotStored(t, "four are open", open, beginOp, impl.ErrMany)
	for next := int64(10); next <= 99; next++ {
		far := openStore(t)
		far.Next = next
		expectStored(t, "a Next far behind", far, beginOp, next, begin(next))
	}
}

func TestDoStoreAtTheEndOfIds(t *testing.T) {
	s := expectStored(t, "Next 98", impl.NewStore(98).Store, beginOp, 98, begin(98))
	s = expectStored(t, "Next 99", s, beginOp, 99, begin(99))
	expectNotStored(t, "Next 100", s, beginOp, impl.ErrFull)
	expectNotStored(t, "Next 100 of nobody", impl.NewStore(100).Store, beginOp, impl.ErrFull)
	page := impl.InsertEdits(nil, told(1, 8)).Pages
	s = expectStored(t, "a put at Next 100", s, rowOp(impl.OpPut, 99, told(1, 8)), 0, recordsFor(impl.RecDelta, 99, nil, []impl.Edit{{Bytes: page[0]}})...)
	s = expectStored(t, "a check at Next 100", s, checkOp, 0, image(0, page[0]))
	s = expectStored(t, "a commit at Next 100", s, txOp(impl.OpCommit, 99), 0, commit(99))
	s = expectStored(t, "an abort at Next 100", s, txOp(impl.OpAbort, 98), 0, abort(98))
	expectNotStored(t, "all are over", s, beginOp, impl.ErrFull)
	for next := int64(5); next <= 100; next++ {
		four := impl.Store{Up: true, Txs: []impl.Tx{{Id: 1}, {Id: 2}, {Id: 3}, {Id: 4}}, Next: next}
		expectNotStored(t, "four are there", four, beginOp, impl.ErrMany)
	}
	for _, o := range []impl.Op{{Kind: impl.OpBegin, Tx: 1}, {Kind: impl.OpBegin, Mark: 1}, {Kind: impl.OpBegin, Row: rowOf(1, 1, 1, "")}} {
		expectNotStored(t, "a wrong begin at Next 100", impl.NewStore(100).Store, o, impl.ErrForm)
	}
}

// expectTurned does an op that turns these edits.
func expectDeltas(t *testing.T, name string, s impl.Store, o impl.Op, edits *steps) impl.Store {
	t.Helper()
	return expectStored(t, name, s, o, 0, recordsFor(impl.RecDelta, o.Tx, s.Pages, edits.edits)...)
}

// A record an edit, each against the page that the one ahead left.
func TestDoStoreTurnsRows(t *testing.T) {
	s := openStore(t)
	s = expectDeltas(t, "a put", s, rowOp(impl.OpPut, 9, rowOf(1, 1, 0, "abcdefgh")), stepsOn(t, s.Pages).put(0, 3, rowCell(1, 1, 0, "abcdefgh")))
	s = expectDeltas(t, "a put into a new slot", s, rowOp(impl.OpPut, 9, rowOf(1, 2, 0, "abcdef")), stepsOn(t, s.Pages).put(0, 5, rowCell(1, 2, 0, "abcdef")))
	s = expectDeltas(t, "a put into a later page", s, rowOp(impl.OpPut, 9, rowOf(1, 3, 0, "")), stepsOn(t, s.Pages).put(1, 4, rowCell(1, 3, 0, "")))
	s = expectDeltas(t, "a set in its place", s, rowOp(impl.OpSet, 9, rowOf(1, 9, 500, "")), stepsOn(t, s.Pages).set(1, 3, rowCell(1, 9, 500, "")))
	s = expectDeltas(t, "a set behind a stub", s, rowOp(impl.OpSet, 3, rowOf(1, 6, 7, "")), stepsOn(t, s.Pages).set(1, 2, movedCell(1, 6, 7, "")))
	s = expectDeltas(t, "a drop", s, rowOp(impl.OpDrop, 7, rowOf(2, 7, 0, "")), stepsOn(t, s.Pages).drop(1, 1))
	s = expectDeltas(t, "a drop behind a stub: two records", s, rowOp(impl.OpDrop, 3, rowOf(1, 6, 0, "")), stepsOn(t, s.Pages).drop(0, 1).drop(1, 2))
	if got := len(impl.LoggedIn(s).Records) - len(impl.LoggedIn(openStore(t)).Records); got != 8 {
		t.Errorf("%d records of 7 ops", got)
	}
}

// stuffed has these cells, and moved ones that nobody tells until there is no byte left.
func stuffed(t *testing.T, cells ...[]byte) []byte {
	t.Helper()
	page := pageWith(t, cells...)
	for {
		free := int(impl.FreeIn(page).Value)
		if free < 8 {
			return page
		}
		take := free
		if free > 16 {
			take = min(16, free-8)
		}
		page = impl.PutSlot(page, movedCell(3, 90, 9, maxLetters[:take-8])).Page
	}
}

func TestStuffedPages(t *testing.T) {
	for count := range 8 {
		var cells [][]byte
		for i := range int64(count) {
			cells = append(cells, rowCell(1, 1+i, 1, ""))
		}
		page := stuffed(t, cells...)
		if free := impl.FreeIn(page).Value; free != 0 && free != 6 || impl.PagesFault([][]byte{page}) != impl.OK || len(impl.RowsIn([][]byte{page}).Rows) != count {
			t.Fatalf("%d rows: %d bytes free, %v", count, free, page)
		}
	}
}

// movingOp is an op of 3 that has several edits, or one in a new page.
type movingOp struct {
	name  string
	pages [][]byte
	o     impl.Op
	edits *steps
}

// openBy3 is a store in which 3 is open, and has turned nothing.
func openBy3(pages [][]byte) impl.Store {
	return storeOf(pages, impl.Plain{Txs: []impl.Tx{{Id: 3}}, Next: 4})
}

func movingSets(t *testing.T) []movingOp {
	t.Helper()
	table, a, long := cellOf(impl.FlagRow, told(1, 8)), rowOf(1, 5, 1, "a"), rowOf(1, 5, 2, "abcdefgh")
	row, moved, away := cellOf(impl.FlagRow, a), cellOf(impl.FlagMoved, a), cellOf(impl.FlagMoved, long)
	// In slot 2 is a cell of 11 bytes, which is too little to put it, and in slot 3 one of 14.
	lone, empty := movedCell(3, 91, 9, "abcde"), impl.NewPage(4).Page
	full := stuffed(t, table, row, lone)
	pieces, vain := without(t, full, 3), without(t, full, 2)
	stubbed := func(page int64, slot int64) []byte { return stuffed(t, table, stubCell(page, slot)) }
	behind := stuffed(t, rowCell(1, 6, 1, "b"), moved, lone)
	set := rowOp(impl.OpSet, 3, long)
	var list []movingOp
	add := func(name string, o impl.Op, edits func(s *steps), pages ...[]byte) {
		m := movingOp{name, pages, o, stepsOn(t, pages)}
		edits(m.edits)
		list = append(list, m)
	}
	add("to a new page: the moved cell, then the stub", set, func(s *steps) { s.fresh(away).set(0, 1, stubCell(1, 0)) }, full)
	add("to a page ahead", set, func(s *steps) { s.put(0, 0, away).set(1, 1, stubCell(0, 0)) }, empty, full)
	add("to a page behind", set, func(s *steps) { s.put(2, 0, away).set(0, 1, stubCell(2, 0)) }, full, stuffed(t), empty)
	add("to a page in pieces", set, func(s *steps) { s.compact(1).put(1, 0, away).set(0, 1, stubCell(1, 0)) }, full, without(t, stuffed(t), 0))
	add("compacted, and set in its place", set, func(s *steps) { s.compact(0).set(0, 1, cellOf(impl.FlagRow, long)) }, pieces)
	add("compacted in vain", set, func(s *steps) { s.compact(0).fresh(away).set(0, 1, stubCell(1, 0)) }, vain)
	add("compacted in vain, then to one that is compacted", set, func(s *steps) { s.compact(0).compact(1).put(1, 0, away).set(0, 1, stubCell(1, 0)) }, vain, without(t, stuffed(t), 0))
	add("on to a third page: the old cell at last", set, func(s *steps) { s.fresh(away).set(0, 1, stubCell(2, 0)).drop(1, 1) }, stubbed(1, 1), behind)
	add("on to a page ahead of both", set, func(s *steps) { s.put(0, 0, away).set(1, 1, stubCell(0, 0)).drop(2, 1) }, empty, stubbed(2, 1), behind)
	add("on, compacted in vain", set, func(s *steps) { s.compact(1).fresh(away).set(0, 1, stubCell(2, 0)).drop(1, 1) }, stubbed(1, 1), without(t, behind, 2))
	add("to the page of its stub", set, func(s *steps) { s.put(0, 2, away).set(0, 1, stubCell(0, 2)).drop(1, 1) }, pageWith(t, table, stubCell(1, 1)), behind)
	add("longer behind its stub", set, func(s *steps) { s.set(1, 0, away) }, stubbed(1, 0), pageWith(t, moved))
	add("longer behind its stub, compacted", set, func(s *steps) { s.compact(1).set(1, 1, away) }, stubbed(1, 1), without(t, behind, 3))
	return list
}

func movingPutsAndDrops(t *testing.T) []movingOp {
	t.Helper()
	table, r := cellOf(impl.FlagRow, told(1, 8)), rowOf(1, 5, 2, "abcdefgh")
	row, moved := cellOf(impl.FlagRow, r), cellOf(impl.FlagMoved, r)
	full := stuffed(t, table)
	onSelf := stuffed(t, table, stubCell(0, 2), moved)
	put, drop := rowOp(impl.OpPut, 3, r), rowOp(impl.OpDrop, 3, r)
	return []movingOp{
		{"a put into a new page", [][]byte{full}, put, stepsOn(t, [][]byte{full}).fresh(row)},
		{"a put into a page in pieces", [][]byte{full, without(t, stuffed(t), 1)}, put, stepsOn(t, [][]byte{full, without(t, stuffed(t), 1)}).compact(1).put(1, 1, row)},
		{"a put into the first page, in pieces", [][]byte{without(t, full, 2)}, put, stepsOn(t, [][]byte{without(t, full, 2)}).compact(0).put(0, 2, row)},
		{"a drop of what moved: the stub, then its cell", [][]byte{stuffed(t, table, stubCell(1, 0)), pageWith(t, moved)}, drop, stepsOn(t, [][]byte{stuffed(t, table, stubCell(1, 0)), pageWith(t, moved)}).drop(0, 1).drop(1, 0)},
		{"a drop of what moved, behind it", [][]byte{pageWith(t, moved, table), stuffed(t, stubCell(0, 0))}, drop, stepsOn(t, [][]byte{pageWith(t, moved, table), stuffed(t, stubCell(0, 0))}).drop(1, 0).drop(0, 0)},
		{"a drop of what moved in one page", [][]byte{onSelf}, drop, stepsOn(t, [][]byte{onSelf}).drop(0, 1).drop(0, 2)},
	}
}

// Each edit is a record, in their order, whether a page is compacted, a cell moved, a stub turned or a moved cell dropped.
func TestDoStoreLogsEachEdit(t *testing.T) {
	for _, m := range append(movingSets(t), movingPutsAndDrops(t)...) {
		s := expectDeltas(t, m.name, openBy3(m.pages), m.o, m.edits)
		if !samePages(s.Pages, m.edits.pages) {
			t.Errorf("%s: the pages are %v, want %v", m.name, s.Pages, m.edits.pages)
		}
		loose := openBy3(m.pages)
		loose.Log.Sure, loose.Log.Loose = nil, append(loose.Log.Sure, packOf(begin(3))...)
		expectDeltas(t, m.name+", nothing sure", loose, m.o, m.edits)
	}
}

// The runs of a new page are against NewPage 0, not against no bytes.
func TestDoStoreLogsNewPages(t *testing.T) {
	none := make([]byte, 64)
	none[1] = 64
	for _, r := range edgeRows() {
		if r.Table == 0 {
			continue
		}
		pages := [][]byte{stuffed(t, cellOf(impl.FlagRow, told(r.Table, 8)))}
		fresh := impl.PutSlot(impl.NewPage(0).Page, cellOf(impl.FlagRow, r)).Page
		born := record(impl.RecDelta, 3, 1, expectedDiff(none, fresh)...)
		if born.Runs[0].At != 0 || len(born.Runs[0].Bytes) != 4 {
			t.Fatalf("the runs are %+v", born.Runs)
		}
		s := expectStored(t, "a new page", openBy3(pages), rowOp(impl.OpPut, 3, r), 0, born)
		s = expectStored(t, "its row goes", s, rowOp(impl.OpDrop, 3, r), 0, turned(impl.RecDelta, 3, 1, s.Pages[1], impl.DropSlot(s.Pages[1], 0).Page))
		if len(s.Pages) != 2 {
			t.Errorf("a page without slots stays: %v", s.Pages)
		}
	}
	pages := [][]byte{impl.NewPage(0).Page}
	expectStored(t, "a page that is there", openBy3(pages), rowOp(impl.OpPut, 3, told(1, 8)), 0, turned(impl.RecDelta, 3, 0, pages[0], impl.PutSlot(pages[0], cellOf(impl.FlagRow, told(1, 8))).Page))
	pages = [][]byte{impl.NewPage(7).Page}
	expectStored(t, "a page of other bytes", openBy3(pages), rowOp(impl.OpPut, 3, told(1, 8)), 0, turned(impl.RecDelta, 3, 0, pages[0], impl.PutSlot(pages[0], cellOf(impl.FlagRow, told(1, 8))).Page))
}

// A mark, and a set of the same row, are in no record; what is loose stays so.
func TestDoStoreLogsNothing(t *testing.T) {
	for _, s := range []impl.Store{openStore(t), paddedTo(t, openStore(t), 300, true), paddedTo(t, openStore(t), 300, false)} {
		for _, tx := range []int64{3, 7, 9} {
			on := expectStored(t, "a mark", s, txOp(impl.OpMark, tx), int64(len(txIn(plainIn(s), tx).Marks)))
			on = expectStored(t, "the same row", on, rowOp(impl.OpSet, tx, rowOf(1, 9, 9, "")), 0)
			if !samePages(on.Pages, s.Pages) || !sameLog(on.Log, s.Log) {
				t.Errorf("the pages and the log are %+v, were %+v", on, s)
			}
		}
		expectStored(t, "the same row, behind a stub", s, rowOp(impl.OpSet, 3, rowOf(1, 6, 6, "six")), 0)
		expectStored(t, "back to where it is", s, backOp(3, 3), 0)
		expectStored(t, "back to where it is, of one without changes", s, backOp(9, 1), 0)
	}
}

// Behind a commit all is sure, also what others did; pages and rows stay.
func TestDoStoreCommits(t *testing.T) {
	for _, id := range []int64{3, 7, 9} {
		for at := range 4 {
			s := openStore(t)
			list := append(recordsTo(s.Pages), begin(50))
			s.Log = logOf(list[:at], list[at:])
			over := expectStored(t, "a commit", s, txOp(impl.OpCommit, id), 0, commit(id))
			if len(over.Log.Loose) != 0 || !slices.Equal(over.Log.Sure, expectedPackAll(append(list, commit(id)))) || !samePages(over.Pages, s.Pages) {
				t.Errorf("behind a commit: %+v", over)
			}
			expectNotStored(t, "twice", over, txOp(impl.OpCommit, id), impl.ErrNone)
			expectNotStored(t, "an abort of what is over", over, txOp(impl.OpAbort, id), impl.ErrNone)
		}
	}
	expectNotStored(t, "nobody", openStore(t), txOp(impl.OpCommit, 8), impl.ErrNone)
}

// An image of each page, in their order, and all is sure; nothing else turns.
func TestDoStoreChecks(t *testing.T) {
	expectStored(t, "no pages", impl.NewStore(1).Store, checkOp, 0)
	begun := expectStored(t, "a begin", impl.NewStore(1).Store, beginOp, 1, begin(1))
	begun = expectStored(t, "no pages, and a begin", begun, checkOp, 0)
	if !sameLog(begun.Log, logOf([]impl.Record{begin(1)}, nil)) {
		t.Errorf("behind a check: %+v", begun.Log)
	}
	for count := range 13 {
		var pages [][]byte
		var images []impl.Record
		for i := range int64(count) {
			pages = append(pages, pageWith(t, rowCell(1, 1+i, i, "row")))
			images = append(images, image(i, pages[i]))
		}
		s := openBy3(pages)
		for at := range min(3, count+1) {
			list := recordsTo(pages)
			s.Log = logOf(list[:at], list[at:])
			over := expectStored(t, "a check", s, checkOp, 0, images...)
			if len(over.Log.Loose) != 0 || !samePages(over.Pages, pages) || !sameTxs(over.Txs, s.Txs) {
				t.Errorf("behind a check of %d pages: %+v", count, over)
			}
			expectStored(t, "a check behind a check", over, checkOp, 0, images...)
		}
	}
	expectStored(t, "open ones", openStore(t), checkOp, 0, image(0, openPages(t)[0]), image(1, openPages(t)[1]))
}

// An abort of one that turned nothing, or nothing that is left, tells that alone, and leaves it loose.
func TestDoStoreAbortsWithoutChanges(t *testing.T) {
	s := expectStored(t, "9 has turned nothing", openStore(t), txOp(impl.OpAbort, 9), 0, abort(9))
	if len(s.Log.Loose) == 0 || !sameLog(impl.Log{Sure: s.Log.Sure}, impl.Log{Sure: openStore(t).Log.Sure}) {
		t.Errorf("behind an abort: %+v", s.Log)
	}
	s = storeAll(t, openStore(t), backOp(3, 0))
	expectStored(t, "3 has taken back all", s, txOp(impl.OpAbort, 3), 0, abort(3))
	s = expectStored(t, "a begin", impl.NewStore(1).Store, beginOp, 1, begin(1))
	expectStored(t, "the only one", s, txOp(impl.OpAbort, 1), 0, abort(1))
	expectNotStored(t, "nobody", openStore(t), txOp(impl.OpAbort, 1), impl.ErrNone)
}

// What the code of CheckOp is, DoStore has, and nothing else.
func TestDoStoreHasTheCodeOfCheckOp(t *testing.T) {
	open, four := openStore(t), openStore(t)
	four.Txs, four.Next = append(four.Txs, impl.Tx{Id: 10}), 11
	counts := map[int64]int{}
	rows := []impl.Row{told(1, 8), told(1, 1), told(2, 9), told(3, 8), rowOf(1, 5, 3, "c"), rowOf(1, 9, 1, "x"), rowOf(2, 7, 1, "abcde"), rowOf(2, 9, 1, "abcde"), rowOf(2, 8, 0, ""), rowOf(3, 9, 0, ""), rowOf(1, 50, 0, "A")}
	for _, s := range []impl.Store{open, four, impl.NewStore(1).Store} {
		p := plainIn(s)
		for kind := int64(minKind - 1); kind <= maxKind+1; kind++ {
			for _, tx := range []int64{0, 1, 3, 7, 9, 10, 100} {
				ops := []impl.Op{{Kind: kind, Tx: tx}, {Kind: kind, Tx: tx, Mark: 1}, {Kind: kind, Tx: tx, Mark: 4}, {Kind: kind, Tx: tx, Mark: 8}}
				for _, r := range rows {
					ops = append(ops, rowOp(kind, tx, r), impl.Op{Kind: kind, Tx: tx, Row: r})
				}
				for _, o := range ops {
					code := expectedCheck(p.Rows, p.Txs, o).Code
					counts[code]++
					if code != impl.OK {
						expectNotStored(t, "an op with a code", s, o, code)
					}
				}
			}
		}
	}
	for _, code := range []int64{impl.OK, impl.ErrForm, impl.ErrMany, impl.ErrRange, impl.ErrNone, impl.ErrText, impl.ErrTaken, impl.ErrLock, impl.ErrState, impl.ErrType} {
		if counts[code] == 0 {
			t.Errorf("no op has code %d: %v", code, counts)
		}
	}
}
