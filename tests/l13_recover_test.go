package tests

import (
	"bytes"
	"slices"
	"strconv"
	"testing"

	"loop.example/g00408/impl"
)

// expectedRecover goes by the words of the chapter.
func expectedRecover(s impl.Store) impl.StoreResult {
	if code := expectedStoreFault(s); code != impl.OK {
		return impl.StoreResult{Code: code}
	}
	if s.Up {
		return impl.StoreResult{Code: impl.ErrState}
	}
	list, _ := allRead(s.Log.Sure)
	all := expectedMineAll(list)
	if all.Code != impl.OK {
		return impl.StoreResult{Code: all.Code}
	}
	own := impl.Store{Up: true, Log: impl.Log{Loose: bytes.Clone(s.Log.Sure)}, Next: s.Next}
	own.Pages, _ = pagesTold(nil, list)
	for _, b := range all.Miner.Open {
		if len(b.Changes) > maxFolded {
			return impl.StoreResult{Code: impl.ErrMany}
		}
		if code := takenFrom(&own, b); code != impl.OK {
			return impl.StoreResult{Code: code}
		}
	}
	own.Log = impl.Log{Sure: own.Log.Loose}
	return impl.StoreResult{Store: own}
}

func expectRecovery(t *testing.T, name string, s impl.Store, want impl.StoreResult) {
	t.Helper()
	ahead := cloneStore(s)
	if model := expectedRecover(s); !sameStoreResult(model, want) {
		t.Fatalf("%s: the model of RecoverStore has %+v, want %+v", name, model, want)
	}
	if got := impl.RecoverStore(s); !sameStoreResult(got, want) {
		t.Fatalf("%s: RecoverStore = %+v, records %+v, want %+v, records %+v", name, got, impl.LoggedIn(got.Store).Records, want, impl.LoggedIn(want.Store).Records)
	}
	if !sameStore(s, ahead) {
		t.Fatalf("%s: the store was changed", name)
	}
}

func expectRecoverCode(t *testing.T, name string, s impl.Store, code int64) {
	t.Helper()
	expectRecovery(t, name, s, impl.StoreResult{Code: code})
}

func downOf(list []impl.Record, next int64) impl.Store {
	return impl.Store{Log: logOf(list, nil), Next: next}
}

// expectRecovered asks for these records behind those of the log, all of them sure, and for the pages to which they lead.
func expectRecovered(t *testing.T, name string, list []impl.Record, logged ...impl.Record) impl.Store {
	t.Helper()
	all := slices.Concat(list, logged)
	pages, ok := pagesTold(nil, all)
	if !ok {
		t.Fatalf("%s: the records lead to no pages", name)
	}
	want := impl.Store{Up: true, Pages: pages, Log: logOf(all, nil), Next: 60}
	expectRecovery(t, name, downOf(list, 60), impl.StoreResult{Store: want})
	expectSound(t, name, want)
	expectRecoveredTwice(t, name, want)
	return want
}

// expectRecoveredTwice crashes a store that was recovered: nothing is lost, and nothing is left to be done.
func expectRecoveredTwice(t *testing.T, name string, s impl.Store) {
	t.Helper()
	crashed := expectCrashed(t, name, s, 0)
	if !bytes.Equal(crashed.Log.Sure, s.Log.Sure) {
		t.Fatalf("%s: a crash behind a recovery leaves %v of %v", name, crashed.Log, s.Log)
	}
	expectRecovery(t, name+", once more", crashed, impl.StoreResult{Store: s})
	expectCrashCode(t, name+", recovered", s, 1, impl.ErrRange)
}

// committedTo are records of 60 that lead from no pages on to these, and end with its commit.
func committedTo(t *testing.T, pages [][]byte) []impl.Record {
	t.Helper()
	list, now := []impl.Record{begin(60)}, [][]byte{}
	for i := range pages {
		list = append(list, image(int64(i), impl.NewPage(0).Page))
		now = append(now, impl.NewPage(0).Page)
	}
	// A page with stubs comes behind those with the cells that they tell.
	for turns := true; turns; {
		turns = false
		for i, page := range pages {
			own := withEdit(now, impl.Edit{Page: int64(i), Bytes: page})
			if !bytes.Equal(now[i], page) && impl.PagesFault(own) == impl.OK {
				list, now, turns = append(list, turned(impl.RecDelta, 60, int64(i), now[i], page)), own, true
			}
		}
	}
	if !samePages(now, pages) {
		t.Fatalf("no way leads to %v", pages)
	}
	return append(list, commit(60))
}

func deltasOf(tx int64, pages [][]byte, by *steps) []impl.Record {
	return recordsFor(impl.RecDelta, tx, pages, by.edits)
}

// All bytes of a first loser, told by hand.
func TestRecoverStoreByBytes(t *testing.T) {
	born := record(impl.RecDelta, 7, 0, run(0, 1, 58, 58, 6), run(60, 1), run(62, 8))
	comp := record(impl.RecComp, 7, 0, run(0, 0), run(2, 0, 0))
	page := make([]byte, 64)
	copy(page, []byte{0, 58})
	copy(page[58:], []byte{0, 0, 1, 0, 8, 0})
	got := expectRecovered(t, "a loser", []impl.Record{begin(7), born}, comp, abort(7))
	if !samePages(got.Pages, [][]byte{page}) || len(got.Log.Sure) != 7+(7+6+3+3)+(7+3+4)+7 || len(got.Txs) != 0 || len(got.Log.Loose) != 0 || !got.Up || got.Next != 60 {
		t.Errorf("recovered: %+v", got)
	}
	expectRowsOf(t, "a loser", got, impl.RowsResult{})
	expectRecovered(t, "a begin alone", []impl.Record{begin(7)}, abort(7))
	expectRecovered(t, "no begin", nil)
	expectRecovered(t, "a commit", []impl.Record{begin(7), born, commit(7)})
	expectRecovered(t, "half of it taken back", []impl.Record{begin(7), born, comp}, abort(7))
	expectRecovered(t, "all of it taken back", []impl.Record{begin(7), born, comp, abort(7)})
}

func TestRecoverStoreOfNoLosers(t *testing.T) {
	for next := int64(1); next <= 100; next++ {
		expectRecovery(t, "nothing", impl.Store{Next: next}, impl.StoreResult{Store: impl.Store{Up: true, Next: next}})
		expectRecovery(t, "empty lists", impl.Store{Pages: [][]byte{}, Log: impl.Log{Sure: []byte{}, Loose: []byte{}}, Txs: []impl.Tx{}, Next: next}, impl.StoreResult{Store: impl.Store{Up: true, Next: next}})
	}
	expectRecovered(t, "no records", nil)
	expectRecovered(t, "a commit", []impl.Record{begin(1), commit(1)})
	expectRecovered(t, "images", []impl.Record{image(0, impl.NewPage(0).Page), image(1, impl.NewPage(9).Page), image(0, impl.NewPage(3).Page)})
	for _, pages := range [][][]byte{nil, openPages(t), rightPages(t, 2), {impl.NewPage(5).Page}, {stuffed(t), stuffed(t, cellOf(impl.FlagRow, told(1, 8)))}} {
		got := expectRecovered(t, "pages", committedTo(t, pages))
		if !samePages(got.Pages, pages) {
			t.Errorf("the pages are %v, want %v", got.Pages, pages)
		}
	}
	// One that is recovered goes on.
	s := storeAll(t, expectRecovered(t, "to go on", committedTo(t, openPages(t))), beginOp, rowOp(impl.OpPut, 60, told(3, 8)), txOp(impl.OpMark, 60), backOp(60, 0), checkOp, txOp(impl.OpCommit, 60), beginOp)
	if s.Next != 62 {
		t.Errorf("Next is %d", s.Next)
	}
}

// Each loser is taken back as a whole ahead of the next one: the first that began comes first.
func TestRecoverStoreTakesLosersInOrder(t *testing.T) {
	table, x, y, z := told(1, 8), rowOf(1, 5, 1, "x"), rowOf(1, 6, 2, "y"), rowOf(1, 7, 3, "z")
	pages := [][]byte{pageWith(t, cellOf(impl.FlagRow, table))}
	base := committedTo(t, pages)
	by := stepsOn(t, pages).put(0, 1, cellOf(impl.FlagRow, x)).put(0, 2, cellOf(impl.FlagRow, y)).put(0, 3, cellOf(impl.FlagRow, z)).set(0, 2, rowCell(1, 6, 9, ""))
	edits := deltasOf(4, pages, by)
	edits[1].Tx, edits[3].Tx = 9, 9
	comps := func(order ...int) []impl.Record {
		then := stepsOn(t, by.pages)
		for _, at := range order {
			then.drop(0, int64(at))
		}
		list := recordsFor(impl.RecComp, 4, by.pages, then.edits)
		for i, at := range order {
			if at == 2 {
				list[i].Tx = 9
			}
		}
		return list
	}
	four, nine := comps(3, 1, 2), comps(2, 3, 1)
	first := slices.Concat(base, []impl.Record{begin(4), begin(9)}, edits)
	expectRecovered(t, "4, then 9", first, four[0], four[1], abort(4), four[2], abort(9))
	second := slices.Concat(base, []impl.Record{begin(9), begin(4)}, edits)
	expectRecovered(t, "9, then 4", second, nine[0], abort(9), nine[1], nine[2], abort(4))
	expectRecovered(t, "4 alone", append(slices.Clone(second), commit(9)), comps(3, 1)[0], comps(3, 1)[1], abort(4))
	expectRecovered(t, "9 alone", append(slices.Clone(first), commit(4)), comps(2)[0], abort(9))
	expectRecovered(t, "neither", append(slices.Clone(first), commit(4), commit(9)))
	expectRecovered(t, "4, then 9, then those that did nothing", append(slices.Clone(first), begin(1), begin(99)), four[0], four[1], abort(4), four[2], abort(9), abort(1), abort(99))
	got := expectRecovered(t, "one that did nothing first", slices.Concat(base, []impl.Record{begin(50), begin(9), begin(4)}, edits), abort(50), nine[0], abort(9), nine[1], nine[2], abort(4))
	expectRowsOf(t, "all of them", got, impl.RowsResult{Rows: []impl.Row{table}})
	var eight, aborts []impl.Record
	for _, tx := range []int64{8, 99, 1, 50, 7, 2, 98, 3} {
		eight, aborts = append(eight, begin(tx)), append(aborts, abort(tx))
	}
	expectRecovered(t, "8", slices.Concat(base, eight), aborts...)
}

// What one did is taken back from its last key on, in whatever order it was done, and each key by one change.
func TestRecoverStoreTakesBackByKeys(t *testing.T) {
	one, five, six, seven := told(1, 8), rowOf(1, 5, 1, "f"), rowOf(1, 6, 2, "s"), rowOf(2, 7, 3, "v")
	pages := [][]byte{pageWith(t, cellOf(impl.FlagRow, one), cellOf(impl.FlagRow, five), cellOf(impl.FlagRow, seven))}
	base := append(committedTo(t, pages), begin(8))
	does := stepsOn(t, pages).drop(0, 2).set(0, 1, rowCell(1, 5, 9, "")).put(0, 2, cellOf(impl.FlagRow, six)).set(0, 0, cellOf(impl.FlagRow, told(1, 5))).set(0, 1, rowCell(1, 5, 8, "x"))
	list := slices.Concat(base, deltasOf(8, pages, does))
	back := stepsOn(t, does.pages).put(0, 3, cellOf(impl.FlagRow, seven)).drop(0, 2).set(0, 1, cellOf(impl.FlagRow, five)).set(0, 0, cellOf(impl.FlagRow, one))
	got := expectRecovered(t, "four keys", list, compsBy(8, does.pages, back)...)
	expectRowsOf(t, "four keys", got, impl.RowsResult{Rows: []impl.Row{one, five, seven}})
	for at := range len(list) - len(base) + 1 {
		part := list[:len(base)+at]
		got := expectRecoveredLike(t, strconv.Itoa(at)+" of them", part)
		expectRowsOf(t, strconv.Itoa(at)+" of them", got, impl.RowsResult{Rows: []impl.Row{one, five, seven}})
	}
}

// expectRecoveredLike goes by the model alone.
func expectRecoveredLike(t *testing.T, name string, list []impl.Record) impl.Store {
	t.Helper()
	want := expectedRecover(downOf(list, 60))
	if want.Code != impl.OK {
		t.Fatalf("%s: the model has code %d", name, want.Code)
	}
	logged, _ := allRead(want.Store.Log.Sure)
	return expectRecovered(t, name, list, logged[len(list):]...)
}

// Losers that took something back themselves: what is left is taken back, and nothing twice.
func TestRecoverStoreOfWhatWasTakenBack(t *testing.T) {
	one, a, b, c, d := told(1, 8), rowOf(1, 5, 1, "a"), rowOf(1, 5, 2, "bbb"), rowOf(1, 6, 3, "c"), rowOf(1, 5, 9, "dddddddd")
	s := storeAll(t, impl.NewStore(1).Store, beginOp, rowOp(impl.OpPut, 1, one), rowOp(impl.OpPut, 1, a), txOp(impl.OpCommit, 1), beginOp, txOp(impl.OpMark, 2), rowOp(impl.OpSet, 2, b), txOp(impl.OpMark, 2), rowOp(impl.OpPut, 2, c))
	pages, ahead := s.Pages, []impl.Row{one, a}
	expect := func(name string, s impl.Store, edits func(by *steps)) {
		t.Helper()
		by := stepsOn(t, s.Pages)
		edits(by)
		got := expectRecovered(t, name, impl.LoggedIn(s).Records, compsBy(2, s.Pages, by)...)
		expectRowsOf(t, name, got, impl.RowsResult{Rows: ahead})
	}
	cell := func(r impl.Row) []byte { return cellOf(impl.FlagRow, r) }
	expect("nothing taken back", s, func(by *steps) { by.drop(0, 2).set(0, 1, cell(a)) })
	expect("back to the second mark", storeAll(t, s, backOp(2, 1)), func(by *steps) { by.set(0, 1, cell(a)) })
	expect("back to the first mark: all of it", storeAll(t, s, backOp(2, 0)), func(*steps) {})
	again := storeAll(t, s, backOp(2, 0), rowOp(impl.OpSet, 2, d))
	expect("back, and the same row again", again, func(by *steps) { by.set(0, 1, cell(a)) })
	dropped := storeAll(t, s, backOp(2, 0), rowOp(impl.OpDrop, 2, a))
	expect("back, and the same row dropped", dropped, func(by *steps) { by.put(0, 1, cell(a)) })
	expect("back, dropped and put again", storeAll(t, dropped, rowOp(impl.OpPut, 2, d)), func(by *steps) { by.set(0, 1, cell(a)) })
	expect("back, dropped and put as it was", storeAll(t, dropped, rowOp(impl.OpPut, 2, a)), func(*steps) {})
	expect("turned and turned back by itself", storeAll(t, s, rowOp(impl.OpDrop, 2, c), rowOp(impl.OpSet, 2, a)), func(*steps) {})
	expect("back twice", storeAll(t, s, backOp(2, 1), rowOp(impl.OpPut, 2, rowOf(1, 6, 4, "")), rowOp(impl.OpSet, 2, d), backOp(2, 1)), func(by *steps) { by.set(0, 1, cell(a)) })
	over := impl.LoggedIn(storeAll(t, s, txOp(impl.OpAbort, 2))).Records
	base := impl.LoggedIn(s).Records
	if len(over) != len(base)+3 {
		t.Fatalf("an abort logs %+v", over[len(base):])
	}
	// Of an abort the first comp is kept, both of them, and all of it.
	half := stepsOn(t, pages).drop(0, 2)
	expectRecovered(t, "an abort, of which a half is kept", over[:len(base)+1], compsBy(2, half.pages, stepsOn(t, half.pages).set(0, 1, cell(a)))...)
	expectRecovered(t, "an abort, of which its end is lost", over[:len(base)+2], abort(2))
	expectRecovered(t, "an abort", over)
}

// Whatever a row goes by, from page to page: behind a crash at each of its edits it is back, and what the recovery
// logged of it may be cut at each record.
func TestRecoverStoreOfWhatMoved(t *testing.T) {
	for _, m := range append(movingSets(t), movingPutsAndDrops(t)...) {
		base := append(committedTo(t, m.pages), begin(3))
		list := slices.Concat(base, deltasOf(3, m.pages, m.edits))
		view, _ := expectedView(m.pages)
		want := impl.RowsResult{Rows: rowsFound(view)}
		for at := len(base); at <= len(list); at++ {
			name := m.name + ", " + strconv.Itoa(at-len(base)) + " of its edits"
			got := expectRecoveredLike(t, name, list[:at])
			expectRowsOf(t, name, got, want)
			logged, _ := allRead(got.Log.Sure)
			for cut := at; cut <= len(logged); cut++ {
				again := expectRecoveredLike(t, name+", cut", logged[:cut])
				expectRowsOf(t, name+", cut", again, want)
			}
		}
		undo := undoOf(storeAll(t, openBy3(m.pages), m.o), 3)
		expectRecovered(t, m.name, list, append(compsOf(t, m.edits.pages, 3, undo), abort(3))...)
	}
}

// A change that was cut between two edits is none: the cell that nobody tells yet stays where it is.
func TestRecoverStoreLeavesCellsThatNobodyTells(t *testing.T) {
	table, a, long := cellOf(impl.FlagRow, told(1, 8)), rowOf(1, 5, 1, "a"), rowOf(1, 5, 2, "abcdefgh")
	pages := [][]byte{stuffed(t, table, cellOf(impl.FlagRow, a))}
	by := stepsOn(t, pages).fresh(cellOf(impl.FlagMoved, long))
	got := expectRecovered(t, "a moved cell without its stub", slices.Concat(committedTo(t, pages), []impl.Record{begin(3)}, deltasOf(3, pages, by)), abort(3))
	if !samePages(got.Pages, by.pages) {
		t.Errorf("the pages are %v, want %v", got.Pages, by.pages)
	}
	by.set(0, 1, stubCell(1, 0))
	whole := slices.Concat(committedTo(t, pages), []impl.Record{begin(3)}, deltasOf(3, pages, by))
	expectRecovered(t, "with its stub", whole, compsBy(3, by.pages, stepsOn(t, by.pages).set(1, 0, cellOf(impl.FlagMoved, a)))...)
}

// Each code of the miner comes, wherever the record stands that has it.
func TestRecoverStoreOfEachCodeOfTheMiner(t *testing.T) {
	right, wrong := manyWrong(t)
	counts := map[int64]int{}
	for name, f := range wrong {
		if impl.RecordFault(f.record) != impl.OK {
			continue
		}
		counts[f.code]++
		expectRecoverCode(t, name, downOf(append(slices.Clone(right), f.record), 60), f.code)
		expectRecoverCode(t, name+", then more", downOf(slices.Concat(right, []impl.Record{f.record, commit(8)}), 60), f.code)
	}
	for _, code := range []int64{impl.ErrForm, impl.ErrRange, impl.ErrNone, impl.ErrText, impl.ErrTaken, impl.ErrState} {
		if counts[code] == 0 {
			t.Errorf("code %d never came", code)
		}
	}
	var nine []impl.Record
	for tx := range int64(9) {
		nine = append(nine, begin(1+tx))
	}
	expectRecoverCode(t, "9 are open", downOf(nine, 60), impl.ErrMany)
	expectRecoverCode(t, "pages of nobody", downOf(recordsTo(openPages(t)), 60), impl.ErrNone)
	list, _ := putBy(t, 9, 62)
	expectRecoverCode(t, "62 rows of one", downOf(list, 60), impl.ErrMany)
}

// What a loser did may not be taken back: then nothing is.
func TestRecoverStoreOfLosersThatDoNotFit(t *testing.T) {
	a, b := rowOf(1, 50, 1, "a"), rowOf(1, 50, 2, "b")
	none, pageA, pageB := impl.NewPage(0).Page, pageWith(t, cellOf(impl.FlagRow, a)), pageWith(t, cellOf(impl.FlagRow, b))
	d := func(tx int64, before []byte, after []byte) impl.Record {
		return turned(impl.RecDelta, tx, 0, before, after)
	}
	expectRecoverCode(t, "one turned what the other one put", downOf([]impl.Record{begin(1), begin(2), d(1, none, pageA), d(2, pageA, pageB)}, 60), impl.ErrState)
	expectRecoverCode(t, "one dropped what the other one put", downOf([]impl.Record{begin(1), begin(2), d(1, none, pageA), d(2, pageA, none)}, 60), impl.ErrState)
	expectRecoverCode(t, "one committed on what the other one put", downOf([]impl.Record{begin(1), begin(2), d(1, none, pageA), d(2, pageA, pageB), commit(2)}, 60), impl.ErrState)
	back := []impl.Record{turned(impl.RecComp, 2, 0, pageB, pageA), abort(2), turned(impl.RecComp, 1, 0, pageA, afterDrop(pageA)), abort(1)}
	expectRecovered(t, "the one that turned it is the first", []impl.Record{begin(2), begin(1), d(1, none, pageA), d(2, pageA, pageB)}, back...)
	list, _ := putBy(t, 9, 61)
	expectRecoverCode(t, "61 rows of one", downOf(list, 60), impl.ErrMany)
	expectRecoverCode(t, "61 rows of one, and then one that did nothing", downOf(append(list, begin(1)), 60), impl.ErrMany)
	// Of two losers the first one has its code, and what was taken back ahead of a code is not told.
	expectRecoverCode(t, "one that does not fit, then one of 61", downOf(append([]impl.Record{begin(1), turned(impl.RecDelta, 1, 0, none, pageA), begin(2), turned(impl.RecDelta, 2, 0, pageA, afterDrop(pageA))}, laterPuts(t, afterDrop(pageA), 61)...), 60), impl.ErrState)
}

// afterDrop is a page without its only row, as DropSlot leaves it.
func afterDrop(page []byte) []byte {
	return impl.DropSlot(page, 0).Page
}

// laterPuts are 9's puts behind a page 0 that is there already.
func laterPuts(t *testing.T, first []byte, count int) []impl.Record {
	t.Helper()
	list, pages := []impl.Record{begin(9)}, [][]byte{first}
	for _, r := range smallRows(100, count) {
		edits := impl.InsertEdits(pages, r)
		list = append(list, recordsFor(impl.RecDelta, 9, pages, edits.Edits)...)
		pages = edits.Pages
	}
	return list
}

// Full pages: what has to be put back finds no room.
func TestRecoverStoreIntoFullPages(t *testing.T) {
	table, long := cellOf(impl.FlagRow, told(1, 8)), rowOf(1, 5, 1, "abcdefgh")
	pages := [][]byte{stuffed(t, table, cellOf(impl.FlagRow, long))}
	for len(pages) < 12 {
		pages = append(pages, stuffed(t))
	}
	base := append(committedTo(t, pages), begin(3))
	does := stepsOn(t, pages).drop(0, 1)
	got := expectRecovered(t, "there is room again", slices.Concat(base, deltasOf(3, pages, does)), compsBy(3, does.pages, stepsOn(t, does.pages).compact(0).put(0, 1, cellOf(impl.FlagRow, long)))...)
	expectRowsOf(t, "there is room again", got, impl.RowsResult{Rows: []impl.Row{told(1, 8), long}})
	does.compact(0).put(0, 1, movedCell(3, 3, 3, "abcdefgh"))
	expectRecoverCode(t, "somebody took the room", downOf(slices.Concat(base, deltasOf(3, pages, does)), 60), impl.ErrFull)
	less := pages[:11]
	base = append(committedTo(t, less), begin(3))
	does = stepsOn(t, less).drop(0, 1).compact(0).put(0, 1, movedCell(3, 3, 3, "abcdefgh"))
	expectRecovered(t, "a new page has it", slices.Concat(base, deltasOf(3, less, does)), compsBy(3, does.pages, stepsOn(t, does.pages).fresh(cellOf(impl.FlagRow, long)))...)
}

// padded has idle deltas of tx behind list, so that the log has so many bytes in all.
func padded(t *testing.T, list []impl.Record, tx int64, count int) []impl.Record {
	t.Helper()
	pages, _ := pagesTold(nil, list)
	idle := idleRecords(t, pages[0], count-len(expectedPackAll(list)))
	for i := range idle {
		idle[i].Tx = tx
	}
	return slices.Concat(list, idle)
}

// The log takes just as much as it has room for: else there is a code, and nothing is taken back.
func TestRecoverStoreAroundMaxLog(t *testing.T) {
	one, x, y := told(1, 8), rowOf(1, 5, 1, "x"), rowOf(1, 6, 2, "y")
	pages := [][]byte{pageWith(t, cellOf(impl.FlagRow, one))}
	by := stepsOn(t, pages).put(0, 1, cellOf(impl.FlagRow, x)).put(0, 2, cellOf(impl.FlagRow, y))
	list := slices.Concat(committedTo(t, pages), []impl.Record{begin(3), begin(5)}, deltasOf(3, pages, by))
	list[len(list)-1].Tx = 5
	logged := recordsFor(impl.RecComp, 3, by.pages, stepsOn(t, by.pages).drop(0, 1).drop(0, 2).edits)
	logged[1].Tx = 5
	logged = []impl.Record{logged[0], abort(3), logged[1], abort(5)}
	need := len(expectedPackAll(logged))
	for _, count := range []int{fullLog - 1, fullLog, fullLog + 1, 8000, maxLog - need - 1, maxLog - need} {
		got := expectRecovered(t, strconv.Itoa(count)+" bytes", padded(t, list, 3, count), logged...)
		if len(got.Log.Sure) != count+need {
			t.Errorf("%d bytes of log", len(got.Log.Sure))
		}
	}
	for over := 1; over <= need; over++ {
		expectRecoverCode(t, strconv.Itoa(over)+" bytes too many", downOf(padded(t, list, 3, maxLog-need+over), 60), impl.ErrFull)
	}
	// Who has nothing to take back needs room for an end, and who is over for nothing.
	idle := append(committedTo(t, pages), begin(3))
	expectRecovered(t, "just room for an end", padded(t, idle, 3, maxLog-7), abort(3))
	for over := 1; over <= 7; over++ {
		expectRecoverCode(t, "no room for an end", downOf(padded(t, idle, 3, maxLog-7+over), 60), impl.ErrFull)
	}
	over := committedTo(t, pages)
	full := slices.Concat(padded(t, over[:len(over)-1], 60, maxLog-7), over[len(over)-1:])
	got := expectRecovered(t, "a full log without losers", full)
	expectNotStored(t, "a full log without losers", got, beginOp, impl.ErrFull)
	// The code of the miner comes ahead of the room.
	expectRecoverCode(t, "a full log, and a code", downOf(append(padded(t, list, 3, maxLog-7), commit(9)), 60), impl.ErrNone)
}

// Each fault is told ahead of one that is Up, and that ahead of the codes of its log.
func TestRecoverStoreOfFaults(t *testing.T) {
	for _, f := range slices.Concat(logFaults(t), pagesFaults(t), rowsFaults(t), plainFaultsOfTxs()) {
		s := openStore(t)
		f.make(&s)
		expectRecoverCode(t, f.name, s, f.code)
	}
	for name, list := range otherRecords(t) {
		s := openStore(t)
		s.Log = logOf(list, nil)
		expectRecoverCode(t, name, s, impl.ErrState)
	}
	right, _ := manyWrong(t)
	for _, f := range downFaults(t) {
		for _, list := range [][]impl.Record{nil, right, append(slices.Clone(right), begin(8)), kindRecords()} {
			s := downOf(list, 10)
			f.make(&s)
			expectRecoverCode(t, f.name+", down", s, f.code)
		}
	}
	// Those that are Up have logs with each code of the miner, too: these are not asked.
	expectRecoverCode(t, "Up, pages of nobody", openStore(t), impl.ErrState)
	expectRecoverCode(t, "Up, nothing", impl.NewStore(1).Store, impl.ErrState)
	s := impl.NewStore(1).Store
	for _, list := range [][]impl.Record{{begin(1), begin(1)}, {abort(1)}, {commit(3), begin(1)}} {
		s.Log = logOf(list, nil)
		expectRecoverCode(t, "Up, a log with a code", s, impl.ErrState)
		s.Log = logOf(nil, list)
		expectRecoverCode(t, "Up, a log with a code, loose", s, impl.ErrState)
		expectRecoverCode(t, "down", downOf(list, 1), impl.MineAll(list).Code)
	}
	expectRecoverCode(t, "recovered already", expectRecovered(t, "a recovery", right, abort(8)), impl.ErrState)
}

// Nobody asks whether Next is above those that the log tells, and how many rows there are: those are of what is Up.
func TestRecoverStoreAsksNoMore(t *testing.T) {
	for _, next := range []int64{1, 9, 100} {
		want := impl.Store{Up: true, Log: logOf([]impl.Record{begin(9), commit(9), begin(50), abort(50)}, nil), Next: next}
		expectRecovery(t, "Next", downOf([]impl.Record{begin(9), commit(9), begin(50)}, next), impl.StoreResult{Store: want})
	}
	list, rows := putBy(t, 9, 20)
	list = append(list, commit(9), begin(8))
	pages, _ := pagesTold(nil, list)
	many := impl.Store{Up: true, Pages: pages, Log: logOf(append(list, abort(8)), nil), Next: 10}
	expectRecovery(t, "20 rows", downOf(list, 10), impl.StoreResult{Store: many})
	if view, _ := expectedView(pages); !slices.Equal(rowsFound(view), rows) {
		t.Errorf("the rows are %+v", rowsFound(view))
	}
}
