package tests

import (
	"math"
	"slices"
	"strconv"
	"testing"

	"loop.example/g00408/impl"
)

// fitsIn is so where Before is there, or nothing is of the key of what is put.
func fitsIn(pages [][]byte, c impl.Change) bool {
	view, _ := expectedView(pages)
	for _, r := range rowsFound(view) {
		if keyAt(r.Table, r.Key) == keyOfChange(c) {
			return c.Was && r == c.Before
		}
	}
	return !c.Was
}

// takenFrom takes back by the edits of the model, until there is a code.
func takenFrom(s *impl.Store, b impl.Buffer) int64 {
	for _, c := range slices.Backward(b.Changes) {
		if !fitsIn(s.Pages, inverse(c)) {
			return impl.ErrState
		}
		if !changedBy(s, impl.RecComp, b.Tx, inverse(c)) {
			return impl.ErrFull
		}
	}
	if !loggedBy(s, abort(b.Tx)) {
		return impl.ErrFull
	}
	return impl.OK
}

// expectedTakeBack goes by the words of the chapter.
func expectedTakeBack(s impl.Store, b impl.Buffer) impl.StoreResult {
	if code := expectedStoreFault(s); code != impl.OK {
		return impl.StoreResult{Code: code}
	}
	if !s.Up {
		return impl.StoreResult{Code: impl.ErrState}
	}
	if b.Tx < 1 || b.Tx > 99 {
		return impl.StoreResult{Code: impl.ErrForm}
	}
	if code := expectedListFault(b.Changes); code != impl.OK {
		return impl.StoreResult{Code: code}
	}
	own := cloneStore(s)
	if code := takenFrom(&own, b); code != impl.OK {
		return impl.StoreResult{Code: code}
	}
	return impl.StoreResult{Store: own}
}

func expectTakeBackResult(t *testing.T, name string, s impl.Store, b impl.Buffer, want impl.StoreResult) {
	t.Helper()
	ahead, changes := cloneStore(s), ownChanges(b.Changes)
	if model := expectedTakeBack(s, b); !sameStoreResult(model, want) {
		t.Fatalf("%s: the model of TakeBack has %+v, want %+v", name, model, want)
	}
	if got := impl.TakeBack(s, b); !sameStoreResult(got, want) {
		t.Fatalf("%s: TakeBack of %+v = %+v, want %+v", name, b, got, want)
	}
	if !sameStore(s, ahead) || !slices.Equal(b.Changes, changes) {
		t.Fatalf("%s: what was handed in was changed", name)
	}
}

func expectTakeBackCode(t *testing.T, name string, s impl.Store, b impl.Buffer, code int64) {
	t.Helper()
	expectTakeBackResult(t, name, s, b, impl.StoreResult{Code: code})
}

// expectTakenBack asks for these records, which are loose, and the pages to which they lead: all else stays.
func expectTakenBack(t *testing.T, name string, s impl.Store, b impl.Buffer, list ...impl.Record) impl.Store {
	t.Helper()
	want := cloneStore(s)
	want.Pages, _ = pagesTold(s.Pages, list)
	want.Log.Loose = append(want.Log.Loose, expectedPackAll(list)...)
	expectTakeBackResult(t, name, s, b, impl.StoreResult{Store: want})
	if code := impl.PagesFault(want.Pages); code != impl.OK {
		t.Fatalf("%s: PagesFault = %d", name, code)
	}
	return want
}

// compsBy are edits told by hand, as comps of tx, and its abort.
func compsBy(tx int64, pages [][]byte, by *steps) []impl.Record {
	return append(recordsFor(impl.RecComp, tx, pages, by.edits), abort(tx))
}

func TestTakeBackOfNoChanges(t *testing.T) {
	for _, tx := range []int64{1, 2, 3, 7, 8, 9, 10, 50, 98, 99} {
		expectTakenBack(t, "open ones", openStore(t), bufferOf(tx), abort(tx))
		expectTakenBack(t, "open ones, an empty list", openStore(t), impl.Buffer{Tx: tx, Changes: []impl.Change{}}, abort(tx))
		expectTakenBack(t, "nothing", impl.NewStore(1).Store, bufferOf(tx), abort(tx))
	}
	for _, tx := range append([]int64{0, 100, 101}, farNumbers...) {
		expectTakeBackCode(t, "no Tx", openStore(t), bufferOf(tx), impl.ErrForm)
		expectTakeBackCode(t, "no Tx, of nothing", impl.NewStore(1).Store, bufferOf(tx), impl.ErrForm)
		expectTakeBackCode(t, "no Tx, and changes", openStore(t), bufferOf(tx, put(rowOf(1, 6, 6, "six"))), impl.ErrForm)
	}
}

// Each change by itself, all of whose edits are told by hand.
func TestTakeBackOfOneChangeByHand(t *testing.T) {
	s := openStore(t)
	five, six, seven, gone := rowOf(1, 5, 3, "c"), rowOf(1, 6, 6, "six"), rowOf(2, 7, 7, ""), rowOf(2, 8, 8, "gone")
	long, none := rowOf(1, 9, 1, "abcdefgh"), rowOf(2, 6, 0, "")
	for _, w := range []struct {
		name  string
		c     impl.Change
		edits func(by *steps)
	}{
		{"a put", put(five), func(by *steps) { by.drop(0, 4) }},
		{"a put of what moved: the stub, then its cell", put(six), func(by *steps) { by.drop(0, 1).drop(1, 2) }},
		{"a put in page 1", put(seven), func(by *steps) { by.drop(1, 1) }},
		{"a drop, into an empty slot", drop(gone), func(by *steps) { by.put(0, 3, cellOf(impl.FlagRow, gone)) }},
		{"a drop of a table", drop(told(3, 5)), func(by *steps) { by.put(0, 3, cellOf(impl.FlagRow, told(3, 5))) }},
		{"a turn in its place", turn(rowOf(1, 5, 2, "b"), five), func(by *steps) { by.set(0, 4, rowCell(1, 5, 2, "b")) }},
		{"a turn of a shorter one", turn(rowOf(1, 5, 2, ""), five), func(by *steps) { by.set(0, 4, rowCell(1, 5, 2, "")) }},
		{"a turn of a longer one", turn(long, rowOf(1, 9, 9, "")), func(by *steps) { by.set(1, 3, cellOf(impl.FlagRow, long)) }},
		{"a turn behind a stub", turn(rowOf(1, 6, 5, "f"), six), func(by *steps) { by.set(1, 2, movedCell(1, 6, 5, "f")) }},
		{"a turn of a table", turn(told(2, 0), told(2, 4)), func(by *steps) { by.set(0, 2, cellOf(impl.FlagRow, told(2, 0))) }},
		{"what is not said is passed by", impl.Change{Before: rowOf(9, 9, 9, "A"), Is: true, After: seven}, func(by *steps) { by.drop(1, 1) }},
		{"what is not said is passed by, of a drop", impl.Change{Was: true, Before: none, After: rowOf(9, 9, 9, "A")}, func(by *steps) { by.put(0, 3, cellOf(impl.FlagRow, none)) }},
	} {
		for _, tx := range []int64{1, 3, 42, 99} {
			by := stepsOn(t, s.Pages)
			w.edits(by)
			got := expectTakenBack(t, w.name, s, bufferOf(tx, w.c), compsBy(tx, s.Pages, by)...)
			view, _ := expectedView(got.Pages)
			if want := changedRows(plainIn(s).Rows, inverse(w.c)); !slices.Equal(rowsFound(view), want) {
				t.Errorf("%s: the rows are %+v, want %+v", w.name, rowsFound(view), want)
			}
		}
	}
}

// Of several the last one is taken back first, whatever tables and pages they are of.
func TestTakeBackOfSeveralChangesByHand(t *testing.T) {
	s := openStore(t)
	five, six, nine, seven := rowOf(1, 5, 3, "c"), rowOf(1, 6, 6, "six"), rowOf(1, 9, 9, ""), rowOf(2, 7, 7, "")
	a, gone := rowOf(1, 5, 1, "a"), rowOf(2, 8, 8, "gone")
	all := bufferOf(20, turn(told(2, 8), told(2, 4)), turn(a, five), put(six), put(nine), put(seven), drop(gone))
	by := stepsOn(t, s.Pages).put(0, 3, cellOf(impl.FlagRow, gone)).drop(1, 1).drop(1, 3).drop(0, 1).drop(1, 2).set(0, 4, cellOf(impl.FlagRow, a)).set(0, 2, cellOf(impl.FlagRow, told(2, 8)))
	list := compsBy(20, s.Pages, by)
	if len(list) != 8 {
		t.Fatalf("%d records", len(list))
	}
	got := expectTakenBack(t, "several", s, all, list...)
	view, _ := expectedView(got.Pages)
	if want := []impl.Row{told(1, 8), told(2, 8), a, gone}; !slices.Equal(rowsFound(view), want) {
		t.Errorf("the rows are %+v, want %+v", rowsFound(view), want)
	}
	two := []impl.Record{list[0], list[1], abort(20)}
	expectTakenBack(t, "the last two", s, bufferOf(20, put(seven), drop(gone)), two...)
	// A row that goes first leaves its room to one that comes back.
	x, y := rowOf(1, 5, 1, "abcdefgh"), rowOf(1, 6, 1, "abcdefgh")
	full := openBy3([][]byte{stuffed(t, cellOf(impl.FlagRow, told(1, 8)), cellOf(impl.FlagRow, y))})
	by = stepsOn(t, full.Pages).drop(0, 1).compact(0).put(0, 1, cellOf(impl.FlagRow, x))
	expectTakenBack(t, "a drop, then a put", full, bufferOf(3, drop(x), put(y)), compsBy(3, full.Pages, by)...)
	full = openBy3([][]byte{stuffed(t, cellOf(impl.FlagRow, told(1, 8)), cellOf(impl.FlagRow, x))})
	by = stepsOn(t, full.Pages).fresh(cellOf(impl.FlagRow, y)).drop(0, 1)
	expectTakenBack(t, "a put, then a drop", full, bufferOf(3, put(x), drop(y)), compsBy(3, full.Pages, by)...)
}

// What each of movingSets and the others did is taken back by the change that is mined of it, into whatever page it goes.
func TestTakeBackOfWhatMoved(t *testing.T) {
	for _, m := range append(movingSets(t), movingPutsAndDrops(t)...) {
		ahead := openBy3(m.pages)
		s := storeAll(t, ahead, m.o)
		undo := undoOf(s, 3)
		if len(undo) != 1 {
			t.Fatalf("%s: Undo is %+v", m.name, undo)
		}
		s.Txs = nil
		for _, tx := range []int64{3, 77} {
			got := expectTakenBack(t, m.name, s, bufferOf(tx, undo...), append(compsOf(t, s.Pages, tx, undo), abort(tx))...)
			expectSound(t, m.name, got)
			expectRowsOf(t, m.name, got, impl.RowsOf(ahead))
			expectTakeBackCode(t, m.name+", twice", got, bufferOf(tx, undo...), impl.ErrState)
			back := expectTakenBack(t, m.name+", back and forth", got, bufferOf(tx, inverse(undo[0])), append(compsOf(t, got.Pages, tx, []impl.Change{inverse(undo[0])}), abort(tx))...)
			expectRowsOf(t, m.name+", back and forth", back, impl.RowsOf(s))
		}
	}
}

// 60 changes are taken back one by one, 61 are too many.
func TestTakeBackOfManyChanges(t *testing.T) {
	full, _ := fullPages(t, 12)
	var pages [][]byte
	var rows []impl.Row
	for _, r := range smallRows(90, maxRows) {
		rows = append(rows, r)
		pages = impl.InsertEdits(pages, r).Pages
	}
	// So many rows are a fault of a store: of what is put back there may be as many all the same.
	expectTakeBackCode(t, "60 rows are too many for a store", retold(impl.Store{Up: true, Pages: pages, Next: 1}), bufferOf(1, putsOf(rows)...), impl.ErrMany)
	expectTakeBackCode(t, "12 full pages are too many for a store", retold(impl.Store{Up: true, Pages: full, Next: 1}), bufferOf(1), impl.ErrMany)
	var drops []impl.Change
	for _, r := range rows {
		drops = append(drops, drop(r))
	}
	s := impl.NewStore(1).Store
	got := expectTakenBack(t, "60 that come back", s, bufferOf(9, drops...), append(compsOf(t, nil, 9, drops), abort(9))...)
	view, _ := expectedView(got.Pages)
	if !slices.Equal(rowsFound(view), rows) {
		t.Errorf("the rows are %+v", rowsFound(view))
	}
	more := append(drops, drop(rowOf(3, 99, 1, "")))
	expectTakeBackCode(t, "61", s, bufferOf(9, more...), impl.ErrMany)
	expectTakeBackCode(t, "61 of which none fits", openStore(t), bufferOf(9, putsOf(manyRows(100, maxFolded+1, 1))...), impl.ErrMany)
}

// faultyChanges are lists of changes with each code of FoldChange; a list of one that is wrong has others around it.
func faultyChanges() map[string]impl.Buffer {
	list := map[string]impl.Buffer{}
	for name, f := range faultyBuffers() {
		if f.buffer.Tx == 60 {
			list[name] = f.buffer
		}
	}
	for name, f := range wrongAlone() {
		list[name+", alone"] = bufferOf(60, f.change)
		list[name+", ahead of one that does not fit"] = bufferOf(60, f.change, put(rowOf(3, 50, 1, "")))
		list[name+", behind one that does not fit"] = bufferOf(60, put(rowOf(0, 1, 0, "")), f.change)
	}
	return list
}

func TestTakeBackOfWrongChanges(t *testing.T) {
	counts := map[int64]int{}
	for name, b := range faultyChanges() {
		code := expectedListFault(b.Changes)
		if code == impl.OK {
			t.Fatalf("%s: no fault", name)
		}
		counts[code]++
		expectTakeBackCode(t, name, openStore(t), b, code)
		expectTakeBackCode(t, name, impl.NewStore(1).Store, b, code)
		// The Tx comes ahead of them.
		for _, tx := range []int64{0, 100, math.MinInt64} {
			expectTakeBackCode(t, name+", and no Tx", openStore(t), bufferOf(tx, b.Changes...), impl.ErrForm)
		}
	}
	for _, code := range []int64{impl.ErrForm, impl.ErrMany, impl.ErrRange, impl.ErrText} {
		if counts[code] < 2 {
			t.Errorf("code %d came %d times", code, counts[code])
		}
	}
	for name, f := range lowChanges() {
		high, low := put(rowOf(1, 50, 1, "a")), put(rowOf(1, 30, 1, "a"))
		expectTakeBackCode(t, name+", behind one that does not rise", openStore(t), bufferOf(1, high, low, f.change), impl.ErrForm)
		expectTakeBackCode(t, name+", which does not rise itself", openStore(t), bufferOf(1, high, f.change), f.code)
	}
}

// unfit do not fit to the rows of openStore.
func unfit() map[string]impl.Change {
	five := rowOf(1, 5, 3, "c")
	return map[string]impl.Change{
		"a put of one that is not there":          put(rowOf(1, 7, 7, "")),
		"a put of another Val":                    put(rowOf(1, 5, 4, "c")),
		"a put of another Text":                   put(rowOf(1, 5, 3, "")),
		"a drop of one that is there":             drop(five),
		"a drop of one of the key of another one": drop(rowOf(1, 5, 9, "")),
		"a drop of one behind a stub":             drop(rowOf(1, 6, 6, "six")),
		"a turn into one that is not there":       turn(rowOf(2, 9, 1, ""), rowOf(2, 9, 2, "")),
		"a turn into another one":                 turn(five, rowOf(1, 5, 4, "c")),
		"a turn into the one ahead":               turn(rowOf(1, 6, 6, "six"), rowOf(1, 6, 6, "sixx")),
		"a put of a cell that nobody tells":       put(rowOf(3, 3, 3, "lone")),
		"a turn of a cell that nobody tells":      turn(rowOf(3, 3, 4, ""), rowOf(3, 3, 3, "lone")),
	}
}

// Where one of them does not fit nothing turns, whatever the others are.
func TestTakeBackOfWhatDoesNotFit(t *testing.T) {
	s := openStore(t)
	first, last := turn(told(1, 7), told(1, 8)), drop(rowOf(3, 90, 1, ""))
	for name, c := range unfit() {
		expectTakeBackCode(t, name, s, bufferOf(3, c), impl.ErrState)
		expectTakeBackCode(t, name+", the last one", s, bufferOf(3, first, c), impl.ErrState)
		expectTakeBackCode(t, name+", the first one", s, bufferOf(3, c, last), impl.ErrState)
		expectTakeBackCode(t, name+", between others", s, bufferOf(3, first, c, last), impl.ErrState)
		expectTakeBackCode(t, name+", and no Tx", s, bufferOf(100, c), impl.ErrForm)
		expectTakeBackCode(t, name+", and a fault behind", s, bufferOf(3, c, put(rowOf(3, 90, -1, ""))), impl.ErrRange)
	}
	expectTakenBack(t, "the others alone", s, bufferOf(3, first, last), compsBy(3, s.Pages, stepsOn(t, s.Pages).put(0, 3, rowCell(3, 90, 1, "")).set(0, 0, cellOf(impl.FlagRow, told(1, 7))))...)
	// Nobody asks for tables, locks and room: those are of ops.
	expectTakenBack(t, "a row of no table", s, bufferOf(3, drop(rowOf(3, 1, 1, "abcdefgh"))), compsBy(3, s.Pages, stepsOn(t, s.Pages).put(0, 3, rowCell(3, 1, 1, "abcdefgh")))...)
	expectTakenBack(t, "a table that is none", s, bufferOf(3, drop(rowOf(0, 50, 99, "x"))), compsBy(3, s.Pages, stepsOn(t, s.Pages).put(0, 3, rowCell(0, 50, 99, "x")))...)
	expectTakenBack(t, "a table with rows", s, bufferOf(3, put(told(1, 8))), compsBy(3, s.Pages, stepsOn(t, s.Pages).drop(0, 0))...)
	expectTakenBack(t, "what another one turned", s, bufferOf(3, put(rowOf(2, 7, 7, ""))), compsBy(3, s.Pages, stepsOn(t, s.Pages).drop(1, 1))...)
}

// Where pages are full the code of EditsFor is told; the last one, which is done first, has its code first.
func TestTakeBackIntoFullPages(t *testing.T) {
	table, short, long := cellOf(impl.FlagRow, told(1, 8)), rowOf(1, 5, 1, ""), rowOf(1, 6, 2, "abcdefgh")
	s := fullStore(t, nil, stuffed(t, table, cellOf(impl.FlagRow, short)))
	never := put(rowOf(1, 7, 1, ""))
	expectTakeBackCode(t, "no room", s, bufferOf(3, drop(long)), impl.ErrFull)
	expectTakeBackCode(t, "no room, also without another one", s, bufferOf(3, put(short), drop(long)), impl.ErrFull)
	expectTakeBackCode(t, "no room, then what does not fit", s, bufferOf(3, never, drop(rowOf(1, 8, 2, "abcdefgh"))), impl.ErrFull)
	expectTakeBackCode(t, "what does not fit, then no room", s, bufferOf(3, drop(long), never), impl.ErrState)
	expectTakeBackCode(t, "no room to grow", s, bufferOf(3, turn(rowOf(1, 5, 1, "abcdefgh"), short)), impl.ErrFull)
	expectTakenBack(t, "none is needed", s, bufferOf(3, put(short)), compsBy(3, s.Pages, stepsOn(t, s.Pages).drop(0, 1))...)
	s = retold(impl.Store{Up: true, Pages: s.Pages[:11], Next: 9})
	expectTakenBack(t, "a page less", s, bufferOf(3, put(short), drop(long)), compsBy(3, s.Pages, stepsOn(t, s.Pages).fresh(cellOf(impl.FlagRow, long)).drop(0, 1))...)
}

// The log may be longer than FullLog, and as long as MaxLog, but with all of it.
func TestTakeBackAroundMaxLog(t *testing.T) {
	five, six := rowOf(1, 5, 3, "c"), rowOf(1, 6, 6, "six")
	s := openStore(t)
	for name, b := range map[string]impl.Buffer{"nothing": bufferOf(3), "one": bufferOf(50, put(five)), "two, of three edits": bufferOf(7, turn(rowOf(1, 5, 1, "a"), five), put(six))} {
		list := append(compsOf(t, s.Pages, b.Tx, b.Changes), abort(b.Tx))
		need := len(expectedPackAll(list))
		for _, count := range []int{fullLog - 1, fullLog, fullLog + 1, 8000, maxLog - need - 1, maxLog - need} {
			for where, long := range logsOf(t, count) {
				got := expectTakenBack(t, name+" at "+strconv.Itoa(count)+", "+where, long, b, list...)
				if used := len(got.Log.Sure) + len(got.Log.Loose); used != count+need {
					t.Errorf("%s: %d bytes are used", name, used)
				}
			}
		}
		for over := 1; over <= need; over++ {
			long := logsOf(t, maxLog-need+over)[[]string{"all sure", "a part sure", "nothing sure"}[over%3]]
			expectTakeBackCode(t, name+", "+strconv.Itoa(over)+" bytes too many", long, b, impl.ErrFull)
		}
	}
	full := logsOf(t, maxLog)["all sure"]
	expectTakeBackCode(t, "a full log, and what does not fit first", full, bufferOf(3, put(five), put(rowOf(2, 99, 1, ""))), impl.ErrState)
	expectTakeBackCode(t, "a full log, and what does not fit then", full, bufferOf(3, put(rowOf(1, 1, 1, "")), put(five)), impl.ErrFull)
	expectTakeBackCode(t, "a full log, and a fault", full, bufferOf(3, put(five), put(rowOf(2, 100, 1, ""))), impl.ErrRange)
	expectTakeBackCode(t, "a full log, and no Tx", full, bufferOf(0, put(five)), impl.ErrForm)
}

// Each fault is told ahead of a store that is down, that one ahead of the Tx, and the Tx ahead of the changes.
func TestTakeBackOfFaults(t *testing.T) {
	wrong := []impl.Buffer{bufferOf(0), bufferOf(100, impl.Change{}), bufferOf(3, put(rowOf(1, 5, -1, "A"))), bufferOf(3, put(rowOf(1, 7, 7, ""))), bufferOf(3), bufferOf(3, make([]impl.Change, 61)...), bufferOf(3, put(rowOf(1, 5, 3, "c")))}
	for _, f := range slices.Concat(logFaults(t), pagesFaults(t), rowsFaults(t), plainFaultsOfTxs()) {
		s := openStore(t)
		f.make(&s)
		for _, b := range wrong {
			expectTakeBackCode(t, f.name, s, b, f.code)
		}
	}
	for name, list := range otherRecords(t) {
		s := openStore(t)
		s.Log = logOf(list, nil)
		for _, b := range wrong {
			expectTakeBackCode(t, name, s, b, impl.ErrState)
		}
	}
	for _, f := range downFaults(t) {
		s := impl.Store{Log: logOf(kindRecords(), nil), Next: 10}
		f.make(&s)
		for _, b := range wrong {
			expectTakeBackCode(t, f.name+", down", s, b, f.code)
		}
	}
	for _, list := range [][]impl.Record{nil, kindRecords(), recordsTo(openPages(t))} {
		for _, b := range wrong {
			expectTakeBackCode(t, "down", impl.Store{Log: logOf(list, nil), Next: 10}, b, impl.ErrState)
		}
	}
}

// Stores of walks: what an open one did, as it is mined, and any other changes.
func TestTakeBackOverWalks(t *testing.T) {
	next, counts := numbers(1302), map[int64]int{}
	for walk := range 24 {
		list := beginnings(t, 1)
		s := list[walk%len(list)]
		for _, o := range []impl.Op{beginOp, rowOp(impl.OpPut, 1, told(1, 8)), rowOp(impl.OpPut, 1, told(3, 8)), txOp(impl.OpCommit, 1)} {
			s = storeAll(t, s, o)
		}
		for range 50 {
			if did := impl.DoStore(s, anyStoreOp(next, 60, plainIn(s))); did.Code == impl.OK {
				s = did.Store
			}
			b := bufferOf(int64(next(102)))
			if len(s.Txs) > 0 && next(2) == 0 {
				tx := s.Txs[next(len(s.Txs))]
				b.Tx = tx.Id
				for _, c := range tx.Undo {
					b.Changes, _ = expectedFold(b.Changes, c)
				}
			}
			if next(3) == 0 {
				c := anyChange(plainIn(s).Rows, next, 6)
				if next(3) > 0 {
					c = inverse(c)
				}
				b.Changes = slices.Insert(b.Changes, next(len(b.Changes)+1), c)
			}
			want := expectedTakeBack(s, b)
			counts[want.Code]++
			expectTakeBackResult(t, "a walk", s, b, want)
			if want.Code == impl.OK && len(b.Changes) > 0 {
				counts[100]++
			}
		}
	}
	for code, least := range map[int64]int{impl.OK: 200, impl.ErrForm: 20, impl.ErrState: 20, impl.ErrFull: 10, 100: 100} {
		if counts[code] < least {
			t.Errorf("code %d came %d times alone: %v", code, counts[code], counts)
		}
	}
}
