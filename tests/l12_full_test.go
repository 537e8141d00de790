package tests

import (
	"slices"
	"strconv"
	"testing"

	"loop.example/g00408/impl"
)

// storedOp is an op that openStore lets by, and its records.
type storedOp struct {
	name  string
	o     impl.Op
	value int64
	list  []impl.Record
}

func opsOfEachKind(t *testing.T) []storedOp {
	t.Helper()
	s := openStore(t)
	deltas := func(tx int64, by *steps) []impl.Record { return recordsFor(impl.RecDelta, tx, s.Pages, by.edits) }
	comps := func(id int64, from int64) []impl.Record { return compsOf(t, s.Pages, id, undoOf(s, id)[from:]) }
	r := rowOf(1, 1, 1, "abcd")
	return []storedOp{
		{"a begin", beginOp, 10, []impl.Record{begin(10)}},
		{"a put", rowOp(impl.OpPut, 9, r), 0, deltas(9, stepsOn(t, s.Pages).put(0, 3, cellOf(impl.FlagRow, r)))},
		{"a set", rowOp(impl.OpSet, 9, rowOf(1, 9, 8, "")), 0, deltas(9, stepsOn(t, s.Pages).set(1, 3, rowCell(1, 9, 8, "")))},
		{"a set of the same row", rowOp(impl.OpSet, 9, rowOf(1, 9, 9, "")), 0, nil},
		{"a drop", rowOp(impl.OpDrop, 3, rowOf(1, 6, 0, "")), 0, deltas(3, stepsOn(t, s.Pages).drop(0, 1).drop(1, 2))},
		{"a mark", txOp(impl.OpMark, 7), 1, nil},
		{"a back", backOp(3, 1), 0, comps(3, 1)},
		{"a back to where it is", backOp(9, 0), 0, nil},
		{"a commit", txOp(impl.OpCommit, 7), 0, []impl.Record{commit(7)}},
		{"an abort", txOp(impl.OpAbort, 3), 0, append(comps(3, 0), abort(3))},
		{"an abort without changes", txOp(impl.OpAbort, 9), 0, []impl.Record{abort(9)}},
		{"a check", checkOp, 0, []impl.Record{image(0, s.Pages[0]), image(1, s.Pages[1])}},
	}
}

func goesOn(o impl.Op) bool {
	return o.Kind == impl.OpBack || o.Kind == impl.OpAbort
}

// logsOf have so many bytes in all: all sure, the last ones loose, and nothing sure.
func logsOf(t *testing.T, count int) map[string]impl.Store {
	t.Helper()
	sure, part, loose := paddedTo(t, openStore(t), count, false), paddedTo(t, openStore(t), count, true), openStore(t)
	loose.Log = impl.Log{Loose: sure.Log.Sure}
	return map[string]impl.Store{"all sure": sure, "a part sure": part, "nothing sure": loose}
}

// At FullLog bytes all may be done, behind that just what takes back.
func TestDoStoreAroundFullLog(t *testing.T) {
	for _, count := range []int{fullLog - 1, fullLog, fullLog + 1, fullLog + 50, 8000, 15000} {
		for where, s := range logsOf(t, count) {
			if got := impl.LoggedIn(s).Used; got != int64(count) {
				t.Fatalf("%d bytes are used, want %d", got, count)
			}
			for _, w := range opsOfEachKind(t) {
				name := w.name + " at " + strconv.Itoa(count) + ", " + where
				if count > fullLog && !goesOn(w.o) {
					expectNotStored(t, name, s, w.o, impl.ErrFull)
				} else {
					expectStored(t, name, s, w.o, w.value, w.list...)
				}
			}
			expectLogged(t, "a full log", s, impl.RecordsResult{Used: int64(count), Records: append(append(recordsTo(s.Pages), begin(50)), idleRecords(t, s.Pages[0], count-len(openStore(t).Log.Sure)-len(openStore(t).Log.Loose))...)})
			expectRowsOf(t, "a full log", s, impl.RowsResult{Rows: openPlain().Rows})
		}
	}
}

// An op at FullLog bytes may lead beyond, and then the log is full.
func TestDoStoreBeyondFullLog(t *testing.T) {
	for _, w := range opsOfEachKind(t) {
		at := logsOf(t, fullLog)["a part sure"]
		s := expectStored(t, w.name, at, w.o, w.value, w.list...)
		if used := impl.LoggedIn(s).Used; used > fullLog {
			expectNotStored(t, w.name+", and a check", s, checkOp, impl.ErrFull)
			expectNotStored(t, w.name+", and a mark", s, txOp(impl.OpMark, s.Txs[0].Id), impl.ErrFull)
			expectAborted(t, w.name+", and an abort", s, s.Txs[0].Id)
		} else if len(w.list) > 0 {
			t.Errorf("%s: %d bytes are used", w.name, used)
		}
	}
}

// The code of CheckOp comes ahead of ErrFull, and OpBegin has that at Next 100 whether the log is full or not.
func TestDoStoreAsksForTheLogBehindCheckOp(t *testing.T) {
	full, right := logsOf(t, fullLog+1)["a part sure"], openStore(t)
	counts := map[int64]int{}
	p := plainIn(right)
	for kind := int64(minKind - 1); kind <= maxKind+1; kind++ {
		for _, tx := range []int64{0, 3, 7, 8, 9, 100} {
			ops := []impl.Op{{Kind: kind, Tx: tx}, {Kind: kind, Tx: tx, Mark: 1}, {Kind: kind, Tx: tx, Mark: 7}, {Kind: kind, Tx: tx, Mark: 8}}
			for _, r := range []impl.Row{told(1, 8), told(1, 1), told(3, 8), told(3, 9), rowOf(1, 5, 3, "c"), rowOf(1, 9, 9, ""), rowOf(2, 9, 1, "abcde"), rowOf(3, 1, 1, ""), rowOf(1, 9, 1, "A")} {
				ops = append(ops, rowOp(kind, tx, r))
			}
			for _, o := range ops {
				code := expectedCheck(p.Rows, p.Txs, o).Code
				switch {
				case code != impl.OK:
					expectNotStored(t, "a code of CheckOp", full, o, code)
				case !goesOn(o):
					expectNotStored(t, "a full log", full, o, impl.ErrFull)
				}
				counts[code]++
			}
		}
	}
	for _, code := range []int64{impl.OK, impl.ErrForm, impl.ErrRange, impl.ErrNone, impl.ErrText, impl.ErrTaken, impl.ErrLock, impl.ErrState, impl.ErrType} {
		if counts[code] == 0 {
			t.Errorf("no op has code %d: %v", code, counts)
		}
	}
	four := cloneStore(full)
	four.Txs, four.Next = append(four.Txs, impl.Tx{Id: 10}), 100
	expectNotStored(t, "four are there, Next 100, a full log", four, beginOp, impl.ErrMany)
	four.Txs = four.Txs[:3]
	expectNotStored(t, "Next 100, a full log", four, beginOp, impl.ErrFull)
	down := impl.Store{Log: impl.Log{Sure: full.Log.Sure}, Next: 10}
	for _, o := range anyOps() {
		expectNotStored(t, "down, a full log", down, o, impl.ErrState)
	}
}

// What is taken back goes on as long as the log has room for all of it, and for the record behind it: else nothing turns.
func TestDoStoreAroundMaxLog(t *testing.T) {
	for _, w := range opsOfEachKind(t) {
		if !goesOn(w.o) {
			for _, s := range logsOf(t, maxLog) {
				expectNotStored(t, w.name+" at MaxLog", s, w.o, impl.ErrFull)
			}
			continue
		}
		need := len(expectedPackAll(w.list))
		for where, s := range logsOf(t, maxLog-need) {
			full := expectStored(t, w.name+", just room, "+where, s, w.o, w.value, w.list...)
			if used := impl.LoggedIn(full).Used; used != maxLog {
				t.Errorf("%s: %d bytes are used", w.name, used)
			}
		}
		for over := 1; over <= need; over++ {
			s := logsOf(t, maxLog-need+over)[[]string{"all sure", "a part sure", "nothing sure"}[over%3]]
			expectNotStored(t, w.name+", "+strconv.Itoa(over)+" bytes too many", s, w.o, impl.ErrFull)
		}
	}
}

// fullStore has 12 pages without room, of which these are the first ones, and these transactions.
func fullStore(t *testing.T, txs []impl.Tx, pages ...[]byte) impl.Store {
	t.Helper()
	for len(pages) < 12 {
		pages = append(pages, stuffed(t))
	}
	return storeOf(pages, impl.Plain{Txs: txs, Next: 90})
}

// Where the pages are full the code of EditsFor is told, and nothing turns: also not the page that was compacted ahead of it.
func TestDoStoreOfFullPages(t *testing.T) {
	table, a, long := cellOf(impl.FlagRow, told(1, 8)), rowOf(1, 5, 1, "a"), rowOf(1, 5, 2, "abcdefgh")
	row, lone := cellOf(impl.FlagRow, a), movedCell(3, 91, 9, "abcde")
	three := []impl.Tx{{Id: 3}}
	full := fullStore(t, three, stuffed(t, table, row, lone))
	vain := fullStore(t, three, without(t, stuffed(t, table, row, lone), 2))
	if got := impl.UpdateEdits(vain.Pages[:11], long); got.Code != impl.OK || len(got.Edits) != 3 {
		t.Fatalf("of 11 pages: %+v", got)
	}
	behind := fullStore(t, three, stuffed(t, table, stubCell(1, 1)), without(t, stuffed(t, rowCell(1, 6, 1, "b"), cellOf(impl.FlagMoved, a), lone), 2))
	for _, s := range []impl.Store{full, vain, behind} {
		expectNotStored(t, "a set that has no room", s, rowOp(impl.OpSet, 3, long), impl.ErrFull)
		if s.Pages[0][0] == full.Pages[0][0] {
			expectNotStored(t, "a put that has no room", s, rowOp(impl.OpPut, 3, rowOf(1, 7, 1, "abcdef")), impl.ErrFull)
		}
		edits := impl.EditsFor(s.Pages, turn(a, rowOf(1, 5, 9, "b"))).Edits
		expectStored(t, "a set in its place", s, rowOp(impl.OpSet, 3, rowOf(1, 5, 9, "b")), 0, recordsFor(impl.RecDelta, 3, s.Pages, edits)...)
		expectStored(t, "a mark", s, txOp(impl.OpMark, 3), 0)
		expectStored(t, "a begin", s, beginOp, 90, begin(90))
		expectStored(t, "a commit", s, txOp(impl.OpCommit, 3), 0, commit(3))
		expectAborted(t, "an abort", s, 3)
		gone := impl.EditsFor(s.Pages, drop(a)).Edits
		room := expectStored(t, "a drop", s, rowOp(impl.OpDrop, 3, a), 0, recordsFor(impl.RecDelta, 3, s.Pages, gone)...)
		expectAborted(t, "an abort behind a drop", room, 3)
	}
	// The code of CheckOp, and a full log, come ahead: all are ErrFull, or the code that is asked first.
	expectNotStored(t, "no room, but taken", full, rowOp(impl.OpPut, 3, long), impl.ErrTaken)
	expectNotStored(t, "no room, of nobody", full, rowOp(impl.OpSet, 4, long), impl.ErrNone)
}

// What is taken back may find no room either: nothing turns then, also where the first changes had room.
func TestDoStoreTakesBackIntoFullPages(t *testing.T) {
	table, short, long := cellOf(impl.FlagRow, told(1, 8)), rowOf(1, 5, 1, ""), rowOf(1, 6, 2, "abcdefgh")
	page := stuffed(t, table, cellOf(impl.FlagRow, short))
	for _, w := range []struct {
		name string
		undo []impl.Change
		code int64
		kept int
	}{
		{"a drop alone", []impl.Change{drop(long)}, impl.ErrFull, 0},
		{"a put, and ahead of it a drop of a longer one", []impl.Change{drop(long), put(short)}, impl.ErrFull, 1},
		{"a turn, and ahead of it a turn of a longer one", []impl.Change{turn(grown(short), rowOf(1, 5, 2, "")), turn(rowOf(1, 5, 2, ""), short)}, impl.ErrFull, 1},
		{"a put, and ahead of it a drop of one as long", []impl.Change{drop(rowOf(1, 7, 7, "")), put(short)}, impl.OK, 2},
		{"a drop of one, and ahead of it a put and a drop", []impl.Change{drop(rowOf(1, 7, 7, "")), drop(rowOf(1, 8, 8, "")), put(short)}, impl.ErrFull, 2},
		{"a put alone", []impl.Change{put(short)}, impl.OK, 1},
	} {
		other := turner(7, put(told(1, 8)))
		s := fullStore(t, []impl.Tx{withMarks(turner(3, w.undo...), 0, int64(len(w.undo))), other}, page)
		if w.code == impl.OK {
			expectAborted(t, w.name, s, 3)
			expectBack(t, w.name, s, 3, 0)
		} else {
			expectNotStored(t, w.name+", aborted", s, txOp(impl.OpAbort, 3), w.code)
			expectNotStored(t, w.name+", back", s, backOp(3, 0), w.code)
		}
		expectBack(t, w.name+", back to where it is", s, 3, 1)
		expectStored(t, w.name+", a commit", s, txOp(impl.OpCommit, 3), 0, commit(3))
		// The last ones of them have room by themselves.
		if some := len(w.undo) - w.kept; some > 0 {
			s.Txs[0].Marks = []int64{int64(some)}
			expectBack(t, w.name+", back to the middle", s, 3, 0)
		}
		// With a page less all have room.
		s.Pages, s.Txs[0].Marks = s.Pages[:11], []int64{0}
		expectAborted(t, w.name+", of 11 pages", retold(s), 3)
		expectBack(t, w.name+", of 11 pages", retold(s), 3, 0)
	}
}

// Full pages and a full log at once: of what takes back the pages are asked first, and the log as far as it goes.
func TestDoStoreOfFullPagesAndLog(t *testing.T) {
	s := fullStore(t, []impl.Tx{withMarks(turner(3, drop(rowOf(1, 6, 2, "abcdefgh"))), 0)}, stuffed(t, cellOf(impl.FlagRow, told(1, 8))))
	for _, count := range []int{fullLog, fullLog + 1, maxLog - 7, maxLog} {
		full := paddedTo(t, s, count, true)
		expectNotStored(t, "an abort", full, txOp(impl.OpAbort, 3), impl.ErrFull)
		expectNotStored(t, "a back", full, backOp(3, 0), impl.ErrFull)
		expectNotStored(t, "a put", full, rowOp(impl.OpPut, 3, rowOf(1, 7, 1, "abcdefgh")), impl.ErrFull)
	}
}

// Ops until the log is full: what is open then can be taken back still, and nothing else is done.
func TestDoStoreUntilItIsFull(t *testing.T) {
	s := storeAll(t, impl.NewStore(1).Store, beginOp, rowOp(impl.OpPut, 1, told(1, 8)), rowOp(impl.OpPut, 1, rowOf(1, 5, 1, "")), txOp(impl.OpCommit, 1), beginOp, txOp(impl.OpMark, 2))
	next, count := numbers(4), 0
	for {
		o := rowOp(impl.OpSet, 2, rowOf(1, 5, int64(next(1000)), maxLetters[:next(9)]))
		if len(txIn(plainIn(s), 2).Undo) == 12 {
			o = backOp(2, 0)
		}
		got := impl.DoStore(s, o)
		if got.Code == impl.ErrFull {
			break
		}
		if got.Code != impl.OK {
			t.Fatalf("DoStore of %+v = %+v", o, got)
		}
		s = got.Store
		count++
	}
	expectSound(t, "full", s)
	if used := impl.LoggedIn(s).Used; used <= fullLog || count < 50 {
		t.Fatalf("%d bytes are used behind %d ops", used, count)
	}
	for _, o := range []impl.Op{beginOp, checkOp, txOp(impl.OpMark, 2), txOp(impl.OpCommit, 2), rowOp(impl.OpSet, 2, rowOf(1, 5, 1, "")), rowOp(impl.OpDrop, 2, rowOf(1, 5, 0, ""))} {
		expectNotStored(t, "a full log", s, o, impl.ErrFull)
	}
	over := expectAborted(t, "a full log", s, 2)
	expectRowsOf(t, "behind it", over, impl.RowsResult{Rows: []impl.Row{told(1, 8), rowOf(1, 5, 1, "")}})
	expectNotStored(t, "a full log for ever", over, beginOp, impl.ErrFull)
	if !slices.Equal(over.Log.Sure, s.Log.Sure) {
		t.Error("an abort made something sure")
	}
}
