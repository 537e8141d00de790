package tests

import (
	"slices"
	"strconv"
	"testing"

	"loop.example/g00408/impl"
)

// compsOf are the comps of changes that are taken back: the last one first, each by edits of the pages as they are then.
func compsOf(t *testing.T, pages [][]byte, tx int64, undo []impl.Change) []impl.Record {
	t.Helper()
	var list []impl.Record
	for _, c := range slices.Backward(undo) {
		m, code := expectedEdits(pages, inverse(c))
		if code != impl.OK {
			t.Fatalf("%+v is not taken back: code %d", c, code)
		}
		list = append(list, recordsFor(impl.RecComp, tx, pages, m.edits)...)
		pages = m.pages
	}
	return list
}

func undoOf(s impl.Store, id int64) []impl.Change {
	return txIn(plainIn(s), id).Undo
}

// expectAborted asks for a comp an edit, and an abort behind them all.
func expectAborted(t *testing.T, name string, s impl.Store, id int64) impl.Store {
	t.Helper()
	return expectStored(t, name, s, txOp(impl.OpAbort, id), 0, append(compsOf(t, s.Pages, id, undoOf(s, id)), abort(id))...)
}

// expectBack asks for a comp an edit, and nothing behind them.
func expectBack(t *testing.T, name string, s impl.Store, id int64, mark int64) impl.Store {
	t.Helper()
	tx := txIn(plainIn(s), id)
	return expectStored(t, name, s, backOp(id, mark), 0, compsOf(t, s.Pages, id, tx.Undo[tx.Marks[mark]:])...)
}

// byComps are edits told by hand, as comps of 3.
func byComps(s impl.Store, by *steps) []impl.Record {
	return recordsFor(impl.RecComp, 3, s.Pages, by.edits)
}

// Each change by itself, all of whose edits are told by hand.
func TestDoStoreTakesBackOneChangeByHand(t *testing.T) {
	table, a, long := cellOf(impl.FlagRow, told(1, 8)), rowOf(1, 5, 1, "a"), rowOf(1, 5, 2, "abcdefgh")
	full, stubbed := stuffed(t, table, cellOf(impl.FlagRow, a)), stuffed(t, table, stubCell(1, 1))
	for _, w := range []struct {
		name  string
		pages [][]byte
		o     impl.Op
		edits func(s *steps)
	}{
		{"a put", [][]byte{pageWith(t, table)}, rowOp(impl.OpPut, 3, a), func(s *steps) { s.drop(0, 1) }},
		{"a put into a new page, which stays", [][]byte{stuffed(t, table)}, rowOp(impl.OpPut, 3, a), func(s *steps) { s.drop(1, 0) }},
		{"a set in its place", [][]byte{pageWith(t, table, cellOf(impl.FlagRow, a))}, rowOp(impl.OpSet, 3, long), func(s *steps) { s.set(0, 1, cellOf(impl.FlagRow, a)) }},
		{"a set that moved the row: it stays behind its stub", [][]byte{full}, rowOp(impl.OpSet, 3, long), func(s *steps) { s.set(1, 0, cellOf(impl.FlagMoved, a)) }},
		{"a set that made room: compacted in vain, it moves", [][]byte{stuffed(t, table, cellOf(impl.FlagRow, long))}, rowOp(impl.OpSet, 3, a), func(s *steps) { s.compact(0).fresh(cellOf(impl.FlagMoved, long)).set(0, 1, stubCell(1, 0)) }},
		{"a set that moved it on: it stays there", [][]byte{stubbed, stuffed(t, rowCell(1, 6, 1, "b"), cellOf(impl.FlagMoved, a))}, rowOp(impl.OpSet, 3, long), func(s *steps) { s.set(2, 0, cellOf(impl.FlagMoved, a)) }},
		{"a drop", [][]byte{pageWith(t, table, cellOf(impl.FlagRow, a), rowCell(1, 6, 1, ""))}, rowOp(impl.OpDrop, 3, a), func(s *steps) { s.put(0, 1, cellOf(impl.FlagRow, a)) }},
		{"a drop in a full page: compacted, and put", [][]byte{full}, rowOp(impl.OpDrop, 3, a), func(s *steps) { s.compact(0).put(0, 1, cellOf(impl.FlagRow, a)) }},
		{"a drop of what moved: a row of the page where it was moved to", [][]byte{stubbed, pageWith(t, rowCell(1, 6, 1, "b"), cellOf(impl.FlagMoved, a))}, rowOp(impl.OpDrop, 3, a), func(s *steps) { s.put(1, 1, cellOf(impl.FlagRow, a)) }},
		{"a drop behind room in a page ahead", [][]byte{pageWith(t, table), pageWith(t, cellOf(impl.FlagRow, a))}, rowOp(impl.OpDrop, 3, a), func(s *steps) { s.put(0, 1, cellOf(impl.FlagRow, a)) }},
	} {
		ahead := storeAll(t, openBy3(w.pages), txOp(impl.OpMark, 3))
		s := storeAll(t, ahead, w.o)
		by := stepsOn(t, s.Pages)
		w.edits(by)
		back := expectStored(t, w.name+", back", s, backOp(3, 0), 0, byComps(s, by)...)
		expectStored(t, w.name+", aborted", s, txOp(impl.OpAbort, 3), 0, append(byComps(s, by), abort(3))...)
		expectRowsOf(t, w.name, back, impl.RowsOf(ahead))
		expectBack(t, w.name+", as the model", s, 3, 0)
	}
}

// What each of movingSets and the others did is taken back, and done again behind it.
func TestDoStoreTakesBackWhatMoved(t *testing.T) {
	others := 0
	for _, m := range append(movingSets(t), movingPutsAndDrops(t)...) {
		ahead := storeAll(t, openBy3(m.pages), txOp(impl.OpMark, 3))
		s := storeAll(t, ahead, m.o)
		back := expectBack(t, m.name, s, 3, 0)
		expectRowsOf(t, m.name, back, impl.RowsOf(ahead))
		over := expectAborted(t, m.name, s, 3)
		if !samePages(over.Pages, back.Pages) || len(over.Txs) != 0 {
			t.Errorf("%s: behind an abort %+v, behind a back %+v", m.name, over, back)
		}
		if !samePages(back.Pages, ahead.Pages) {
			others++
		}
		again := storeAll(t, back, m.o)
		expectRowsOf(t, m.name+", again", again, impl.RowsOf(s))
		expectBack(t, m.name+", again", again, 3, 0)
		expectAborted(t, m.name+", behind a back", back, 3)
		expectBack(t, m.name+", twice", back, 3, 0)
	}
	if others < 10 {
		t.Errorf("the pages are other ones %d times alone", others)
	}
}

// Of two changes the last one goes first, and leaves room to the other one.
func TestDoStoreTakesBackOneBehindTheOther(t *testing.T) {
	table, x, y := cellOf(impl.FlagRow, told(1, 8)), rowOf(1, 5, 1, "abcdefgh"), rowOf(1, 6, 1, "abcdefgh")
	full := stuffed(t, table, cellOf(impl.FlagRow, x))
	s := storeAll(t, openBy3([][]byte{full}), rowOp(impl.OpDrop, 3, x), rowOp(impl.OpPut, 3, y))
	by := stepsOn(t, s.Pages).drop(0, 1).compact(0).put(0, 1, cellOf(impl.FlagRow, x))
	over := expectStored(t, "a drop and a put", s, txOp(impl.OpAbort, 3), 0, append(byComps(s, by), abort(3))...)
	if len(over.Pages) != 1 {
		t.Errorf("there are %d pages", len(over.Pages))
	}
	s = storeAll(t, openBy3([][]byte{full}), rowOp(impl.OpPut, 3, y), rowOp(impl.OpDrop, 3, x))
	by = stepsOn(t, s.Pages).compact(0).put(0, 1, cellOf(impl.FlagRow, x)).drop(1, 0)
	expectStored(t, "a put and a drop", s, txOp(impl.OpAbort, 3), 0, append(byComps(s, by), abort(3))...)
	// Of one row: each of its changes by itself, also those that come to nothing together.
	b, c := rowOf(1, 5, 2, "b"), rowOf(1, 5, 3, "abcdefg")
	s = storeAll(t, openBy3([][]byte{full}), rowOp(impl.OpSet, 3, b), rowOp(impl.OpSet, 3, c), rowOp(impl.OpSet, 3, x), rowOp(impl.OpDrop, 3, x), rowOp(impl.OpPut, 3, b), rowOp(impl.OpSet, 3, x))
	over = expectAborted(t, "of one row", s, 3)
	if comps := len(impl.LoggedIn(over).Records) - len(impl.LoggedIn(s).Records) - 1; comps < 6 {
		t.Errorf("%d comps of 6 changes", comps)
	}
	s = storeAll(t, openBy3([][]byte{pageWith(t, table)}), rowOp(impl.OpPut, 3, b), rowOp(impl.OpDrop, 3, b))
	by = stepsOn(t, s.Pages).put(0, 1, cellOf(impl.FlagRow, b)).drop(0, 1)
	expectStored(t, "put and dropped", s, txOp(impl.OpAbort, 3), 0, append(byComps(s, by), abort(3))...)
}

// movedAndMarked does ops of 3 that move rows from page to page, with a mark ahead of each: at is the store at each mark.
func movedAndMarked(t *testing.T) (s impl.Store, at []impl.Store) {
	t.Helper()
	pages := [][]byte{stuffed(t, cellOf(impl.FlagRow, told(1, 8)), rowCell(1, 5, 1, "a"), rowCell(1, 6, 1, "abcd")), stuffed(t, rowCell(1, 7, 1, "abcdefgh"))}
	s = openBy3(pages)
	for _, o := range []impl.Op{
		rowOp(impl.OpSet, 3, rowOf(1, 5, 2, "abcdefgh")), rowOp(impl.OpSet, 3, rowOf(1, 6, 2, "abcdefgh")), rowOp(impl.OpPut, 3, rowOf(1, 8, 1, "abcdefgh")), rowOp(impl.OpDrop, 3, rowOf(1, 5, 0, "")),
		rowOp(impl.OpPut, 3, rowOf(1, 5, 9, "abcdef")), rowOp(impl.OpSet, 3, rowOf(1, 7, 3, "")), rowOp(impl.OpSet, 3, rowOf(1, 6, 4, "c")),
	} {
		s = storeAll(t, s, txOp(impl.OpMark, 3))
		at = append(at, s)
		s = storeAll(t, s, o)
	}
	s = storeAll(t, s, txOp(impl.OpMark, 3))
	return s, append(at, s)
}

// Who goes back has the rows that there were, at once or by others, whatever pages they stand in then.
func TestDoStoreGoesBackToEachMark(t *testing.T) {
	s, at := movedAndMarked(t)
	others := 0
	for first := range int64(len(at)) {
		once := expectBack(t, "back to "+strconv.FormatInt(first, 10), s, 3, first)
		expectRowsOf(t, "back to it", once, impl.RowsOf(at[first]))
		if !samePages(once.Pages, at[first].Pages) {
			others++
		}
		for second := range first + 1 {
			twice := expectBack(t, "back to "+strconv.FormatInt(second, 10)+" by another one", once, 3, second)
			expectRowsOf(t, "back to it by another one", twice, impl.RowsOf(at[second]))
		}
		for gone := first + 1; gone < 8; gone++ {
			expectNotStored(t, "a mark that is gone", once, backOp(3, gone), impl.ErrRange)
		}
		over := expectAborted(t, "an abort behind a back", once, 3)
		expectRowsOf(t, "an abort behind a back", over, impl.RowsOf(at[0]))
		ended := expectStored(t, "a commit behind a back", once, txOp(impl.OpCommit, 3), 0, commit(3))
		expectRowsOf(t, "a commit behind a back", ended, impl.RowsOf(at[first]))
		on := storeAll(t, once, rowOp(impl.OpPut, 3, rowOf(1, 9, 9, "abcdefgh")))
		expectRowsOf(t, "back from something else", expectBack(t, "back from something else", on, 3, first), impl.RowsOf(at[first]))
	}
	if others < 6 {
		t.Errorf("the pages are other ones at %d marks alone", others)
	}
	over := expectAborted(t, "all", s, 3)
	expectRowsOf(t, "all", over, impl.RowsOf(at[0]))
	if samePages(over.Pages, at[0].Pages) {
		t.Error("the pages are the same ones again")
	}
}

// What is taken back is a comp of the one who takes it back; what others turned stays, in whatever order they end.
func TestDoStoreTakesBackBesideOthers(t *testing.T) {
	three := append(compsOf(t, openPages(t), 3, undoOf(openStore(t), 3)), abort(3))
	seven := append(compsOf(t, openPages(t), 7, undoOf(openStore(t), 7)), abort(7))
	if len(three) != 5 || len(seven) != 3 {
		t.Fatalf("%d and %d records", len(three), len(seven))
	}
	expectStored(t, "3", openStore(t), txOp(impl.OpAbort, 3), 0, three...)
	expectStored(t, "7", openStore(t), txOp(impl.OpAbort, 7), 0, seven...)
	for _, order := range [][]int64{{3, 7, 9}, {3, 9, 7}, {7, 3, 9}, {7, 9, 3}, {9, 3, 7}, {9, 7, 3}} {
		for ways := range 8 {
			commits := map[int64]bool{3: ways&1 != 0, 7: ways&2 != 0, 9: ways&4 != 0}
			s := openStore(t)
			for _, id := range order {
				if commits[id] {
					s = expectStored(t, "a commit", s, txOp(impl.OpCommit, id), 0, commit(id))
				} else {
					s = expectAborted(t, "an abort", s, id)
				}
			}
			expectRowsOf(t, "all are over", s, impl.RowsResult{Rows: endsOf(commits[3], commits[7])})
		}
	}
	for mark := range int64(4) {
		s := expectBack(t, "3 back to a mark", openStore(t), 3, mark)
		expectAborted(t, "7 behind it", s, 7)
		expectStored(t, "9 behind it", s, txOp(impl.OpCommit, 9), 0, commit(9))
	}
	expectBack(t, "7 back to its mark", openStore(t), 7, 0)
	expectNotStored(t, "8 back", openStore(t), backOp(8, 0), impl.ErrNone)
	expectNotStored(t, "7 has one mark", openStore(t), backOp(7, 1), impl.ErrRange)
}
