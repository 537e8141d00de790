package tests

import (
	"slices"
	"strconv"
	"testing"

	"loop.example/g00408/impl"
)

func withUndo(tx impl.Tx, undo ...impl.Change) impl.Tx {
	own := cloneTx(tx)
	own.Undo = undo
	return own
}

func TestDoPlainMarks(t *testing.T) {
	p := openPlain()
	for _, m := range []struct{ tx, number, undo int64 }{{3, 4, 3}, {3, 5, 3}, {7, 1, 2}, {9, 2, 0}, {9, 3, 0}, {7, 2, 2}, {3, 6, 3}, {3, 7, 3}} {
		tx := txIn(p, m.tx)
		tx.Marks = append(tx.Marks, m.undo)
		p = expectDo(t, "a mark of "+strconv.FormatInt(m.tx, 10), p, txOp(impl.OpMark, m.tx), m.number, withTx(p, tx))
	}
	expectNoDo(t, "8 are there", p, txOp(impl.OpMark, 3), impl.ErrMany)
	expectNoDo(t, "nobody", p, txOp(impl.OpMark, 8), impl.ErrNone)
	full := fullUndo()
	expectDo(t, "12 in Undo", full, txOp(impl.OpMark, 2), 0, withTx(full, withMarks(txIn(full, 2), 12)))
	expectDo(t, "12 in Undo of another one", full, txOp(impl.OpMark, 1), 0, withTx(full, impl.Tx{Id: 1, Marks: []int64{0}}))
}

// The mark itself stays, and those ahead of it; Locks stay, all of them.
func TestDoPlainGoesBack(t *testing.T) {
	p := openPlain()
	r, three := p.Rows, txIn(p, 3)
	first := withTx(withRows(p, r[0], r[1], rowOf(1, 5, 2, "b"), r[4], r[5]), withMarks(withUndo(three, three.Undo[0]), 0, 1))
	middle := withTx(first, withMarks(txIn(first, 3), 0, 1, 1))
	start := withTx(withRows(p, r[0], r[1], rowOf(1, 5, 1, "a"), r[4], r[5]), withMarks(withUndo(three), 0))
	expectDo(t, "to the last mark", p, backOp(3, 3), 0, p)
	expectDo(t, "to the third one", p, backOp(3, 2), 0, middle)
	expectDo(t, "to the second one", p, backOp(3, 1), 0, first)
	expectDo(t, "to the first one", p, backOp(3, 0), 0, start)
	expectDo(t, "from the third one to the second one", middle, backOp(3, 1), 0, first)
	expectDo(t, "from the second one to the first one", first, backOp(3, 0), 0, start)
	for mark, at := range map[int64]impl.Plain{3: p, 2: middle, 1: first, 0: start} {
		expectDo(t, "twice to the same one", at, backOp(3, mark), 0, at)
		for gone := mark + 1; gone <= 7; gone++ {
			expectNoDo(t, "a mark that is gone", at, backOp(3, gone), impl.ErrRange)
		}
		expectNoDo(t, "no mark", at, backOp(3, 8), impl.ErrRange)
		tx := txIn(at, 3)
		tx.Marks = append(tx.Marks, int64(len(tx.Undo)))
		expectDo(t, "a mark behind a back", at, txOp(impl.OpMark, 3), mark+1, withTx(at, tx))
		expectDo(t, "a commit behind a back", at, txOp(impl.OpCommit, 3), 0, withoutTx(at, 3))
		expectDo(t, "an abort behind a back", at, txOp(impl.OpAbort, 3), 0, withoutTx(start, 3))
		expectCommitted(t, "behind a back", at, impl.CommittedOf(p).Rows...)
	}
	expectDo(t, "7, without a change behind its mark", p, backOp(7, 0), 0, p)
	expectDo(t, "9, to the last of two", p, backOp(9, 1), 0, p)
	expectDo(t, "9, to the first of two", p, backOp(9, 0), 0, withTx(p, withMarks(txIn(p, 9), 0)))
	expectNoDo(t, "nobody", p, backOp(8, 0), impl.ErrNone)
	expectNoDo(t, "7 has one mark", p, backOp(7, 1), impl.ErrRange)
}

// expectMarks asks for the numbers that marks of tx have, one behind the other, until there are 8.
func expectMarks(t *testing.T, p impl.Plain, tx int64, from int64) impl.Plain {
	t.Helper()
	for number := from; number < maxMarks; number++ {
		want := txIn(p, tx)
		want.Marks = append(want.Marks, int64(len(want.Undo)))
		p = expectDo(t, "mark "+strconv.FormatInt(number, 10), p, txOp(impl.OpMark, tx), number, withTx(p, want))
	}
	expectNoDo(t, "one more than 8", p, txOp(impl.OpMark, tx), impl.ErrMany)
	return p
}

// Eight marks without a change between them: back to any of them turns no row, and leaves room for others.
func TestDoPlainMarksOfMarks(t *testing.T) {
	fresh := doAll(t, impl.NewPlain(1).Plain, impl.Op{Kind: impl.OpBegin})
	begun := doAll(t, openPlain(), impl.Op{Kind: impl.OpBegin})
	for _, start := range []struct {
		p  impl.Plain
		tx int64
	}{{fresh, 1}, {begun, 10}, {fullUndo(), 2}, {fullUndo(), 1}} {
		all := expectMarks(t, start.p, start.tx, 0)
		for number := range int64(maxMarks) {
			want := txIn(all, start.tx)
			want.Marks = want.Marks[:number+1]
			back := expectDo(t, "back to one of 8", all, backOp(start.tx, number), 0, withTx(all, want))
			expectDo(t, "twice back to it", back, backOp(start.tx, number), 0, back)
			if again := expectMarks(t, back, start.tx, number+1); !samePlain(again, all) {
				t.Errorf("8 marks again: %+v, want %+v", again, all)
			}
		}
	}
}

// turnsAndMarks has a mark ahead of each of its changes, and two behind the last one: at is the plain one at each mark.
func turnsAndMarks(t *testing.T) (p impl.Plain, at []impl.Plain) {
	t.Helper()
	a, b := rowOf(1, 9, 1, "x"), rowOf(1, 1, 1, "y")
	ops := []impl.Op{
		rowOp(impl.OpSet, 9, a), rowOp(impl.OpPut, 9, b), rowOp(impl.OpDrop, 9, a), rowOp(impl.OpPut, 9, rowOf(1, 9, 2, "z")), rowOp(impl.OpSet, 9, rowOf(1, 1, 3, "")), rowOp(impl.OpDrop, 9, b),
	}
	p = doAll(t, openPlain(), backOp(9, 0))
	at = []impl.Plain{p}
	for _, o := range ops {
		p = doAll(t, p, o, txOp(impl.OpMark, 9))
		at = append(at, p)
	}
	p = doAll(t, p, txOp(impl.OpMark, 9))
	return p, append(at, p)
}

// expectBackAt goes back from p to the mark, and asks for what there was at it, with the Locks that there are.
func expectBackAt(t *testing.T, p impl.Plain, mark int64, at impl.Plain) impl.Plain {
	t.Helper()
	was := txIn(at, 9)
	was.Locks = txIn(p, 9).Locks
	return expectDo(t, "back to "+strconv.FormatInt(mark, 10), p, backOp(9, mark), 0, withTx(at, was))
}

// Who goes back has the rows that there were: to the first mark, to one in the middle and to the last one, at once or
// by others.
func TestDoPlainGoesBackToEachMark(t *testing.T) {
	p, at := turnsAndMarks(t)
	for first := range int64(len(at)) {
		once := expectBackAt(t, p, first, at[first])
		for second := range first + 1 {
			twice := expectBackAt(t, once, second, at[second])
			if direct := doAll(t, p, backOp(9, second)); !samePlain(twice, direct) {
				t.Errorf("back to %d by %d: %+v, want %+v", second, first, twice, direct)
			}
			more := doAll(t, twice, rowOp(impl.OpPut, 9, rowOf(1, 50, 5, "more")))
			if second < 6 {
				marked := doAll(t, more, txOp(impl.OpMark, 9))
				more = doAll(t, marked, rowOp(impl.OpDrop, 9, rowOf(1, 50, 0, "")))
				expectBackAt(t, more, second+1, marked)
			}
			expectBackAt(t, more, second, at[second])
		}
	}
	expectNoDo(t, "one more than 8", p, txOp(impl.OpMark, 9), impl.ErrMany)
}

// What others do in between stays, whoever goes back.
func TestDoPlainGoesBackBesideOthers(t *testing.T) {
	p := doAll(t, impl.NewPlain(1).Plain, impl.Op{Kind: impl.OpBegin}, rowOp(impl.OpPut, 1, told(1, 8)), txOp(impl.OpCommit, 1), impl.Op{Kind: impl.OpBegin}, impl.Op{Kind: impl.OpBegin})
	one, two := rowOf(1, 1, 1, "one"), rowOf(1, 2, 2, "two")
	p = doAll(t, p, txOp(impl.OpMark, 2), txOp(impl.OpMark, 3), rowOp(impl.OpPut, 2, one), rowOp(impl.OpPut, 3, two), txOp(impl.OpMark, 2), txOp(impl.OpMark, 3), rowOp(impl.OpDrop, 2, one), rowOp(impl.OpDrop, 3, two))
	rows := func(more ...impl.Row) []impl.Row { return append([]impl.Row{told(1, 8)}, more...) }
	for _, w := range []struct {
		name string
		ops  []impl.Op
		want []impl.Row
		over []impl.Row
	}{
		{"2 back to the last one", []impl.Op{backOp(2, 1)}, rows(one), rows()},
		{"both back to the last one", []impl.Op{backOp(2, 1), backOp(3, 1)}, rows(one, two), rows()},
		{"2 to the first one, 3 to the last one", []impl.Op{backOp(3, 1), backOp(2, 0)}, rows(two), rows()},
		{"2 to both, 3 commits behind a back", []impl.Op{backOp(3, 1), backOp(2, 1), txOp(impl.OpCommit, 3), backOp(2, 0)}, rows(two), rows(two)},
		{"3 aborts ahead of a back", []impl.Op{backOp(3, 1), txOp(impl.OpAbort, 3), backOp(2, 1)}, rows(one), rows()},
		{"2 commits behind a back, 3 aborts", []impl.Op{backOp(2, 1), txOp(impl.OpCommit, 2), txOp(impl.OpAbort, 3)}, rows(one), rows(one)},
		{"3 aborts behind both backs", []impl.Op{backOp(2, 1), backOp(3, 1), txOp(impl.OpCommit, 2), txOp(impl.OpAbort, 3)}, rows(one), rows(one)},
		{"one begins in between", []impl.Op{backOp(2, 1), {Kind: impl.OpBegin}, rowOp(impl.OpPut, 4, rowOf(1, 3, 3, "")), backOp(2, 0), txOp(impl.OpCommit, 4)}, rows(rowOf(1, 3, 3, "")), rows(rowOf(1, 3, 3, ""))},
	} {
		got := doAll(t, p, w.ops...)
		if !slices.Equal(got.Rows, w.want) {
			t.Errorf("%s: %+v, want %+v", w.name, got.Rows, w.want)
		}
		expectCommitted(t, w.name, got, w.over...)
	}
}

// What was taken back is locked still: others may not turn it, and it takes room, until its transaction is over.
func TestDoPlainKeepsLocksBehindABack(t *testing.T) {
	p := doAll(t, openPlain(), backOp(3, 0), backOp(9, 0))
	if three := txIn(p, 3); len(three.Undo) != 0 || !slices.Equal(three.Locks, []impl.Key{keyAt(1, 5), keyAt(1, 6)}) {
		t.Fatalf("behind the back: %+v", three)
	}
	for _, tx := range []int64{7, 9} {
		expectNoDo(t, "a set of what was taken back", p, rowOp(impl.OpSet, tx, rowOf(1, 5, 7, "")), impl.ErrLock)
		expectNoDo(t, "the same row", p, rowOp(impl.OpSet, tx, rowOf(1, 5, 1, "a")), impl.ErrLock)
		expectNoDo(t, "a drop of it", p, rowOp(impl.OpDrop, tx, rowOf(1, 5, 0, "")), impl.ErrLock)
		expectNoDo(t, "a put of what was taken back", p, rowOp(impl.OpPut, tx, rowOf(1, 6, 0, "")), impl.ErrLock)
		expectNoDo(t, "a set of its table", p, rowOp(impl.OpSet, tx, told(1, 7)), impl.ErrLock)
		for _, end := range []int64{impl.OpCommit, impl.OpAbort} {
			over := doAll(t, p, txOp(end, 3))
			doAll(t, over, rowOp(impl.OpSet, tx, rowOf(1, 5, 7, "")), rowOp(impl.OpPut, tx, rowOf(1, 6, 0, "")))
		}
	}
	expectRoom(t, "behind a back", p.Rows, p.Txs, 8)
	again := txIn(p, 3)
	again.Undo = []impl.Change{put(rowOf(1, 6, 9, "nine"))}
	r := p.Rows
	expectDo(t, "it itself puts it again", p, rowOp(impl.OpPut, 3, rowOf(1, 6, 9, "nine")), 0, withTx(withRows(p, r[0], r[1], r[2], rowOf(1, 6, 9, "nine"), r[3], r[4]), again))
}
