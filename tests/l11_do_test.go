package tests

import (
	"slices"
	"strconv"
	"testing"

	"loop.example/g00408/impl"
)

func txOp(kind int64, tx int64) impl.Op {
	return impl.Op{Kind: kind, Tx: tx}
}

// expectDo asks for just that answer, that it has no fault, and that p stays as it is.
func expectDo(t *testing.T, name string, p impl.Plain, o impl.Op, value int64, want impl.Plain) impl.Plain {
	t.Helper()
	kept, got := clonePlain(p), impl.DoPlain(p, o)
	if !samePlainResult(got, impl.PlainResult{Value: value, Plain: want}) {
		t.Fatalf("%s: DoPlain(%+v, %+v) = %+v, want %d, %+v", name, p, o, got, value, want)
	}
	if code := impl.PlainFault(got.Plain); code != impl.OK {
		t.Fatalf("%s: what comes of %+v has the PlainFault %d", name, o, code)
	}
	if !samePlain(p, kept) {
		t.Fatalf("%s: the plain one was changed", name)
	}
	return got.Plain
}

// expectNoDo asks for a code alone of an op of which just that is wrong.
func expectNoDo(t *testing.T, name string, p impl.Plain, o impl.Op, code int64) {
	t.Helper()
	if fault := impl.PlainFault(p); fault != impl.OK {
		t.Fatalf("%s: the plain one has the PlainFault %d", name, fault)
	}
	expectDoCode(t, name, p, o, code)
}

// doAll has ops without a code alone.
func doAll(t *testing.T, p impl.Plain, ops ...impl.Op) impl.Plain {
	t.Helper()
	for _, o := range ops {
		got := impl.DoPlain(p, o)
		if got.Code != impl.OK || impl.PlainFault(got.Plain) != impl.OK {
			t.Fatalf("DoPlain(%+v, %+v) = %+v", p, o, got)
		}
		p = got.Plain
	}
	return p
}

// withTx has tx in the place of the one of its Id.
func withTx(p impl.Plain, tx impl.Tx) impl.Plain {
	own := clonePlain(p)
	own.Txs[slices.IndexFunc(own.Txs, func(a impl.Tx) bool { return a.Id == tx.Id })] = tx
	return own
}

func withRows(p impl.Plain, rows ...impl.Row) impl.Plain {
	own := clonePlain(p)
	own.Rows = rows
	return own
}

func withNext(p impl.Plain, next int64) impl.Plain {
	own := clonePlain(p)
	own.Next = next
	return own
}

func withoutTx(p impl.Plain, id int64) impl.Plain {
	own := clonePlain(p)
	own.Txs = slices.DeleteFunc(own.Txs, func(a impl.Tx) bool { return a.Id == id })
	return own
}

func txIn(p impl.Plain, id int64) impl.Tx {
	return cloneTx(p.Txs[slices.IndexFunc(p.Txs, func(a impl.Tx) bool { return a.Id == id })])
}

func TestDoPlainBegins(t *testing.T) {
	p, begin := impl.NewPlain(1).Plain, impl.Op{Kind: impl.OpBegin}
	for id := int64(1); id <= 4; id++ {
		want := clonePlain(p)
		want.Txs, want.Next = append(want.Txs, impl.Tx{Id: id}), id+1
		p = expectDo(t, "a begin", p, begin, id, want)
	}
	expectNoDo(t, "four are there", p, begin, impl.ErrMany)
	less := expectDo(t, "a commit", p, txOp(impl.OpCommit, 2), 0, withoutTx(p, 2))
	expectDo(t, "behind a commit", less, begin, 5, impl.Plain{Txs: []impl.Tx{{Id: 1}, {Id: 3}, {Id: 4}, {Id: 5}}, Next: 6})
	open := openPlain()
	four := expectDo(t, "beside open ones", open, begin, 10, impl.Plain{Rows: open.Rows, Txs: append(clonePlain(open).Txs, impl.Tx{Id: 10}), Next: 11})
	expectNoDo(t, "four are open", four, begin, impl.ErrMany)
	for next := int64(10); next <= 99; next++ {
		far := clonePlain(open)
		far.Txs, far.Next = append(far.Txs, impl.Tx{Id: next}), next+1
		expectDo(t, "a Next far behind", withNext(open, next), begin, next, far)
	}
}

// 99 is the last Id: at Next 100 nobody begins any more, and all else goes on.
func TestDoPlainAtTheEndOfIds(t *testing.T) {
	begin := impl.Op{Kind: impl.OpBegin}
	p := expectDo(t, "Next 98", impl.NewPlain(98).Plain, begin, 98, impl.Plain{Txs: []impl.Tx{{Id: 98}}, Next: 99})
	p = expectDo(t, "Next 99", p, begin, 99, impl.Plain{Txs: []impl.Tx{{Id: 98}, {Id: 99}}, Next: 100})
	expectNoDo(t, "Next 100", p, begin, impl.ErrFull)
	expectNoDo(t, "Next 100 of nobody", impl.NewPlain(100).Plain, begin, impl.ErrFull)
	expectNoDo(t, "Next 100 of open ones", withNext(openPlain(), 100), begin, impl.ErrFull)
	p = doAll(t, p, rowOp(impl.OpPut, 99, told(1, 8)), txOp(impl.OpMark, 98), rowOp(impl.OpPut, 99, rowOf(1, 5, 1, "a")), txOp(impl.OpCommit, 99), impl.Op{Kind: impl.OpCheck})
	if !samePlain(p, impl.Plain{Rows: []impl.Row{told(1, 8), rowOf(1, 5, 1, "a")}, Txs: []impl.Tx{{Id: 98, Marks: []int64{0}}}, Next: 100}) {
		t.Errorf("at the end of Ids: %+v", p)
	}
	expectNoDo(t, "one is over", p, begin, impl.ErrFull)
	for next := int64(5); next <= 100; next++ {
		expectNoDo(t, "four are there", impl.Plain{Txs: []impl.Tx{{Id: 1}, {Id: 2}, {Id: 3}, {Id: 4}}, Next: next}, begin, impl.ErrMany)
	}
	for _, o := range []impl.Op{{Kind: impl.OpBegin, Tx: 1}, {Kind: impl.OpBegin, Mark: 1}, {Kind: impl.OpBegin, Row: rowOf(1, 1, 1, "")}} {
		expectNoDo(t, "a wrong begin at Next 100", impl.NewPlain(100).Plain, o, impl.ErrForm)
	}
}

func TestDoPlainTurnsRows(t *testing.T) {
	p := openPlain()
	nine, a := rowOf(1, 9, 9, ""), rowOf(1, 9, 10, "x")
	set := txIn(p, 7)
	set.Undo, set.Locks = append(set.Undo, turn(nine, a)), append(set.Locks, keyAt(1, 9))
	p = expectDo(t, "a set", p, rowOp(impl.OpSet, 7, a), 0, withTx(withRows(p, p.Rows[0], p.Rows[1], p.Rows[2], p.Rows[3], a, p.Rows[5]), set))
	expectCommitted(t, "a set", p, told(1, 8), told(2, 4), rowOf(1, 5, 1, "a"), nine, rowOf(2, 8, 8, "gone"))
	gone := txIn(p, 7)
	gone.Undo = append(gone.Undo, drop(a))
	p = expectDo(t, "a drop of it", p, rowOp(impl.OpDrop, 7, a), 0, withTx(withRows(p, p.Rows[0], p.Rows[1], p.Rows[2], p.Rows[3], p.Rows[5]), gone))
	expectCommitted(t, "a drop", p, told(1, 8), told(2, 4), rowOf(1, 5, 1, "a"), nine, rowOf(2, 8, 8, "gone"))
	fresh := txIn(p, 9)
	fresh.Undo, fresh.Locks = []impl.Change{put(rowOf(1, 1, 0, "abcdefgh"))}, append(fresh.Locks, keyAt(1, 1))
	p = expectDo(t, "a put", p, rowOp(impl.OpPut, 9, rowOf(1, 1, 0, "abcdefgh")), 0, withTx(withRows(p, slices.Insert(slices.Clone(p.Rows), 2, rowOf(1, 1, 0, "abcdefgh"))...), fresh))
	last := txIn(p, 9)
	last.Undo, last.Locks = append(last.Undo, put(told(3, 0))), append(last.Locks, keyAt(0, 3))
	p = expectDo(t, "a put of a table", p, rowOp(impl.OpPut, 9, told(3, 0)), 0, withTx(withRows(p, slices.Insert(slices.Clone(p.Rows), 2, told(3, 0))...), last))
	locked := txIn(p, 9)
	locked.Undo = append(locked.Undo, put(rowOf(3, 9, 1, "")))
	p = expectDo(t, "a put of a key that it locks", p, rowOp(impl.OpPut, 9, rowOf(3, 9, 1, "")), 0, withTx(withRows(p, append(slices.Clone(p.Rows), rowOf(3, 9, 1, ""))...), locked))
	expectCommitted(t, "several", p, told(1, 8), told(2, 4), rowOf(1, 5, 1, "a"), nine, rowOf(2, 8, 8, "gone"))
}

// What the code of CheckOp is, DoPlain has, and nothing else.
func TestDoPlainHasTheCodeOfCheckOp(t *testing.T) {
	p, open := openPlain(), openPlain()
	open.Txs = append(open.Txs, impl.Tx{Id: 10})
	open.Next = 11
	counts := map[int64]int{}
	rows := []impl.Row{told(1, 8), told(1, 1), told(2, 9), told(3, 8), told(4, 1), rowOf(1, 5, 3, "c"), rowOf(1, 9, 1, "x"), rowOf(1, 9, 9, ""), rowOf(2, 7, 1, "abcde"), rowOf(2, 9, 1, "abcde"), rowOf(2, 8, 0, ""), rowOf(3, 9, 0, ""), rowOf(3, 1, 0, ""), rowOf(1, 50, 0, "A")}
	for _, at := range []impl.Plain{p, open, withNext(p, 100), impl.NewPlain(1).Plain} {
		for kind := int64(minKind - 1); kind <= maxKind+1; kind++ {
			for _, tx := range []int64{0, 1, 3, 7, 9, 10, 100} {
				var ops []impl.Op
				for mark := range int64(9) {
					ops = append(ops, impl.Op{Kind: kind, Tx: tx, Mark: mark})
				}
				for _, r := range rows {
					ops = append(ops, rowOp(kind, tx, r), impl.Op{Kind: kind, Tx: tx, Row: r})
				}
				for _, o := range ops {
					code := expectedCheck(at.Rows, at.Txs, o).Code
					counts[code]++
					if code != impl.OK {
						expectNoDo(t, "an op with a code", at, o, code)
					}
				}
			}
		}
	}
	for _, code := range []int64{impl.OK, impl.ErrForm, impl.ErrMany, impl.ErrRange, impl.ErrNone, impl.ErrText, impl.ErrTaken, impl.ErrLock, impl.ErrState, impl.ErrType} {
		if counts[code] == 0 {
			t.Errorf("no op has code %d: %v", code, counts)
		}
	}
}

// fullUndo has 12 in Undo of all, by 2, and 1 has nothing.
func fullUndo() impl.Plain {
	return impl.Plain{Rows: []impl.Row{told(1, 8), told(3, 8), rowOf(1, 5, 1, "a"), rowOf(3, 99, 1, "a")}, Txs: []impl.Tx{{Id: 1}, turner(2, backAndForth(3, 99, 12)...)}, Next: 3}
}

// A set of the same row has no code, and nothing turns: nothing is noted, and nothing is locked.
func TestDoPlainSetsTheSame(t *testing.T) {
	p := openPlain()
	for _, tx := range []int64{3, 7, 9} {
		expectDo(t, "a row that nobody locks", p, rowOp(impl.OpSet, tx, rowOf(1, 9, 9, "")), 0, p)
	}
	expectDo(t, "a row that it turned", p, rowOp(impl.OpSet, 3, rowOf(1, 5, 3, "c")), 0, p)
	expectDo(t, "a row that it put", p, rowOp(impl.OpSet, 7, rowOf(2, 7, 7, "")), 0, p)
	alone := withoutTx(withoutTx(p, 3), 7)
	expectDo(t, "a table", alone, rowOp(impl.OpSet, 9, told(2, 4)), 0, alone)
	expectNoDo(t, "a row that another one locks", p, rowOp(impl.OpSet, 9, rowOf(1, 5, 3, "c")), impl.ErrLock)
	expectNoDo(t, "a table of which another one locks a row", p, rowOp(impl.OpSet, 9, told(1, 8)), impl.ErrLock)
	for _, twelve := range []impl.Row{rowOf(1, 9, 9, ""), rowOf(1, 5, 3, "c")} {
		full := clonePlain(p)
		full.Txs[2].Locks = append(full.Txs[2].Locks, keysAt(3, 50, 4)...)
		expectDo(t, "12 keys are there", full, rowOp(impl.OpSet, 3, twelve), 0, full)
	}
	full := fullUndo()
	for tx := int64(1); tx <= 2; tx++ {
		expectNoDo(t, "12 in Undo", full, rowOp(impl.OpSet, tx, rowOf(1, 5, 1, "a")), impl.ErrFull)
		expectNoDo(t, "12 in Undo, another one", full, rowOp(impl.OpSet, tx, rowOf(1, 5, 2, "a")), impl.ErrFull)
	}
	expectNoDo(t, "12 in Undo, its own", full, rowOp(impl.OpSet, 2, rowOf(3, 99, 1, "a")), impl.ErrFull)
	less := clonePlain(full)
	less.Txs[1].Undo = less.Txs[1].Undo[1:]
	for tx := int64(1); tx <= 2; tx++ {
		expectDo(t, "11 in Undo", less, rowOp(impl.OpSet, tx, rowOf(1, 5, 1, "a")), 0, less)
	}
	on := expectDo(t, "11 in Undo, its own", less, rowOp(impl.OpSet, 2, rowOf(3, 99, 1, "a")), 0, less)
	twelfth := doAll(t, on, rowOp(impl.OpSet, 2, rowOf(3, 99, 7, "a")))
	expectNoDo(t, "the twelfth one", twelfth, rowOp(impl.OpSet, 2, rowOf(3, 99, 7, "a")), impl.ErrFull)
}

// At 12 keys no new one comes, and those that are there may be turned.
func TestDoPlainAtTheEndOfTheRoom(t *testing.T) {
	p := impl.NewPlain(1).Plain
	p = doAll(t, p, impl.Op{Kind: impl.OpBegin}, rowOp(impl.OpPut, 1, told(1, 8)), rowOp(impl.OpPut, 1, told(2, 8)), txOp(impl.OpCommit, 1), impl.Op{Kind: impl.OpBegin}, impl.Op{Kind: impl.OpBegin})
	for key := int64(1); key <= 10; key++ {
		p = doAll(t, p, rowOp(impl.OpPut, 2+key%2, rowOf(1, key, 1, "")))
	}
	expectRoom(t, "2 and 10", p.Rows, p.Txs, 12)
	for tx := int64(2); tx <= 3; tx++ {
		expectNoDo(t, "a new key at 12", p, rowOp(impl.OpPut, tx, rowOf(1, 11, 1, "")), impl.ErrFull)
	}
	expectDo(t, "one that is there", p, rowOp(impl.OpSet, 2, rowOf(1, 2, 1, "")), 0, p)
	p = doAll(t, p, rowOp(impl.OpDrop, 2, rowOf(1, 2, 0, "")))
	expectNoDo(t, "one is dropped, and locked still", p, rowOp(impl.OpPut, 2, rowOf(1, 11, 1, "")), impl.ErrFull)
	p = doAll(t, p, rowOp(impl.OpPut, 2, rowOf(1, 2, 5, "")))
	expectNoDo(t, "12 in Undo", p, rowOp(impl.OpDrop, 3, rowOf(1, 1, 0, "")), impl.ErrFull)
	expectNoDo(t, "12 in Undo, and a new key", p, rowOp(impl.OpPut, 3, rowOf(1, 11, 1, "")), impl.ErrFull)
	over := doAll(t, p, txOp(impl.OpCommit, 2))
	expectNoDo(t, "12 rows", over, rowOp(impl.OpPut, 3, rowOf(1, 11, 1, "")), impl.ErrFull)
	doAll(t, over, rowOp(impl.OpDrop, 3, rowOf(1, 2, 0, "")), txOp(impl.OpCommit, 3), impl.Op{Kind: impl.OpBegin}, rowOp(impl.OpPut, 4, rowOf(1, 11, 1, "")))
	doAll(t, p, txOp(impl.OpAbort, 2), rowOp(impl.OpPut, 3, rowOf(1, 11, 1, "")))
}

// A set there and back is two changes, not none.
func TestDoPlainSetsThereAndBack(t *testing.T) {
	a, b := rowOf(1, 9, 9, ""), rowOf(1, 9, 8, "")
	p := openPlain()
	want := txIn(p, 9)
	want.Undo, want.Locks = []impl.Change{turn(a, b), turn(b, a)}, append(want.Locks, keyAt(1, 9))
	if got := doAll(t, p, rowOp(impl.OpSet, 9, b), rowOp(impl.OpSet, 9, a)); !samePlain(got, withTx(p, want)) {
		t.Errorf("there and back: %+v, want %+v", got, withTx(p, want))
	}
}

func TestDoPlainChecks(t *testing.T) {
	for _, p := range []impl.Plain{openPlain(), withNext(openPlain(), 100), fullUndo(), {Next: 1}, {Next: 100}, {Rows: manyRows(99, 12, 1), Next: 50}} {
		expectDo(t, "a check", p, impl.Op{Kind: impl.OpCheck}, 0, p)
	}
}

func TestDoPlainCommits(t *testing.T) {
	p := openPlain()
	expectDo(t, "3", p, txOp(impl.OpCommit, 3), 0, withoutTx(p, 3))
	expectDo(t, "7", p, txOp(impl.OpCommit, 7), 0, withoutTx(p, 7))
	expectDo(t, "9", p, txOp(impl.OpCommit, 9), 0, withoutTx(p, 9))
	expectCommitted(t, "3", withoutTx(p, 3), told(1, 8), told(2, 4), rowOf(1, 5, 3, "c"), rowOf(1, 6, 6, "six"), rowOf(1, 9, 9, ""), rowOf(2, 8, 8, "gone"))
	expectCommitted(t, "7", withoutTx(p, 7), told(1, 8), told(2, 4), rowOf(1, 5, 1, "a"), rowOf(1, 9, 9, ""), rowOf(2, 7, 7, ""))
	expectCommitted(t, "9", withoutTx(p, 9), impl.CommittedOf(p).Rows...)
	full := fullUndo()
	expectDo(t, "12 in Undo", full, txOp(impl.OpCommit, 2), 0, withoutTx(full, 2))
	expectNoDo(t, "nobody", p, txOp(impl.OpCommit, 8), impl.ErrNone)
	over := doAll(t, p, txOp(impl.OpCommit, 7))
	expectNoDo(t, "twice", over, txOp(impl.OpCommit, 7), impl.ErrNone)
	expectNoDo(t, "an abort of what is committed", over, txOp(impl.OpAbort, 7), impl.ErrNone)
	expectNoDo(t, "back of what is committed", over, backOp(7, 0), impl.ErrNone)
}

func TestDoPlainAborts(t *testing.T) {
	p := openPlain()
	r := p.Rows
	three := withRows(withoutTx(p, 3), r[0], r[1], rowOf(1, 5, 1, "a"), r[4], r[5])
	seven := withRows(withoutTx(p, 7), r[0], r[1], r[2], r[3], r[4], rowOf(2, 8, 8, "gone"))
	expectDo(t, "3", p, txOp(impl.OpAbort, 3), 0, three)
	expectDo(t, "7", p, txOp(impl.OpAbort, 7), 0, seven)
	expectDo(t, "9", p, txOp(impl.OpAbort, 9), 0, withoutTx(p, 9))
	for _, id := range []int64{3, 7, 9} {
		expectCommitted(t, strconv.FormatInt(id, 10)+" aborts", doAll(t, p, txOp(impl.OpAbort, id)), impl.CommittedOf(p).Rows...)
	}
	full := fullUndo()
	expectDo(t, "12 in Undo", full, txOp(impl.OpAbort, 2), 0, withoutTx(full, 2))
	expectNoDo(t, "nobody", p, txOp(impl.OpAbort, 1), impl.ErrNone)
	expectNoDo(t, "twice", three, txOp(impl.OpAbort, 3), impl.ErrNone)
	expectNoDo(t, "a commit of what is aborted", three, txOp(impl.OpCommit, 3), impl.ErrNone)
}

// endsOf are rows of what comes, in the end, of openPlain, where some commit and some abort.
func endsOf(three bool, seven bool) []impl.Row {
	rows := []impl.Row{told(1, 8), told(2, 4)}
	if three {
		rows = append(rows, rowOf(1, 5, 3, "c"), rowOf(1, 6, 6, "six"))
	} else {
		rows = append(rows, rowOf(1, 5, 1, "a"))
	}
	rows = append(rows, rowOf(1, 9, 9, ""))
	if seven {
		return append(rows, rowOf(2, 7, 7, ""))
	}
	return append(rows, rowOf(2, 8, 8, "gone"))
}

// What is committed stays, and of what is aborted nothing does, in whatever order they end.
func TestDoPlainEndsInAllOrders(t *testing.T) {
	for _, order := range [][]int64{{3, 7, 9}, {3, 9, 7}, {7, 3, 9}, {7, 9, 3}, {9, 3, 7}, {9, 7, 3}} {
		for ways := range 8 {
			commits := map[int64]bool{3: ways&1 != 0, 7: ways&2 != 0, 9: ways&4 != 0}
			p, over := openPlain(), map[int64]bool{}
			for _, id := range order {
				kind := int64(impl.OpAbort)
				if commits[id] {
					kind = impl.OpCommit
				}
				p, over[id] = doAll(t, p, txOp(kind, id)), commits[id]
				expectCommitted(t, "on the way", p, endsOf(over[3], over[7])...)
			}
			if want := endsOf(commits[3], commits[7]); !samePlain(p, impl.Plain{Rows: want, Next: 10}) {
				t.Errorf("%v, %v: %+v, want %+v", order, commits, p, want)
			}
		}
	}
}
