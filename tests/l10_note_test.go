package tests

import (
	"math"
	"slices"
	"strconv"
	"testing"

	"loop.example/g00408/impl"
)

// expectedNote goes by the words of the chapter, over clones.
func expectedNote(list []impl.Tx, id int64, c impl.Change) impl.TxsResult {
	if code := expectedTxsFault(list); code != impl.OK {
		return impl.TxsResult{Code: code}
	}
	at := slices.IndexFunc(list, func(tx impl.Tx) bool { return tx.Id == id })
	if at < 0 {
		return impl.TxsResult{Code: impl.ErrNone}
	}
	if code := expectedAlone(c); code != impl.OK {
		return impl.TxsResult{Code: code}
	}
	k := keyOfChange(c)
	for i, tx := range list {
		if i != at && slices.Contains(tx.Locks, k) {
			return impl.TxsResult{Code: impl.ErrLock}
		}
	}
	own := cloneTxs(list)
	own[at].Undo = append(own[at].Undo, c)
	if !slices.Contains(own[at].Locks, k) {
		own[at].Locks = append(own[at].Locks, k)
	}
	if undoOfAll(own) > 12 || len(own[at].Locks) > 12 {
		return impl.TxsResult{Code: impl.ErrMany}
	}
	return impl.TxsResult{Txs: own}
}

// expectNoted asks for all that is promised of a change that is noted.
func expectNoted(t *testing.T, name string, list []impl.Tx, id int64, c impl.Change, want ...impl.Tx) {
	t.Helper()
	kept, got := cloneTxs(list), impl.NoteChange(list, id, c)
	if got.Code != impl.OK || !sameTxs(got.Txs, want) {
		t.Errorf("%s: NoteChange of %d, %+v = %+v, want %+v", name, id, c, got, want)
		return
	}
	if !sameTxs(list, kept) {
		t.Fatalf("%s: the list was changed", name)
	}
	if code := impl.TxsFault(got.Txs); code != impl.OK {
		t.Errorf("%s: what is noted has the TxsFault %d", name, code)
	}
	expectLockOf(t, name, got.Txs, keyOfChange(c), id)
}

func expectNoteAsModel(t *testing.T, name string, list []impl.Tx, id int64, c impl.Change) {
	t.Helper()
	if want := expectedNote(list, id, c); want.Code == impl.OK {
		expectNoted(t, name, list, id, c, want.Txs...)
	} else {
		expectNoteCode(t, name, list, id, c, want.Code)
	}
}

func TestNoteChangeOfEachTransaction(t *testing.T) {
	a, b := rowOf(2, 50, 1, "a"), rowOf(2, 50, 2, "b")
	for at := range 4 {
		for _, c := range []impl.Change{put(a), drop(b), turn(a, b), turn(b, a)} {
			want := plainTxs(4)
			want[at].Undo = append(want[at].Undo, c)
			want[at].Locks = append(want[at].Locks, keyAt(2, 50))
			expectNoted(t, "a new key", plainTxs(4), want[at].Id, c, want...)
		}
	}
	for _, r := range edgeRows() {
		expectNoted(t, "the first one", []impl.Tx{{Id: 1}, {Id: 99}}, 99, put(r), impl.Tx{Id: 1}, turner(99, put(r)))
		expectNoted(t, "the first one", []impl.Tx{{Id: 1}}, 1, drop(r), turner(1, drop(r)))
	}
}

// A key that it locks already is not locked again, and Locks stay in their order.
func TestNoteChangeOfKeysThatItLocks(t *testing.T) {
	a, b := rowOf(1, 5, 1, "a"), rowOf(1, 5, 2, "b")
	keys := []impl.Key{keyAt(3, 1), keyAt(1, 5), keyAt(0, 2)}
	list := []impl.Tx{locker(4, keys...)}
	for _, c := range []impl.Change{put(a), drop(b), turn(a, b)} {
		expectNoted(t, "a key of Locks", list, 4, c, impl.Tx{Id: 4, Undo: []impl.Change{c}, Locks: keys})
	}
	for i, k := range keys {
		c := put(rowOf(k.Table, k.Key, 1, ""))
		expectNoted(t, "lock "+strconv.Itoa(i), list, 4, c, impl.Tx{Id: 4, Undo: []impl.Change{c}, Locks: keys})
	}
	on := []impl.Change{put(a), turn(a, b), turn(b, a), drop(a), put(a)}
	at := []impl.Tx{{Id: 4}}
	for i, c := range on {
		expectNoted(t, "on and on", at, 4, c, turner(4, on[:i+1]...))
		at = impl.NoteChange(at, 4, c).Txs
	}
	fresh := put(rowOf(1, 4, 0, ""))
	expectNoted(t, "a key of none", list, 4, fresh, impl.Tx{Id: 4, Undo: []impl.Change{fresh}, Locks: append(slices.Clone(keys), keyAt(1, 4))})
}

// Behind a mark, with Undo shorter than Locks: a key that is locked still is noted without another lock.
func TestNoteChangeBehindAMark(t *testing.T) {
	rows := manyRows(99, 6, 1)
	all := turner(5, putsOf(rows)...)
	for left := range 7 {
		for _, marks := range [][]int64{nil, {0}, {0, 0}, {int64(left)}, {0, int64(left), int64(left)}} {
			tx := withMarks(all, marks...)
			tx.Undo = tx.Undo[:left]
			for _, r := range append(rows, rowOf(2, 9, 9, "z")) {
				want := cloneTx(tx)
				want.Undo = append(want.Undo, drop(r))
				if r.Table == 2 {
					want.Locks = append(want.Locks, keyAt(2, 9))
				}
				expectNoted(t, strconv.Itoa(left)+" left", []impl.Tx{tx}, 5, drop(r), want)
			}
			expectNoteCode(t, "another one", []impl.Tx{{Id: 4}, tx}, 4, put(rows[5]), impl.ErrLock)
		}
	}
}

// What nobody looks at is noted as it is.
func TestNoteChangeOfWhatIsNotSaid(t *testing.T) {
	for _, f := range faultyRows() {
		comes, goes := put(rowOf(1, 5, 1, "a")), drop(rowOf(1, 5, 1, "a"))
		comes.Before, goes.After = f.row, f.row
		for _, c := range []impl.Change{comes, goes} {
			expectNoted(t, f.name, []impl.Tx{{Id: 7}}, 7, c, impl.Tx{Id: 7, Undo: []impl.Change{c}, Locks: []impl.Key{keyAt(1, 5)}})
		}
	}
}

func TestNoteChangeOfNoTransaction(t *testing.T) {
	c := put(rowOf(3, 50, 1, ""))
	for _, id := range []int64{0, 1, 9, 11, 41, 99, 100, -1, -10, 256 + 10, 1<<32 + 10, math.MinInt64, math.MaxInt64} {
		expectNoteCode(t, "there is none", plainTxs(4), id, c, impl.ErrNone)
		expectNoteCode(t, "there is nobody", nil, id, c, impl.ErrNone)
		for name, f := range wrongAlone() {
			expectNoteCode(t, "there is none, "+name, plainTxs(4), id, f.change, impl.ErrNone)
		}
		expectNoteCode(t, "there is none, and another one locks it", []impl.Tx{locker(5, keyAt(3, 50))}, id, c, impl.ErrNone)
		expectNoteCode(t, "there is none, and no room", fullTxs(4, 5), id, c, impl.ErrNone)
	}
}

func TestNoteChangeOfWrongChanges(t *testing.T) {
	barred := []impl.Tx{{Id: 10}, locker(20, keyAt(1, 50), keyAt(1, 20))}
	full := fullTxs(10, 20)
	for name, f := range wrongAlone() {
		for _, list := range [][]impl.Tx{{{Id: 10}}, plainTxs(4), barred, full} {
			expectNoteCode(t, name, list, 10, f.change, f.code)
		}
	}
}

// Another one bars just the key that it locks: whether its table may be turned is not asked here.
func TestNoteChangeOfLocks(t *testing.T) {
	r := rowOf(1, 5, 1, "a")
	for _, c := range []impl.Change{put(r), drop(r), turn(r, rowOf(1, 5, 2, ""))} {
		for _, list := range [][]impl.Tx{{locker(1, keyAt(2, 1), keyAt(1, 5)), {Id: 2}}, {{Id: 2}, turner(3, put(r))}, {{Id: 2}, {Id: 3}, locker(4, keyAt(1, 5))}} {
			expectNoteCode(t, "another one locks it", list, 2, c, impl.ErrLock)
		}
		near := locker(1, keyAt(0, 1), keyAt(0, 5), keyAt(1, 4), keyAt(1, 6), keyAt(2, 5))
		expectNoted(t, "its table is locked", []impl.Tx{near, {Id: 2}}, 2, c, near, turner(2, c))
	}
	rows := locker(3, keyAt(1, 1), keyAt(2, 2))
	expectNoted(t, "a row of it is locked", []impl.Tx{{Id: 2}, rows}, 2, drop(told(1, 8)), turner(2, drop(told(1, 8))), rows)
	expectNoteCode(t, "locked, and no room", fullTxs(1, 2), 1, put(rowOf(3, 99, 0, "")), impl.ErrLock)
}

func TestNoteChangeAtItsBounds(t *testing.T) {
	locked, fresh := put(rowOf(1, 12, 1, "")), put(rowOf(1, 13, 1, ""))
	twelve := locker(2, keysAt(1, 1, 12)...)
	for _, list := range [][]impl.Tx{{twelve}, {{Id: 1}, twelve}, {twelve, locker(3, keysAt(3, 1, 12)...)}} {
		expectNoteAsModel(t, "12 Locks, and it is one of them", list, 2, locked)
		expectNoteCode(t, "12 Locks, and it is none of them", list, 2, fresh, impl.ErrMany)
	}
	eleven := locker(2, keysAt(1, 1, 11)...)
	expectNoted(t, "11 Locks", []impl.Tx{eleven}, 2, locked, impl.Tx{Id: 2, Undo: []impl.Change{locked}, Locks: keysAt(1, 1, 12)})
	expectNoteAsModel(t, "12 Locks of another one", []impl.Tx{twelve, {Id: 3}}, 3, fresh)
	for count := range 13 {
		for first := range count + 1 {
			list := []impl.Tx{{Id: 1}, turner(2, backAndForth(1, 12, first)...), turner(3, backAndForth(2, 1, count-first)...)}
			for id := int64(1); id <= 3; id++ {
				if count < 12 {
					expectNoteAsModel(t, "a change more", list, id, fresh)
					continue
				}
				expectNoteCode(t, "12 in Undo", list, id, fresh, impl.ErrMany)
			}
			if first > 0 && count == 12 {
				expectNoteCode(t, "12 in Undo, of a key that it locks", list, 2, locked, impl.ErrMany)
			}
		}
	}
}

func anyAlone(next func(int) int) impl.Change {
	a := rowOf(int64(next(4)), int64(1+next(5)), int64(next(9)), maxLetters[:next(3)])
	b := rowOf(a.Table, a.Key, int64(next(9)), "")
	if next(20) == 0 {
		b.Key += int64(next(2))
		a.Val += int64(next(2) * 1000)
	}
	return []impl.Change{put(a), drop(a), turn(a, b)}[next(3)]
}

func TestNoteChangeOfAny(t *testing.T) {
	next, counts := numbers(12), map[int64]int{}
	for range 30000 {
		list, id, c := anyTxs(next), []int64{1, 2, 50, 99}[next(4)], anyAlone(next)
		if next(20) == 0 && len(list) > 0 {
			tx := &list[next(len(list))]
			tx.Locks = append(tx.Locks, keyAt(int64(next(4)), int64(1+next(5))))
		}
		expectNoteAsModel(t, "any", list, id, c)
		counts[expectedNote(list, id, c).Code]++
	}
	for _, code := range []int64{impl.OK, impl.ErrForm, impl.ErrMany, impl.ErrRange, impl.ErrNone, impl.ErrTaken, impl.ErrLock} {
		if counts[code] == 0 {
			t.Errorf("no note has code %d: %v", code, counts)
		}
	}
}

func expectInverse(t *testing.T, name string, list []impl.Change, want ...impl.Change) {
	t.Helper()
	got := impl.InverseOf(list)
	if got.Code != impl.OK || !slices.Equal(got.Changes, want) {
		t.Errorf("%s: InverseOf = %+v, want %+v", name, got, want)
		return
	}
	if again := impl.InverseOf(got.Changes); again.Code != impl.OK || !slices.Equal(again.Changes, list) {
		t.Errorf("%s: InverseOf twice = %+v, want %+v", name, again, list)
	}
}

func expectInverseCode(t *testing.T, name string, list []impl.Change, code int64) {
	t.Helper()
	if got := impl.InverseOf(list); got.Code != code || len(got.Changes) != 0 {
		t.Errorf("%s: InverseOf = %+v, want code %d alone", name, got, code)
	}
}

func TestInverseOfChanges(t *testing.T) {
	a, b, c := rowOf(1, 5, 1, "a"), rowOf(1, 5, 2, "b"), rowOf(0, 9, 3, "")
	expectInverse(t, "nothing", nil)
	expectInverse(t, "an empty list", []impl.Change{})
	expectInverse(t, "a put", []impl.Change{put(a)}, drop(a))
	expectInverse(t, "a drop", []impl.Change{drop(a)}, put(a))
	expectInverse(t, "a turn", []impl.Change{turn(a, b)}, turn(b, a))
	expectInverse(t, "several", []impl.Change{put(a), turn(a, b), drop(c)}, put(c), turn(b, a), drop(a))
	expectInverse(t, "one twice", []impl.Change{put(a), put(a)}, drop(a), drop(a))
	for _, r := range edgeRows() {
		expectInverse(t, "an edge", []impl.Change{put(r), put(a)}, drop(a), drop(r))
	}
	for _, f := range faultyRows() {
		comes, goes := put(a), drop(b)
		comes.Before, goes.After = f.row, f.row
		expectInverse(t, "what is not said: "+f.name, []impl.Change{comes, goes}, impl.Change{Is: true, After: b, Before: f.row}, impl.Change{Was: true, Before: a, After: f.row})
	}
}

func TestInverseOfMany(t *testing.T) {
	for _, count := range []int{1, 2, 12, 13, 59, 60} {
		rows := manyRows(70, count, 1)
		var want []impl.Change
		for _, r := range rows {
			want = append([]impl.Change{drop(r)}, want...)
		}
		expectInverse(t, strconv.Itoa(count), putsOf(rows), want...)
	}
	expectInverseCode(t, "61", putsOf(manyRows(70, 61, 1)), impl.ErrMany)
	for _, count := range []int{61, 62, 1000} {
		expectInverseCode(t, "zero ones", make([]impl.Change, count), impl.ErrMany)
	}
	expectInverseCode(t, "60 zero ones", make([]impl.Change, 60), impl.ErrForm)
}

func TestInverseOfWrongChanges(t *testing.T) {
	right := put(rowOf(2, 2, 2, ""))
	for name, f := range wrongAlone() {
		expectInverseCode(t, name, []impl.Change{f.change}, f.code)
		expectInverseCode(t, name+", the last one", []impl.Change{right, right, f.change}, f.code)
		expectInverseCode(t, name+", the first one", []impl.Change{f.change, right, right}, f.code)
		expectInverseCode(t, name+", the 60th", append(putsOf(manyRows(0, 59, 1)), f.change), f.code)
		expectInverseCode(t, name+", the 61st", append(putsOf(manyRows(0, 60, 1)), f.change), impl.ErrMany)
		for other, g := range wrongAlone() {
			expectInverseCode(t, name+", then "+other, []impl.Change{right, f.change, g.change}, f.code)
		}
	}
}

// expectThereAndBackByChanges asks for what is promised of what changed and of its inverse.
func expectThereAndBackByChanges(t *testing.T, before []impl.Row, after []impl.Row) {
	t.Helper()
	changes := impl.ChangesOf(before, after)
	back := impl.InverseOf(changes.Changes)
	if changes.Code != impl.OK || back.Code != impl.OK {
		t.Fatalf("ChangesOf(%+v, %+v) = %+v, InverseOf = %+v", before, after, changes, back)
	}
	expectApply(t, "there", before, changes.Changes, after...)
	expectApply(t, "back", after, back.Changes, before...)
	if again := impl.InverseOf(back.Changes); again.Code != impl.OK || !slices.Equal(again.Changes, changes.Changes) {
		t.Fatalf("InverseOf twice = %+v, want %+v", again, changes.Changes)
	}
	other := impl.ChangesOf(after, before).Changes
	slices.Reverse(other)
	if !slices.Equal(other, back.Changes) {
		t.Errorf("the changes back are %+v, the inverse %+v", other, back.Changes)
	}
}

func TestWhatChangedIsTakenBackByItsInverse(t *testing.T) {
	some := []impl.Row{rowOf(0, 1, 8, ""), rowOf(1, 5, 1, "a"), rowOf(1, 9, 1, "b"), rowOf(3, 99, 0, "abcdefgh")}
	others := []impl.Row{rowOf(0, 1, 8, ""), rowOf(1, 5, 2, "a"), rowOf(2, 9, 1, "b"), rowOf(3, 99, 0, "abcdefg")}
	lists := [][]impl.Row{nil, some, others, some[1:], others[:2], manyRows(0, 30, 1), manyRows(15, 30, 2), edgeRows()[:1]}
	for _, before := range lists {
		for _, after := range lists {
			expectThereAndBackByChanges(t, before, after)
		}
	}
	expectThereAndBackByChanges(t, nil, manyRows(80, maxRows, 1))
	expectThereAndBackByChanges(t, manyRows(80, maxRows, 1), nil)
	expectThereAndBackByChanges(t, manyRows(80, maxRows, 1), manyRows(80, maxRows, 2))
	next := numbers(7)
	for range 2000 {
		expectThereAndBackByChanges(t, anyFewRows(next), anyFewRows(next))
	}
}

// Two lists without a key in common may change by more than InverseOf takes.
func TestTooManyChangesHaveNoInverse(t *testing.T) {
	changes := impl.ChangesOf(manyRows(0, 31, 1), manyRows(100, 30, 1))
	if changes.Code != impl.OK || len(changes.Changes) != 61 {
		t.Fatalf("ChangesOf = %+v", changes)
	}
	expectInverseCode(t, "61 changes", changes.Changes, impl.ErrMany)
	expectThereAndBackByChanges(t, manyRows(0, 30, 1), manyRows(100, 30, 1))
}
