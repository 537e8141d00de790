package tests

import (
	"slices"
	"strconv"
	"testing"

	"loop.example/g00408/impl"
)

// anyFewRows are rising rows of few keys, so that ops and locks meet them.
func anyFewRows(next func(int) int) []impl.Row {
	var rows []impl.Row
	for table := range int64(4) {
		for key := int64(1); key <= 5; key++ {
			switch r := rowOf(table, key, int64(next(9)), maxLetters[:next(4)]); {
			case table == 0 && key <= 3 && next(4) > 0:
				rows = append(rows, told(key, r.Val))
			case next(4) == 0:
				rows = append(rows, r)
			}
		}
	}
	return rows
}

// anyTxs have no fault: each key of few goes to one of them, or to none.
func anyTxs(next func(int) int) []impl.Tx {
	list := []impl.Tx{{Id: 1}, {Id: 2}, {Id: 50}, {Id: 99}}[:next(5)]
	left := 12
	for _, k := range slices.Concat(keysAt(0, 1, 5), keysAt(1, 1, 5), keysAt(2, 1, 5), keysAt(3, 1, 5)) {
		if len(list) == 0 || next(3) > 0 {
			continue
		}
		tx := &list[next(len(list))]
		if len(tx.Locks) == 12 {
			continue
		}
		tx.Locks = append(tx.Locks, k)
		for range min(left, next(3)) {
			tx.Undo = append(tx.Undo, put(rowOf(k.Table, k.Key, int64(next(9)), "")))
			left--
		}
	}
	for i := range list {
		for range next(9) {
			list[i].Marks = append(list[i].Marks, int64(next(len(list[i].Undo)+1)))
		}
		slices.Sort(list[i].Marks)
	}
	return list
}

// expectedBar says whether another one locks what holds k, case by case.
func expectedBar(list []impl.Tx, id int64, k impl.Key) bool {
	for _, tx := range list {
		for _, lock := range tx.Locks {
			switch {
			case tx.Id == id:
			case lock == k, k.Table != 0 && lock == keyAt(0, k.Table), k.Table == 0 && lock.Table == k.Key:
				return true
			}
		}
	}
	return false
}

func expectedRoom(rows []impl.Row, list []impl.Tx, more ...impl.Key) int {
	seen := map[impl.Key]int{}
	for _, r := range rows {
		seen[keyOfRow(r)]++
	}
	for _, tx := range list {
		more = append(more, tx.Locks...)
	}
	for _, k := range more {
		seen[k]++
	}
	return len(seen)
}

// expectedTurnOf goes by the words of the chapter: of a put, a set or a drop of a transaction that is there.
func expectedTurnOf(rows []impl.Row, list []impl.Tx, o impl.Op) impl.ChangeResult {
	at := slices.IndexFunc(rows, func(r impl.Row) bool { return keyOfRow(r) == keyOfRow(o.Row) })
	switch {
	case expectedBar(list, o.Tx, keyOfRow(o.Row)):
		return impl.ChangeResult{Code: impl.ErrLock}
	case o.Kind == impl.OpPut && at >= 0:
		return impl.ChangeResult{Code: impl.ErrTaken}
	case o.Kind != impl.OpPut && at < 0:
		return impl.ChangeResult{Code: impl.ErrNone}
	}
	var c impl.Change
	switch o.Kind {
	case impl.OpPut:
		c = put(o.Row)
	case impl.OpSet:
		c = turn(rows[at], o.Row)
	default:
		c = drop(rows[at])
	}
	switch code := expectedMayBe(rows, c); {
	case code != impl.OK:
		return impl.ChangeResult{Code: code}
	case expectedRoom(rows, list, keyOfRow(o.Row)) > 12, undoOfAll(list) >= 12:
		return impl.ChangeResult{Code: impl.ErrFull}
	case c.Was && c.Is && c.Before == c.After:
		return impl.ChangeResult{}
	}
	return impl.ChangeResult{Turns: true, Change: c}
}

func expectedCheck(rows []impl.Row, list []impl.Tx, o impl.Op) impl.ChangeResult {
	for _, code := range []int64{impl.RowsFault(rows), expectedTxsFault(list), expectedOpFault(o)} {
		if code != impl.OK {
			return impl.ChangeResult{Code: code}
		}
	}
	at := slices.IndexFunc(list, func(tx impl.Tx) bool { return tx.Id == o.Tx })
	switch {
	case o.Kind == impl.OpBegin && len(list) == 4:
		return impl.ChangeResult{Code: impl.ErrMany}
	case o.Kind == impl.OpBegin, o.Kind == impl.OpCheck:
		return impl.ChangeResult{}
	case at < 0:
		return impl.ChangeResult{Code: impl.ErrNone}
	case o.Kind == impl.OpMark && len(list[at].Marks) == 8:
		return impl.ChangeResult{Code: impl.ErrMany}
	case o.Kind == impl.OpBack && int(o.Mark) >= len(list[at].Marks):
		return impl.ChangeResult{Code: impl.ErrRange}
	case slices.Contains(rowKinds(), o.Kind):
		return expectedTurnOf(rows, list, o)
	}
	return impl.ChangeResult{}
}

// expectCheck asks the model, too, so that both say what the test says.
func expectCheck(t *testing.T, name string, rows []impl.Row, list []impl.Tx, o impl.Op, want impl.ChangeResult) {
	t.Helper()
	if model := expectedCheck(rows, list, o); model != want {
		t.Fatalf("%s: the model has %+v, want %+v", name, model, want)
	}
	if got := impl.CheckOp(rows, list, o); got != want {
		t.Errorf("%s: CheckOp of %+v = %+v, want %+v", name, o, got, want)
	}
}

func expectTurns(t *testing.T, name string, rows []impl.Row, list []impl.Tx, o impl.Op, c impl.Change) {
	t.Helper()
	expectCheck(t, name, rows, list, o, impl.ChangeResult{Turns: true, Change: c})
}

// expectStays is so of what may be done, and turns no row.
func expectStays(t *testing.T, name string, rows []impl.Row, list []impl.Tx, o impl.Op) {
	t.Helper()
	expectCheck(t, name, rows, list, o, impl.ChangeResult{})
}

func expectNot(t *testing.T, name string, rows []impl.Row, list []impl.Tx, o impl.Op, code int64) {
	t.Helper()
	expectCheck(t, name, rows, list, o, impl.ChangeResult{Code: code})
}

func TestCheckOpOfBegin(t *testing.T) {
	rows, o := manyRows(0, maxRows, 1), impl.Op{Kind: impl.OpBegin}
	for count := range 4 {
		expectStays(t, strconv.Itoa(count)+" are there", rows, plainTxs(count), o)
	}
	expectNot(t, "four are there", rows, plainTxs(4), o, impl.ErrMany)
	expectNot(t, "four are there, without anything", nil, []impl.Tx{{Id: 1}, {Id: 2}, {Id: 3}, {Id: 4}}, o, impl.ErrMany)
	full := []impl.Tx{turner(1, backAndForth(1, 1, 12)...)}
	expectStays(t, "there is no room", rows, full, o)
}

func TestCheckOpOfCheck(t *testing.T) {
	for count := range 5 {
		expectStays(t, "a check", nil, plainTxs(count), impl.Op{Kind: impl.OpCheck})
		expectStays(t, "a check of rows", manyRows(0, maxRows, 1), plainTxs(count), impl.Op{Kind: impl.OpCheck})
	}
}

func TestCheckOpOfNoTransaction(t *testing.T) {
	rows := []impl.Row{told(1, 8), rowOf(1, 2, 3, "abc")}
	for kind := int64(minKind); kind <= maxKind; kind++ {
		if !partsOf(kind).tx {
			continue
		}
		for _, tx := range []int64{1, 9, 11, 25, 41, 99} {
			expectNot(t, "there is none", rows, plainTxs(4), rightOp(kind, tx), impl.ErrNone)
			expectNot(t, "there is nobody", rows, nil, rightOp(kind, tx), impl.ErrNone)
		}
	}
	barred := []impl.Tx{locker(5, keyAt(1, 2))}
	for _, kind := range rowKinds() {
		expectNot(t, "there is none, and another one locks it", rows, barred, rightOp(kind, 6), impl.ErrNone)
	}
	expectNot(t, "there is none, and no mark", nil, barred, backOp(6, 7), impl.ErrNone)
}

func TestCheckOpOfMarks(t *testing.T) {
	for count := range int64(9) {
		tx := withMarks(impl.Tx{Id: 9}, make([]int64, count)...)
		list, mark := []impl.Tx{withMarks(impl.Tx{Id: 8}, make([]int64, 8)...), tx, {Id: 10}}, impl.Op{Kind: impl.OpMark, Tx: 9}
		if count < 8 {
			expectStays(t, strconv.FormatInt(count, 10)+" marks", nil, list, mark)
		} else {
			expectNot(t, "8 marks", nil, list, mark, impl.ErrMany)
		}
		for number := range int64(8) {
			if number < count {
				expectStays(t, "back", nil, list, backOp(9, number))
			} else {
				expectNot(t, "back to none", nil, list, backOp(9, number), impl.ErrRange)
			}
			expectNot(t, "back of one that has none", nil, list, backOp(10, number), impl.ErrRange)
		}
		expectNot(t, "back to 8", nil, list, backOp(9, 8), impl.ErrRange)
	}
}

func TestCheckOpOfEnds(t *testing.T) {
	for _, kind := range []int64{impl.OpCommit, impl.OpAbort} {
		for _, list := range [][]impl.Tx{{{Id: 10}}, plainTxs(1), plainTxs(4), {turner(10, backAndForth(1, 1, 12)...)}} {
			expectStays(t, "an end", nil, list, impl.Op{Kind: kind, Tx: 10})
			expectStays(t, "an end with rows", manyRows(0, maxRows, 1), list, impl.Op{Kind: kind, Tx: 10})
		}
	}
}

// Each op of each transaction, at rows that are there and rows that are not.
func TestCheckOpOfRows(t *testing.T) {
	one, two := rowOf(1, 5, 1, "abc"), rowOf(2, 99, 2, "")
	rows, list := []impl.Row{told(1, 3), told(2, 0), one, two}, []impl.Tx{{Id: 1}, {Id: 99}}
	for _, tx := range []int64{1, 99} {
		expectTurns(t, "a put", rows, list, rowOp(impl.OpPut, tx, rowOf(1, 6, 999, "xyz")), put(rowOf(1, 6, 999, "xyz")))
		expectTurns(t, "a put of a table", rows, list, rowOp(impl.OpPut, tx, told(3, 8)), put(told(3, 8)))
		expectTurns(t, "a set", rows, list, rowOp(impl.OpSet, tx, rowOf(1, 5, 1, "ab")), turn(one, rowOf(1, 5, 1, "ab")))
		expectTurns(t, "a set of Val", rows, list, rowOp(impl.OpSet, tx, rowOf(2, 99, 3, "")), turn(two, rowOf(2, 99, 3, "")))
		expectTurns(t, "a set of a table", rows, list, rowOp(impl.OpSet, tx, told(1, 4)), turn(told(1, 3), told(1, 4)))
		expectTurns(t, "a drop", rows, list, rowOp(impl.OpDrop, tx, one), drop(one))
		expectTurns(t, "a drop of the last one", rows, list, rowOp(impl.OpDrop, tx, two), drop(two))
		expectStays(t, "a set of the same row", rows, list, rowOp(impl.OpSet, tx, one))
		expectStays(t, "a set of the same table", rows, list, rowOp(impl.OpSet, tx, told(2, 0)))
		for _, r := range rows {
			expectNot(t, "a put of one there", rows, list, rowOp(impl.OpPut, tx, r), impl.ErrTaken)
			r.Key = 50
			expectNot(t, "a set of one not there", rows, list, rowOp(impl.OpSet, tx, r), impl.ErrNone)
			expectNot(t, "a drop of one not there", rows, list, rowOp(impl.OpDrop, tx, r), impl.ErrNone)
		}
		expectNot(t, "a put of another one there", rows, list, rowOp(impl.OpPut, tx, rowOf(1, 5, 7, "")), impl.ErrTaken)
		expectNot(t, "a set of one in another table", rows, list, rowOp(impl.OpSet, tx, rowOf(2, 5, 1, "")), impl.ErrNone)
	}
	table := told(3, 8)
	expectTurns(t, "a drop of a table without rows", []impl.Row{table}, list, rowOp(impl.OpDrop, 1, table), drop(table))
}

// Each code of MayBe, of a put, a set and a drop.
func TestCheckOpOfWhatMayNotBe(t *testing.T) {
	one := rowOf(1, 5, 1, "abc")
	odd := rowOf(0, 50, 9, "odd")
	rows, list := []impl.Row{told(1, 3), odd, one, rowOf(3, 7, 0, "")}, []impl.Tx{{Id: 4}}
	expectNot(t, "a put into no table", rows, list, rowOp(impl.OpPut, 4, rowOf(2, 1, 0, "")), impl.ErrNone)
	expectNot(t, "a put too long", rows, list, rowOp(impl.OpPut, 4, rowOf(1, 6, 0, "abcd")), impl.ErrType)
	expectNot(t, "a set too long", rows, list, rowOp(impl.OpSet, 4, rowOf(1, 5, 0, "abcd")), impl.ErrType)
	expectNot(t, "a set in no table", rows, list, rowOp(impl.OpSet, 4, rowOf(3, 7, 1, "")), impl.ErrNone)
	expectNot(t, "a set of the same row in no table", rows, list, rowOp(impl.OpSet, 4, rowOf(3, 7, 0, "")), impl.ErrNone)
	expectTurns(t, "a drop in no table", rows, list, rowOp(impl.OpDrop, 4, rowOf(3, 7, 0, "")), drop(rowOf(3, 7, 0, "")))
	expectNot(t, "a put of a table 4", rows, list, rowOp(impl.OpPut, 4, told(4, 3)), impl.ErrType)
	expectNot(t, "a put of a table of 9", rows, list, rowOp(impl.OpPut, 4, told(2, 9)), impl.ErrType)
	expectNot(t, "a put of a table with a Text", rows, list, rowOp(impl.OpPut, 4, rowOf(0, 2, 3, "a")), impl.ErrType)
	expectNot(t, "a set of a table to 9", rows, list, rowOp(impl.OpSet, 4, told(1, 9)), impl.ErrType)
	expectNot(t, "a set of what tells no table", rows, list, rowOp(impl.OpSet, 4, told(50, 8)), impl.ErrType)
	expectNot(t, "the same of what tells no table", rows, list, rowOp(impl.OpSet, 4, odd), impl.ErrType)
	expectTurns(t, "a drop of what tells no table", rows, list, rowOp(impl.OpDrop, 4, odd), drop(odd))
	expectNot(t, "a set of a table with longer rows", rows, list, rowOp(impl.OpSet, 4, told(1, 2)), impl.ErrState)
	expectNot(t, "a drop of a table with rows", rows, list, rowOp(impl.OpDrop, 4, told(1, 3)), impl.ErrState)
	expectNot(t, "a put of a table with longer rows", []impl.Row{one}, list, rowOp(impl.OpPut, 4, told(1, 2)), impl.ErrState)
	short := []impl.Row{told(1, 2), one}
	expectNot(t, "the same row, too long", short, list, rowOp(impl.OpSet, 4, one), impl.ErrType)
	expectNot(t, "the same table, with longer rows", short, list, rowOp(impl.OpSet, 4, told(1, 2)), impl.ErrState)
	expectTurns(t, "a drop of one too long", short, list, rowOp(impl.OpDrop, 4, one), drop(one))
}

// What one locks no other may turn, and it itself may: put, set and drop of it.
func TestCheckOpOfLocks(t *testing.T) {
	there, free := rowOf(1, 5, 1, "a"), rowOf(1, 6, 1, "a")
	rows := []impl.Row{told(1, 8), there}
	other := rowOf(1, 5, 2, "b")
	for _, lists := range [][2][]impl.Tx{
		{{locker(1, keyOfRow(there), keyOfRow(free)), {Id: 2}}, {{Id: 1}, locker(2, keyOfRow(there), keyOfRow(free))}},
		{{turner(1, drop(free), put(there)), {Id: 2}, {Id: 3}}, {locker(2, keyOfRow(free), keyOfRow(there)), {Id: 3}}},
	} {
		first, second := lists[0], lists[1]
		for _, o := range []impl.Op{rowOp(impl.OpPut, 0, free), rowOp(impl.OpPut, 0, there), rowOp(impl.OpSet, 0, other), rowOp(impl.OpSet, 0, there), rowOp(impl.OpSet, 0, free), rowOp(impl.OpDrop, 0, there), rowOp(impl.OpDrop, 0, free)} {
			o.Tx = 2
			expectNot(t, "1 locks it", rows, first, o, impl.ErrLock)
			if got := impl.CheckOp(rows, second, o); got.Code == impl.ErrLock {
				t.Errorf("2 locks it itself: CheckOp of %+v = %+v", o, got)
			}
		}
		expectTurns(t, "its own put", rows, second, rowOp(impl.OpPut, 2, free), put(free))
		expectTurns(t, "its own set", rows, second, rowOp(impl.OpSet, 2, other), turn(there, other))
		expectTurns(t, "its own drop", rows, second, rowOp(impl.OpDrop, 2, there), drop(there))
		expectStays(t, "its own set of the same row", rows, second, rowOp(impl.OpSet, 2, there))
		expectTurns(t, "another key", rows, first, rowOp(impl.OpPut, 2, rowOf(1, 7, 0, "")), put(rowOf(1, 7, 0, "")))
	}
	near := []impl.Tx{{Id: 1}, locker(2, keyAt(1, 4), keyAt(1, 7), keyAt(2, 5), keyAt(2, 6), keyAt(3, 5), keyAt(0, 5))}
	expectTurns(t, "keys near it are locked", rows, near, rowOp(impl.OpPut, 1, free), put(free))
	expectTurns(t, "keys near it are locked", rows, near, rowOp(impl.OpDrop, 1, there), drop(there))
}

// Locks that are left behind a mark bar others as all do, with nothing in Undo, too.
func TestCheckOpOfLocksBehindAMark(t *testing.T) {
	rows := append([]impl.Row{told(1, 8)}, manyRows(99, 3, 1)...)
	all := turner(5, putsOf(manyRows(99, 6, 1))...)
	for left := range 7 {
		tx := cloneTx(all)
		tx.Undo = tx.Undo[:left]
		list := []impl.Tx{{Id: 4}, tx, {Id: 6}}
		for i, k := range all.Locks {
			for _, kind := range rowKinds() {
				expectNot(t, "another one", rows, list, rowOp(kind, 4, rowOf(k.Table, k.Key, 9, "")), impl.ErrLock)
				expectNot(t, "another one", rows, list, rowOp(kind, 6, rowOf(k.Table, k.Key, 9, "")), impl.ErrLock)
			}
			own := rowOf(k.Table, k.Key, 9, "")
			if i < 3 {
				expectTurns(t, "it itself", rows, list, rowOp(impl.OpSet, 5, own), turn(rows[i+1], own))
				expectTurns(t, "it itself", rows, list, rowOp(impl.OpDrop, 5, own), drop(rows[i+1]))
			} else {
				expectTurns(t, "it itself", rows, list, rowOp(impl.OpPut, 5, own), put(own))
			}
		}
	}
}

// Who locks the key of a table keeps others from the rows in it, and nobody from those of other tables.
func TestCheckOpOfRowsWhoseTableIsLocked(t *testing.T) {
	for table := int64(1); table <= 3; table++ {
		there, gone := rowOf(table, 5, 1, "a"), rowOf(table, 9, 1, "a")
		rows := []impl.Row{told(1, 8), told(2, 8), told(3, 8), there}
		turns := map[int64]impl.Change{impl.OpPut: put(gone), impl.OpSet: turn(there, rowOf(table, 5, 2, "")), impl.OpDrop: drop(there)}
		for kind, c := range turns {
			wanted := c.After
			if kind == impl.OpDrop {
				wanted = there
			}
			o := rowOp(kind, 2, wanted)
			for number := int64(1); number <= 99; number++ {
				others := [][]impl.Tx{{locker(1, keyAt(0, number)), {Id: 2}}, {{Id: 2}, locker(3, keyAt(0, number))}, {{Id: 2}, {Id: 3}, turner(4, put(rowOf(0, number, 8, "")))}}
				for _, list := range others {
					if number == table {
						expectNot(t, "another one locks its table", rows, list, o, impl.ErrLock)
					} else {
						expectTurns(t, "another one locks another table", rows, list, o, c)
					}
				}
				expectTurns(t, "it itself locks a table", rows, []impl.Tx{{Id: 1}, locker(2, keyAt(0, number)), {Id: 3}}, o, c)
			}
			several := []impl.Tx{locker(1, keyAt(3, 50), keyAt(1, 50), keyAt(0, 50), keyAt(0, table)), {Id: 2}}
			expectNot(t, "the last lock is its table", rows, several, o, impl.ErrLock)
		}
		expectNot(t, "the same row, and another one locks its table", rows, []impl.Tx{locker(1, keyAt(0, table)), {Id: 2}}, rowOp(impl.OpSet, 2, there), impl.ErrLock)
	}
}

// Who locks a row keeps others from the row that tells its table, and nobody from those that tell other ones.
func TestCheckOpOfTablesWhoseRowsAreLocked(t *testing.T) {
	for number := int64(1); number <= 3; number++ {
		there := told(number, 3)
		turns := map[int64]impl.Change{impl.OpPut: put(there), impl.OpSet: turn(there, told(number, 8)), impl.OpDrop: drop(there)}
		for kind, c := range turns {
			rows, o := []impl.Row{there}, rowOp(kind, 2, c.After)
			switch kind {
			case impl.OpPut:
				rows = nil
			case impl.OpDrop:
				o = rowOp(kind, 2, there)
			}
			for _, k := range allKeys() {
				others := [][]impl.Tx{{locker(1, k), {Id: 2}}, {{Id: 2}, {Id: 4}, locker(99, k)}}
				for _, list := range others {
					if k.Table == number || k == keyOfRow(there) {
						expectNot(t, "another one locks a row of it", rows, list, o, impl.ErrLock)
					} else {
						expectTurns(t, "another one locks another key", rows, list, o, c)
					}
				}
				expectTurns(t, "it itself locks a key", rows, []impl.Tx{{Id: 1}, locker(2, k), {Id: 3}}, o, c)
			}
			several := []impl.Tx{{Id: 2}, locker(3, keyAt((number+1)%4, 50), keyAt((number+2)%4, 50), keyAt(number, 99))}
			expectNot(t, "the last lock is a row of it", rows, several, o, impl.ErrLock)
		}
	}
}

// A row of table 0 whose Key is above 3 tells no table, so that no lock but its own holds it.
func TestCheckOpOfWhatTellsNoTable(t *testing.T) {
	for _, key := range []int64{4, 5, 50, 99} {
		there := rowOf(0, key, 3, "a")
		rows := []impl.Row{there}
		for _, k := range append(keysAt(1, 1, 99), append(keysAt(2, key, 1), keysAt(3, key, 1)...)...) {
			list := []impl.Tx{locker(1, k), {Id: 2}}
			expectTurns(t, "a drop", rows, list, rowOp(impl.OpDrop, 2, there), drop(there))
			expectNot(t, "a put", nil, list, rowOp(impl.OpPut, 2, there), impl.ErrType)
			expectNot(t, "a put of one there", rows, list, rowOp(impl.OpPut, 2, there), impl.ErrTaken)
			expectNot(t, "a set", rows, list, rowOp(impl.OpSet, 2, told(key, 3)), impl.ErrType)
		}
		for _, kind := range rowKinds() {
			expectNot(t, "its own lock", rows, []impl.Tx{locker(1, keyAt(0, key)), {Id: 2}}, rowOp(kind, 2, there), impl.ErrLock)
		}
	}
}

// fullTxs have 12 changes in Undo, all of the key 3/99, by the last one.
func fullTxs(ids ...int64) []impl.Tx {
	var list []impl.Tx
	for _, id := range ids {
		list = append(list, impl.Tx{Id: id})
	}
	list[len(ids)-1] = turner(ids[len(ids)-1], backAndForth(3, 99, 12)...)
	return list
}

// At 12 keys one that is there already may be turned, and no new one.
func TestCheckOpAtTheEndOfTheRoom(t *testing.T) {
	for count := int64(1); count <= 13; count++ {
		rows := append([]impl.Row{told(1, 8)}, manyRows(99, int(count)-1, 1)...)
		list := []impl.Tx{{Id: 1}, {Id: 2}}
		fresh, last := rowOf(1, 50, 1, ""), rows[len(rows)-1]
		if count < 12 {
			expectTurns(t, "a new key", rows, list, rowOp(impl.OpPut, 1, fresh), put(fresh))
		} else {
			expectNot(t, "a new key at 12", rows, list, rowOp(impl.OpPut, 1, fresh), impl.ErrFull)
		}
		for _, kind := range []int64{impl.OpSet, impl.OpDrop} {
			if count == 1 {
				continue
			}
			o, c := rowOp(kind, 1, rowOf(1, last.Key, 9, "")), turn(last, rowOf(1, last.Key, 9, ""))
			if kind == impl.OpDrop {
				c = drop(last)
			}
			if count <= 12 {
				expectTurns(t, "a key that is there", rows, list, o, c)
				expectStays(t, "the same row", rows, list, rowOp(impl.OpSet, 1, last))
			} else {
				expectNot(t, "a key of 13 that are there", rows, list, o, impl.ErrFull)
				expectNot(t, "the same row of 13", rows, list, rowOp(impl.OpSet, 1, last), impl.ErrFull)
			}
		}
	}
}

// Locks take room as rows do, those of others and its own, and a key that is both takes it once.
func TestCheckOpOfRoomThatLocksTake(t *testing.T) {
	rows, fresh, free := append([]impl.Row{told(1, 8)}, manyRows(99, 3, 1)...), rowOf(1, 50, 1, ""), rowOf(1, 60, 2, "")
	for _, list := range [][]impl.Tx{
		{{Id: 1}, locker(2, keysAt(1, 60, 8)...)},
		{locker(1, keysAt(1, 60, 8)...), {Id: 2}},
		{locker(1, keysAt(1, 60, 4)...), locker(2, keysAt(1, 64, 4)...)},
		{locker(1, append(keysAt(1, 60, 4), keyAt(1, 1))...), locker(2, append(keysAt(1, 64, 4), keyAt(1, 2))...)},
	} {
		expectNot(t, "12 are taken", rows, list, rowOp(impl.OpPut, 1, fresh), impl.ErrFull)
		expectTurns(t, "12 are taken, and it is one of them", rows, list, rowOp(impl.OpDrop, 1, rows[1]), drop(rows[1]))
		less := cloneTxs(list)
		for i := range less {
			less[i].Locks = slices.DeleteFunc(less[i].Locks, func(k impl.Key) bool { return k == keyOfRow(free) })
		}
		expectTurns(t, "11 are taken", rows, less, rowOp(impl.OpPut, 1, fresh), put(fresh))
	}
	own := []impl.Tx{locker(1, keysAt(1, 60, 8)...), {Id: 2}}
	expectTurns(t, "a key that it locks itself", rows, own, rowOp(impl.OpPut, 1, free), put(free))
	all := []impl.Tx{locker(1, append(keysAt(1, 60, 11), keyAt(0, 1))...), {Id: 2}}
	expectTurns(t, "12 locks, and one of them is put", nil, all, rowOp(impl.OpPut, 1, told(1, 8)), put(told(1, 8)))
	expectNot(t, "12 locks, and none of them", nil, all, rowOp(impl.OpPut, 1, told(2, 8)), impl.ErrFull)
}

// With 12 in Undo of all nothing may be turned, be the key there or not.
func TestCheckOpAtTheEndOfUndo(t *testing.T) {
	there := rowOf(1, 5, 1, "a")
	rows := []impl.Row{told(1, 8), told(3, 8), there, rowOf(3, 99, 1, "a")}
	for count := range 13 {
		for first := range count + 1 {
			list := []impl.Tx{{Id: 1}, turner(2, backAndForth(2, 5, first)...), turner(3, backAndForth(3, 99, count-first)...)}
			for tx := int64(1); tx <= 3; tx++ {
				if count < 12 {
					expectTurns(t, "a put", rows, list, rowOp(impl.OpPut, tx, rowOf(1, 6, 0, "")), put(rowOf(1, 6, 0, "")))
					expectTurns(t, "a set", rows, list, rowOp(impl.OpSet, tx, rowOf(1, 5, 0, "")), turn(there, rowOf(1, 5, 0, "")))
					expectTurns(t, "a drop", rows, list, rowOp(impl.OpDrop, tx, there), drop(there))
					expectStays(t, "the same row", rows, list, rowOp(impl.OpSet, tx, there))
					continue
				}
				expectNot(t, "a put at 12", rows, list, rowOp(impl.OpPut, tx, rowOf(1, 6, 0, "")), impl.ErrFull)
				expectNot(t, "a set at 12", rows, list, rowOp(impl.OpSet, tx, rowOf(1, 5, 0, "")), impl.ErrFull)
				expectNot(t, "a drop at 12", rows, list, rowOp(impl.OpDrop, tx, there), impl.ErrFull)
				expectNot(t, "the same row at 12", rows, list, rowOp(impl.OpSet, tx, there), impl.ErrFull)
				expectStays(t, "a mark at 12", rows, list, impl.Op{Kind: impl.OpMark, Tx: tx})
				expectStays(t, "an end at 12", rows, list, impl.Op{Kind: impl.OpCommit, Tx: tx})
			}
		}
	}
}

// ErrLock is told ahead of ErrTaken and ErrNone, these ahead of what may not be, and that ahead of ErrFull.
func TestCheckOpTellsItsCodesInOrder(t *testing.T) {
	there, long := rowOf(1, 5, 1, "abc"), rowOf(1, 5, 1, "abcdefgh")
	rows := []impl.Row{told(1, 3), there}
	free, barred := fullTxs(1, 2), fullTxs(1, 2)
	barred[1].Locks = append(barred[1].Locks, keyAt(1, 5), keyAt(1, 6), keyAt(0, 2), keyAt(2, 1))
	codes := []struct {
		name string
		o    impl.Op
		free int64
	}{
		{"a put of one there", rowOp(impl.OpPut, 1, there), impl.ErrTaken},
		{"a put of one there, too long", rowOp(impl.OpPut, 1, long), impl.ErrTaken},
		{"a put of one there, into another table", rowOp(impl.OpPut, 1, told(1, 9)), impl.ErrTaken},
		{"a put too long", rowOp(impl.OpPut, 1, rowOf(1, 6, 0, "abcd")), impl.ErrType},
		{"a put into no table", rowOp(impl.OpPut, 1, rowOf(2, 6, 0, "")), impl.ErrNone},
		{"a put of no table", rowOp(impl.OpPut, 1, told(2, 9)), impl.ErrType},
		{"a put", rowOp(impl.OpPut, 1, rowOf(1, 6, 0, "")), impl.ErrFull},
		{"a set of one not there", rowOp(impl.OpSet, 1, rowOf(1, 6, 0, "")), impl.ErrNone},
		{"a set of one not there, too long", rowOp(impl.OpSet, 1, rowOf(1, 6, 0, "abcd")), impl.ErrNone},
		{"a set of one not there, of no table", rowOp(impl.OpSet, 1, told(2, 9)), impl.ErrNone},
		{"a set too long", rowOp(impl.OpSet, 1, long), impl.ErrType},
		{"a set of a table, with longer rows", rowOp(impl.OpSet, 1, told(1, 2)), impl.ErrState},
		{"a set", rowOp(impl.OpSet, 1, rowOf(1, 5, 2, "")), impl.ErrFull},
		{"a set of the same row", rowOp(impl.OpSet, 1, there), impl.ErrFull},
		{"a drop of one not there", rowOp(impl.OpDrop, 1, rowOf(1, 6, 0, "")), impl.ErrNone},
		{"a drop of a table with rows", rowOp(impl.OpDrop, 1, told(1, 3)), impl.ErrState},
		{"a drop", rowOp(impl.OpDrop, 1, there), impl.ErrFull},
	}
	for _, c := range codes {
		expectNot(t, c.name, rows, free, c.o, c.free)
		expectNot(t, c.name+", locked", rows, barred, c.o, impl.ErrLock)
		expectNot(t, c.name+", among many rows", slices.Concat(rows, manyRows(3*99, 30, 1)), []impl.Tx{{Id: 1}}, c.o, c.free)
	}
}

// The OpFault is asked ahead of all that hangs on transactions and rows.
func TestCheckOpAsksTheOpFaultFirst(t *testing.T) {
	lists := [][]impl.Tx{nil, plainTxs(4), {locker(1, keyAt(1, 2))}, fullTxs(1, 2)}
	for _, list := range lists {
		for _, rows := range [][]impl.Row{nil, {told(1, 8), rowOf(1, 2, 3, "abc")}, manyRows(0, maxRows, 1)} {
			for _, tx := range []int64{0, 1, 10, 77, 99, 100} {
				for kind := int64(minKind - 1); kind <= maxKind+1; kind++ {
					for _, mark := range []int64{-1, 0, 1, 7, 8} {
						for _, r := range []impl.Row{{}, rowOf(1, 2, 0, ""), rowOf(1, 2, 3, "abc"), rowOf(1, 2, 3, "A"), rowOf(4, 2, 0, "")} {
							o := impl.Op{Kind: kind, Tx: tx, Row: r, Mark: mark}
							if code := expectedOpFault(o); code != impl.OK {
								expectNot(t, "a wrong op", rows, list, o, code)
							}
						}
					}
				}
			}
		}
	}
}

func anyOp(next func(int) int) impl.Op {
	o := impl.Op{Kind: int64(2 + next(3)), Tx: []int64{1, 2, 50, 99}[next(4)]}
	r := rowOf(int64(next(4)), int64(1+next(5)), int64(next(9)), maxLetters[:next(4)])
	if r.Table == 0 && next(3) > 0 {
		r.Text = ""
	}
	switch next(12) {
	case 0:
		o.Kind = int64(next(11))
	case 1:
		return rightOp(int64(1+next(9)), o.Tx)
	case 2:
		return backOp(o.Tx, int64(next(8)))
	}
	o = rowOp(o.Kind, o.Tx, r)
	if next(30) == 0 {
		o.Mark = int64(next(9))
	}
	return o
}

// Any rows, any transactions and any op: the code, and what it turns, are those of the words of the chapter.
func TestCheckOpOfAny(t *testing.T) {
	next, counts := numbers(10), map[string]int{}
	for range 60000 {
		rows, list, o := anyFewRows(next), anyTxs(next), anyOp(next)
		if next(3) == 0 && len(rows) > 0 {
			r := rows[next(len(rows))]
			o = rowOp(int64(2+next(3)), o.Tx, r)
		}
		if next(3) > 0 && len(rows) > 6 {
			rows = rows[:6]
		}
		want := expectedCheck(rows, list, o)
		counts[strconv.FormatInt(o.Kind, 10)+":"+strconv.FormatInt(want.Code, 10)+strconv.FormatBool(want.Turns)]++
		if got := impl.CheckOp(rows, list, o); got != want {
			t.Fatalf("CheckOp(%+v, %+v, %+v) = %+v, want %+v", rows, list, o, got, want)
		}
	}
	for _, way := range []string{"1:0false", "1:2false", "9:0false", "5:0false", "5:2false", "5:4false", "6:0false", "6:3false", "6:4false", "7:0false", "8:4false",
		"2:0true", "2:4false", "2:6false", "2:7false", "2:8false", "2:9false", "2:10false",
		"3:0true", "3:0false", "3:4false", "3:7false", "3:8false", "3:9false", "3:10false",
		"4:0true", "4:4false", "4:7false", "4:8false", "4:9false"} {
		if counts[way] == 0 {
			t.Errorf("no op goes the way %s: %v", way, counts)
		}
	}
}
