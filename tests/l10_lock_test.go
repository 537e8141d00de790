package tests

import (
	"math"
	"slices"
	"testing"

	"loop.example/g00408/impl"
)

func allKeys() []impl.Key {
	var keys []impl.Key
	for table := range int64(4) {
		keys = append(keys, keysAt(table, 1, 99)...)
	}
	return keys
}

func noKeys() []impl.Key {
	keys := []impl.Key{{}, keyAt(3, 0), keyAt(4, 1), keyAt(4, 99), keyAt(0, 100), keyAt(-1, 1)}
	for _, n := range []int64{math.MinInt64, -1 << 32, -256, -1, 100, 256, 257, 1<<32 + 1, math.MaxInt64} {
		keys = append(keys, keyAt(n, 1), keyAt(0, n), keyAt(n, n))
	}
	return keys
}

func expectLockOf(t *testing.T, name string, list []impl.Tx, k impl.Key, id int64) {
	t.Helper()
	if got := impl.LockOf(list, k); got != (impl.IntResult{Value: id}) {
		t.Errorf("%s: LockOf %+v = %+v, want %d", name, k, got, id)
	}
}

func TestLockOfAllKeys(t *testing.T) {
	lists := map[string][]impl.Tx{
		"nil":         nil,
		"none":        {},
		"no locks":    {{Id: 1}, {Id: 99}},
		"one":         {locker(99, keyAt(0, 1), keyAt(3, 99))},
		"some":        plainTxs(4),
		"Undo and no": {turner(4, backAndForth(1, 5, 3)...), locker(5, keyAt(1, 6))},
		"many":        {locker(1, keysAt(0, 1, 12)...), locker(2, keysAt(1, 1, 12)...), locker(98, keysAt(0, 13, 12)...), locker(99, keysAt(3, 88, 12)...)},
	}
	for name, list := range lists {
		owners := map[impl.Key]int64{}
		for _, tx := range list {
			for _, k := range tx.Locks {
				owners[k] = tx.Id
			}
		}
		for _, k := range allKeys() {
			expectLockOf(t, name, list, k, owners[k])
		}
	}
}

// What is locked is told by the key itself alone, be it that of a table or of a row in it.
func TestLockOfTellsJustThatKey(t *testing.T) {
	table := []impl.Tx{locker(5, keyAt(0, 1))}
	expectLockOf(t, "a table is locked", table, keyAt(1, 1), 0)
	expectLockOf(t, "a table is locked", table, keyAt(0, 1), 5)
	row := []impl.Tx{locker(5, keyAt(1, 7))}
	expectLockOf(t, "a row is locked", row, keyAt(0, 1), 0)
	expectLockOf(t, "a row is locked", row, keyAt(0, 7), 0)
	expectLockOf(t, "a row is locked", row, keyAt(1, 7), 5)
}

func TestLockOfNoKey(t *testing.T) {
	for _, list := range [][]impl.Tx{nil, plainTxs(4), {locker(1, keyAt(0, 1))}} {
		for _, k := range noKeys() {
			if got := impl.LockOf(list, k); got != (impl.IntResult{Code: impl.ErrRange}) {
				t.Errorf("LockOf %+v = %+v, want ErrRange alone", k, got)
			}
		}
	}
}

// Locks that are left behind a mark are told, whether anything is left in Undo or not.
func TestLockOfBehindAMark(t *testing.T) {
	all := turner(5, putsOf(manyRows(99, 6, 1))...)
	for left := range 7 {
		tx := cloneTx(all)
		tx.Undo = tx.Undo[:left]
		for _, k := range all.Locks {
			expectLockOf(t, "behind a mark", []impl.Tx{{Id: 4}, tx, {Id: 6}}, k, 5)
		}
	}
}

func expectRoom(t *testing.T, name string, rows []impl.Row, list []impl.Tx, want int64) {
	t.Helper()
	if got := impl.RoomOf(rows, list); got != (impl.IntResult{Value: want}) {
		t.Errorf("%s: RoomOf = %+v, want %d", name, got, want)
	}
}

func TestRoomOfCountsEachKeyOnce(t *testing.T) {
	rows := []impl.Row{told(1, 8), rowOf(1, 5, 0, "a"), rowOf(2, 5, 0, "a")}
	expectRoom(t, "nothing", nil, nil, 0)
	expectRoom(t, "empty lists", []impl.Row{}, []impl.Tx{}, 0)
	expectRoom(t, "no locks", nil, []impl.Tx{{Id: 1}, {Id: 2}}, 0)
	expectRoom(t, "rows alone", rows, nil, 3)
	expectRoom(t, "rows and no locks", rows, []impl.Tx{{Id: 1}}, 3)
	expectRoom(t, "locks alone", nil, []impl.Tx{locker(1, keyAt(1, 5), keyAt(1, 6)), locker(2, keyAt(2, 5))}, 3)
	expectRoom(t, "the same keys", rows, []impl.Tx{locker(1, keyAt(1, 5)), locker(2, keyAt(2, 5), keyAt(0, 1))}, 3)
	expectRoom(t, "others", rows, []impl.Tx{locker(1, keyAt(1, 6)), locker(2, keyAt(2, 6), keyAt(0, 2))}, 6)
	expectRoom(t, "some of both", rows, []impl.Tx{locker(1, keyAt(1, 5), keyAt(1, 6)), locker(2, keyAt(0, 5))}, 5)
	expectRoom(t, "a key the other way round", rows, []impl.Tx{locker(1, keyAt(1, 2)), locker(2, keyAt(2, 1), keyAt(3, 2))}, 6)
	expectRoom(t, "Undo counts by its locks", rows, []impl.Tx{turner(1, backAndForth(1, 5, 4)...), turner(2, backAndForth(1, 6, 4)...)}, 4)
	expectRoom(t, "Marks count nothing", nil, []impl.Tx{withMarks(locker(1, keyAt(1, 1)), 0, 0, 0)}, 1)
}

// There may be more keys than MaxRoom: it is counted, and not asked.
func TestRoomOfMany(t *testing.T) {
	for count := range maxRows + 1 {
		expectRoom(t, "rows", manyRows(50, count, 1), nil, int64(count))
	}
	var list []impl.Tx
	for i := range int64(4) {
		list = append(list, locker(i+1, keysAt(3, 1+12*i, 12)...))
	}
	expectRoom(t, "locks", nil, list, 48)
	expectRoom(t, "rows and locks", manyRows(0, maxRows, 1), list, 108)
	expectRoom(t, "rows that are locked", manyRows(3*99, maxRows, 1), list, 60)
	expectRoom(t, "some that are", manyRows(3*99+40, maxRows-1, 1), list, 59+40)
	expectRoom(t, "12 and 1", nil, []impl.Tx{locker(1, keysAt(1, 1, 12)...), locker(2, keyAt(2, 1))}, 13)
	expectRoom(t, "12 rows and a key of them", manyRows(99, 12, 1), []impl.Tx{locker(2, keyAt(1, 12))}, 12)
	expectRoom(t, "12 rows and a key more", manyRows(99, 12, 1), []impl.Tx{locker(2, keyAt(1, 13))}, 13)
}

// faultyRowLists are lists that have a RowsFault, each with its code.
func faultyRowLists() map[int64][]impl.Row {
	return map[int64][]impl.Row{
		impl.ErrMany:  manyRows(0, maxRows+1, 1),
		impl.ErrForm:  {told(1, 8), told(1, 8)},
		impl.ErrRange: {told(1, 8), rowOf(1, 100, 0, "")},
		impl.ErrText:  {told(1, 8), rowOf(1, 1, 0, "A")},
	}
}

// faultyTxLists are lists that have a TxsFault, each with its code.
func faultyTxLists() map[int64][]impl.Tx {
	plain := plainTxs(2)
	text, state := cloneTxs(plain), cloneTxs(plain)
	text[1].Undo[0].After.Text = "A"
	state[1].Undo[0].After.Key = 9
	return map[int64][]impl.Tx{
		impl.ErrMany:  append(plainTxs(4), impl.Tx{Id: 50}),
		impl.ErrForm:  {plain[0], plain[0]},
		impl.ErrRange: {plain[0], {Id: 100}},
		impl.ErrText:  text,
		impl.ErrState: state,
		impl.ErrTaken: {plain[0], locker(20, keyAt(3, 3), keyAt(3, 3))},
		impl.ErrLock:  {plain[0], asTx(plain[0], 20)},
	}
}

func TestRowsFaultIsAskedAheadOfTxsFault(t *testing.T) {
	for code, rows := range faultyRowLists() {
		lists := []([]impl.Tx){nil, plainTxs(4)}
		for _, list := range faultyTxLists() {
			lists = append(lists, list)
		}
		for _, list := range lists {
			if got := impl.RoomOf(rows, list); got != (impl.IntResult{Code: code}) {
				t.Errorf("RoomOf = %+v, want code %d alone", got, code)
			}
			for kind := int64(minKind - 1); kind <= maxKind+1; kind++ {
				expectCheckCode(t, "faulty rows", rows, list, rightOp(kind, 10), code)
				expectCheckCode(t, "faulty rows, no op", rows, list, impl.Op{Kind: kind, Tx: 100, Mark: 9}, code)
			}
		}
	}
	for code, list := range faultyTxLists() {
		expectTxsFault(t, "faulty transactions", list, code)
	}
}

func TestRoomOfAnyKeys(t *testing.T) {
	next := numbers(101)
	for range 3000 {
		rows, list := anyFewRows(next), anyTxs(next)
		seen := map[impl.Key]int{}
		for _, r := range rows {
			seen[keyOfRow(r)]++
		}
		for _, tx := range list {
			for _, k := range tx.Locks {
				seen[k]++
			}
		}
		expectRoom(t, "any keys", rows, list, int64(len(seen)))
		k := keyAt(int64(next(4)), int64(1+next(5)))
		at := slices.IndexFunc(list, func(tx impl.Tx) bool { return slices.Contains(tx.Locks, k) })
		if at < 0 {
			expectLockOf(t, "any keys", list, k, 0)
		} else {
			expectLockOf(t, "any keys", list, k, list[at].Id)
		}
	}
}
