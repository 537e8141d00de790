package tests

import (
	"math"
	"slices"
	"strconv"
	"testing"

	"loop.example/g00408/impl"
)

const maxMarks = 8

func keyAt(table int64, key int64) impl.Key {
	return impl.Key{Table: table, Key: key}
}

func keyOfRow(r impl.Row) impl.Key {
	return keyAt(r.Table, r.Key)
}

// keysAt are keys of one table, from the Key from on.
func keysAt(table int64, from int64, count int) []impl.Key {
	var keys []impl.Key
	for i := range int64(count) {
		keys = append(keys, keyAt(table, from+i))
	}
	return keys
}

// locker has turned nothing that is left, and locks these keys.
func locker(id int64, keys ...impl.Key) impl.Tx {
	return impl.Tx{Id: id, Locks: keys}
}

// turner did these changes, and locks their keys and no others.
func turner(id int64, changes ...impl.Change) impl.Tx {
	tx := impl.Tx{Id: id, Undo: changes}
	for _, c := range changes {
		if k := keyOfChange(c); !slices.Contains(tx.Locks, k) {
			tx.Locks = append(tx.Locks, k)
		}
	}
	return tx
}

func asTx(tx impl.Tx, id int64) impl.Tx {
	own := cloneTx(tx)
	own.Id = id
	return own
}

func withMarks(tx impl.Tx, marks ...int64) impl.Tx {
	own := cloneTx(tx)
	own.Marks = marks
	return own
}

// backAndForth are as many changes of one key, one fitting to the other.
func backAndForth(table int64, key int64, count int) []impl.Change {
	a, b := rowOf(table, key, 1, "a"), rowOf(table, key, 2, "b")
	var list []impl.Change
	for i := range count {
		list = append(list, []impl.Change{turn(a, b), turn(b, a)}[i%2])
	}
	return list
}

func cloneTx(tx impl.Tx) impl.Tx {
	return impl.Tx{Id: tx.Id, Undo: ownChanges(tx.Undo), Marks: slices.Clone(tx.Marks), Locks: slices.Clone(tx.Locks)}
}

func cloneTxs(list []impl.Tx) []impl.Tx {
	var own []impl.Tx
	for _, tx := range list {
		own = append(own, cloneTx(tx))
	}
	return own
}

func sameTx(a impl.Tx, b impl.Tx) bool {
	return a.Id == b.Id && slices.Equal(a.Undo, b.Undo) && slices.Equal(a.Marks, b.Marks) && slices.Equal(a.Locks, b.Locks)
}

func sameTxs(a []impl.Tx, b []impl.Tx) bool {
	return slices.EqualFunc(a, b, sameTx)
}

func isKeyAt(k impl.Key) bool {
	return 0 <= k.Table && k.Table <= 3 && 1 <= k.Key && k.Key <= 99
}

func undoOfAll(list []impl.Tx) int {
	count := 0
	for _, tx := range list {
		count += len(tx.Undo)
	}
	return count
}

// expectedTxFault is what is asked of one transaction behind its Id.
func expectedTxFault(tx impl.Tx) int64 {
	for _, c := range tx.Undo {
		if code := expectedAlone(c); code != impl.OK {
			return code
		}
		if !slices.Contains(tx.Locks, keyOfChange(c)) {
			return impl.ErrState
		}
	}
	if len(tx.Marks) > 8 || len(tx.Locks) > 12 {
		return impl.ErrMany
	}
	for i, mark := range tx.Marks {
		if mark < 0 || mark > int64(len(tx.Undo)) || i > 0 && mark < tx.Marks[i-1] {
			return impl.ErrRange
		}
	}
	for i, k := range tx.Locks {
		if !isKeyAt(k) {
			return impl.ErrRange
		}
		if slices.Contains(tx.Locks[:i], k) {
			return impl.ErrTaken
		}
	}
	return impl.OK
}

func expectedTxsFault(list []impl.Tx) int64 {
	if len(list) > 4 {
		return impl.ErrMany
	}
	for i, tx := range list {
		if tx.Id < 1 || tx.Id > 99 {
			return impl.ErrRange
		}
		if i > 0 && tx.Id <= list[i-1].Id {
			return impl.ErrForm
		}
		if code := expectedTxFault(tx); code != impl.OK {
			return code
		}
	}
	for i, tx := range list {
		for _, other := range list[:i] {
			for _, k := range other.Locks {
				if slices.Contains(tx.Locks, k) {
					return impl.ErrLock
				}
			}
		}
	}
	if undoOfAll(list) > 12 {
		return impl.ErrMany
	}
	return impl.OK
}

// expectTxsFault asks all that ask the TxsFault, beside other things that are wrong.
func expectTxsFault(t *testing.T, name string, list []impl.Tx, code int64) {
	t.Helper()
	if model := expectedTxsFault(list); model != code {
		t.Fatalf("%s: the model has code %d, want %d", name, model, code)
	}
	if got := impl.TxsFault(list); got != code {
		t.Errorf("%s: TxsFault = %d, want %d", name, got, code)
	}
	if code == impl.OK {
		return
	}
	for _, k := range []impl.Key{keyAt(1, 1), keyAt(3, 99), {}, keyAt(4, 1)} {
		if got := impl.LockOf(list, k); got != (impl.IntResult{Code: code}) {
			t.Errorf("%s: LockOf = %+v, want code %d alone", name, got, code)
		}
	}
	for _, rows := range [][]impl.Row{nil, {told(1, 8)}, manyRows(0, maxRows, 1)} {
		if got := impl.RoomOf(rows, list); got != (impl.IntResult{Code: code}) {
			t.Errorf("%s: RoomOf = %+v, want code %d alone", name, got, code)
		}
		for kind := int64(minKind - 1); kind <= maxKind+1; kind++ {
			expectCheckCode(t, name, rows, list, rightOp(kind, 20), code)
			expectCheckCode(t, name+", a wrong op", rows, list, impl.Op{Kind: kind, Tx: 100, Mark: 8, Row: rowOf(9, 0, 0, "A")}, code)
		}
	}
	for _, tx := range []int64{10, 20, 0, 77, 100} {
		for _, c := range []impl.Change{put(rowOf(3, 99, 0, "")), {}, put(rowOf(1, 1, 0, "A"))} {
			expectNoteCode(t, name, list, tx, c, code)
		}
	}
}

func expectCheckCode(t *testing.T, name string, rows []impl.Row, list []impl.Tx, o impl.Op, code int64) {
	t.Helper()
	if got := impl.CheckOp(rows, list, o); got != (impl.ChangeResult{Code: code}) {
		t.Errorf("%s: CheckOp of %+v = %+v, want code %d alone", name, o, got, code)
	}
}

func expectNoteCode(t *testing.T, name string, list []impl.Tx, tx int64, c impl.Change, code int64) {
	t.Helper()
	if got := impl.NoteChange(list, tx, c); got.Code != code || len(got.Txs) != 0 {
		t.Errorf("%s: NoteChange of %d, %+v = %+v, want code %d alone", name, tx, c, got, code)
	}
}

// plainTxs are 1 to 4 transactions of the Ids 10, 20, 30 and 40, each in a table of its own, with something of all.
func plainTxs(count int) []impl.Tx {
	var list []impl.Tx
	for i := range int64(count) {
		a, b := rowOf(i, 1, 1, ""), rowOf(i, 2, 2, "b")
		list = append(list, impl.Tx{
			Id:    10 * (i + 1),
			Undo:  []impl.Change{put(a), drop(b)},
			Marks: []int64{0, 1, 1, 2},
			Locks: []impl.Key{keyOfRow(b), keyOfRow(a), keyAt(i, 3)},
		})
	}
	return list
}

func TestTxsFaultOfNone(t *testing.T) {
	expectTxsFault(t, "nil", nil, impl.OK)
	expectTxsFault(t, "none", []impl.Tx{}, impl.OK)
	for count := range 5 {
		expectTxsFault(t, strconv.Itoa(count)+" plain ones", plainTxs(count), impl.OK)
	}
	for _, id := range []int64{1, 2, 98, 99} {
		expectTxsFault(t, "an Id", []impl.Tx{{Id: id}}, impl.OK)
	}
	expectTxsFault(t, "four Ids", []impl.Tx{{Id: 1}, {Id: 2}, {Id: 98}, {Id: 99}}, impl.OK)
	for _, r := range edgeRows() {
		other := r
		other.Val = 999 - r.Val
		for _, c := range []impl.Change{put(r), drop(r), turn(r, other)} {
			expectTxsFault(t, "one change", []impl.Tx{turner(1, c)}, impl.OK)
		}
	}
	for _, k := range []impl.Key{keyAt(0, 1), keyAt(0, 99), keyAt(3, 1), keyAt(3, 99)} {
		expectTxsFault(t, "one lock", []impl.Tx{locker(99, k)}, impl.OK)
	}
	expectTxsFault(t, "one key in another order", []impl.Tx{locker(1, keyAt(1, 2)), locker(2, keyAt(2, 1))}, impl.OK)
	unsaid := put(rowOf(1, 2, 3, ""))
	unsaid.Before = rowOf(9, 0, 0, "A")
	expectTxsFault(t, "what is not said", []impl.Tx{turner(1, unsaid)}, impl.OK)
}

func TestTxsFaultOfTooMany(t *testing.T) {
	five := append(plainTxs(4), impl.Tx{Id: 50})
	expectTxsFault(t, "four", five[:4], impl.OK)
	expectTxsFault(t, "five", five, impl.ErrMany)
	for _, count := range []int{5, 6, 100} {
		expectTxsFault(t, "zero ones", make([]impl.Tx, count), impl.ErrMany)
	}
	expectTxsFault(t, "four zero ones", make([]impl.Tx, 4), impl.ErrRange)
	for _, f := range txFaults() {
		for at := range five {
			list := cloneTxs(five)
			f.make(list, at)
			expectTxsFault(t, "five, "+f.name, list, impl.ErrMany)
		}
	}
}

// Undo holds changes in any order, also several of one key.
func TestTxsFaultOfUndoInItsOrder(t *testing.T) {
	a, b, c := rowOf(2, 9, 1, "a"), rowOf(2, 9, 2, "b"), rowOf(1, 1, 0, "")
	lists := [][]impl.Change{{put(a), turn(a, b), drop(b)}, {put(a), put(c)}, {put(c), put(a)}, {put(a), put(a)}, {drop(a), put(a), drop(a), put(a)}, backAndForth(3, 3, 12)}
	for _, list := range lists {
		expectTxsFault(t, "in its order", []impl.Tx{turner(5, list...)}, impl.OK)
	}
}

// A transaction that went back to a mark has Locks of what is no longer in Undo.
func TestTxsFaultOfLocksBehindAMark(t *testing.T) {
	all := turner(5, putsOf(manyRows(99, 6, 1))...)
	for left := range int64(7) {
		tx, name := cloneTx(all), strconv.FormatInt(left, 10)+" left"
		tx.Undo = tx.Undo[:left]
		expectTxsFault(t, name, []impl.Tx{tx}, impl.OK)
		for _, marks := range [][]int64{{0}, {0, 0}, {left}, {left, left}, {0, left}, {0, 0, left, left}, make([]int64, maxMarks)} {
			expectTxsFault(t, name+", with marks", []impl.Tx{withMarks(tx, marks...)}, impl.OK)
		}
		for _, marks := range [][]int64{{left + 1}, {-1}, {0, left + 1}, {left, left + 1}, {left, left - 1}, {0, -1}, {6, 7}, {math.MinInt64}, {math.MaxInt64}, {0, math.MaxInt64}} {
			expectTxsFault(t, name+", with wrong marks", []impl.Tx{withMarks(tx, marks...)}, impl.ErrRange)
			expectTxsFault(t, name+", with wrong marks, the last one", append(plainTxs(1), withMarks(asTx(tx, 99), marks...)), impl.ErrRange)
		}
		for gone := range left {
			open := cloneTx(tx)
			open.Locks = slices.Delete(open.Locks, int(gone), int(gone)+1)
			expectTxsFault(t, name+", the lock of one is gone", []impl.Tx{open}, impl.ErrState)
		}
	}
	for low := range int64(6) {
		expectTxsFault(t, "less than the one ahead", []impl.Tx{withMarks(all, 0, 6, low)}, impl.ErrRange)
		expectTxsFault(t, "less than the one ahead, and then more", []impl.Tx{withMarks(all, low+1, low, 6)}, impl.ErrRange)
		expectTxsFault(t, "one more than the one ahead", []impl.Tx{withMarks(all, low, low+1)}, impl.OK)
	}
}

// As many marks, locks and changes as there may be, and one more.
func TestTxsFaultAtItsBounds(t *testing.T) {
	expectTxsFault(t, "8 Marks", []impl.Tx{withMarks(impl.Tx{Id: 1}, make([]int64, maxMarks)...)}, impl.OK)
	expectTxsFault(t, "9 Marks", []impl.Tx{withMarks(impl.Tx{Id: 1}, make([]int64, maxMarks+1)...)}, impl.ErrMany)
	var eight, twelve []impl.Tx
	for i := range int64(4) {
		eight = append(eight, withMarks(impl.Tx{Id: i + 1}, make([]int64, maxMarks)...))
		twelve = append(twelve, locker(i+1, keysAt(i, 1, impl.MaxRoom)...))
	}
	expectTxsFault(t, "8 Marks each", eight, impl.OK)
	expectTxsFault(t, "12 Locks each", twelve, impl.OK)
	for at := range twelve {
		expectTxsFault(t, "12 Locks", twelve[at:at+1], impl.OK)
		list := cloneTxs(twelve)
		list[at].Locks = append(list[at].Locks, keyAt(int64(at), 50))
		expectTxsFault(t, "13 Locks", list, impl.ErrMany)
		expectTxsFault(t, "13 Locks of one", list[at:at+1], impl.ErrMany)
		list = cloneTxs(eight)
		list[at].Marks = append(list[at].Marks, 0)
		expectTxsFault(t, "9 Marks of one", list, impl.ErrMany)
	}
	expectTxsFault(t, "13 Locks of all", []impl.Tx{locker(1, keysAt(1, 1, 12)...), locker(2, keyAt(2, 1))}, impl.OK)
	expectTxsFault(t, "12 in Undo", []impl.Tx{turner(1, backAndForth(1, 1, 12)...)}, impl.OK)
	expectTxsFault(t, "13 in Undo", []impl.Tx{turner(1, backAndForth(1, 1, 13)...)}, impl.ErrMany)
	expectTxsFault(t, "100 in Undo", []impl.Tx{turner(1, backAndForth(1, 1, 100)...)}, impl.ErrMany)
	expectTxsFault(t, "12 keys in Undo", []impl.Tx{turner(1, putsOf(manyRows(99, 12, 1))...)}, impl.OK)
	expectTxsFault(t, "13 keys in Undo", []impl.Tx{turner(1, putsOf(manyRows(99, 13, 1))...)}, impl.ErrMany)
	for first := range 13 {
		list := []impl.Tx{turner(1, backAndForth(1, 1, first)...), {Id: 2}, turner(3, backAndForth(2, 1, 12-first)...)}
		expectTxsFault(t, "12 in Undo of all", list, impl.OK)
		expectTxsFault(t, "13 in Undo of all", append(list, turner(4, backAndForth(3, 1, 1)...)), impl.ErrMany)
	}
}

// txFault makes one of a list wrong; rank says how early it is asked of that one.
type txFault struct {
	name string
	rank int
	code int64
	make func(list []impl.Tx, at int)
}

const (
	rankId = 1 + iota
	rankRise
	rankUndo
	rankMany
	rankMarks
	rankLocks
)

func idFaults() []txFault {
	var faults []txFault
	for _, id := range []int64{0, -1, 100, 256 + 1, 1<<32 + 1, math.MinInt64, math.MaxInt64} {
		faults = append(faults, txFault{"Id " + strconv.FormatInt(id, 10), rankId, impl.ErrRange, func(list []impl.Tx, at int) { list[at].Id = id }})
	}
	return faults
}

// riseFaults are none of the first one, which has none ahead.
func riseFaults() []txFault {
	return []txFault{
		{"the Id of the one ahead", rankRise, impl.ErrForm, func(list []impl.Tx, at int) { list[at].Id = list[at-1].Id }},
		{"an Id less by one", rankRise, impl.ErrForm, func(list []impl.Tx, at int) { list[at].Id = list[at-1].Id - 1 }},
		{"Id 1", rankRise, impl.ErrForm, func(list []impl.Tx, at int) { list[at].Id = 1 }},
	}
}

func undoFaults() []txFault {
	behind := func(c impl.Change) func([]impl.Tx, int) {
		return func(list []impl.Tx, at int) { list[at].Undo = append(list[at].Undo, c) }
	}
	faults := []txFault{
		{"a put that is not locked", rankUndo, impl.ErrState, behind(put(rowOf(3, 98, 1, "")))},
		{"a drop that is not locked", rankUndo, impl.ErrState, behind(drop(rowOf(3, 98, 1, "")))},
		{"a turn that is not locked", rankUndo, impl.ErrState, behind(turn(rowOf(0, 97, 1, ""), rowOf(0, 97, 2, "")))},
		{"all Locks gone", rankUndo, impl.ErrState, func(list []impl.Tx, at int) { list[at].Locks = nil }},
	}
	for name, f := range wrongAlone() {
		faults = append(faults, txFault{name, rankUndo, f.code, behind(f.change)})
	}
	return faults
}

func marksAndLocksFaults() []txFault {
	mark := func(marks ...int64) func([]impl.Tx, int) {
		return func(list []impl.Tx, at int) { list[at].Marks = append(list[at].Marks, marks...) }
	}
	lock := func(k impl.Key) func([]impl.Tx, int) {
		return func(list []impl.Tx, at int) { list[at].Locks = append(list[at].Locks, k) }
	}
	return []txFault{
		{"9 Marks", rankMany, impl.ErrMany, mark(2, 2, 2, 2, 2)},
		{"13 Locks", rankMany, impl.ErrMany, func(list []impl.Tx, at int) { list[at].Locks = append(list[at].Locks, keysAt(int64(at), 30, 10)...) }},
		{"a mark of -1", rankMarks, impl.ErrRange, mark(-1)},
		{"a mark of 0 behind 2", rankMarks, impl.ErrRange, mark(0)},
		{"a mark of 1 behind 2", rankMarks, impl.ErrRange, mark(1)},
		{"a mark far behind", rankMarks, impl.ErrRange, mark(1000)},
		{"no key", rankLocks, impl.ErrRange, lock(impl.Key{})},
		{"a lock of table -1", rankLocks, impl.ErrRange, lock(keyAt(-1, 5))},
		{"a lock of table 4", rankLocks, impl.ErrRange, lock(keyAt(4, 5))},
		{"a lock of key 100", rankLocks, impl.ErrRange, lock(keyAt(3, 100))},
		{"a lock of a far key", rankLocks, impl.ErrRange, lock(keyAt(math.MaxInt64, math.MinInt64))},
		{"the first lock twice", rankLocks, impl.ErrTaken, func(list []impl.Tx, at int) { lock(keyAt(int64(at), 2))(list, at) }},
		{"the last lock twice", rankLocks, impl.ErrTaken, func(list []impl.Tx, at int) { lock(keyAt(int64(at), 3))(list, at) }},
	}
}

// txFaults may befall any of plainTxs.
func txFaults() []txFault {
	return slices.Concat(idFaults(), undoFaults(), marksAndLocksFaults())
}

func TestTxsFaultOfEachTransaction(t *testing.T) {
	for count := 1; count <= 4; count++ {
		for at := range count {
			faults := txFaults()
			if at > 0 {
				faults = append(faults, riseFaults()...)
			}
			for _, f := range faults {
				list := plainTxs(count)
				f.make(list, at)
				expectTxsFault(t, f.name+", place "+strconv.Itoa(at)+" of "+strconv.Itoa(count), list, f.code)
			}
		}
	}
}

// Of two in one transaction the one that is asked first is told, and of two that are asked alike the one ahead.
func TestTxsFaultOfTwoInOne(t *testing.T) {
	faults := append(txFaults(), riseFaults()...)
	for _, f := range faults {
		for _, g := range faults {
			if f.rank > g.rank || f.rank == rankId && g.rank == rankRise {
				continue
			}
			list := plainTxs(3)
			f.make(list, 1)
			g.make(list, 1)
			if f.name == "all Locks gone" || g.name == "all Locks gone" {
				if got, want := impl.TxsFault(list), expectedTxsFault(list); got != want {
					t.Errorf("%s, %s: TxsFault = %d, want %d", f.name, g.name, got, want)
				}
				continue
			}
			if got := impl.TxsFault(list); got != f.code || expectedTxsFault(list) != f.code {
				t.Errorf("%s, %s: TxsFault = %d, want %d", f.name, g.name, got, f.code)
			}
		}
	}
}

// Each transaction is asked all that is its own ahead of the next one.
func TestTxsFaultOfTwoInTwo(t *testing.T) {
	for _, f := range append(txFaults(), riseFaults()...) {
		for _, g := range append(txFaults(), riseFaults()...) {
			for _, places := range [][2]int{{0, 1}, {0, 3}, {1, 2}, {2, 3}} {
				if f.rank == rankRise && places[0] == 0 {
					continue
				}
				list := plainTxs(4)
				g.make(list, places[1])
				f.make(list, places[0])
				if got := impl.TxsFault(list); got != f.code {
					t.Errorf("%s at %d, %s at %d: TxsFault = %d, want %d", f.name, places[0], g.name, places[1], got, f.code)
				}
			}
		}
	}
}

// Change by change, mark by mark and lock by lock: all codes of one ahead of the next one.
func TestTxsFaultWithinOneTransaction(t *testing.T) {
	free, locked := put(rowOf(2, 7, 1, "")), put(rowOf(1, 50, 3, "a"))
	base := locker(7, keyAt(1, 50))
	with := func(list ...impl.Change) []impl.Tx {
		tx := cloneTx(base)
		tx.Undo = list
		return []impl.Tx{tx}
	}
	for name, f := range wrongAlone() {
		expectTxsFault(t, name+", then one that is not locked", with(locked, f.change, free), f.code)
		expectTxsFault(t, "one that is not locked, then "+name, with(locked, free, f.change), impl.ErrState)
		for other, g := range wrongAlone() {
			if got := impl.TxsFault(with(f.change, g.change)); got != f.code {
				t.Errorf("%s, then %s: TxsFault = %d, want %d", name, other, got, f.code)
			}
		}
	}
	many := with(locked, free)
	many[0].Marks = make([]int64, maxMarks+1)
	expectTxsFault(t, "the last change is not locked, and 9 Marks", many, impl.ErrState)
	tooMany := with(locked)
	tooMany[0].Marks, tooMany[0].Locks = []int64{5}, append(tooMany[0].Locks, make([]impl.Key, impl.MaxRoom)...)
	expectTxsFault(t, "13 Locks, a wrong mark, no keys", tooMany, impl.ErrMany)
	tooMany[0].Locks = tooMany[0].Locks[:3]
	expectTxsFault(t, "a wrong mark, no keys", tooMany, impl.ErrRange)
	twice := []impl.Tx{locker(7, keyAt(1, 1), keyAt(1, 1), keyAt(4, 1))}
	expectTxsFault(t, "one twice, then no key", twice, impl.ErrTaken)
	twice[0].Locks[1], twice[0].Locks[2] = keyAt(4, 1), keyAt(1, 1)
	expectTxsFault(t, "no key, then one twice", twice, impl.ErrRange)
	twice[0].Locks = []impl.Key{keyAt(4, 1), keyAt(4, 1)}
	expectTxsFault(t, "no key, twice", twice, impl.ErrRange)
}

// What is asked of all together is asked last.
func TestTxsFaultOfAllTogether(t *testing.T) {
	shared := plainTxs(4)
	shared[3].Locks = append(shared[3].Locks, keyAt(0, 3))
	expectTxsFault(t, "two lock one key", shared, impl.ErrLock)
	for i := range 4 {
		for j := range 4 {
			if i == j {
				continue
			}
			list := plainTxs(4)
			list[i].Locks = append(list[i].Locks, list[j].Locks[1])
			expectTxsFault(t, strconv.Itoa(i)+" locks a key of "+strconv.Itoa(j), list, impl.ErrLock)
		}
	}
	full := plainTxs(4)
	full[1].Undo = append(full[1].Undo, backAndForth(1, 1, 5)...)
	expectTxsFault(t, "13 in Undo of all", full, impl.ErrMany)
	both := cloneTxs(full)
	both[0].Locks = append(both[0].Locks, keyAt(2, 1))
	expectTxsFault(t, "both", both, impl.ErrLock)
	for _, list := range [][]impl.Tx{shared, full, both} {
		for at := range list {
			faults := txFaults()
			if at > 0 {
				faults = append(faults, riseFaults()...)
			}
			for _, f := range faults {
				own := cloneTxs(list)
				f.make(own, at)
				if got := impl.TxsFault(own); got != f.code {
					t.Errorf("%s at %d: TxsFault = %d, want %d", f.name, at, got, f.code)
				}
			}
		}
	}
}
