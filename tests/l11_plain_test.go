package tests

import (
	"math"
	"slices"
	"strconv"
	"testing"

	"loop.example/g00408/impl"
)

func clonePlain(p impl.Plain) impl.Plain {
	return impl.Plain{Rows: ownRows(p.Rows), Txs: cloneTxs(p.Txs), Next: p.Next}
}

func samePlain(a impl.Plain, b impl.Plain) bool {
	return slices.Equal(a.Rows, b.Rows) && sameTxs(a.Txs, b.Txs) && a.Next == b.Next
}

func samePlainResult(a impl.PlainResult, b impl.PlainResult) bool {
	return a.Code == b.Code && a.Value == b.Value && samePlain(a.Plain, b.Plain)
}

// takenBack goes by key from the last change of each transaction to its first one: false, where one doesn't fit.
func takenBack(rows []impl.Row, list []impl.Tx) ([]impl.Row, bool) {
	there := map[impl.Key]impl.Row{}
	for _, r := range rows {
		there[keyOfRow(r)] = r
	}
	for _, tx := range list {
		for i := len(tx.Undo) - 1; i >= 0; i-- {
			c := tx.Undo[i]
			k := keyOfChange(c)
			r, ok := there[k]
			if ok != c.Is || ok && r != c.After {
				return nil, false
			}
			delete(there, k)
			if c.Was {
				there[k] = c.Before
			}
		}
	}
	return rowsOfKeys(there), true
}

// rowsOfKeys goes through all keys there may be, so that what it tells rises.
func rowsOfKeys(there map[impl.Key]impl.Row) []impl.Row {
	var rows []impl.Row
	for _, k := range allKeys() {
		if r, ok := there[k]; ok {
			rows = append(rows, r)
		}
	}
	return rows
}

// expectedPlainFault goes by the words of the chapter.
func expectedPlainFault(p impl.Plain) int64 {
	if code := impl.RowsFault(p.Rows); code != impl.OK {
		return code
	}
	if code := expectedTxsFault(p.Txs); code != impl.OK {
		return code
	}
	if p.Next < 1 || p.Next > 100 {
		return impl.ErrRange
	}
	for _, tx := range p.Txs {
		if p.Next <= tx.Id {
			return impl.ErrRange
		}
	}
	if expectedRoom(p.Rows, p.Txs) > 12 {
		return impl.ErrMany
	}
	if _, ok := takenBack(p.Rows, p.Txs); !ok {
		return impl.ErrState
	}
	return impl.OK
}

func expectDoCode(t *testing.T, name string, p impl.Plain, o impl.Op, code int64) {
	t.Helper()
	if got := impl.DoPlain(p, o); !samePlainResult(got, impl.PlainResult{Code: code}) {
		t.Errorf("%s: DoPlain of %+v = %+v, want code %d alone", name, o, got, code)
	}
}

func expectCommitted(t *testing.T, name string, p impl.Plain, want ...impl.Row) {
	t.Helper()
	if got := impl.CommittedOf(p); got.Code != impl.OK || !slices.Equal(got.Rows, want) {
		t.Errorf("%s: CommittedOf %+v = %+v, want %+v", name, p, got, want)
	}
}

// expectPlainFault asks all that ask the PlainFault, beside other things that are wrong.
func expectPlainFault(t *testing.T, name string, p impl.Plain, code int64) {
	t.Helper()
	if model := expectedPlainFault(p); model != code {
		t.Fatalf("%s: the model has code %d, want %d", name, model, code)
	}
	if got := impl.PlainFault(p); got != code {
		t.Errorf("%s: PlainFault = %d, want %d", name, got, code)
	}
	if code == impl.OK {
		want, _ := takenBack(p.Rows, p.Txs)
		expectCommitted(t, name, p, want...)
		return
	}
	if got := impl.CommittedOf(p); got.Code != code || len(got.Rows) != 0 {
		t.Errorf("%s: CommittedOf = %+v, want code %d alone", name, got, code)
	}
	for kind := int64(minKind - 1); kind <= maxKind+1; kind++ {
		for _, tx := range []int64{3, 7, 50} {
			expectDoCode(t, name, p, rightOp(kind, tx), code)
		}
		expectDoCode(t, name+", a wrong op", p, impl.Op{Kind: kind, Tx: 100, Mark: 8, Row: rowOf(9, 0, 0, "A")}, code)
	}
	for _, o := range []impl.Op{rowOp(impl.OpPut, 9, told(3, 8)), rowOp(impl.OpSet, 9, rowOf(1, 9, 2, "")), rowOp(impl.OpDrop, 9, rowOf(1, 9, 0, "")), backOp(3, 1), backOp(7, 7)} {
		expectDoCode(t, name, p, o, code)
	}
}

// openPlain has 3, which turned 1/5 twice and put 1/6, 7, which put 2/7 and dropped 2/8, and 9, which locks 3/9: 8 keys
// in all, and 1/9 is nobody's.
func openPlain() impl.Plain {
	a, b, c := rowOf(1, 5, 1, "a"), rowOf(1, 5, 2, "b"), rowOf(1, 5, 3, "c")
	three := turner(3, turn(a, b), put(rowOf(1, 6, 6, "six")), turn(b, c))
	seven := turner(7, put(rowOf(2, 7, 7, "")), drop(rowOf(2, 8, 8, "gone")))
	return impl.Plain{
		Rows: []impl.Row{told(1, 8), told(2, 4), c, rowOf(1, 6, 6, "six"), rowOf(1, 9, 9, ""), rowOf(2, 7, 7, "")},
		Txs:  []impl.Tx{withMarks(three, 0, 1, 1, 3), withMarks(seven, 2), withMarks(locker(9, keyAt(3, 9)), 0, 0)},
		Next: 10,
	}
}

func TestPlainFaultOfNone(t *testing.T) {
	expectPlainFault(t, "open ones", openPlain(), impl.OK)
	expectCommitted(t, "open ones", openPlain(), told(1, 8), told(2, 4), rowOf(1, 5, 1, "a"), rowOf(1, 9, 9, ""), rowOf(2, 8, 8, "gone"))
	for _, next := range []int64{1, 2, 50, 99, 100} {
		expectPlainFault(t, "without rows", impl.Plain{Next: next}, impl.OK)
		expectPlainFault(t, "empty lists", impl.Plain{Rows: []impl.Row{}, Txs: []impl.Tx{}, Next: next}, impl.OK)
	}
	for _, r := range edgeRows() {
		other := r
		other.Val = 999 - r.Val
		expectPlainFault(t, "a row", impl.Plain{Rows: []impl.Row{r}, Next: 1}, impl.OK)
		expectPlainFault(t, "a put", impl.Plain{Rows: []impl.Row{r}, Txs: []impl.Tx{turner(99, put(r))}, Next: 100}, impl.OK)
		expectPlainFault(t, "a drop", impl.Plain{Txs: []impl.Tx{turner(1, drop(r))}, Next: 2}, impl.OK)
		expectPlainFault(t, "a turn", impl.Plain{Rows: []impl.Row{r}, Txs: []impl.Tx{turner(1, turn(other, r))}, Next: 2}, impl.OK)
	}
	unsaid := put(rowOf(1, 5, 1, "a"))
	unsaid.Before = rowOf(9, 0, 0, "A")
	expectPlainFault(t, "what is not said", impl.Plain{Rows: []impl.Row{rowOf(1, 5, 1, "a")}, Txs: []impl.Tx{turner(4, unsaid)}, Next: 5}, impl.OK)
}

// What is committed needs no table: what MayBe would not let by is no fault here.
func TestPlainFaultAsksNotForTables(t *testing.T) {
	rows := []impl.Row{rowOf(0, 50, 999, "abcdefgh"), rowOf(1, 5, 1, "a")}
	expectPlainFault(t, "rows of no table", impl.Plain{Rows: rows, Next: 1}, impl.OK)
	expectPlainFault(t, "rows of no table that were put", impl.Plain{Rows: rows, Txs: []impl.Tx{turner(1, putsOf(rows)...)}, Next: 2}, impl.OK)
	barred := []impl.Tx{turner(1, put(told(1, 8))), turner(2, put(rowOf(1, 5, 1, "a")))}
	expectPlainFault(t, "a table of one, and a row of it of another", impl.Plain{Rows: []impl.Row{told(1, 8), rowOf(1, 5, 1, "a")}, Txs: barred, Next: 3}, impl.OK)
}

func TestPlainFaultOfNext(t *testing.T) {
	for _, next := range []int64{math.MinInt64, -1 << 32, -1, 0, 101, 102, 256 + 1, 1<<32 + 1, math.MaxInt64} {
		expectPlainFault(t, "Next "+strconv.FormatInt(next, 10), impl.Plain{Next: next}, impl.ErrRange)
		p := openPlain()
		p.Next = next
		expectPlainFault(t, "Next "+strconv.FormatInt(next, 10)+" of open ones", p, impl.ErrRange)
	}
	for next := int64(1); next <= 100; next++ {
		expectPlainFault(t, "nobody", impl.Plain{Next: next}, impl.OK)
		for _, ids := range [][]int64{{9}, {3, 7, 9}, {99}, {1, 99}, {1}, {97, 98}, {1, 2, 3, 4}} {
			p := impl.Plain{Next: next}
			for _, id := range ids {
				p.Txs = append(p.Txs, impl.Tx{Id: id})
			}
			code := int64(impl.OK)
			if next <= ids[len(ids)-1] {
				code = impl.ErrRange
			}
			expectPlainFault(t, "Next "+strconv.FormatInt(next, 10), p, code)
		}
	}
}

// As many keys as there may be, of rows, of Locks and of both, and one more.
func TestPlainFaultOfRoom(t *testing.T) {
	for count := 10; count <= maxRows; count++ {
		code := int64(impl.OK)
		if count > 12 {
			code = impl.ErrMany
		}
		expectPlainFault(t, strconv.Itoa(count)+" rows", impl.Plain{Rows: manyRows(99, count, 1), Next: 1}, code)
		if count > 14 {
			continue
		}
		for rows := range 13 {
			p := impl.Plain{Rows: manyRows(99, rows, 1), Txs: []impl.Tx{{Id: 1}, locker(2, keysAt(3, 1, count-rows)...)}, Next: 3}
			if count-rows > 12 {
				continue
			}
			expectPlainFault(t, strconv.Itoa(count)+" rows and locks", p, code)
			p.Txs = []impl.Tx{locker(1, keysAt(3, 1, (count-rows)/2)...), locker(2, keysAt(2, 1, count-rows-(count-rows)/2)...)}
			expectPlainFault(t, strconv.Itoa(count)+" rows and locks of two", p, code)
			if rows > 0 && count-rows < 12 {
				p.Txs[0].Locks = append(p.Txs[0].Locks, keyAt(1, 1))
				expectPlainFault(t, strconv.Itoa(count)+", and a row is locked", p, code)
			}
		}
	}
	twelve := manyRows(99, 12, 1)
	expectPlainFault(t, "12 rows that are put", impl.Plain{Rows: twelve, Txs: []impl.Tx{turner(1, putsOf(twelve)...)}, Next: 2}, impl.OK)
	expectPlainFault(t, "12 rows that are locked", impl.Plain{Rows: twelve, Txs: []impl.Tx{locker(1, keysAt(1, 1, 12)...)}, Next: 2}, impl.OK)
}

// Undo has to fit to the rows from its last change on, key by key.
func TestPlainFaultOfUndoThatDoesNotFit(t *testing.T) {
	a, b, c := rowOf(1, 5, 1, "a"), rowOf(1, 5, 2, "b"), rowOf(1, 5, 1, "b")
	fits := []struct {
		name string
		rows []impl.Row
		undo []impl.Change
		code int64
	}{
		{"a put", []impl.Row{a}, []impl.Change{put(a)}, impl.OK},
		{"a put of one not there", nil, []impl.Change{put(a)}, impl.ErrState},
		{"a put of another Val", []impl.Row{c}, []impl.Change{put(b)}, impl.ErrState},
		{"a put of another Text", []impl.Row{c}, []impl.Change{put(a)}, impl.ErrState},
		{"a put of another key", []impl.Row{rowOf(1, 6, 1, "a")}, []impl.Change{put(a)}, impl.ErrState},
		{"a put of another table", []impl.Row{rowOf(2, 5, 1, "a")}, []impl.Change{put(a)}, impl.ErrState},
		{"a drop", nil, []impl.Change{drop(a)}, impl.OK},
		{"a drop of one there", []impl.Row{a}, []impl.Change{drop(a)}, impl.ErrState},
		{"a drop, and another one there", []impl.Row{b}, []impl.Change{drop(a)}, impl.ErrState},
		{"a turn", []impl.Row{b}, []impl.Change{turn(a, b)}, impl.OK},
		{"a turn of one not there", nil, []impl.Change{turn(a, b)}, impl.ErrState},
		{"a turn that is not done", []impl.Row{a}, []impl.Change{turn(a, b)}, impl.ErrState},
		{"two turns", []impl.Row{b}, []impl.Change{turn(b, a), turn(a, b)}, impl.OK},
		{"two turns in the other order", []impl.Row{b}, []impl.Change{turn(a, b), turn(b, a)}, impl.ErrState},
		{"the last one fits, and not the first one", []impl.Row{b}, []impl.Change{turn(a, c), turn(a, b)}, impl.ErrState},
		{"the first one fits, and not the last one", []impl.Row{b}, []impl.Change{turn(a, b), turn(b, c)}, impl.ErrState},
		{"put and dropped", nil, []impl.Change{put(a), drop(a)}, impl.OK},
		{"put and dropped, and there", []impl.Row{a}, []impl.Change{put(a), drop(a)}, impl.ErrState},
		{"dropped and put", []impl.Row{b}, []impl.Change{drop(a), put(b)}, impl.OK},
		{"put twice", []impl.Row{a}, []impl.Change{put(a), put(a)}, impl.ErrState},
		{"dropped twice", nil, []impl.Change{drop(a), drop(a)}, impl.ErrState},
		{"put, and another one dropped", nil, []impl.Change{put(a), drop(b)}, impl.ErrState},
	}
	there := rowOf(3, 7, 7, "")
	beside := turner(50, put(there))
	for _, f := range fits {
		undo, rows := turner(1, f.undo...), append(slices.Clone(f.rows), there)
		expectPlainFault(t, f.name, impl.Plain{Rows: f.rows, Txs: []impl.Tx{undo}, Next: 100}, f.code)
		expectPlainFault(t, f.name+", of the first of two", impl.Plain{Rows: rows, Txs: []impl.Tx{undo, beside}, Next: 100}, f.code)
		expectPlainFault(t, f.name+", of the second of two", impl.Plain{Rows: rows, Txs: []impl.Tx{beside, asTx(undo, 99)}, Next: 100}, f.code)
	}
}

// Two that fit each alone fit together, where they lock no key both: where they do, that is asked ahead.
func TestPlainFaultOfTwoThatFitEachAlone(t *testing.T) {
	a, b, c := rowOf(1, 5, 1, "a"), rowOf(1, 5, 2, "b"), rowOf(1, 6, 3, "c")
	rows := []impl.Row{b, c}
	undos := [][]impl.Change{{put(b)}, {turn(a, b)}, {put(a), turn(a, b)}, {put(c)}, {put(b), put(c)}, {drop(rowOf(1, 7, 7, ""))}, {drop(rowOf(1, 7, 7, "")), put(c)}, nil}
	for _, first := range undos {
		for _, second := range undos {
			one, two := turner(1, first...), turner(2, second...)
			expectPlainFault(t, "the first alone", impl.Plain{Rows: rows, Txs: []impl.Tx{one}, Next: 3}, impl.OK)
			expectPlainFault(t, "the second alone", impl.Plain{Rows: rows, Txs: []impl.Tx{two}, Next: 3}, impl.OK)
			code := int64(impl.OK)
			if slices.ContainsFunc(one.Locks, func(k impl.Key) bool { return slices.Contains(two.Locks, k) }) {
				code = impl.ErrLock
			}
			expectPlainFault(t, "both", impl.Plain{Rows: rows, Txs: []impl.Tx{one, two}, Next: 3}, code)
		}
	}
}

// plainFault makes a plain one wrong; rank says how early it is asked.
type plainFault struct {
	name string
	rank int
	code int64
	make func(p *impl.Plain)
}

const (
	rankRows = 1 + iota
	rankTxs
	rankNext
	rankRoom
	rankState
)

func rowsAndTxsFaults() []plainFault {
	var faults []plainFault
	for code, rows := range faultyRowLists() {
		faults = append(faults, plainFault{"RowsFault " + strconv.FormatInt(code, 10), rankRows, code, func(p *impl.Plain) { p.Rows = rows }})
	}
	for code, list := range faultyTxLists() {
		faults = append(faults, plainFault{"TxsFault " + strconv.FormatInt(code, 10), rankTxs, code, func(p *impl.Plain) { p.Txs = cloneTxs(list) }})
	}
	return append(faults,
		plainFault{"13 in Undo", rankTxs, impl.ErrMany, func(p *impl.Plain) { p.Txs[2].Undo = append(p.Txs[2].Undo, backAndForth(3, 9, 8)...) }},
		plainFault{"a row that falls", rankRows, impl.ErrForm, func(p *impl.Plain) { p.Rows = append(p.Rows, rowOf(1, 99, 1, "")) }},
		plainFault{"a row of table 4", rankRows, impl.ErrRange, func(p *impl.Plain) { p.Rows = append(p.Rows, rowOf(4, 1, 1, "")) }},
	)
}

func nextRoomAndStateFaults() []plainFault {
	var faults []plainFault
	for _, next := range []int64{math.MinInt64, -1, 0, 1, 3, 7, 9, 101, math.MaxInt64} {
		faults = append(faults, plainFault{"Next " + strconv.FormatInt(next, 10), rankNext, impl.ErrRange, func(p *impl.Plain) { p.Next = next }})
	}
	return append(faults,
		plainFault{"Next is the Id of the last one", rankNext, impl.ErrRange, func(p *impl.Plain) { p.Txs[2].Id = 10 }},
		plainFault{"13 rows and locks", rankRoom, impl.ErrMany, func(p *impl.Plain) { p.Rows = append(p.Rows, manyRows(3*99+10, 5, 1)...) }},
		plainFault{"50 rows", rankRoom, impl.ErrMany, func(p *impl.Plain) { p.Rows = append(p.Rows, manyRows(3*99+10, 44, 1)...) }},
		plainFault{"locks of 13 keys", rankRoom, impl.ErrMany, func(p *impl.Plain) { p.Txs[2].Locks = append(p.Txs[2].Locks, keysAt(3, 50, 5)...) }},
		plainFault{"Undo of the first one", rankState, impl.ErrState, func(p *impl.Plain) { p.Rows[2].Val++ }},
		plainFault{"the first of Undo", rankState, impl.ErrState, func(p *impl.Plain) { p.Txs[0].Undo[0].After.Val++ }},
		plainFault{"Undo of the second one", rankState, impl.ErrState, func(p *impl.Plain) { p.Txs[1].Undo[0].After.Text = "x" }},
		plainFault{"Undo of the last one", rankState, impl.ErrState, func(p *impl.Plain) { p.Txs[2].Undo = append(p.Txs[2].Undo, put(rowOf(3, 9, 1, ""))) }},
	)
}

func TestPlainFaultOfEachCode(t *testing.T) {
	for _, f := range append(rowsAndTxsFaults(), nextRoomAndStateFaults()...) {
		p := openPlain()
		f.make(&p)
		expectPlainFault(t, f.name, p, f.code)
	}
}

// Of two the one that is asked first is told. What asks for a part of openPlain is made ahead of what takes it away.
func TestPlainFaultOfTwo(t *testing.T) {
	faults := append(rowsAndTxsFaults(), nextRoomAndStateFaults()...)
	for _, f := range faults {
		for _, g := range faults {
			if f.rank >= g.rank {
				continue
			}
			p := openPlain()
			g.make(&p)
			f.make(&p)
			expectPlainFault(t, f.name+", and "+g.name, p, f.code)
		}
	}
}

func TestNewPlain(t *testing.T) {
	for next := int64(1); next <= 100; next++ {
		got := impl.NewPlain(next)
		if !samePlainResult(got, impl.PlainResult{Plain: impl.Plain{Next: next}}) {
			t.Errorf("NewPlain(%d) = %+v", next, got)
		}
		expectPlainFault(t, "a new one", got.Plain, impl.OK)
	}
	for _, next := range []int64{math.MinInt64, -1 << 32, -256, -100, -1, 0, 101, 102, 255, 256, 257, 1 << 16, 1 << 32, 1<<32 + 1, math.MaxInt64} {
		if got := impl.NewPlain(next); !samePlainResult(got, impl.PlainResult{Code: impl.ErrRange}) {
			t.Errorf("NewPlain(%d) = %+v, want ErrRange alone", next, got)
		}
	}
}
