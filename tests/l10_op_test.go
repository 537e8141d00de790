package tests

import (
	"math"
	"strconv"
	"testing"

	"loop.example/g00408/impl"
)

const (
	minKind = impl.OpBegin
	maxKind = impl.OpCheck
)

// opParts says what a kind of ops has; a bare row is a Table and a Key alone.
type opParts struct {
	tx, row, bare, mark bool
}

func partsOf(kind int64) opParts {
	return map[int64]opParts{
		impl.OpPut:    {tx: true, row: true},
		impl.OpSet:    {tx: true, row: true},
		impl.OpDrop:   {tx: true, bare: true},
		impl.OpMark:   {tx: true},
		impl.OpBack:   {tx: true, mark: true},
		impl.OpCommit: {tx: true},
		impl.OpAbort:  {tx: true},
	}[kind]
}

// rightOp has all that its kind has, and nothing else.
func rightOp(kind int64, tx int64) impl.Op {
	o, parts := impl.Op{Kind: kind}, partsOf(kind)
	if parts.tx {
		o.Tx = tx
	}
	if parts.row {
		o.Row = rowOf(1, 2, 3, "abc")
	}
	if parts.bare {
		o.Row = rowOf(1, 2, 0, "")
	}
	return o
}

func rowOp(kind int64, tx int64, r impl.Row) impl.Op {
	if kind == impl.OpDrop {
		r.Val, r.Text = 0, ""
	}
	return impl.Op{Kind: kind, Tx: tx, Row: r}
}

func backOp(tx int64, mark int64) impl.Op {
	return impl.Op{Kind: impl.OpBack, Tx: tx, Mark: mark}
}

func rowKinds() []int64 {
	return []int64{impl.OpPut, impl.OpSet, impl.OpDrop}
}

func expectOpFault(t *testing.T, name string, o impl.Op, code int64) {
	t.Helper()
	if got := impl.OpFault(o); got != code {
		t.Errorf("%s: OpFault(%+v) = %d, want %d", name, o, got, code)
	}
}

// expectedOpFault asks part by part.
func expectedOpFault(o impl.Op) int64 {
	parts := partsOf(o.Kind)
	switch {
	case o.Kind < 1, o.Kind > 9, !parts.tx && o.Tx != 0, !parts.mark && o.Mark != 0:
		return impl.ErrForm
	case !parts.row && !parts.bare && (o.Row.Table != 0 || o.Row.Key != 0), !parts.row && (o.Row.Val != 0 || o.Row.Text != ""):
		return impl.ErrForm
	case parts.tx && (o.Tx < 1 || o.Tx > 99), o.Mark < 0, o.Mark > 7:
		return impl.ErrRange
	case parts.row, parts.bare:
		return impl.RowFault(o.Row)
	}
	return impl.OK
}

func TestOpFaultOfEachKind(t *testing.T) {
	for kind := int64(minKind); kind <= maxKind; kind++ {
		expectOpFault(t, "a right one", rightOp(kind, 7), impl.OK)
	}
	for _, kind := range []int64{0, -1, 10, 11, 99, 256 + 1, 1<<32 + 1, math.MinInt64, math.MaxInt64} {
		for _, o := range []impl.Op{{}, {Tx: 1}, {Tx: 100}, {Tx: 1, Row: rowOf(1, 2, 3, "abc")}, {Tx: 1, Mark: 1}, {Mark: 8}, {Row: rowOf(9, 0, 0, "A")}} {
			o.Kind = kind
			expectOpFault(t, "no kind", o, impl.ErrForm)
		}
	}
	expectOpFault(t, "the zero value", impl.Op{}, impl.ErrForm)
}

func TestOpFaultOfTx(t *testing.T) {
	for _, kind := range []int64{impl.OpPut, impl.OpSet, impl.OpDrop, impl.OpMark, impl.OpBack, impl.OpCommit, impl.OpAbort} {
		for _, tx := range []int64{1, 2, 50, 98, 99} {
			expectOpFault(t, "a Tx", rightOp(kind, tx), impl.OK)
		}
		for _, tx := range []int64{0, 100, 101, -1, -99, 256 + 1, 1<<32 + 1, math.MinInt64, math.MaxInt64} {
			expectOpFault(t, "no Tx", rightOp(kind, tx), impl.ErrRange)
		}
	}
	for _, kind := range []int64{impl.OpBegin, impl.OpCheck} {
		expectOpFault(t, "Tx 0", impl.Op{Kind: kind}, impl.OK)
		for _, tx := range []int64{1, 2, 99, 100, -1, math.MinInt64, math.MaxInt64} {
			expectOpFault(t, "a Tx that it has not", impl.Op{Kind: kind, Tx: tx}, impl.ErrForm)
		}
	}
}

func TestOpFaultOfMark(t *testing.T) {
	for mark := range int64(8) {
		expectOpFault(t, "a Mark", backOp(99, mark), impl.OK)
	}
	for _, mark := range []int64{-1, -7, 8, 9, 256, 1 << 32, math.MinInt64, math.MaxInt64} {
		expectOpFault(t, "no Mark", backOp(1, mark), impl.ErrRange)
		expectOpFault(t, "no Mark and no Tx", backOp(0, mark), impl.ErrRange)
	}
	for kind := int64(minKind); kind <= maxKind; kind++ {
		if kind == impl.OpBack {
			continue
		}
		for _, mark := range []int64{1, 7, 8, -1, math.MinInt64, math.MaxInt64} {
			o := rightOp(kind, 1)
			o.Mark = mark
			expectOpFault(t, "a Mark that it has not", o, impl.ErrForm)
		}
	}
}

func TestOpFaultOfRowsThatItHasNot(t *testing.T) {
	for _, kind := range []int64{impl.OpBegin, impl.OpMark, impl.OpBack, impl.OpCommit, impl.OpAbort, impl.OpCheck} {
		for _, r := range append(edgeRows(), rowOf(1, 0, 0, ""), rowOf(0, 1, 0, ""), rowOf(0, 0, 1, ""), rowOf(0, 0, 0, "a"), rowOf(0, -1, 0, ""), rowOf(9, 100, 1000, "A")) {
			o := rightOp(kind, 1)
			o.Row = r
			expectOpFault(t, "a Row that it has not", o, impl.ErrForm)
		}
	}
	for _, r := range []impl.Row{rowOf(1, 2, 1, ""), rowOf(1, 2, -1, ""), rowOf(1, 2, 1000, ""), rowOf(1, 2, 0, "a"), rowOf(1, 2, 0, "A"), rowOf(1, 2, 3, "abc"), rowOf(0, 0, 1, ""), rowOf(9, 0, 0, "a")} {
		for _, tx := range []int64{1, 0, 100} {
			expectOpFault(t, "a drop with Val or Text", impl.Op{Kind: impl.OpDrop, Tx: tx, Row: r}, impl.ErrForm)
		}
	}
}

func TestOpFaultOfRows(t *testing.T) {
	for _, kind := range rowKinds() {
		for _, r := range edgeRows() {
			expectOpFault(t, "a row", rowOp(kind, 1, r), impl.OK)
		}
		for _, f := range faultyRows() {
			code := f.code
			if kind == impl.OpDrop {
				code = impl.RowFault(rowOf(f.row.Table, f.row.Key, 0, ""))
			}
			expectOpFault(t, f.name, rowOp(kind, 99, f.row), code)
		}
		expectOpFault(t, "a zero row", impl.Op{Kind: kind, Tx: 1}, impl.ErrRange)
	}
}

// Of several things that are wrong the form is told first, then Tx and Mark, and the row last.
func TestOpFaultTellsTheFormFirst(t *testing.T) {
	for _, kind := range []int64{impl.OpPut, impl.OpSet} {
		text := rowOf(1, 2, 3, "A")
		expectOpFault(t, "a Text alone", impl.Op{Kind: kind, Tx: 1, Row: text}, impl.ErrText)
		expectOpFault(t, "Tx and a Text", impl.Op{Kind: kind, Tx: 100, Row: text}, impl.ErrRange)
		expectOpFault(t, "Tx 0 and a Text", impl.Op{Kind: kind, Row: text}, impl.ErrRange)
		expectOpFault(t, "a Mark and a Text", impl.Op{Kind: kind, Tx: 1, Row: text, Mark: 1}, impl.ErrForm)
		expectOpFault(t, "all of it", impl.Op{Kind: kind, Tx: 100, Row: text, Mark: 8}, impl.ErrForm)
	}
	expectOpFault(t, "a drop of a Text, Tx and Key", impl.Op{Kind: impl.OpDrop, Tx: 100, Row: rowOf(1, 0, 0, "A")}, impl.ErrForm)
	expectOpFault(t, "a drop of no key, Tx", impl.Op{Kind: impl.OpDrop, Tx: 100, Row: rowOf(1, 0, 0, "")}, impl.ErrRange)
	expectOpFault(t, "a Row, and no Tx", impl.Op{Kind: impl.OpCommit, Row: rowOf(1, 2, 3, "")}, impl.ErrForm)
	expectOpFault(t, "a Row and a Tx", impl.Op{Kind: impl.OpBegin, Tx: 1, Row: rowOf(1, 2, 3, "")}, impl.ErrForm)
	expectOpFault(t, "a Row, and no Mark", impl.Op{Kind: impl.OpBack, Tx: 1, Row: rowOf(1, 2, 3, ""), Mark: 8}, impl.ErrForm)
	expectOpFault(t, "a Mark, and no Tx", impl.Op{Kind: impl.OpAbort, Mark: 1}, impl.ErrForm)
}

func TestOpFaultOfAllOps(t *testing.T) {
	txs := []int64{math.MinInt64, -1, 0, 1, 2, 98, 99, 100, math.MaxInt64}
	marks := []int64{math.MinInt64, -1, 0, 1, 6, 7, 8, math.MaxInt64}
	rows := append(edgeRows(), impl.Row{}, rowOf(0, 1, 0, ""), rowOf(3, 99, 0, ""), rowOf(0, 0, 1, ""), rowOf(0, 0, 0, "a"))
	for _, f := range faultyRows() {
		rows = append(rows, f.row, rowOf(f.row.Table, f.row.Key, 0, ""))
	}
	counts := map[int64]int{}
	for _, kind := range []int64{math.MinInt64, -1, 0, 1, 2, 3, 4, 5, 6, 7, 8, 9, 10, math.MaxInt64} {
		for _, tx := range txs {
			for _, mark := range marks {
				for i, r := range rows {
					o := impl.Op{Kind: kind, Tx: tx, Row: r, Mark: mark}
					want := expectedOpFault(o)
					counts[want]++
					expectOpFault(t, "row "+strconv.Itoa(i), o, want)
				}
			}
		}
	}
	for _, code := range []int64{impl.OK, impl.ErrForm, impl.ErrRange, impl.ErrText} {
		if counts[code] == 0 {
			t.Errorf("no op has code %d: %v", code, counts)
		}
	}
}
