package tests

import (
	"maps"
	"slices"
	"strconv"
	"testing"

	"loop.example/g00408/impl"
)

const maxOps = 60

// heldRow is what a transaction made of a key: a row, or none.
type heldRow struct {
	is  bool
	row impl.Row
}

// turnedTo is what a transaction made of its keys, and how many changes led there.
type turnedTo struct {
	held map[impl.Key]heldRow
	undo int
}

type openTx struct {
	now   turnedTo
	marks []turnedTo
	tx    impl.Tx
}

// plainModel keeps what is committed apart from what each open one made of it: nothing is ever taken back by a change.
type plainModel struct {
	committed map[impl.Key]impl.Row
	open      []*openTx
	next      int64
}

func newPlainModel(next int64) *plainModel {
	return &plainModel{committed: map[impl.Key]impl.Row{}, next: next}
}

func hold(there map[impl.Key]impl.Row, held map[impl.Key]heldRow) {
	for k, h := range held {
		delete(there, k)
		if h.is {
			there[k] = h.row
		}
	}
}

func (m *plainModel) plain() impl.Plain {
	there, p := maps.Clone(m.committed), impl.Plain{Next: m.next}
	for _, a := range m.open {
		hold(there, a.now.held)
		tx := cloneTx(a.tx)
		for _, mark := range a.marks {
			tx.Marks = append(tx.Marks, int64(mark.undo))
		}
		p.Txs = append(p.Txs, tx)
	}
	p.Rows = rowsOfKeys(there)
	return p
}

func (m *plainModel) begin() impl.PlainResult {
	if m.next == 100 {
		return impl.PlainResult{Code: impl.ErrFull}
	}
	m.open = append(m.open, &openTx{now: turnedTo{held: map[impl.Key]heldRow{}}, tx: impl.Tx{Id: m.next}})
	m.next++
	return impl.PlainResult{Value: m.next - 1, Plain: m.plain()}
}

func (a *openTx) turn(c impl.Change) {
	k := keyOfChange(c)
	a.now.held[k] = heldRow{c.Is, c.After}
	a.now.undo++
	a.tx.Undo = append(a.tx.Undo, c)
	if !slices.Contains(a.tx.Locks, k) {
		a.tx.Locks = append(a.tx.Locks, k)
	}
}

func (a *openTx) mark() {
	a.marks = append(a.marks, turnedTo{maps.Clone(a.now.held), a.now.undo})
}

func (a *openTx) back(mark int64) {
	to := a.marks[mark]
	a.now, a.marks = turnedTo{maps.Clone(to.held), to.undo}, a.marks[:mark+1]
	a.tx.Undo = a.tx.Undo[:to.undo]
}

// do is DoPlain in the words of the promise.
func (m *plainModel) do(o impl.Op) impl.PlainResult {
	p := m.plain()
	check := expectedCheck(p.Rows, p.Txs, o)
	if check.Code != impl.OK {
		return impl.PlainResult{Code: check.Code}
	}
	at := slices.IndexFunc(m.open, func(a *openTx) bool { return a.tx.Id == o.Tx })
	value := int64(0)
	switch o.Kind {
	case impl.OpBegin:
		return m.begin()
	case impl.OpPut, impl.OpSet, impl.OpDrop:
		if check.Turns {
			m.open[at].turn(check.Change)
		}
	case impl.OpMark:
		value = int64(len(m.open[at].marks))
		m.open[at].mark()
	case impl.OpBack:
		m.open[at].back(o.Mark)
	case impl.OpCommit:
		hold(m.committed, m.open[at].now.held)
		m.open = slices.Delete(m.open, at, at+1)
	case impl.OpAbort:
		m.open = slices.Delete(m.open, at, at+1)
	}
	return impl.PlainResult{Value: value, Plain: m.plain()}
}

// expectStep does o to p and to the model of it, and asks for all that is promised of what comes of it.
func (m *plainModel) expectStep(t *testing.T, p impl.Plain, o impl.Op) (impl.Plain, int64) {
	t.Helper()
	want, got := m.do(o), impl.DoPlain(p, o)
	if !samePlainResult(got, want) {
		t.Fatalf("DoPlain(%+v, %+v) = %+v, want %+v", p, o, got, want)
	}
	if got.Code != impl.OK {
		return p, got.Code
	}
	if code := impl.PlainFault(got.Plain); code != impl.OK {
		t.Fatalf("PlainFault(%+v) = %d", got.Plain, code)
	}
	if over := impl.CommittedOf(got.Plain); over.Code != impl.OK || !slices.Equal(over.Rows, rowsOfKeys(m.committed)) {
		t.Fatalf("CommittedOf(%+v) = %+v, want %+v", got.Plain, over, rowsOfKeys(m.committed))
	}
	return got.Plain, impl.OK
}

// anyPlainRow is often of a key that is there, and of few keys else.
func anyPlainRow(next func(int) int, p impl.Plain) impl.Row {
	r := rowOf(int64(1+next(3)), int64(1+next(6)), int64(next(3)), maxLetters[:next(4)])
	if len(p.Rows) > 0 && next(3) > 0 {
		there := p.Rows[next(len(p.Rows))]
		r.Table, r.Key = there.Table, there.Key
		if next(8) == 0 {
			return there
		}
	}
	if r.Table == 0 || next(8) == 0 {
		return told(int64(1+next(3)), int64(next(5)))
	}
	return r
}

// anyPlainOp is an op that turns rows the more often the greater width is, and an end the less often.
func anyPlainOp(next func(int) int, width int, p impl.Plain) impl.Op {
	tx := int64(next(100))
	if len(p.Txs) > 0 && next(30) > 0 {
		tx = p.Txs[next(len(p.Txs))].Id
	}
	switch next(width) {
	case 0, 1, 2, 3, 4:
		return impl.Op{Kind: impl.OpBegin}
	case 5, 6:
		return txOp([]int64{impl.OpCommit, impl.OpCommit, impl.OpAbort}[next(3)], tx)
	case 7, 8, 9, 10, 11:
		return txOp(impl.OpMark, tx)
	case 12:
		return backOp(tx, int64(next(8)))
	case 13:
		return impl.Op{Kind: impl.OpCheck}
	case 14:
		return impl.Op{Kind: int64(next(12)), Tx: tx, Mark: int64(next(10)), Row: rowOf(int64(next(5)), int64(next(3)), 0, "")}
	}
	return rowOp(int64(2+next(3)), tx, anyPlainRow(next, p))
}

// Long walks of up to four side by side: no fault, what is committed stays, of what is aborted nothing does, and who goes
// back has what there was.
func TestPlainOnesOverLongWalks(t *testing.T) {
	next, done := numbers(1101), map[string]int{}
	for walk := range 150 {
		from := []int64{1, 40, 92}[walk%3]
		m, p := newPlainModel(from), impl.NewPlain(from).Plain
		for _, o := range []impl.Op{{Kind: impl.OpBegin}, rowOp(impl.OpPut, from, told(1, 3)), rowOp(impl.OpPut, from, told(3, 2)), txOp(impl.OpCommit, from)} {
			p, _ = m.expectStep(t, p, o)
		}
		for range 200 {
			o, code := anyPlainOp(next, 30+walk%6*20, p), int64(0)
			p, code = m.expectStep(t, p, o)
			done[strconv.FormatInt(o.Kind, 10)+":"+strconv.FormatInt(code, 10)]++
			done[strconv.Itoa(len(p.Txs))+" open"]++
		}
	}
	for _, way := range []string{"1:0", "1:2", "1:9", "2:0", "2:4", "2:6", "2:7", "2:9", "2:10", "3:0", "3:4", "3:7", "3:8", "3:9", "3:10", "4:0", "4:4", "4:7", "4:8", "4:9",
		"5:0", "5:2", "5:4", "6:0", "6:3", "6:4", "7:0", "7:4", "8:0", "8:4", "9:0", "0:1", "10:1", "0 open", "1 open", "2 open", "3 open", "4 open"} {
		if done[way] < 5 {
			t.Errorf("the walks went the way %q %d times alone: %v", way, done[way], done)
		}
	}
}

// turnAny makes p another one, mostly one with a fault.
func turnAny(next func(int) int, p *impl.Plain) {
	if next(3) == 0 && len(p.Rows) > 0 {
		at := next(len(p.Rows))
		switch next(5) {
		case 0:
			p.Rows = slices.Delete(p.Rows, at, at+1)
		case 1:
			p.Rows[at].Val = int64(next(3))
		case 2:
			p.Rows = slices.Insert(p.Rows, at, p.Rows[next(len(p.Rows))])
		case 3:
			p.Rows = append(p.Rows, manyRows(3*99+20, next(9), 1)...)
		case 4:
			p.Rows[at].Text = "A"
		}
		return
	}
	if next(6) == 0 || len(p.Txs) == 0 {
		p.Next += int64(next(9) - 4)
		return
	}
	tx := &p.Txs[next(len(p.Txs))]
	switch next(10) {
	case 0:
		tx.Id = int64(next(101))
	case 1:
		tx.Locks = append(tx.Locks, keyAt(int64(next(4)), int64(1+next(9))))
	case 2:
		tx.Marks = append(tx.Marks, int64(next(4)))
	case 3:
		tx.Undo = append(tx.Undo, put(rowOf(1, 1, 1, "")))
	case 4:
		tx.Locks = tx.Locks[:next(len(tx.Locks)+1)]
	case 5, 6:
		tx.Undo = tx.Undo[:next(len(tx.Undo)+1)]
	case 7:
		slices.Reverse(tx.Undo)
	case 8:
		p.Txs = slices.Insert(p.Txs, 0, p.Txs[next(len(p.Txs))])
	case 9:
		other := p.Txs[next(len(p.Txs))].Locks
		tx.Locks = append(tx.Locks, other[:min(1, len(other))]...)
	}
}

// Plain ones of a walk that were made wrong in some way: the code is that of the words of the chapter.
func TestPlainFaultOfAny(t *testing.T) {
	next, counts := numbers(13), map[int64]int{}
	for range 60 {
		m, p := newPlainModel(1), impl.NewPlain(1).Plain
		for _, o := range []impl.Op{{Kind: impl.OpBegin}, rowOp(impl.OpPut, 1, told(1, 3)), rowOp(impl.OpPut, 1, told(3, 2))} {
			p, _ = m.expectStep(t, p, o)
		}
		for range 100 {
			p, _ = m.expectStep(t, p, anyPlainOp(next, 60, p))
			wrong := clonePlain(p)
			for range 1 + next(2) {
				turnAny(next, &wrong)
			}
			code := expectedPlainFault(wrong)
			counts[code]++
			expectPlainFault(t, "any", wrong, code)
		}
	}
	for _, code := range []int64{impl.OK, impl.ErrForm, impl.ErrMany, impl.ErrRange, impl.ErrText, impl.ErrTaken, impl.ErrLock, impl.ErrState} {
		if counts[code] < 10 {
			t.Errorf("%d plain ones alone have code %d: %v", counts[code], code, counts)
		}
	}
}

// fewOps are ops of two side by side that get into each other's way.
func fewOps() []impl.Op {
	a, b := rowOf(1, 1, 1, "a"), rowOf(1, 1, 2, "")
	var ops []impl.Op
	for tx := int64(2); tx <= 3; tx++ {
		ops = append(ops, rowOp(impl.OpPut, tx, a), rowOp(impl.OpSet, tx, b), rowOp(impl.OpDrop, tx, a), txOp(impl.OpMark, tx), backOp(tx, 0), backOp(tx, 1), txOp(impl.OpCommit, tx), txOp(impl.OpAbort, tx))
	}
	return append(ops, rowOp(impl.OpSet, 2, told(1, 7)), impl.Op{Kind: impl.OpBegin})
}

func (m *plainModel) clone() *plainModel {
	own := &plainModel{committed: maps.Clone(m.committed), next: m.next}
	for _, a := range m.open {
		own.open = append(own.open, &openTx{now: turnedTo{maps.Clone(a.now.held), a.now.undo}, marks: slices.Clone(a.marks), tx: cloneTx(a.tx)})
	}
	return own
}

func (m *plainModel) expectAllOrders(t *testing.T, p impl.Plain, depth int) int {
	t.Helper()
	if depth == 0 {
		return 0
	}
	count := 0
	for _, o := range fewOps() {
		own := m.clone()
		if then, code := own.expectStep(t, p, o); code == impl.OK {
			count += 1 + own.expectAllOrders(t, then, depth-1)
		}
	}
	return count
}

// All orders of few ops.
func TestPlainOnesInAllOrders(t *testing.T) {
	m, p := newPlainModel(1), impl.NewPlain(1).Plain
	for _, o := range []impl.Op{{Kind: impl.OpBegin}, rowOp(impl.OpPut, 1, told(1, 8)), txOp(impl.OpCommit, 1), {Kind: impl.OpBegin}, {Kind: impl.OpBegin}} {
		p, _ = m.expectStep(t, p, o)
	}
	if count := m.expectAllOrders(t, p, 4); count < 5000 {
		t.Errorf("%d orders alone", count)
	}
}

func sameRun(a impl.RunResult, b impl.RunResult) bool {
	return a.Code == b.Code && slices.Equal(a.Codes, b.Codes) && slices.Equal(a.Values, b.Values) && samePlain(a.Plain, b.Plain)
}

// expectRun asks for what DoPlain makes of the ops one behind the other, and for the codes and values of the model.
func expectRun(t *testing.T, name string, ops []impl.Op) impl.RunResult {
	t.Helper()
	want, m := impl.RunResult{Plain: impl.NewPlain(1).Plain}, newPlainModel(1)
	for _, o := range ops {
		did, model := impl.DoPlain(want.Plain, o), m.do(o)
		if !samePlainResult(did, model) {
			t.Fatalf("%s: DoPlain of %+v = %+v, want %+v", name, o, did, model)
		}
		want.Codes, want.Values = append(want.Codes, did.Code), append(want.Values, did.Value)
		if did.Code == impl.OK {
			want.Plain = did.Plain
		}
	}
	kept, got := slices.Clone(ops), impl.RunPlain(ops)
	if !sameRun(got, want) {
		t.Fatalf("%s: RunPlain(%+v) = %+v, want %+v", name, ops, got, want)
	}
	if !slices.Equal(ops, kept) {
		t.Fatalf("%s: the ops were changed", name)
	}
	if code := impl.PlainFault(got.Plain); code != impl.OK {
		t.Fatalf("%s: what comes of it has the PlainFault %d", name, code)
	}
	return got
}

func TestRunPlainByHand(t *testing.T) {
	one, two := rowOf(1, 1, 1, "one"), rowOf(1, 1, 2, "two")
	ops := []impl.Op{
		txOp(impl.OpCommit, 1), {Kind: impl.OpBegin}, rowOp(impl.OpPut, 1, one), rowOp(impl.OpPut, 1, told(1, 3)), rowOp(impl.OpPut, 1, one), txOp(impl.OpMark, 1), {Kind: impl.OpBegin},
		rowOp(impl.OpSet, 2, two), txOp(impl.OpMark, 1), rowOp(impl.OpSet, 1, two), backOp(1, 2), backOp(1, 1), txOp(impl.OpCommit, 1), {}, rowOp(impl.OpDrop, 2, one), {Kind: impl.OpCheck}, {Kind: impl.OpBegin}, txOp(impl.OpAbort, 3), txOp(impl.OpAbort, 3),
	}
	want := impl.RunResult{
		Codes:  []int64{impl.ErrNone, 0, impl.ErrNone, 0, 0, 0, 0, impl.ErrLock, 0, 0, impl.ErrRange, 0, 0, impl.ErrForm, 0, 0, 0, 0, impl.ErrNone},
		Values: []int64{0, 1, 0, 0, 0, 0, 2, 0, 1, 0, 0, 0, 0, 0, 0, 0, 3, 0, 0},
		Plain:  impl.Plain{Rows: []impl.Row{told(1, 3)}, Txs: []impl.Tx{turner(2, drop(one))}, Next: 4},
	}
	got := expectRun(t, "by hand", ops)
	if !sameRun(got, want) {
		t.Errorf("RunPlain = %+v, want %+v", got, want)
	}
	expectCommitted(t, "by hand", got.Plain, told(1, 3), one)
}

func TestRunPlainOfNoOps(t *testing.T) {
	for _, ops := range [][]impl.Op{nil, {}, make([]impl.Op, 0, 9)} {
		if got := expectRun(t, "no ops", ops); !sameRun(got, impl.RunResult{Plain: impl.Plain{Next: 1}}) {
			t.Errorf("no ops: %+v", got)
		}
	}
}

// anyRun has many ops without a code.
func anyRun(next func(int) int, count int) []impl.Op {
	p, ops := impl.NewPlain(1).Plain, []impl.Op{}
	for len(ops) < count {
		o := anyPlainOp(next, 40, p)
		did := impl.DoPlain(p, o)
		if did.Code == impl.OK {
			p = did.Plain
		} else if next(3) > 0 {
			continue
		}
		ops = append(ops, o)
	}
	return ops
}

func expectTooManyOps(t *testing.T, name string, ops []impl.Op) {
	t.Helper()
	if got := impl.RunPlain(ops); !sameRun(got, impl.RunResult{Code: impl.ErrMany}) {
		t.Errorf("%s: RunPlain = %+v, want ErrMany alone", name, got)
	}
}

func TestRunPlainOfAnyOps(t *testing.T) {
	next := numbers(77)
	for count := range maxOps + 1 {
		for range 6 {
			expectRun(t, strconv.Itoa(count)+" ops", anyRun(next, count))
		}
	}
	for _, count := range []int{maxOps + 1, maxOps + 2, 100, 1000} {
		expectTooManyOps(t, "too many that may be done", anyRun(next, count))
		expectTooManyOps(t, "too many that may not be done", make([]impl.Op, count))
		expectTooManyOps(t, "too many begins", slices.Repeat([]impl.Op{{Kind: impl.OpBegin}}, count))
	}
	expectRun(t, "60 that may not be done", make([]impl.Op, maxOps))
	run := expectRun(t, "60 begins", slices.Repeat([]impl.Op{{Kind: impl.OpBegin}}, maxOps))
	if run.Plain.Next != 5 || !slices.Equal(run.Codes[:6], []int64{0, 0, 0, 0, impl.ErrMany, impl.ErrMany}) || !slices.Equal(run.Values[:6], []int64{1, 2, 3, 4, 0, 0}) {
		t.Errorf("60 begins: %+v", run)
	}
	ends := expectRun(t, "30 begins and commits", slices.Concat(slices.Repeat([]impl.Op{{Kind: impl.OpBegin}}, 4), []impl.Op{txOp(impl.OpCommit, 3), {Kind: impl.OpBegin}, txOp(impl.OpAbort, 1), {Kind: impl.OpBegin}}))
	if !samePlain(ends.Plain, impl.Plain{Txs: []impl.Tx{{Id: 2}, {Id: 4}, {Id: 5}, {Id: 6}}, Next: 7}) {
		t.Errorf("begins and ends: %+v", ends)
	}
}

// An op with a fault, wherever it stands, turns nothing, and those behind it are done as without it.
func TestRunPlainGoesOnBehindACode(t *testing.T) {
	wrong := map[int64]impl.Op{
		impl.ErrForm:  {},
		impl.ErrRange: txOp(impl.OpAbort, 100),
		impl.ErrText:  rowOp(impl.OpPut, 1, rowOf(1, 1, 1, "A")),
		impl.ErrNone:  txOp(impl.OpCommit, 99),
	}
	next := numbers(5)
	for range 4 {
		ops := anyRun(next, 30)
		right := expectRun(t, "without it", ops)
		for code, o := range wrong {
			for at := range len(ops) + 1 {
				got := expectRun(t, "with it", slices.Insert(slices.Clone(ops), at, o))
				want := impl.RunResult{Codes: slices.Insert(slices.Clone(right.Codes), at, code), Values: slices.Insert(slices.Clone(right.Values), at, 0), Plain: right.Plain}
				if !sameRun(got, want) {
					t.Fatalf("code %d at %d: %+v, want %+v", code, at, got, want)
				}
			}
		}
	}
}

// Ids are not given twice: 99 transactions may begin, and no more, over several runs of one plain one.
func TestPlainOnesRunOutOfIds(t *testing.T) {
	p := impl.NewPlain(1).Plain
	for id := int64(1); id <= 99; id++ {
		begun := impl.DoPlain(p, impl.Op{Kind: impl.OpBegin})
		if begun.Code != impl.OK || begun.Value != id || begun.Plain.Next != id+1 {
			t.Fatalf("begin %d: %+v", id, begun)
		}
		p = doAll(t, begun.Plain, txOp(impl.OpCommit+id%2, id))
	}
	expectNoDo(t, "all Ids are given", p, impl.Op{Kind: impl.OpBegin}, impl.ErrFull)
}
