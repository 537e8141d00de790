package tests

import (
	"slices"
	"strconv"
	"testing"

	"loop.example/g00408/impl"
)

// storeModel is a store that logs by the words of the chapter; what rows and transactions do is told by the plain model.
type storeModel struct {
	s     impl.Store
	plain *plainModel
}

func newStoreModel(next int64) *storeModel {
	return &storeModel{impl.Store{Up: true, Next: next}, newPlainModel(next)}
}

func (m *storeModel) clone() *storeModel {
	return &storeModel{cloneStore(m.s), m.plain.clone()}
}

// loggedBy is false where there is no room.
func loggedBy(s *impl.Store, list ...impl.Record) bool {
	for _, r := range list {
		data := packOf(r)
		if len(s.Log.Sure)+len(s.Log.Loose)+len(data) > maxLog {
			return false
		}
		s.Log.Loose = append(s.Log.Loose, data...)
		s.Pages, _ = pagesTold(s.Pages, []impl.Record{r})
	}
	return true
}

// changedBy does changes by the edits of the model, until there is no room.
func changedBy(s *impl.Store, kind int64, tx int64, changes ...impl.Change) bool {
	for _, c := range changes {
		edits, code := expectedEdits(s.Pages, c)
		if code != impl.OK || !loggedBy(s, recordsFor(kind, tx, s.Pages, edits.edits)...) {
			return false
		}
	}
	return true
}

// storedBy does to s what an op without a code does to pages and log.
func storedBy(s *impl.Store, o impl.Op, value int64, check impl.ChangeResult, undo []impl.Change) bool {
	var back []impl.Change
	for _, c := range slices.Backward(undo) {
		back = append(back, inverse(c))
	}
	switch o.Kind {
	case impl.OpBegin:
		return loggedBy(s, begin(value))
	case impl.OpPut, impl.OpSet, impl.OpDrop:
		return !check.Turns || changedBy(s, impl.RecDelta, o.Tx, check.Change)
	case impl.OpBack:
		return changedBy(s, impl.RecComp, o.Tx, back...)
	case impl.OpAbort:
		return changedBy(s, impl.RecComp, o.Tx, back...) && loggedBy(s, abort(o.Tx))
	case impl.OpMark:
		return true
	case impl.OpCommit:
		if !loggedBy(s, commit(o.Tx)) {
			return false
		}
	case impl.OpCheck:
		for i, page := range s.Pages {
			if !loggedBy(s, image(int64(i), page)) {
				return false
			}
		}
	}
	s.Log = impl.Log{Sure: slices.Concat(s.Log.Sure, s.Log.Loose)}
	return true
}

// takenBackOf are the changes of Undo that an op takes back.
func takenBackOf(list []impl.Tx, o impl.Op) []impl.Change {
	for _, tx := range list {
		if tx.Id == o.Tx && o.Kind == impl.OpAbort {
			return tx.Undo
		}
		if tx.Id == o.Tx && o.Kind == impl.OpBack {
			return tx.Undo[tx.Marks[o.Mark]:]
		}
	}
	return nil
}

func (m *storeModel) do(o impl.Op) impl.StoreResult {
	ahead := m.plain.plain()
	check := expectedCheck(ahead.Rows, ahead.Txs, o)
	if check.Code != impl.OK {
		return impl.StoreResult{Code: check.Code}
	}
	if len(m.s.Log.Sure)+len(m.s.Log.Loose) > fullLog && !goesOn(o) {
		return impl.StoreResult{Code: impl.ErrFull}
	}
	plain := m.plain.clone()
	did := plain.do(o)
	if did.Code != impl.OK {
		return impl.StoreResult{Code: did.Code}
	}
	s := cloneStore(m.s)
	if !storedBy(&s, o, did.Value, check, takenBackOf(ahead.Txs, o)) {
		return impl.StoreResult{Code: impl.ErrFull}
	}
	s.Txs, s.Next = did.Plain.Txs, did.Plain.Next
	m.s, m.plain = s, plain
	return impl.StoreResult{Value: did.Value, Store: cloneStore(s)}
}

// expectStep does o to s and to the model of it, and asks for all that is promised of what comes of it.
func (m *storeModel) expectStep(t *testing.T, s impl.Store, o impl.Op) (impl.Store, int64) {
	t.Helper()
	kept := cloneStore(s)
	want, got := m.do(o), impl.DoStore(s, o)
	if !sameStoreResult(got, want) {
		t.Fatalf("DoStore(%+v, %+v) = %+v, want %+v", s, o, got, want)
	}
	if !sameStore(s, kept) {
		t.Fatalf("the store was changed by %+v", o)
	}
	if got.Code != impl.OK {
		return s, got.Code
	}
	expectSound(t, "a step", got.Store)
	p := m.plain.plain()
	if rows := impl.RowsOf(got.Store); !slices.Equal(rows.Rows, p.Rows) || !sameTxs(got.Store.Txs, p.Txs) || got.Store.Next != p.Next {
		t.Fatalf("behind %+v the rows are %+v, want %+v", o, rows, p)
	}
	return got.Store, impl.OK
}

// anyTurn is mostly of a row that is there.
func anyTurn(next func(int) int, tx int64, p impl.Plain) impl.Op {
	o := rowOp(impl.OpPut, tx, rowOf(int64(1+2*next(2)), int64(1+next(6)), int64(next(3)), ""))
	if at := next(len(p.Rows) + 2); at < len(p.Rows) && p.Rows[at].Table > 0 {
		o.Row, o.Kind = p.Rows[at], impl.OpSet
	}
	if next(6) == 0 {
		return rowOp(impl.OpDrop, tx, o.Row)
	}
	return o
}

// anyStoreOp turns rows into texts of all lengths, so that they move.
func anyStoreOp(next func(int) int, width int, p impl.Plain) impl.Op {
	o := anyPlainOp(next, width, p)
	if len(p.Txs) > 0 && next(6) > 0 {
		tx := p.Txs[next(len(p.Txs))]
		switch next(14) {
		case 0:
			return txOp(impl.OpMark, tx.Id)
		case 1, 2:
			return backOp(tx.Id, int64(next(len(tx.Marks)+1)))
		case 3:
			return txOp([]int64{impl.OpCommit, impl.OpAbort}[next(2)], tx.Id)
		case 4, 5:
			return beginOp
		}
		o = anyTurn(next, tx.Id, p)
	}
	if (o.Kind == impl.OpPut || o.Kind == impl.OpSet) && o.Row.Table > 0 {
		o.Row.Text = maxLetters[:next(9)]
	}
	return o
}

// beginnings are stores without rows: new ones, ones with pages that are full but for little, and ones with a long log.
func beginnings(t *testing.T, from int64) []impl.Store {
	t.Helper()
	list := []impl.Store{{Up: true, Next: from}}
	for _, room := range []int64{4, 2, 1} {
		var pages [][]byte
		for i := range int64(12) {
			page := stuffed(t)
			if i < room {
				page = without(t, page, 0, 1+i%2)
			}
			pages = append(pages, page)
		}
		list = append(list, storeOf(pages[:11], impl.Plain{Next: from}), storeOf(pages, impl.Plain{Next: from}))
	}
	page := [][]byte{stuffed(t)}
	return append(list, paddedTo(t, storeOf(page, impl.Plain{Next: from}), 3000, true), paddedTo(t, storeOf(page, impl.Plain{Next: from}), 3700, false))
}

func countLogged(s impl.Store) int {
	list, _ := allRead(slices.Concat(s.Log.Sure, s.Log.Loose))
	return len(list)
}

// Long walks of up to four side by side, from stores of all kinds.
func TestStoresOverLongWalks(t *testing.T) {
	next, done := numbers(1201), map[string]int{}
	for walk := range 63 {
		from := []int64{1, 40, 92}[walk%3]
		list := beginnings(t, from)
		m := newStoreModel(from)
		m.s = list[walk%len(list)]
		s := cloneStore(m.s)
		for _, o := range []impl.Op{beginOp, rowOp(impl.OpPut, from, told(1, 8)), rowOp(impl.OpPut, from, told(3, 8)), txOp(impl.OpCommit, from)} {
			s, _ = m.expectStep(t, s, o)
		}
		for range 110 {
			ahead, code := s, int64(0)
			o := anyStoreOp(next, 30+walk%6*20, plainIn(s))
			s, code = m.expectStep(t, s, o)
			done[strconv.FormatInt(o.Kind, 10)+":"+strconv.FormatInt(code, 10)]++
			done[strconv.Itoa(len(s.Txs))+" open"]++
			done[strconv.FormatInt(o.Kind, 10)+" records "+strconv.Itoa(min(4, countLogged(s)-countLogged(ahead)))]++
			if code == impl.ErrFull {
				done["full log "+strconv.FormatBool(len(s.Log.Sure)+len(s.Log.Loose) > fullLog)]++
			}
		}
	}
	for _, way := range []string{"1:0", "1:2", "1:9", "2:0", "2:4", "2:6", "2:7", "2:9", "2:10", "3:0", "3:4", "3:7", "3:9", "4:0", "4:4", "4:7", "4:9", "5:0", "5:4", "5:9", "6:0", "6:3", "6:4", "7:0", "7:4", "7:9", "8:0", "8:4", "9:0", "9:9", "0:1", "10:1",
		"0 open", "1 open", "2 open", "3 open", "4 open", "2 records 1", "2 records 2", "3 records 0", "3 records 1", "3 records 2", "3 records 3", "4 records 1", "4 records 2",
		"6 records 0", "6 records 1", "6 records 4", "8 records 1", "8 records 2", "8 records 3", "8 records 4", "9 records 4", "full log true", "full log false"} {
		if done[way] < 3 {
			t.Errorf("the walks went the way %q %d times alone: %v", way, done[way], done)
		}
	}
}

func (m *storeModel) expectAllOrders(t *testing.T, s impl.Store, depth int) int {
	t.Helper()
	if depth == 0 {
		return 0
	}
	count := 0
	for _, o := range append(fewOps(), checkOp) {
		own := m.clone()
		if then, code := own.expectStep(t, s, o); code == impl.OK {
			count += 1 + own.expectAllOrders(t, then, depth-1)
		}
	}
	return count
}

// All orders of few ops.
func TestStoresInAllOrders(t *testing.T) {
	m, s := newStoreModel(1), impl.NewStore(1).Store
	for _, o := range []impl.Op{beginOp, rowOp(impl.OpPut, 1, told(1, 8)), txOp(impl.OpCommit, 1), beginOp, beginOp} {
		s, _ = m.expectStep(t, s, o)
	}
	if count := m.expectAllOrders(t, s, 4); count < 5000 {
		t.Errorf("%d orders alone", count)
	}
}

func sameStoreRun(a impl.StoreRun, b impl.StoreRun) bool {
	return a.Code == b.Code && slices.Equal(a.Codes, b.Codes) && slices.Equal(a.Values, b.Values) && sameStore(a.Store, b.Store)
}

// expectStoreRun asks for what DoStore makes of the ops one behind the other, and for codes, values and rows of RunPlain,
// as long as neither log nor pages are full.
func expectStoreRun(t *testing.T, name string, ops []impl.Op) impl.StoreRun {
	t.Helper()
	want := impl.StoreRun{Store: impl.NewStore(1).Store}
	for _, o := range ops {
		did := impl.DoStore(want.Store, o)
		want.Codes, want.Values = append(want.Codes, did.Code), append(want.Values, did.Value)
		if did.Code == impl.OK {
			want.Store = did.Store
		}
	}
	kept, got := slices.Clone(ops), impl.RunStore(ops)
	if !sameStoreRun(got, want) {
		t.Fatalf("%s: RunStore(%+v) = %+v, want %+v", name, ops, got, want)
	}
	if !slices.Equal(ops, kept) {
		t.Fatalf("%s: the ops were changed", name)
	}
	expectSound(t, name, got.Store)
	plain := impl.RunPlain(ops)
	if impl.LoggedIn(got.Store).Used <= fullLog && len(got.Store.Pages) < 12 {
		if !slices.Equal(got.Codes, plain.Codes) || !slices.Equal(got.Values, plain.Values) || !samePlain(plainIn(got.Store), plain.Plain) {
			t.Fatalf("%s: RunStore = %+v, RunPlain = %+v", name, got, plain)
		}
		expectRowsOf(t, name, got.Store, impl.RowsResult{Rows: plain.Plain.Rows})
	}
	return got
}

func TestRunStoreByHand(t *testing.T) {
	one, two := rowOf(1, 1, 1, "one"), rowOf(1, 1, 2, "two")
	ops := []impl.Op{
		txOp(impl.OpCommit, 1), beginOp, rowOp(impl.OpPut, 1, one), rowOp(impl.OpPut, 1, told(1, 3)), rowOp(impl.OpPut, 1, one), txOp(impl.OpMark, 1), beginOp,
		rowOp(impl.OpSet, 2, two), txOp(impl.OpMark, 1), rowOp(impl.OpSet, 1, two), backOp(1, 2), backOp(1, 1), txOp(impl.OpCommit, 1), {}, rowOp(impl.OpDrop, 2, one), checkOp, beginOp, txOp(impl.OpAbort, 3), txOp(impl.OpAbort, 3),
	}
	by := stepsOn(t, nil).fresh(cellOf(impl.FlagRow, told(1, 3))).put(0, 1, cellOf(impl.FlagRow, one)).set(0, 1, cellOf(impl.FlagRow, two)).set(0, 1, cellOf(impl.FlagRow, one)).drop(0, 1)
	list := recordsFor(impl.RecDelta, 1, nil, by.edits)
	list[3].Kind, list[4].Tx = impl.RecComp, 2
	sure := []impl.Record{begin(1), list[0], list[1], begin(2), list[2], list[3], commit(1), list[4], image(0, by.pages[0])}
	want := impl.StoreRun{
		Codes:  []int64{impl.ErrNone, 0, impl.ErrNone, 0, 0, 0, 0, impl.ErrLock, 0, 0, impl.ErrRange, 0, 0, impl.ErrForm, 0, 0, 0, 0, impl.ErrNone},
		Values: []int64{0, 1, 0, 0, 0, 0, 2, 0, 1, 0, 0, 0, 0, 0, 0, 0, 3, 0, 0},
		Store:  impl.Store{Up: true, Pages: by.pages, Log: logOf(sure, []impl.Record{begin(3), abort(3)}), Txs: []impl.Tx{turner(2, drop(one))}, Next: 4},
	}
	if got := expectStoreRun(t, "by hand", ops); !sameStoreRun(got, want) {
		t.Errorf("RunStore = %+v, want %+v", got, want)
	}
}

func TestRunStoreOfNoOps(t *testing.T) {
	for _, ops := range [][]impl.Op{nil, {}, make([]impl.Op, 0, 9)} {
		if got := expectStoreRun(t, "no ops", ops); !sameStoreRun(got, impl.StoreRun{Store: impl.Store{Up: true, Next: 1}}) {
			t.Errorf("no ops: %+v", got)
		}
	}
}

// anyStoreRun has many ops without a code, and rows that move.
func anyStoreRun(next func(int) int, count int) []impl.Op {
	s, ops := impl.NewStore(1).Store, []impl.Op{}
	for len(ops) < count {
		o := anyStoreOp(next, 40, plainIn(s))
		if did := impl.DoStore(s, o); did.Code == impl.OK {
			s = did.Store
		} else if next(3) > 0 {
			continue
		}
		ops = append(ops, o)
	}
	return ops
}

func expectTooManyStored(t *testing.T, name string, ops []impl.Op) {
	t.Helper()
	if got := impl.RunStore(ops); !sameStoreRun(got, impl.StoreRun{Code: impl.ErrMany}) {
		t.Errorf("%s: RunStore = %+v, want ErrMany alone", name, got)
	}
}

func TestRunStoreOfAnyOps(t *testing.T) {
	next := numbers(79)
	for count := range maxOps + 1 {
		for range 5 {
			expectStoreRun(t, strconv.Itoa(count)+" ops", anyStoreRun(next, count))
			expectStoreRun(t, strconv.Itoa(count)+" ops of a plain one", anyRun(next, count))
		}
	}
	for _, count := range []int{maxOps + 1, maxOps + 2, 100, 1000} {
		expectTooManyStored(t, "too many that may be done", slices.Repeat(anyRun(next, maxOps), 1+count/maxOps)[:count])
		expectTooManyStored(t, "too many that may not be done", make([]impl.Op, count))
		expectTooManyStored(t, "too many begins", slices.Repeat([]impl.Op{beginOp}, count))
	}
	expectStoreRun(t, "60 that may not be done", make([]impl.Op, maxOps))
	run := expectStoreRun(t, "60 begins", slices.Repeat([]impl.Op{beginOp}, maxOps))
	if run.Store.Next != 5 || !slices.Equal(run.Codes[:6], []int64{0, 0, 0, 0, impl.ErrMany, impl.ErrMany}) || !slices.Equal(run.Values[:6], []int64{1, 2, 3, 4, 0, 0}) || !sameLog(run.Store.Log, logOf(nil, []impl.Record{begin(1), begin(2), begin(3), begin(4)})) {
		t.Errorf("60 begins: %+v", run)
	}
	checks := append([]impl.Op{beginOp, rowOp(impl.OpPut, 1, told(1, 8))}, slices.Repeat([]impl.Op{checkOp}, maxOps-2)...)
	full := expectStoreRun(t, "58 checks", checks)
	if slices.Contains(full.Codes, impl.ErrFull) == (impl.LoggedIn(full.Store).Used <= fullLog) {
		t.Errorf("58 checks: %+v", full)
	}
}

// An op with a fault, wherever it stands, turns nothing, and those behind it are done as without it.
func TestRunStoreGoesOnBehindACode(t *testing.T) {
	wrong := map[int64]impl.Op{
		impl.ErrForm:  {},
		impl.ErrRange: txOp(impl.OpAbort, 100),
		impl.ErrText:  rowOp(impl.OpPut, 1, rowOf(1, 1, 1, "A")),
		impl.ErrNone:  txOp(impl.OpCommit, 99),
	}
	next := numbers(5)
	for range 3 {
		ops := anyStoreRun(next, 30)
		right := expectStoreRun(t, "without it", ops)
		for code, o := range wrong {
			for at := range len(ops) + 1 {
				got := expectStoreRun(t, "with it", slices.Insert(slices.Clone(ops), at, o))
				want := impl.StoreRun{Codes: slices.Insert(slices.Clone(right.Codes), at, code), Values: slices.Insert(slices.Clone(right.Values), at, 0), Store: right.Store}
				if !sameStoreRun(got, want) {
					t.Fatalf("code %d at %d: %+v, want %+v", code, at, got, want)
				}
			}
		}
	}
}

// turnAnyStore makes s another one, mostly one with a fault.
func turnAnyStore(next func(int) int, s *impl.Store) {
	list, _ := allRead(slices.Concat(s.Log.Sure, s.Log.Loose))
	switch next(12) {
	case 0:
		s.Up = !s.Up
	case 1:
		s.Up, s.Pages, s.Txs, s.Log = false, nil, nil, impl.Log{Sure: s.Log.Sure}
		s.Next += int64(next(120))
	case 2:
		s.Log = impl.Log{Sure: s.Log.Loose, Loose: s.Log.Sure}
	case 3:
		s.Log.Loose = s.Log.Loose[:next(len(s.Log.Loose)+1)]
	case 4:
		at := next(len(list) + 1)
		s.Log = logOf(slices.Delete(list, min(at, len(list)-1), len(list)), nil)
	case 5:
		at := next(len(list) + 1)
		s.Log = logOf(list[:at], list[at:])
	case 6:
		s.Pages = s.Pages[:next(len(s.Pages)+1)]
	case 7:
		s.Pages = append(s.Pages, impl.NewPage(0).Page)
	case 8:
		s.Pages[next(len(s.Pages))][next(64)] ^= byte(1 + next(3))
	case 9:
		s.Log.Sure = append(s.Log.Sure, byte(next(9)))
	default:
		p := impl.Plain{Txs: s.Txs, Next: s.Next}
		turnAny(next, &p)
		s.Txs, s.Next = p.Txs, p.Next
	}
}

// Stores of a walk that were made wrong in some way: the code is that of the words of the chapter.
func TestStoreFaultOfAny(t *testing.T) {
	next, counts, ops := numbers(17), map[string]int{}, anyOps()
	for walk := range 40 {
		list := beginnings(t, 1)
		m := newStoreModel(1)
		m.s = list[walk%len(list)]
		s := cloneStore(m.s)
		for _, o := range []impl.Op{beginOp, rowOp(impl.OpPut, 1, told(1, 8)), rowOp(impl.OpPut, 1, told(3, 8))} {
			s, _ = m.expectStep(t, s, o)
		}
		for range 60 {
			s, _ = m.expectStep(t, s, anyStoreOp(next, 60, plainIn(s)))
			wrong := cloneStore(s)
			for range 1 + next(2) {
				if len(wrong.Pages) > 0 && len(wrong.Log.Sure)+len(wrong.Log.Loose) > 0 {
					turnAnyStore(next, &wrong)
				}
			}
			code := expectedStoreFault(wrong)
			counts[strconv.FormatBool(wrong.Up)+strconv.FormatInt(code, 10)]++
			expectFaultAt(t, "any", wrong, code, ops[next(len(ops))], ops[next(len(ops))])
		}
	}
	for _, way := range []string{"true0", "true1", "true2", "true3", "true4", "true5", "true7", "true8", "false0", "false1", "false3", "false5"} {
		if counts[way] < 3 {
			t.Errorf("%d stores alone are %s: %v", counts[way], way, counts)
		}
	}
}
