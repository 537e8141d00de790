package tests

import (
	"bytes"
	"slices"
	"strconv"
	"testing"

	"loop.example/g00408/impl"
)

// crashing knows which logs were recovered already: a recovery hangs on its store alone.
type crashing struct {
	t    *testing.T
	seen map[string]bool
	ways map[string]int
}

func newCrashing(t *testing.T) *crashing {
	return &crashing{t, map[string]bool{}, map[string]int{}}
}

// endsOfRecords are all lengths at which a log ends with a record, from this one on.
func endsOfRecords(data []byte, from int) []int {
	ends := []int{from}
	for from < len(data) {
		from += int(impl.ReadRecord(data[from:]).Used)
		ends = append(ends, from)
	}
	return ends
}

// expectRows recovers a store that is down: just these rows are there then, and wherever the recovery itself is cut they
// are there behind another one. Deep says how many recoveries are cut one behind the other.
func (c *crashing) expectRows(s impl.Store, rows []impl.Row, deep int) {
	c.t.Helper()
	key := strconv.Itoa(deep) + " " + strconv.FormatInt(s.Next, 10) + " " + string(s.Log.Sure)
	if c.seen[key] {
		return
	}
	c.seen[key] = true
	got := impl.RecoverStore(s)
	if want := expectedRecover(s); !sameStoreResult(got, want) {
		c.t.Fatalf("RecoverStore(%+v) = %+v, want %+v", s, got, want)
	}
	if impl.StoreFault(s) != impl.OK || impl.StoreFault(got.Store) != impl.OK || !got.Store.Up || len(got.Store.Txs) > 0 || len(got.Store.Log.Loose) > 0 || got.Store.Next != s.Next {
		c.t.Fatalf("%+v is recovered as %+v", s, got)
	}
	if is := impl.RowsOf(got.Store); is.Code != impl.OK || !slices.Equal(is.Rows, rows) {
		c.t.Fatalf("behind a recovery of %+v the rows are %+v, want %+v", s, is, rows)
	}
	c.expectSame(got.Store)
	ends := endsOfRecords(got.Store.Log.Sure, len(s.Log.Sure))
	c.ways["recoveries"]++
	c.ways[strconv.Itoa(min(9, len(ends)-1))+" logged"]++
	c.ways[strconv.Itoa(len(impl.LosersIn(recordsOfLog(s.Log.Sure)).Mined))+" losers"]++
	if deep == 0 {
		return
	}
	for _, end := range ends[1:] {
		c.expectRows(impl.Store{Log: impl.Log{Sure: got.Store.Log.Sure[:end]}, Next: s.Next}, rows, deep-1)
	}
}

func recordsOfLog(data []byte) []impl.Record {
	list, _ := allRead(data)
	return list
}

// expectSame crashes one that is recovered, and recovers it again: nothing is another one.
func (c *crashing) expectSame(s impl.Store) {
	c.t.Helper()
	crashed := impl.CrashStore(s, 0)
	again := impl.RecoverStore(crashed.Store)
	if crashed.Code != impl.OK || !bytes.Equal(crashed.Store.Log.Sure, s.Log.Sure) || !sameStoreResult(again, impl.StoreResult{Store: s}) {
		c.t.Fatalf("%+v is recovered once more as %+v", s, again)
	}
}

// expectCrashes crashes a store at each end of a record, and just ahead of it, or with each kept that there is.
func (c *crashing) expectCrashes(s impl.Store, rows []impl.Row, everyKept bool, deep int) {
	c.t.Helper()
	whole, last := slices.Concat(s.Log.Sure, s.Log.Loose), len(s.Log.Sure)
	for _, end := range endsOfRecords(whole, last) {
		first := end - 1
		if everyKept {
			first = last
		}
		for to := max(len(s.Log.Sure), first); to <= end; to++ {
			stay := last
			if to == end {
				stay = end
			}
			want := impl.Store{Log: impl.Log{Sure: whole[:stay]}, Next: s.Next}
			got := impl.CrashStore(s, int64(to-len(s.Log.Sure)))
			if !sameStoreResult(got, impl.StoreResult{Store: want}) {
				c.t.Fatalf("CrashStore of %+v = %+v, want %+v", s, got, want)
			}
			c.ways["crashes"]++
			c.expectRows(got.Store, rows, deep)
		}
		last = end
	}
	if over := impl.CrashStore(s, int64(len(s.Log.Loose)+1)); !sameStoreResult(over, impl.StoreResult{Code: impl.ErrRange}) {
		c.t.Fatalf("CrashStore of more than is loose = %+v", over)
	}
}

// fullBeginnings have logs that a miner takes, pages that are full but for little, and table 1 and 3 in them.
func fullBeginnings(t *testing.T) []impl.Store {
	t.Helper()
	tables := stuffed(t, cellOf(impl.FlagRow, told(1, 8)), cellOf(impl.FlagRow, told(3, 8)))
	list := []impl.Store{}
	for _, pages := range [][][]byte{nil, {tables}, {stuffed(t), tables}, {without(t, stuffed(t), 0, 2), tables}, {without(t, tables, 2, 3)}, {tables, impl.NewPage(3).Page, without(t, stuffed(t), 1)}} {
		list = append(list, impl.Store{Up: true, Pages: pages, Log: logOf(committedTo(t, pages), nil), Next: 1})
	}
	return list
}

// startOf has the rows of a beginning as committed ones.
func startOf(t *testing.T, s impl.Store) *storeModel {
	t.Helper()
	m := newStoreModel(s.Next)
	m.s = cloneStore(s)
	for _, r := range plainIn(s).Rows {
		m.plain.committed[keyAt(r.Table, r.Key)] = r
	}
	return m
}

// tellTables are the first ops of a run without tables.
func tellTables() []impl.Op {
	return []impl.Op{beginOp, rowOp(impl.OpPut, 1, told(1, 8)), rowOp(impl.OpPut, 1, told(3, 8))}
}

// Stores of 18 ops from beginnings of all kinds, with codes and without, crashed behind each op: what was committed is
// there, whatever was kept.
func TestCrashesOfAnyStores(t *testing.T) {
	next, c := numbers(1303), newCrashing(t)
	for walk := range 48 {
		list := fullBeginnings(t)
		s := list[walk%len(list)]
		m, ops := startOf(t, s), []impl.Op(nil)
		if len(s.Pages) == 0 {
			ops = tellTables()
		}
		for at := 0; at < 18; {
			o := anyStoreOp(next, 60, plainIn(s))
			if len(ops) > 0 {
				o, ops = ops[0], ops[1:]
			}
			code := int64(0)
			if s, code = m.expectStep(t, s, o); code != impl.OK && next(4) > 0 {
				continue
			}
			at++
			c.ways[strconv.FormatInt(o.Kind, 10)+":"+strconv.FormatInt(min(1, code), 10)]++
			c.ways[strconv.Itoa(len(s.Txs))+" open"]++
			c.expectCrashes(s, rowsOfKeys(m.plain.committed), walk%8 == 0, 1+walk%2)
		}
		c.seen = map[string]bool{}
	}
	for way, least := range map[string]int{"crashes": 5000, "recoveries": 3000, "0 losers": 50, "1 losers": 50, "2 losers": 50, "3 losers": 50, "4 losers": 50, "0 logged": 50, "1 logged": 50, "2 logged": 50, "3 logged": 50, "6 logged": 50, "9 logged": 10,
		"0 open": 10, "1 open": 10, "2 open": 10, "3 open": 10, "4 open": 10, "1:0": 10, "2:0": 10, "3:0": 10, "4:0": 10, "5:0": 5, "6:0": 10, "7:0": 10, "8:0": 5, "9:0": 3, "1:1": 3, "2:1": 10, "3:1": 5, "4:1": 3, "6:1": 5, "7:1": 1, "8:1": 1} {
		if c.ways[way] < least {
			t.Errorf("%q came %d times alone: %v", way, c.ways[way], c.ways)
		}
	}
}

// Run in one go, with many ops that have a code: RunStore of 18 ops and of all that are ahead of one of them.
func TestCrashesOfRuns(t *testing.T) {
	next, c := numbers(1304), newCrashing(t)
	for range 12 {
		ops := append(tellTables(), anyStoreRun(next, 15)...)
		for count := range len(ops) + 1 {
			s, m := impl.RunStore(ops[:count]).Store, newPlainModel(1)
			for _, o := range ops[:count] {
				m.do(o)
			}
			rows := rowsOfKeys(m.committed)
			if over := impl.CommittedOf(plainIn(s)); !slices.Equal(plainIn(s).Rows, m.plain().Rows) || !slices.Equal(over.Rows, rows) {
				t.Fatalf("of %+v the rows are %+v, want %+v, and %+v of them committed, want %+v", ops[:count], plainIn(s).Rows, m.plain().Rows, over, rows)
			}
			c.expectCrashes(s, rows, false, 1)
		}
	}
	if c.ways["recoveries"] < 500 {
		t.Errorf("the ways are %v", c.ways)
	}
}

// Crashes are steps of a walk: what is recovered goes on with new ops, and crashes again.
func TestCrashesOfWhatWasRecovered(t *testing.T) {
	next, c := numbers(1305), newCrashing(t)
	for walk := range 36 {
		list := fullBeginnings(t)
		s := list[walk%len(list)]
		m := startOf(t, s)
		if len(s.Pages) == 0 {
			for _, o := range append(tellTables(), txOp(impl.OpCommit, 1)) {
				s, _ = m.expectStep(t, s, o)
			}
		}
		for range 60 {
			if next(8) > 0 {
				s, _ = m.expectStep(t, s, anyStoreOp(next, 60, plainIn(s)))
				continue
			}
			rows := rowsOfKeys(m.plain.committed)
			c.expectCrashes(s, rows, false, next(2))
			down := impl.CrashStore(s, int64(next(len(s.Log.Loose)+1))).Store
			c.expectRows(down, rows, 1)
			s = impl.RecoverStore(down).Store
			m.s, m.plain.open = cloneStore(s), nil
			c.ways["gone on"]++
		}
		c.seen = map[string]bool{}
	}
	for way, least := range map[string]int{"gone on": 150, "recoveries": 1000, "0 losers": 50, "1 losers": 50, "2 losers": 50, "3 losers": 50, "4 losers": 20} {
		if c.ways[way] < least {
			t.Errorf("%q came %d times alone: %v", way, c.ways[way], c.ways)
		}
	}
}

func (c *crashing) expectAllOrders(m *storeModel, s impl.Store, depth int) int {
	c.t.Helper()
	c.expectCrashes(s, rowsOfKeys(m.plain.committed), false, 1)
	if depth == 0 {
		return 1
	}
	count := 1
	for _, o := range append(fewOps(), checkOp) {
		own := m.clone()
		if then, code := own.expectStep(c.t, s, o); code == impl.OK {
			count += c.expectAllOrders(own, then, depth-1)
		}
	}
	return count
}

// All orders of few ops of two side by side, crashed behind each of them.
func TestCrashesInAllOrders(t *testing.T) {
	m, s := newStoreModel(1), impl.NewStore(1).Store
	for _, o := range []impl.Op{beginOp, rowOp(impl.OpPut, 1, told(1, 8)), txOp(impl.OpCommit, 1), beginOp, beginOp} {
		s, _ = m.expectStep(t, s, o)
	}
	c := newCrashing(t)
	if count := c.expectAllOrders(m, s, 3); count < 500 {
		t.Errorf("%d orders alone", count)
	}
}

// By hand: two transactions side by side, of which one commits, with a checkpoint between and without.
func TestCrashesByHand(t *testing.T) {
	one, a, b, x := told(1, 8), rowOf(1, 5, 1, "a"), rowOf(1, 5, 2, "bbbbbbbb"), rowOf(1, 6, 9, "x")
	ops := []impl.Op{
		beginOp, rowOp(impl.OpPut, 1, one), rowOp(impl.OpPut, 1, a), txOp(impl.OpCommit, 1),
		beginOp, beginOp, rowOp(impl.OpSet, 2, b), rowOp(impl.OpPut, 3, x), txOp(impl.OpMark, 2), rowOp(impl.OpDrop, 2, b), backOp(2, 0), txOp(impl.OpCommit, 3), txOp(impl.OpAbort, 2), beginOp, rowOp(impl.OpDrop, 4, x),
	}
	rows := func(at int) []impl.Row {
		switch {
		case at < 4:
			return nil
		case at < 12:
			return []impl.Row{one, a}
		}
		return []impl.Row{one, a, x}
	}
	for check := -1; check < len(ops); check++ {
		c, s := newCrashing(t), impl.NewStore(1).Store
		c.expectCrashes(s, nil, true, 3)
		for i, o := range ops {
			s = storeAll(t, s, o)
			c.expectCrashes(s, rows(i+1), true, 3)
			if i == check {
				s = storeAll(t, s, checkOp)
				if len(s.Log.Loose) > 0 {
					t.Fatalf("behind a check %+v is loose", s.Log)
				}
				c.expectCrashes(s, rows(i+1), true, 3)
			}
		}
	}
}

// A transaction that moved rows from page to page and went back and on: crashed at each record, and cut in its recovery.
func TestCrashesOfWhatMoved(t *testing.T) {
	_, at := movedAndMarked(t)
	pages := at[0].Pages
	first := impl.Store{Up: true, Pages: pages, Log: logOf(append(committedTo(t, pages), begin(3)), nil), Txs: []impl.Tx{{Id: 3}}, Next: 4}
	s, c, ahead := first, newCrashing(t), plainIn(first).Rows
	step := func(ops ...impl.Op) {
		for _, o := range ops {
			s = storeAll(t, s, o)
			c.expectCrashes(s, ahead, true, 2)
		}
	}
	five, six, seven := rowOf(1, 5, 2, "abcdefgh"), rowOf(1, 6, 2, "abcdefgh"), rowOf(1, 7, 3, "")
	step(txOp(impl.OpMark, 3), rowOp(impl.OpSet, 3, five), rowOp(impl.OpSet, 3, six), txOp(impl.OpMark, 3), rowOp(impl.OpPut, 3, rowOf(1, 8, 1, "abcdefgh")), rowOp(impl.OpDrop, 3, five))
	step(backOp(3, 1), rowOp(impl.OpSet, 3, seven), rowOp(impl.OpDrop, 3, six), backOp(3, 0), rowOp(impl.OpSet, 3, six), checkOp, rowOp(impl.OpSet, 3, five))
	half := s
	step(txOp(impl.OpAbort, 3))
	s = storeAll(t, half, txOp(impl.OpCommit, 3))
	c.expectCrashes(s, plainIn(s).Rows, true, 2)
	if c.ways["recoveries"] < 150 {
		t.Errorf("the ways are %v", c.ways)
	}
}
