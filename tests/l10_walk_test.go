package tests

import (
	"maps"
	"slices"
	"strconv"
	"testing"

	"loop.example/g00408/impl"
)

// seenAt is what stood at keys once: a zero row stands for none.
type seenAt map[impl.Key]impl.Row

// txWalk does what CheckOp lets by. Beside each transaction it keeps what it must lead back to.
type txWalk struct {
	t     *testing.T
	rows  []impl.Row
	list  []impl.Tx
	first map[int64]seenAt
	marks map[int64][]seenAt
	done  map[string]int
}

func newTxWalk(t *testing.T, done map[string]int) *txWalk {
	return &txWalk{t: t, first: map[int64]seenAt{}, marks: map[int64][]seenAt{}, done: done}
}

func (w *txWalk) placeOf(id int64) int {
	return slices.IndexFunc(w.list, func(tx impl.Tx) bool { return tx.Id == id })
}

func (w *txWalk) rowAt(k impl.Key) impl.Row {
	if at := slices.IndexFunc(w.rows, func(r impl.Row) bool { return keyOfRow(r) == k }); at >= 0 {
		return w.rows[at]
	}
	return impl.Row{}
}

func (w *txWalk) rowsAt(keys []impl.Key) seenAt {
	seen := seenAt{}
	for _, k := range keys {
		seen[k] = w.rowAt(k)
	}
	return seen
}

func (w *txWalk) apply(name string, changes []impl.Change) {
	w.t.Helper()
	got := impl.ApplyChanges(w.rows, changes)
	if got.Code != impl.OK {
		w.t.Fatalf("%s: ApplyChanges(%+v, %+v) = %+v", name, w.rows, changes, got)
	}
	w.rows = got.Rows
}

// takeBack takes back all of Undo from the place from on, and asks whether each key is as it was.
func (w *txWalk) takeBack(name string, at int, from int64, was seenAt) {
	w.t.Helper()
	tx := &w.list[at]
	back := impl.InverseOf(tx.Undo[from:])
	if back.Code != impl.OK {
		w.t.Fatalf("%s: InverseOf(%+v) = %+v", name, tx.Undo[from:], back)
	}
	w.apply(name, back.Changes)
	if len(back.Changes) > 0 {
		w.done[name+" of some"]++
	}
	tx.Undo = tx.Undo[:from]
	want := maps.Clone(w.first[tx.Id])
	maps.Copy(want, was)
	if got := w.rowsAt(tx.Locks); !maps.Equal(got, want) {
		w.t.Fatalf("%s: what it locks is %+v, want %+v", name, got, want)
	}
}

func (w *txWalk) turn(o impl.Op, c impl.Change) {
	w.t.Helper()
	k := keyOfRow(o.Row)
	if _, ok := w.first[o.Tx][k]; !ok {
		w.first[o.Tx][k] = w.rowAt(k)
	}
	want := expectedNote(w.list, o.Tx, c)
	noted := impl.NoteChange(w.list, o.Tx, c)
	if noted.Code != impl.OK || !sameTxs(noted.Txs, want.Txs) {
		w.t.Fatalf("NoteChange(%+v, %d, %+v) = %+v, want %+v", w.list, o.Tx, c, noted, want)
	}
	w.list = noted.Txs
	w.apply("a change", []impl.Change{c})
}

func (w *txWalk) begin(id int64) {
	if w.placeOf(id) >= 0 {
		return
	}
	w.list = append(w.list, impl.Tx{Id: id})
	slices.SortFunc(w.list, func(a impl.Tx, b impl.Tx) int { return int(a.Id - b.Id) })
	w.first[id], w.marks[id] = seenAt{}, nil
}

// do asks CheckOp, and does what it lets by: id is whom a begin begins.
func (w *txWalk) do(o impl.Op, id int64) {
	w.t.Helper()
	want, got := expectedCheck(w.rows, w.list, o), impl.CheckOp(w.rows, w.list, o)
	if got != want {
		w.t.Fatalf("CheckOp(%+v, %+v, %+v) = %+v, want %+v", w.rows, w.list, o, got, want)
	}
	w.done[strconv.FormatInt(o.Kind, 10)+":"+strconv.FormatInt(got.Code, 10)]++
	if got.Code != impl.OK {
		return
	}
	at := w.placeOf(o.Tx)
	switch o.Kind {
	case impl.OpBegin:
		w.begin(id)
	case impl.OpPut, impl.OpSet, impl.OpDrop:
		if got.Turns {
			w.turn(o, got.Change)
		}
	case impl.OpMark:
		w.list[at].Marks = append(w.list[at].Marks, int64(len(w.list[at].Undo)))
		w.marks[o.Tx] = append(w.marks[o.Tx], w.rowsAt(w.list[at].Locks))
	case impl.OpBack:
		w.takeBack("back to a mark", at, w.list[at].Marks[o.Mark], w.marks[o.Tx][o.Mark])
		w.list[at].Marks, w.marks[o.Tx] = w.list[at].Marks[:o.Mark+1], w.marks[o.Tx][:o.Mark+1]
	case impl.OpCommit:
		w.list = slices.Delete(w.list, at, at+1)
	case impl.OpAbort:
		w.takeBack("an abort", at, 0, nil)
		w.list = slices.Delete(w.list, at, at+1)
	}
}

// expectSound asks for what holds ahead of and behind each op.
func (w *txWalk) expectSound() {
	w.t.Helper()
	if code := impl.TxsFault(w.list); code != impl.OK {
		w.t.Fatalf("TxsFault(%+v) = %d", w.list, code)
	}
	if room := impl.RoomOf(w.rows, w.list); room.Code != impl.OK || room.Value > impl.MaxRoom || int(room.Value) != expectedRoom(w.rows, w.list) {
		w.t.Fatalf("RoomOf(%+v, %+v) = %+v", w.rows, w.list, room)
	}
	expectTold(w.t, w.rows)
	for _, tx := range w.list {
		for _, k := range tx.Locks {
			expectLockOf(w.t, "a walk", w.list, k, tx.Id)
		}
	}
}

// expectBarred asks each transaction for a put, a set and a drop of what one of them locks.
func (w *txWalk) expectBarred() {
	w.t.Helper()
	for _, tx := range w.list {
		for _, k := range tx.Locks {
			for _, other := range w.list {
				for _, kind := range rowKinds() {
					got := impl.CheckOp(w.rows, w.list, rowOp(kind, other.Id, rowOf(k.Table, k.Key, 1, "")))
					if (got.Code == impl.ErrLock) != (other.Id != tx.Id) {
						w.t.Fatalf("%d locks %+v: CheckOp of kind %d of %d = %+v", tx.Id, k, kind, other.Id, got)
					}
				}
			}
		}
	}
}

// anyTx is mostly one that is there.
func (w *txWalk) anyTx(next func(int) int) int64 {
	if len(w.list) == 0 || next(30) == 0 {
		return []int64{1, 2, 50, 98, 99}[next(5)]
	}
	return w.list[next(len(w.list))].Id
}

// anyRow is mostly one that may be, and often of a key that is there.
func (w *txWalk) anyRow(next func(int) int) impl.Row {
	r := rowOf(int64(1+next(3)), int64(1+next(5)), int64(next(3)), maxLetters[:next(4)])
	if len(w.rows) > 0 && next(3) > 0 {
		there := w.rows[next(len(w.rows))]
		r.Table, r.Key = there.Table, there.Key
	}
	if r.Table == 0 || next(6) == 0 {
		return told(int64(1+next(4)), int64(next(10)))
	}
	return r
}

func (w *txWalk) anyOp(next func(int) int) impl.Op {
	tx := w.anyTx(next)
	switch next(60) {
	case 0, 1, 2, 3, 4:
		return impl.Op{Kind: impl.OpBegin}
	case 5, 6:
		return impl.Op{Kind: impl.OpCommit, Tx: tx}
	case 7:
		return impl.Op{Kind: impl.OpAbort, Tx: tx}
	case 8, 9, 10, 11, 12:
		return impl.Op{Kind: impl.OpMark, Tx: tx}
	case 13, 14:
		return backOp(tx, int64(next(4)))
	}
	return rowOp(int64(2+next(3)), tx, w.anyRow(next))
}

// Long walks: what one turned nobody else turns, what may be turned is noted, and it is taken back by its inverse.
func TestTransactionsOverLongWalks(t *testing.T) {
	next, done := numbers(11), map[string]int{}
	for range 80 {
		w := newTxWalk(t, done)
		for step := range 250 {
			w.do(w.anyOp(next), []int64{1, 2, 50, 98, 99}[next(5)])
			w.expectSound()
			if step%10 == 0 {
				w.expectBarred()
			}
		}
	}
	for _, way := range []string{"1:0", "1:2", "2:0", "2:4", "2:6", "2:7", "2:9", "2:10", "3:0", "3:4", "3:7", "3:8", "3:9", "3:10", "4:0", "4:4", "4:7", "4:8", "4:9",
		"5:0", "5:2", "5:4", "6:0", "6:3", "6:4", "7:0", "7:4", "8:0", "8:4", "an abort of some", "back to a mark of some"} {
		if done[way] < 5 {
			t.Errorf("the walks went the way %q %d times alone: %v", way, done[way], done)
		}
	}
}

// One transaction turns a key, goes back to a mark ahead of it, and still nobody else may turn that key till it ends.
func TestWhatWasTakenBackIsLockedStill(t *testing.T) {
	w := newTxWalk(t, map[string]int{})
	w.rows = []impl.Row{told(1, 8), rowOf(1, 5, 1, "a")}
	ops := []impl.Op{
		{Kind: impl.OpBegin}, {Kind: impl.OpMark, Tx: 1}, rowOp(impl.OpSet, 1, rowOf(1, 5, 2, "b")), rowOp(impl.OpPut, 1, rowOf(1, 6, 0, "")), backOp(1, 0),
	}
	for _, o := range ops {
		w.do(o, 1)
	}
	w.do(impl.Op{Kind: impl.OpBegin}, 2)
	if len(w.list) != 2 || len(w.list[0].Undo) != 0 || !slices.Equal(w.list[0].Locks, []impl.Key{keyAt(1, 5), keyAt(1, 6)}) {
		t.Fatalf("behind the mark: %+v", w.list)
	}
	w.expectSound()
	w.expectBarred()
	expectNot(t, "a set of what was taken back", w.rows, w.list, rowOp(impl.OpSet, 2, rowOf(1, 5, 3, "")), impl.ErrLock)
	expectNot(t, "a put of what was taken back", w.rows, w.list, rowOp(impl.OpPut, 2, rowOf(1, 6, 3, "")), impl.ErrLock)
	expectNot(t, "a drop of its table", w.rows, w.list, rowOp(impl.OpDrop, 2, told(1, 0)), impl.ErrLock)
	expectRoom(t, "what was taken back takes room", w.rows, w.list, 3)
	w.do(rowOp(impl.OpPut, 1, rowOf(1, 6, 7, "")), 0)
	if !sameTx(w.list[0], impl.Tx{Id: 1, Undo: []impl.Change{put(rowOf(1, 6, 7, ""))}, Marks: []int64{0}, Locks: []impl.Key{keyAt(1, 5), keyAt(1, 6)}}) {
		t.Errorf("put again: %+v", w.list[0])
	}
	w.do(impl.Op{Kind: impl.OpCommit, Tx: 1}, 0)
	expectTurns(t, "it is over", w.rows, w.list, rowOp(impl.OpDrop, 2, rowOf(1, 6, 0, "")), drop(rowOf(1, 6, 7, "")))
}

// txGiven is all that is handed in to the calls of this layer.
type txGiven struct {
	rows []impl.Row
	list []impl.Tx
	ops  []impl.Op
	more []impl.Change
}

// txArguments stand in lists with more memory behind them, some of them pieces of one list; texts are the bytes of
// all texts.
func txArguments() (given txGiven, texts [][]byte) {
	own := func(table int64, key int64, val int64, text string) impl.Row {
		is, data := ownText(text)
		texts = append(texts, data)
		return rowOf(table, key, val, is)
	}
	given.rows = append([]impl.Row{own(0, 1, 8, ""), own(0, 2, 4, ""), own(1, 5, 1, "first"), own(1, 6, 2, "second"), own(2, 7, 3, "last")}, rowOf(9, 9, 9, "behind"))[:5]
	changes := append([]impl.Change{put(own(1, 5, 1, "first")), turn(own(1, 6, 1, "was"), own(1, 6, 2, "second")), drop(own(2, 8, 1, "gone")), drop(own(2, 9, 1, "gonetoo"))}, impl.Change{})[:4]
	keys := append([]impl.Key{keyAt(1, 5), keyAt(1, 6), keyAt(2, 8), keyAt(2, 9), keyAt(2, 10)}, keyAt(9, 9))[:5]
	marks := append([]int64{0, 1, 1, 2, 2}, 99)[:5]
	given.list = append([]impl.Tx{
		{Id: 3, Undo: changes[:2], Marks: marks[:3], Locks: keys[:2]},
		{Id: 7, Undo: changes[2:], Marks: marks[1:], Locks: keys[2:]},
		{Id: 9, Undo: changes[:0], Marks: marks[:0], Locks: keys[:0]},
	}, impl.Tx{Id: 77})[:3]
	given.more = append([]impl.Change{put(own(3, 1, 1, "new")), turn(own(1, 5, 1, "first"), own(1, 5, 2, "other")), drop(own(2, 8, 5, "again")), put(own(2, 10, 1, "put")), turn(own(0, 3, 1, ""), own(0, 3, 1, "")), {}}, impl.Change{})[:6]
	for _, tx := range []int64{3, 7, 9, 8} {
		given.ops = append(given.ops,
			rowOp(impl.OpPut, tx, own(1, 50, 1, "put")), rowOp(impl.OpPut, tx, own(1, 5, 1, "put")), rowOp(impl.OpPut, tx, own(2, 10, 1, "ten")), rowOp(impl.OpPut, tx, own(0, 3, 8, "")),
			rowOp(impl.OpSet, tx, own(1, 5, 1, "first")), rowOp(impl.OpSet, tx, own(1, 5, 9, "set")), rowOp(impl.OpSet, tx, own(2, 7, 3, "lasts")), rowOp(impl.OpSet, tx, own(2, 7, 3, "l")),
			rowOp(impl.OpDrop, tx, own(1, 6, 0, "")), rowOp(impl.OpDrop, tx, own(2, 7, 0, "")), rowOp(impl.OpDrop, tx, own(0, 1, 0, "")),
			impl.Op{Kind: impl.OpMark, Tx: tx}, backOp(tx, 0), backOp(tx, 3), impl.Op{Kind: impl.OpCommit, Tx: tx}, impl.Op{Kind: impl.OpAbort, Tx: tx})
	}
	given.ops = append(given.ops, impl.Op{Kind: impl.OpBegin}, impl.Op{Kind: impl.OpCheck}, impl.Op{})
	return given, texts
}

func (g txGiven) clone() txGiven {
	own := txGiven{rows: ownRows(g.rows[:cap(g.rows)]), more: ownChanges(g.more[:cap(g.more)])}
	for _, tx := range g.list[:cap(g.list)] {
		own.list = append(own.list, cloneTx(impl.Tx{Id: tx.Id, Undo: tx.Undo[:cap(tx.Undo)], Marks: tx.Marks[:cap(tx.Marks)], Locks: tx.Locks[:cap(tx.Locks)]}))
	}
	for _, o := range g.ops {
		o.Row = ownRows([]impl.Row{o.Row})[0]
		own.ops = append(own.ops, o)
	}
	return own
}

func (g txGiven) isSame(own txGiven) bool {
	now := g.clone()
	return slices.Equal(now.rows, own.rows) && slices.Equal(now.more, own.more) && sameTxs(now.list, own.list) && slices.Equal(now.ops, own.ops)
}

// txAnswer is all of an answer, whichever a call has.
type txAnswer struct {
	told    [2]int64
	turns   bool
	changes []impl.Change
	txs     []impl.Tx
}

func (a txAnswer) clone() txAnswer {
	return txAnswer{a.told, a.turns, ownChanges(a.changes), cloneTxs(a.txs)}
}

func (a txAnswer) isSame(b txAnswer) bool {
	return a.told == b.told && a.turns == b.turns && slices.Equal(a.changes, b.changes) && sameTxs(a.txs, b.txs)
}

// scribble turns all lists of the answer, and all memory behind them.
func (a txAnswer) scribble() {
	clear(a.changes[:cap(a.changes)])
	for _, tx := range a.txs {
		clear(tx.Undo[:cap(tx.Undo)])
		clear(tx.Marks[:cap(tx.Marks)])
		clear(tx.Locks[:cap(tx.Locks)])
	}
	clear(a.txs[:cap(a.txs)])
}

func txAnswers(g txGiven) map[string]func() txAnswer {
	ofInt := func(r impl.IntResult) txAnswer { return txAnswer{told: [2]int64{r.Code, r.Value}} }
	ofCode := func(code int64) txAnswer { return txAnswer{told: [2]int64{code}} }
	ofChanges := func(r impl.ChangesResult) txAnswer {
		return txAnswer{told: [2]int64{r.Code}, changes: r.Changes}
	}
	calls := map[string]func() txAnswer{
		"TxsFault":            func() txAnswer { return ofCode(impl.TxsFault(g.list)) },
		"TxsFault of a fault": func() txAnswer { return ofCode(impl.TxsFault(append(slices.Clone(g.list), g.list[0]))) },
		"RoomOf":              func() txAnswer { return ofInt(impl.RoomOf(g.rows, g.list)) },
		"InverseOf":           func() txAnswer { return ofChanges(impl.InverseOf(g.more[:4])) },
		"InverseOf of one":    func() txAnswer { return ofChanges(impl.InverseOf(g.more[1:2])) },
		"InverseOf a fault":   func() txAnswer { return ofChanges(impl.InverseOf(g.more)) },
		"InverseOf of Undo":   func() txAnswer { return ofChanges(impl.InverseOf(g.list[1].Undo)) },
		"LockOf":              func() txAnswer { return ofInt(impl.LockOf(g.list, keyAt(2, 9))) },
		"LockOf of none":      func() txAnswer { return ofInt(impl.LockOf(g.list, keyAt(2, 11))) },
	}
	for i, o := range g.ops {
		n := " " + strconv.Itoa(i)
		calls["OpFault"+n] = func() txAnswer { return ofCode(impl.OpFault(g.ops[i])) }
		calls["CheckOp"+n] = func() txAnswer {
			got := impl.CheckOp(g.rows, g.list, o)
			return txAnswer{told: [2]int64{got.Code}, turns: got.Turns, changes: []impl.Change{got.Change}}
		}
	}
	for i := range g.more {
		for _, tx := range []int64{3, 7, 9, 8} {
			calls["NoteChange "+strconv.Itoa(i)+" of "+strconv.FormatInt(tx, 10)] = func() txAnswer {
				got := impl.NoteChange(g.list, tx, g.more[i])
				return txAnswer{told: [2]int64{got.Code}, txs: got.Txs}
			}
		}
	}
	return calls
}

func TestTxAnswersAreNewMemory(t *testing.T) {
	given, _ := txArguments()
	kept := given.clone()
	turns, notes := 0, 0
	for name, call := range txAnswers(given) {
		first, second := call(), call()
		want := second.clone()
		if !first.isSame(want) {
			t.Errorf("%s: %+v, then %+v", name, first, want)
		}
		if want.turns {
			turns++
		}
		notes += min(1, len(want.txs))
		first.scribble()
		if !second.isSame(want) {
			t.Errorf("%s: two answers share memory: %+v, want %+v", name, second, want)
		}
		if !given.isSame(kept) {
			t.Fatalf("%s: the answer shares memory with what was handed in, or that was changed", name)
		}
	}
	if turns < 10 || notes < 6 {
		t.Errorf("%d ops turn something, %d changes are noted", turns, notes)
	}
}

// No text in an answer is a piece of one that was handed in, and no list is.
func TestTxAnswersStayAsTheyAre(t *testing.T) {
	given, texts := txArguments()
	answers, wants := map[string]txAnswer{}, map[string]txAnswer{}
	for name, call := range txAnswers(given) {
		answers[name] = call()
		wants[name] = answers[name].clone()
	}
	for _, data := range texts {
		scribble(data[:len(data):len(data)])
	}
	for _, tx := range given.list {
		txAnswer{txs: []impl.Tx{tx}}.scribble()
	}
	clear(given.list[:cap(given.list)])
	clear(given.rows[:cap(given.rows)])
	clear(given.more[:cap(given.more)])
	for name, got := range answers {
		if !got.isSame(wants[name]) {
			t.Errorf("%s turns with what was handed in: %+v, want %+v", name, got, wants[name])
		}
	}
}

// expectTxsApart turns each list of an answer, and all memory behind it: no other one turns with it.
func expectTxsApart(t *testing.T, name string, got txAnswer) {
	t.Helper()
	for i, tx := range got.txs {
		kept := got.clone()
		clear(tx.Undo[:cap(tx.Undo)])
		kept.txs[i].Undo = ownChanges(tx.Undo)
		if !got.isSame(kept) {
			t.Errorf("%s: Undo of %d shares memory with another list of the answer", name, i)
		}
		clear(tx.Marks[:cap(tx.Marks)])
		kept.txs[i].Marks = slices.Clone(tx.Marks)
		if !got.isSame(kept) {
			t.Errorf("%s: Marks of %d share memory with another list of the answer", name, i)
		}
		clear(tx.Locks[:cap(tx.Locks)])
		kept.txs[i].Locks = slices.Clone(tx.Locks)
		if !got.isSame(kept) {
			t.Errorf("%s: Locks of %d share memory with another list of the answer", name, i)
		}
	}
}

func TestTxAnswersHaveListsApart(t *testing.T) {
	given, _ := txArguments()
	for name, call := range txAnswers(given) {
		expectTxsApart(t, name, call())
	}
}

func TestTxAnswersHangOnArgumentsAlone(t *testing.T) {
	given, _ := txArguments()
	other, _ := txArguments()
	other.rows, other.list = other.rows[:3], other.list[1:]
	wants := map[string]txAnswer{}
	for name, call := range txAnswers(given) {
		wants[name] = call().clone()
	}
	for range 5 {
		for _, call := range txAnswers(other) {
			call()
		}
		for name, call := range txAnswers(given) {
			if got := call(); !got.isSame(wants[name]) {
				t.Fatalf("%s: %+v, want %+v", name, got, wants[name])
			}
		}
	}
}

// An empty list, with memory behind it or without, is the same as nil, in a transaction too.
func TestTxAnswersOfNilAndEmpty(t *testing.T) {
	none := []impl.Tx{{Id: 1}, {Id: 2}}
	empty := []impl.Tx{{Id: 1, Undo: []impl.Change{}, Marks: []int64{}, Locks: []impl.Key{}}, {Id: 2, Undo: make([]impl.Change, 0, 4), Marks: make([]int64, 0, 4), Locks: make([]impl.Key, 0, 4)}}
	c := put(rowOf(0, 1, 8, ""))
	for id := int64(1); id <= 3; id++ {
		if a, b := impl.NoteChange(none, id, c), impl.NoteChange(empty, id, c); a.Code != b.Code || !sameTxs(a.Txs, b.Txs) {
			t.Errorf("nil: %+v, empty: %+v", a, b)
		}
		for kind := int64(minKind); kind <= maxKind; kind++ {
			o := rightOp(kind, id)
			if a, b, c := impl.CheckOp(nil, none, o), impl.CheckOp([]impl.Row{}, empty, o), impl.CheckOp(make([]impl.Row, 0, 4), empty, o); a != b || a != c {
				t.Errorf("nil: %+v, empty: %+v, %+v", a, b, c)
			}
		}
	}
	expectTxsFault(t, "empty lists", empty, impl.OK)
	expectRoom(t, "empty lists", make([]impl.Row, 0, 4), empty, 0)
	expectLockOf(t, "empty lists", empty, keyAt(0, 1), 0)
	expectInverse(t, "an empty list", make([]impl.Change, 0, 4))
	expectTxsFault(t, "no transactions", make([]impl.Tx, 0, 4), impl.OK)
	expectNoteCode(t, "no transactions", make([]impl.Tx, 0, 4), 1, c, impl.ErrNone)
}
