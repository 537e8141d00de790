package tests

import (
	"bytes"
	"slices"
	"strconv"
	"testing"

	"loop.example/g00408/impl"
)

// recoverGiven is all that is handed in to the calls of this layer.
type recoverGiven struct {
	s    storeGiven
	down impl.Store
	list []impl.Record
	back []impl.Buffer
}

// recoverArguments stand in lists with more memory behind them; texts are the bytes of all texts.
func recoverArguments(t *testing.T) (given recoverGiven, texts [][]byte) {
	t.Helper()
	given.s, texts = storeArguments(t)
	own := func(table int64, key int64, val int64, text string) impl.Row {
		is, data := ownText(text)
		texts = append(texts, data)
		return rowOf(table, key, val, is)
	}
	rows := plainIn(given.s.s).Rows
	first, last := rows[2], rows[len(rows)-1]
	some := []impl.Change{
		turn(own(first.Table, first.Key, 900, "longer"), own(first.Table, first.Key, first.Val, first.Text)),
		drop(own(1, 77, 7, "gone")),
		put(own(last.Table, last.Key, last.Val, last.Text)),
		drop(own(3, 99, 7, "far")),
	}
	some = append(some, drop(rowOf(3, 99, 9, "behind")))[:4]
	given.back = append([]impl.Buffer{{Tx: 50, Changes: some}, {Tx: 3, Changes: some[1:2]}, {Tx: 99}, {Tx: 100, Changes: some}, {Tx: 1, Changes: some[2:3]}, {Tx: 2, Changes: []impl.Change{some[1], some[0]}}}, impl.Buffer{Tx: 77})[:6]
	list := heardRecords(t)
	data := append(expectedPackAll(list), "behind"...)
	given.down = impl.Store{Log: impl.Log{Sure: data[:len(data)-6]}, Next: 60}
	given.list = append(slices.Clone(list), begin(9))[:len(list)]
	for i, r := range given.list {
		for j, run := range r.Runs {
			given.list[i].Runs[j].Bytes = append(bytes.Clone(run.Bytes), "behind"...)[:len(run.Bytes)]
		}
	}
	return given, texts
}

func (g recoverGiven) clone() recoverGiven {
	own := recoverGiven{s: g.s.clone(), down: cloneStore(g.down)}
	own.down.Log.Sure = bytes.Clone(g.down.Log.Sure[:cap(g.down.Log.Sure)])
	for _, b := range g.back[:cap(g.back)] {
		own.back = append(own.back, impl.Buffer{Tx: b.Tx, Changes: ownChanges(b.Changes[:cap(b.Changes)])})
	}
	for _, r := range g.list[:cap(g.list)] {
		r.Runs = slices.Clone(r.Runs)
		for j, run := range r.Runs {
			r.Runs[j].Bytes = bytes.Clone(run.Bytes[:cap(run.Bytes)])
		}
		own.list = append(own.list, r)
	}
	return own
}

func (g recoverGiven) isSame(own recoverGiven) bool {
	now := g.clone()
	return g.s.isSame(own.s) && sameStore(now.down, own.down) && sameBuffers(now.back, own.back) && sameRecordLists(now.list, own.list)
}

// scribble turns all that was handed in, and all memory behind it.
func (g recoverGiven) scribble(texts [][]byte) {
	for _, r := range g.list {
		for _, run := range r.Runs {
			scribbleAll(run.Bytes)
		}
		clear(r.Runs[:cap(r.Runs)])
	}
	for _, b := range g.back {
		clear(b.Changes[:cap(b.Changes)])
	}
	for _, data := range texts {
		scribble(data[:len(data):len(data)])
	}
	scribbleAll(g.down.Log.Sure)
	storeAnswer{s: g.s.s}.scribble()
	clear(g.list[:cap(g.list)])
	clear(g.back[:cap(g.back)])
}

// recoverAnswer is all of an answer, whichever a call has.
type recoverAnswer struct {
	s storeAnswer
	m minerAnswer
}

func (a recoverAnswer) clone() recoverAnswer {
	return recoverAnswer{a.s.clone(), a.m.clone()}
}

func (a recoverAnswer) isSame(b recoverAnswer) bool {
	return a.s.isSame(b.s) && a.m.isSame(b.m)
}

func (a recoverAnswer) scribbles() []func() {
	all := a.s.scribbles()
	for _, list := range a.m.bytes {
		all = append(all, func() { scribbleAll(list) })
	}
	for _, list := range a.m.changes {
		all = append(all, func() { clear(list[:cap(list)]) })
	}
	return all
}

func (a recoverAnswer) scribble() {
	for _, turn := range a.scribbles() {
		turn()
	}
}

func ofStored(r impl.StoreResult) recoverAnswer {
	return recoverAnswer{s: ofStore(r)}
}

func ofMined(r impl.MinedResult) (a recoverAnswer) {
	a.m.tell(r.Code, int64(len(r.Mined)))
	a.m.addBuffers(r.Mined)
	a.m.addMiner(r.Miner)
	return a
}

func ofPages(r impl.EditsResult) (a recoverAnswer) {
	a.m.tell(r.Code, int64(len(r.Edits)), int64(len(r.Pages)))
	a.m.bytes = r.Pages
	return a
}

func recoverAnswers(g recoverGiven) map[string]func() recoverAnswer {
	s, count := g.s.s, int64(len(g.s.s.Log.Loose))
	faulty := s
	faulty.Next = 9
	wrong := append(slices.Clone(g.list), g.list[0])
	calls := map[string]func() recoverAnswer{
		"CrashStore of one down":     func() recoverAnswer { return ofStored(impl.CrashStore(g.down, 0)) },
		"CrashStore of a fault":      func() recoverAnswer { return ofStored(impl.CrashStore(faulty, 0)) },
		"RecoverStore":               func() recoverAnswer { return ofStored(impl.RecoverStore(g.down)) },
		"RecoverStore of one Up":     func() recoverAnswer { return ofStored(impl.RecoverStore(s)) },
		"RecoverStore of a fault":    func() recoverAnswer { return ofStored(impl.RecoverStore(faulty)) },
		"RecoverStore of others":     func() recoverAnswer { return ofStored(impl.RecoverStore(impl.CrashStore(s, count).Store)) },
		"TakeBack of one down":       func() recoverAnswer { return ofStored(impl.TakeBack(g.down, g.back[0])) },
		"TakeBack of a fault":        func() recoverAnswer { return ofStored(impl.TakeBack(faulty, g.back[0])) },
		"LosersIn of a code":         func() recoverAnswer { return ofMined(impl.LosersIn(wrong)) },
		"LosersIn of the other ones": func() recoverAnswer { return ofMined(impl.LosersIn(impl.LoggedIn(s).Records)) },
		"RedoAll of a code":          func() recoverAnswer { return ofPages(impl.RedoAll(append(wrong, impl.Record{}))) },
	}
	for _, kept := range []int64{-1, 0, 1, count / 2, count - 1, count, count + 1} {
		calls["CrashStore of "+strconv.FormatInt(kept, 10)] = func() recoverAnswer { return ofStored(impl.CrashStore(s, kept)) }
	}
	for i := range g.back {
		calls["TakeBack "+strconv.Itoa(i)] = func() recoverAnswer { return ofStored(impl.TakeBack(s, g.back[i])) }
	}
	for at := range len(g.list) + 1 {
		calls["LosersIn "+strconv.Itoa(at)] = func() recoverAnswer { return ofMined(impl.LosersIn(g.list[:at])) }
		calls["RedoAll "+strconv.Itoa(at)] = func() recoverAnswer { return ofPages(impl.RedoAll(g.list[:at])) }
	}
	return calls
}

// Each call that may have no code has none, so that there is something to be turned.
func TestRecoverArgumentsAreRight(t *testing.T) {
	given, _ := recoverArguments(t)
	codes := map[string]int64{"TakeBack 3": impl.ErrForm, "TakeBack 5": impl.ErrForm, "CrashStore of -1": impl.ErrRange, "CrashStore of " + strconv.Itoa(len(given.s.s.Log.Loose)+1): impl.ErrRange, "RecoverStore of others": impl.ErrNone,
		"CrashStore of one down": impl.ErrState, "RecoverStore of one Up": impl.ErrState, "TakeBack of one down": impl.ErrState, "CrashStore of a fault": impl.ErrRange, "RecoverStore of a fault": impl.ErrRange, "TakeBack of a fault": impl.ErrRange}
	for name, call := range recoverAnswers(given) {
		if got := call(); got.s.told[0] != codes[name] {
			t.Errorf("%s: code %d, want %d", name, got.s.told[0], codes[name])
		}
	}
	if got := impl.LosersIn(given.list); got.Code != impl.OK || len(got.Mined) != 2 || len(got.Mined[0].Changes) == 0 || len(got.Mined[1].Changes) == 0 {
		t.Errorf("LosersIn = %+v", got)
	}
}

func TestRecoverAnswersAreNewMemory(t *testing.T) {
	given, _ := recoverArguments(t)
	kept := given.clone()
	for name, call := range recoverAnswers(given) {
		first, second := call(), call()
		want := second.clone()
		if !first.isSame(want) {
			t.Errorf("%s: %+v, then %+v", name, first, want)
		}
		first.scribble()
		if !second.isSame(want) {
			t.Errorf("%s: two answers share memory: %+v, want %+v", name, second, want)
		}
		if !given.isSame(kept) {
			t.Fatalf("%s: the answer shares memory with what was handed in, or that was changed", name)
		}
	}
}

// No text in an answer is a piece of one that was handed in, and no list is.
func TestRecoverAnswersStayAsTheyAre(t *testing.T) {
	given, texts := recoverArguments(t)
	answers, wants := map[string]recoverAnswer{}, map[string]recoverAnswer{}
	for name, call := range recoverAnswers(given) {
		answers[name] = call()
		wants[name] = answers[name].clone()
	}
	given.scribble(texts)
	for name, got := range answers {
		if !got.isSame(wants[name]) {
			t.Errorf("%s turns with what was handed in: %+v, want %+v", name, got, wants[name])
		}
	}
}

// Each list of an answer is turned, with all memory behind it: no other one turns with it.
func TestRecoverAnswersHaveListsApart(t *testing.T) {
	given, _ := recoverArguments(t)
	for name, call := range recoverAnswers(given) {
		got, own := call(), call().clone()
		turns := own.scribbles()
		for i, turn := range got.scribbles() {
			turn()
			turns[i]()
			if !got.isSame(own) {
				t.Errorf("%s: list %d shares memory with another list of the answer: %+v, want %+v", name, i, got, own)
			}
		}
	}
	// Mined and the miner tell the same buffers, and each has its own list of them.
	losers := impl.LosersIn(given.list)
	kept := cloneMiner(losers.Miner)
	clear(losers.Mined[:cap(losers.Mined)])
	if !sameMiner(losers.Miner, kept) {
		t.Errorf("the miner turns with Mined: %+v, want %+v", losers.Miner, kept)
	}
}

func TestRecoverAnswersHangOnArgumentsAlone(t *testing.T) {
	given, _ := recoverArguments(t)
	other, _ := recoverArguments(t)
	other.s.s = impl.TakeBack(other.s.s, other.back[1]).Store
	other.list, other.down.Next = other.list[:3], 2
	wants := map[string]recoverAnswer{}
	for name, call := range recoverAnswers(given) {
		wants[name] = call().clone()
	}
	for range 5 {
		for _, call := range recoverAnswers(other) {
			call()
		}
		for name, call := range recoverAnswers(given) {
			if got := call(); !got.isSame(wants[name]) {
				t.Fatalf("%s: %+v, want %+v", name, got, wants[name])
			}
		}
	}
}

// What is lost is nowhere in the answer, not even behind the end of a list.
func TestCrashedStoresHoldNothing(t *testing.T) {
	given, _ := recoverArguments(t)
	for kept := range int64(len(given.s.s.Log.Loose) + 1) {
		got := impl.CrashStore(given.s.s, kept).Store
		for _, page := range got.Pages[:cap(got.Pages)] {
			if len(page) > 0 {
				t.Fatalf("%d kept: a page is there still: %v", kept, page)
			}
		}
		for _, tx := range got.Txs[:cap(got.Txs)] {
			if tx.Id != 0 || len(tx.Undo)+len(tx.Marks)+len(tx.Locks) > 0 {
				t.Fatalf("%d kept: a transaction is there still: %+v", kept, tx)
			}
		}
		if len(got.Pages)+len(got.Txs)+len(got.Log.Loose) > 0 {
			t.Fatalf("%d kept: %+v", kept, got)
		}
	}
}

// An empty list, with memory behind it or without, is the same as nil.
func TestRecoverAnswersOfNilAndEmpty(t *testing.T) {
	none := impl.Store{Up: true, Txs: []impl.Tx{{Id: 1}}, Next: 3}
	empty := impl.Store{Up: true, Pages: make([][]byte, 0, 4), Log: impl.Log{Sure: []byte{}, Loose: make([]byte, 0, 9)}, Txs: []impl.Tx{{Id: 1, Undo: []impl.Change{}, Marks: []int64{}, Locks: make([]impl.Key, 0, 4)}}, Next: 3}
	down := impl.Store{Pages: make([][]byte, 0, 4), Log: impl.Log{Sure: []byte{}, Loose: make([]byte, 0, 9)}, Txs: make([]impl.Tx, 0, 4), Next: 3}
	back := []impl.Buffer{{Tx: 1}, {Tx: 1, Changes: make([]impl.Change, 0, 4)}}
	for _, s := range []impl.Store{none, empty} {
		if got := expectCrashed(t, "nothing", s, 0); !sameStore(got, impl.Store{Next: 3}) {
			t.Errorf("crashed: %+v", got)
		}
		for _, b := range back {
			expectTakenBack(t, "nothing", s, b, abort(1))
		}
	}
	expectRecovery(t, "nothing", down, impl.StoreResult{Store: impl.Store{Up: true, Next: 3}})
	expectLosers(t, "nothing", make([]impl.Record, 0, 4))
	expectRedone(t, "nothing", make([]impl.Record, 0, 4))
	runs := make([]impl.Run, 0, 4)
	expectLosers(t, "empty runs", []impl.Record{{Kind: impl.RecBegin, Tx: 9, Runs: runs}}, bufferOf(9))
	expectRedone(t, "empty runs", []impl.Record{{Kind: impl.RecBegin, Tx: 9, Runs: runs}})
}
