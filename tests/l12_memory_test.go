package tests

import (
	"bytes"
	"slices"
	"strconv"
	"testing"

	"loop.example/g00408/impl"
)

// storeGiven is all that is handed in to the calls of this layer.
type storeGiven struct {
	s   impl.Store
	ops []impl.Op
	run []impl.Op
}

// storeArguments stand in lists with more memory behind them: the pages are pieces of one list, Sure and Loose of another
// one, and so are the lists of the transactions; texts are the bytes of all texts.
func storeArguments(t *testing.T) (given storeGiven, texts [][]byte) {
	t.Helper()
	plain, texts := plainArguments()
	first := stuffed(t, cellOf(impl.FlagRow, told(1, 8)), cellOf(impl.FlagRow, told(2, 8)), rowCell(1, 5, 1, "first"), stubCell(1, 1))
	second := pageWith(t, movedCell(3, 3, 3, "lone"), movedCell(1, 6, 2, "second"), rowCell(2, 7, 3, "last"))
	block := append(slices.Concat(first, second), "behind"...)
	pages := append([][]byte{block[:64], block[64:128]}, []byte("behind"))[:2]
	list := append(recordsTo(pages), begin(3), begin(7), begin(9))
	log := append(expectedPackAll(list), "behind"...)
	sure := len(expectedPackAll(list[:3]))
	given.s = impl.Store{Up: true, Pages: pages, Log: impl.Log{Sure: log[:sure], Loose: log[sure : len(log)-6]}, Txs: plain.p.Txs, Next: plain.p.Next}
	given.ops, given.run = plain.ops, plain.run
	if code := impl.StoreFault(given.s); code != impl.OK || !slices.Equal(plainIn(given.s).Rows, plain.p.Rows) {
		t.Fatalf("StoreFault = %d, rows %+v, want %+v", code, plainIn(given.s).Rows, plain.p.Rows)
	}
	return given, texts
}

// clone is all that was handed in, and the memory behind it.
func (g storeGiven) clone() storeGiven {
	own := storeGiven{s: impl.Store{Up: g.s.Up, Next: g.s.Next}, ops: cloneOps(g.ops), run: cloneOps(g.run)}
	for _, page := range g.s.Pages[:cap(g.s.Pages)] {
		own.s.Pages = append(own.s.Pages, bytes.Clone(page[:cap(page)]))
	}
	own.s.Log = impl.Log{Sure: bytes.Clone(g.s.Log.Sure[:cap(g.s.Log.Sure)]), Loose: bytes.Clone(g.s.Log.Loose[:cap(g.s.Log.Loose)])}
	for _, tx := range g.s.Txs[:cap(g.s.Txs)] {
		own.s.Txs = append(own.s.Txs, cloneTx(impl.Tx{Id: tx.Id, Undo: tx.Undo[:cap(tx.Undo)], Marks: tx.Marks[:cap(tx.Marks)], Locks: tx.Locks[:cap(tx.Locks)]}))
	}
	return own
}

func (g storeGiven) isSame(own storeGiven) bool {
	now := g.clone()
	return sameStore(now.s, own.s) && slices.Equal(now.ops, own.ops) && slices.Equal(now.run, own.run)
}

// storeAnswer is all of an answer, whichever a call has.
type storeAnswer struct {
	told    [2]int64
	codes   []int64
	values  []int64
	rows    []impl.Row
	records []impl.Record
	s       impl.Store
}

func (a storeAnswer) clone() storeAnswer {
	return storeAnswer{a.told, slices.Clone(a.codes), slices.Clone(a.values), ownRows(a.rows), cloneRecords(a.records), cloneStore(a.s)}
}

func (a storeAnswer) isSame(b storeAnswer) bool {
	return a.told == b.told && slices.Equal(a.codes, b.codes) && slices.Equal(a.values, b.values) && slices.Equal(a.rows, b.rows) && sameRecordLists(a.records, b.records) && sameStore(a.s, b.s)
}

// scribbles turn each list of the answer, and all memory behind it; what has lists of its own behind these.
func (a storeAnswer) scribbles() []func() {
	wrong := func(list []byte) func() { return func() { scribbleAll(list) } }
	all := []func(){wrong(a.s.Log.Sure), wrong(a.s.Log.Loose), func() { clear(a.rows[:cap(a.rows)]) }}
	for _, page := range a.s.Pages {
		all = append(all, wrong(page))
	}
	for _, r := range a.records {
		for _, run := range r.Runs {
			all = append(all, wrong(run.Bytes))
		}
		all = append(all, func() { clear(r.Runs[:cap(r.Runs)]) })
	}
	all = append(all, func() { clear(a.s.Pages[:cap(a.s.Pages)]) }, func() { clear(a.records[:cap(a.records)]) })
	return append(all, plainAnswer{codes: a.codes, values: a.values, p: impl.Plain{Txs: a.s.Txs}}.scribbles()...)
}

func (a storeAnswer) scribble() {
	for _, turn := range a.scribbles() {
		turn()
	}
}

func ofStore(r impl.StoreResult) storeAnswer {
	return storeAnswer{told: [2]int64{r.Code, r.Value}, s: r.Store}
}

func ofStoreRun(r impl.StoreRun) storeAnswer {
	return storeAnswer{told: [2]int64{r.Code}, codes: r.Codes, values: r.Values, s: r.Store}
}

func ofStoreRows(r impl.RowsResult) storeAnswer {
	return storeAnswer{told: [2]int64{r.Code}, rows: r.Rows}
}

func ofRecords(r impl.RecordsResult) storeAnswer {
	return storeAnswer{told: [2]int64{r.Code, r.Used}, records: r.Records}
}

func ofCode(code int64) storeAnswer {
	return storeAnswer{told: [2]int64{code}}
}

func storeAnswers(g storeGiven) map[string]func() storeAnswer {
	faulty, other, down := g.s, g.s, impl.Store{Log: impl.Log{Sure: g.s.Log.Sure}, Next: g.s.Next}
	faulty.Next = 9
	other.Log.Loose = nil
	calls := map[string]func() storeAnswer{
		"StoreFault":                 func() storeAnswer { return ofCode(impl.StoreFault(g.s)) },
		"StoreFault of a fault":      func() storeAnswer { return ofCode(impl.StoreFault(faulty)) },
		"StoreFault of a part":       func() storeAnswer { return ofCode(impl.StoreFault(other)) },
		"StoreFault of one down":     func() storeAnswer { return ofCode(impl.StoreFault(down)) },
		"NewStore":                   func() storeAnswer { return ofStore(impl.NewStore(g.s.Next)) },
		"NewStore of 0":              func() storeAnswer { return ofStore(impl.NewStore(0)) },
		"RowsOf":                     func() storeAnswer { return ofStoreRows(impl.RowsOf(g.s)) },
		"RowsOf a fault":             func() storeAnswer { return ofStoreRows(impl.RowsOf(faulty)) },
		"RowsOf one down":            func() storeAnswer { return ofStoreRows(impl.RowsOf(down)) },
		"LoggedIn":                   func() storeAnswer { return ofRecords(impl.LoggedIn(g.s)) },
		"LoggedIn a fault":           func() storeAnswer { return ofRecords(impl.LoggedIn(faulty)) },
		"LoggedIn one down":          func() storeAnswer { return ofRecords(impl.LoggedIn(down)) },
		"DoStore of a fault":         func() storeAnswer { return ofStore(impl.DoStore(faulty, g.ops[0])) },
		"DoStore of one down":        func() storeAnswer { return ofStore(impl.DoStore(down, g.ops[0])) },
		"RunStore":                   func() storeAnswer { return ofStoreRun(impl.RunStore(g.run)) },
		"RunStore of a part":         func() storeAnswer { return ofStoreRun(impl.RunStore(g.run[1:9])) },
		"RunStore of ops":            func() storeAnswer { return ofStoreRun(impl.RunStore(g.ops[:maxOps])) },
		"RunStore of too many":       func() storeAnswer { return ofStoreRun(impl.RunStore(g.ops)) },
		"RunStore of nothing at all": func() storeAnswer { return ofStoreRun(impl.RunStore(nil)) },
	}
	for i := range g.ops {
		calls["DoStore "+strconv.Itoa(i)] = func() storeAnswer { return ofStore(impl.DoStore(g.s, g.ops[i])) }
	}
	return calls
}

func TestStoreAnswersAreNewMemory(t *testing.T) {
	given, _ := storeArguments(t)
	kept, done := given.clone(), 0
	for name, call := range storeAnswers(given) {
		first, second := call(), call()
		want := second.clone()
		if !first.isSame(want) {
			t.Errorf("%s: %+v, then %+v", name, first, want)
		}
		done += min(1, len(want.s.Pages))
		first.scribble()
		if !second.isSame(want) {
			t.Errorf("%s: two answers share memory: %+v, want %+v", name, second, want)
		}
		if !given.isSame(kept) {
			t.Fatalf("%s: the answer shares memory with what was handed in, or that was changed", name)
		}
	}
	if done < 35 {
		t.Errorf("%d calls tell pages", done)
	}
}

// No text in an answer is a piece of one that was handed in, and no list is.
func TestStoreAnswersStayAsTheyAre(t *testing.T) {
	given, texts := storeArguments(t)
	answers, wants := map[string]storeAnswer{}, map[string]storeAnswer{}
	for name, call := range storeAnswers(given) {
		answers[name] = call()
		wants[name] = answers[name].clone()
	}
	for _, data := range texts {
		scribble(data[:len(data):len(data)])
	}
	storeAnswer{s: given.s}.scribble()
	clear(given.ops[:cap(given.ops)])
	clear(given.run[:cap(given.run)])
	for name, got := range answers {
		if !got.isSame(wants[name]) {
			t.Errorf("%s turns with what was handed in: %+v, want %+v", name, got, wants[name])
		}
	}
}

// Each list of an answer is turned, with all memory behind it: no other one turns with it.
func TestStoreAnswersHaveListsApart(t *testing.T) {
	given, _ := storeArguments(t)
	for name, call := range storeAnswers(given) {
		got, own := call(), call().clone()
		turns := own.scribbles()
		for i, turn := range got.scribbles() {
			turn()
			turns[i]()
			if !got.isSame(own) {
				t.Errorf("%s: list %d shares memory with another list of the answer: %+v, want %+v", name, i, got, own)
			}
		}
	}
}

func TestStoreAnswersHangOnArgumentsAlone(t *testing.T) {
	given, _ := storeArguments(t)
	other, _ := storeArguments(t)
	other.s = impl.DoStore(other.s, txOp(impl.OpAbort, 3)).Store
	wants := map[string]storeAnswer{}
	for name, call := range storeAnswers(given) {
		wants[name] = call().clone()
	}
	for range 5 {
		for _, call := range storeAnswers(other) {
			call()
		}
		for name, call := range storeAnswers(given) {
			if got := call(); !got.isSame(wants[name]) {
				t.Fatalf("%s: %+v, want %+v", name, got, wants[name])
			}
		}
	}
}

// What comes of an op is one that may be handed in again: what is done to it turns nothing of the one ahead.
func TestStoresOfOneBeginning(t *testing.T) {
	given, _ := storeArguments(t)
	for _, first := range given.ops {
		start := impl.DoStore(given.s, first)
		if start.Code != impl.OK {
			continue
		}
		kept := cloneStore(start.Store)
		for _, second := range given.ops {
			if impl.DoStore(start.Store, second); !sameStore(start.Store, kept) {
				t.Fatalf("%+v, then %+v: what was handed in is %+v, was %+v", first, second, start.Store, kept)
			}
		}
	}
}

// An empty list, with memory behind it or without, is the same as nil.
func TestStoreAnswersOfNilAndEmpty(t *testing.T) {
	none := impl.Store{Up: true, Txs: []impl.Tx{{Id: 1}, {Id: 2}}, Next: 3}
	empty := impl.Store{Up: true, Pages: make([][]byte, 0, 4), Log: impl.Log{Sure: []byte{}, Loose: make([]byte, 0, 9)}, Txs: []impl.Tx{{Id: 1, Undo: []impl.Change{}, Marks: []int64{}, Locks: []impl.Key{}}, {Id: 2, Undo: make([]impl.Change, 0, 4), Marks: make([]int64, 0, 4), Locks: make([]impl.Key, 0, 4)}}, Next: 3}
	expectStoreFault(t, "empty lists", empty, impl.OK)
	for kind := int64(minKind - 1); kind <= maxKind+1; kind++ {
		for _, o := range []impl.Op{rightOp(kind, 1), rightOp(kind, 2), rightOp(kind, 3), {Kind: kind, Tx: 2, Row: told(1, 8)}} {
			if a, b := impl.DoStore(none, o), impl.DoStore(empty, o); !sameStoreResult(a, b) {
				t.Errorf("nil: %+v, empty: %+v", a, b)
			}
		}
	}
	down := impl.Store{Pages: [][]byte{}, Log: impl.Log{Sure: []byte{}, Loose: make([]byte, 0, 9)}, Txs: []impl.Tx{}, Next: 3}
	expectStoreFault(t, "empty lists, down", down, impl.OK)
}
