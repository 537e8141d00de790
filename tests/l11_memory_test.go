package tests

import (
	"slices"
	"strconv"
	"testing"

	"loop.example/g00408/impl"
)

// plainGiven is all that is handed in to the calls of this layer.
type plainGiven struct {
	p   impl.Plain
	ops []impl.Op
	run []impl.Op
}

// plainArguments stand in lists with more memory behind them, some of them pieces of one list; texts are the bytes of all
// texts.
func plainArguments() (given plainGiven, texts [][]byte) {
	own := func(table int64, key int64, val int64, text string) impl.Row {
		is, data := ownText(text)
		texts = append(texts, data)
		return rowOf(table, key, val, is)
	}
	rows := append([]impl.Row{own(0, 1, 8, ""), own(0, 2, 8, ""), own(1, 5, 1, "first"), own(1, 6, 2, "second"), own(2, 7, 3, "last")}, rowOf(9, 9, 9, "behind"))[:5]
	changes := append([]impl.Change{put(own(1, 5, 1, "first")), turn(own(1, 6, 1, "was"), own(1, 6, 2, "second")), drop(own(2, 8, 1, "gone")), drop(own(2, 9, 1, "gonetoo"))}, impl.Change{})[:4]
	keys := append([]impl.Key{keyAt(1, 5), keyAt(1, 6), keyAt(2, 8), keyAt(2, 9), keyAt(2, 10)}, keyAt(9, 9))[:5]
	marks := append([]int64{0, 1, 1, 2, 2}, 99)[:5]
	list := append([]impl.Tx{
		{Id: 3, Undo: changes[:2], Marks: marks[:3], Locks: keys[:2]},
		{Id: 7, Undo: changes[2:], Marks: marks[1:], Locks: keys[2:]},
		{Id: 9, Undo: changes[:0], Marks: marks[:0], Locks: keys[:0]},
	}, impl.Tx{Id: 77})[:3]
	given.p = impl.Plain{Rows: rows, Txs: list, Next: 10}
	for _, tx := range []int64{3, 7, 9, 8} {
		given.ops = append(given.ops,
			rowOp(impl.OpPut, tx, own(1, 50, 1, "put")), rowOp(impl.OpPut, tx, own(1, 5, 1, "put")), rowOp(impl.OpPut, tx, own(2, 10, 1, "ten")), rowOp(impl.OpPut, tx, own(0, 3, 8, "")),
			rowOp(impl.OpSet, tx, own(1, 5, 1, "first")), rowOp(impl.OpSet, tx, own(1, 5, 9, "set")), rowOp(impl.OpSet, tx, own(2, 7, 3, "lasts")), rowOp(impl.OpSet, tx, own(2, 7, 3, "last")),
			rowOp(impl.OpDrop, tx, own(1, 6, 0, "")), rowOp(impl.OpDrop, tx, own(2, 7, 0, "")), txOp(impl.OpMark, tx), backOp(tx, 0), backOp(tx, 1), backOp(tx, 2), backOp(tx, 3), txOp(impl.OpCommit, tx), txOp(impl.OpAbort, tx))
	}
	given.ops = append(given.ops, impl.Op{Kind: impl.OpBegin}, impl.Op{Kind: impl.OpCheck}, impl.Op{})
	given.run = append([]impl.Op{
		{Kind: impl.OpBegin}, rowOp(impl.OpPut, 1, own(0, 1, 8, "")), txOp(impl.OpMark, 1), rowOp(impl.OpPut, 1, own(1, 5, 1, "one")), {}, {Kind: impl.OpBegin}, rowOp(impl.OpSet, 1, own(1, 5, 1, "other")),
		rowOp(impl.OpPut, 1, own(1, 6, 1, "two")), txOp(impl.OpMark, 2), {Kind: impl.OpBegin}, txOp(impl.OpCommit, 2), rowOp(impl.OpDrop, 1, own(1, 6, 0, "")), rowOp(impl.OpPut, 3, own(0, 2, 4, "")), rowOp(impl.OpPut, 3, own(2, 1, 0, "last")), txOp(impl.OpMark, 3),
	}, txOp(impl.OpAbort, 1))[:15]
	return given, texts
}

func cloneOps(ops []impl.Op) []impl.Op {
	var own []impl.Op
	for _, o := range ops[:cap(ops)] {
		o.Row = ownRows([]impl.Row{o.Row})[0]
		own = append(own, o)
	}
	return own
}

// clone is all that was handed in, and the memory behind it.
func (g plainGiven) clone() plainGiven {
	own := plainGiven{p: impl.Plain{Rows: ownRows(g.p.Rows[:cap(g.p.Rows)]), Next: g.p.Next}, ops: cloneOps(g.ops), run: cloneOps(g.run)}
	for _, tx := range g.p.Txs[:cap(g.p.Txs)] {
		own.p.Txs = append(own.p.Txs, cloneTx(impl.Tx{Id: tx.Id, Undo: tx.Undo[:cap(tx.Undo)], Marks: tx.Marks[:cap(tx.Marks)], Locks: tx.Locks[:cap(tx.Locks)]}))
	}
	return own
}

func (g plainGiven) isSame(own plainGiven) bool {
	now := g.clone()
	return samePlain(now.p, own.p) && slices.Equal(now.ops, own.ops) && slices.Equal(now.run, own.run)
}

// plainAnswer is all of an answer, whichever a call has.
type plainAnswer struct {
	told   [2]int64
	codes  []int64
	values []int64
	p      impl.Plain
}

func (a plainAnswer) clone() plainAnswer {
	return plainAnswer{a.told, slices.Clone(a.codes), slices.Clone(a.values), clonePlain(a.p)}
}

func (a plainAnswer) isSame(b plainAnswer) bool {
	return a.told == b.told && slices.Equal(a.codes, b.codes) && slices.Equal(a.values, b.values) && samePlain(a.p, b.p)
}

// scribbles turn each list of the answer, and all memory behind it; the last one that of the transactions.
func (a plainAnswer) scribbles() []func() {
	wrong := func(list []int64) func() {
		return func() {
			for i := range list[:cap(list)] {
				list[:cap(list)][i] = -7
			}
		}
	}
	all := []func(){wrong(a.codes), wrong(a.values), func() { clear(a.p.Rows[:cap(a.p.Rows)]) }}
	for _, tx := range a.p.Txs {
		all = append(all, func() { clear(tx.Undo[:cap(tx.Undo)]) }, wrong(tx.Marks), func() { clear(tx.Locks[:cap(tx.Locks)]) })
	}
	return append(all, func() { clear(a.p.Txs[:cap(a.p.Txs)]) })
}

func (a plainAnswer) scribble() {
	for _, turn := range a.scribbles() {
		turn()
	}
}

func plainAnswers(g plainGiven) map[string]func() plainAnswer {
	faulty := impl.Plain{Rows: g.p.Rows, Txs: g.p.Txs, Next: 9}
	ofRows := func(r impl.RowsResult) plainAnswer {
		return plainAnswer{told: [2]int64{r.Code}, p: impl.Plain{Rows: r.Rows}}
	}
	ofPlain := func(r impl.PlainResult) plainAnswer {
		return plainAnswer{told: [2]int64{r.Code, r.Value}, p: r.Plain}
	}
	ofRun := func(r impl.RunResult) plainAnswer {
		return plainAnswer{told: [2]int64{r.Code}, codes: r.Codes, values: r.Values, p: r.Plain}
	}
	calls := map[string]func() plainAnswer{
		"PlainFault":             func() plainAnswer { return plainAnswer{told: [2]int64{impl.PlainFault(g.p)}} },
		"PlainFault of a fault":  func() plainAnswer { return plainAnswer{told: [2]int64{impl.PlainFault(faulty)}} },
		"NewPlain":               func() plainAnswer { return ofPlain(impl.NewPlain(g.p.Next)) },
		"NewPlain of 0":          func() plainAnswer { return ofPlain(impl.NewPlain(0)) },
		"CommittedOf":            func() plainAnswer { return ofRows(impl.CommittedOf(g.p)) },
		"CommittedOf of nobody":  func() plainAnswer { return ofRows(impl.CommittedOf(impl.Plain{Rows: g.p.Rows, Next: 1})) },
		"CommittedOf of a fault": func() plainAnswer { return ofRows(impl.CommittedOf(faulty)) },
		"DoPlain of a fault":     func() plainAnswer { return ofPlain(impl.DoPlain(faulty, g.ops[0])) },
		"RunPlain":               func() plainAnswer { return ofRun(impl.RunPlain(g.run)) },
		"RunPlain of a part":     func() plainAnswer { return ofRun(impl.RunPlain(g.run[1:9])) },
		"RunPlain of ops":        func() plainAnswer { return ofRun(impl.RunPlain(g.ops[:maxOps])) },
		"RunPlain of too many":   func() plainAnswer { return ofRun(impl.RunPlain(g.ops)) },
	}
	for i := range g.ops {
		calls["DoPlain "+strconv.Itoa(i)] = func() plainAnswer { return ofPlain(impl.DoPlain(g.p, g.ops[i])) }
	}
	return calls
}

func TestPlainAnswersAreNewMemory(t *testing.T) {
	given, _ := plainArguments()
	kept, done := given.clone(), 0
	for name, call := range plainAnswers(given) {
		first, second := call(), call()
		want := second.clone()
		if !first.isSame(want) {
			t.Errorf("%s: %+v, then %+v", name, first, want)
		}
		done += min(1, len(want.p.Rows))
		first.scribble()
		if !second.isSame(want) {
			t.Errorf("%s: two answers share memory: %+v, want %+v", name, second, want)
		}
		if !given.isSame(kept) {
			t.Fatalf("%s: the answer shares memory with what was handed in, or that was changed", name)
		}
	}
	if done < 35 {
		t.Errorf("%d calls tell rows", done)
	}
}

// No text in an answer is a piece of one that was handed in, and no list is.
func TestPlainAnswersStayAsTheyAre(t *testing.T) {
	given, texts := plainArguments()
	answers, wants := map[string]plainAnswer{}, map[string]plainAnswer{}
	for name, call := range plainAnswers(given) {
		answers[name] = call()
		wants[name] = answers[name].clone()
	}
	for _, data := range texts {
		scribble(data[:len(data):len(data)])
	}
	plainAnswer{p: given.p}.scribble()
	clear(given.ops[:cap(given.ops)])
	clear(given.run[:cap(given.run)])
	for name, got := range answers {
		if !got.isSame(wants[name]) {
			t.Errorf("%s turns with what was handed in: %+v, want %+v", name, got, wants[name])
		}
	}
}

// Each list of an answer is turned, with all memory behind it: no other one turns with it.
func TestPlainAnswersHaveListsApart(t *testing.T) {
	given, _ := plainArguments()
	for name, call := range plainAnswers(given) {
		got, own := call(), call().clone()
		for i, turn := range got.scribbles() {
			turn()
			own.scribbles()[i]()
			if !got.isSame(own) {
				t.Errorf("%s: list %d shares memory with another list of the answer: %+v, want %+v", name, i, got, own)
			}
		}
	}
}

func TestPlainAnswersHangOnArgumentsAlone(t *testing.T) {
	given, _ := plainArguments()
	other, _ := plainArguments()
	other.p = impl.DoPlain(other.p, txOp(impl.OpAbort, 3)).Plain
	wants := map[string]plainAnswer{}
	for name, call := range plainAnswers(given) {
		wants[name] = call().clone()
	}
	for range 5 {
		for _, call := range plainAnswers(other) {
			call()
		}
		for name, call := range plainAnswers(given) {
			if got := call(); !got.isSame(wants[name]) {
				t.Fatalf("%s: %+v, want %+v", name, got, wants[name])
			}
		}
	}
}

// What comes of an op is one that may be handed in again: what is done to it turns nothing of the one ahead.
func TestPlainOnesOfOneBeginning(t *testing.T) {
	given, _ := plainArguments()
	for _, first := range given.ops {
		start := impl.DoPlain(given.p, first)
		if start.Code != impl.OK {
			continue
		}
		kept := clonePlain(start.Plain)
		for _, second := range given.ops {
			if impl.DoPlain(start.Plain, second); !samePlain(start.Plain, kept) {
				t.Fatalf("%+v, then %+v: what was handed in is %+v, was %+v", first, second, start.Plain, kept)
			}
		}
	}
}

// An empty list, with memory behind it or without, is the same as nil.
func TestPlainAnswersOfNilAndEmpty(t *testing.T) {
	none := impl.Plain{Txs: []impl.Tx{{Id: 1}, {Id: 2}}, Next: 3}
	empty := impl.Plain{Rows: make([]impl.Row, 0, 4), Txs: []impl.Tx{{Id: 1, Undo: []impl.Change{}, Marks: []int64{}, Locks: []impl.Key{}}, {Id: 2, Undo: make([]impl.Change, 0, 4), Marks: make([]int64, 0, 4), Locks: make([]impl.Key, 0, 4)}}, Next: 3}
	expectPlainFault(t, "empty lists", empty, impl.OK)
	for kind := int64(minKind - 1); kind <= maxKind+1; kind++ {
		for _, o := range []impl.Op{rightOp(kind, 1), rightOp(kind, 2), rightOp(kind, 3), {Kind: kind, Tx: 2, Row: told(1, 8)}} {
			if a, b := impl.DoPlain(none, o), impl.DoPlain(empty, o); !samePlainResult(a, b) {
				t.Errorf("nil: %+v, empty: %+v", a, b)
			}
		}
	}
}
