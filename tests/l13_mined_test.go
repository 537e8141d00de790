package tests

import (
	"slices"
	"strconv"
	"testing"

	"loop.example/g00408/impl"
)

// expectedMineAll goes step by step along the model, which asks nothing of the miner itself.
func expectedMineAll(list []impl.Record) impl.MinedResult {
	var all impl.MinedResult
	for _, r := range list {
		step := expectedStep(all.Miner, r)
		if step.Code != impl.OK {
			return impl.MinedResult{Code: step.Code}
		}
		if step.Committed {
			all.Mined = append(all.Mined, bufferOf(step.Tx, step.Changes...))
		}
		all.Miner = step.Miner
	}
	return all
}

// expectLosers asks for these losers, in their order, and for the miner of all records.
func expectLosers(t *testing.T, name string, list []impl.Record, want ...impl.Buffer) {
	t.Helper()
	kept, all := cloneRecords(list), impl.MineAll(list)
	if model := expectedMineAll(list); !sameMinedResult(all, model) {
		t.Fatalf("%s: MineAll = %+v, want %+v", name, all, model)
	}
	if got := impl.LosersIn(list); !sameMinedResult(got, impl.MinedResult{Mined: want, Miner: all.Miner}) || !sameBuffers(all.Miner.Open, want) {
		t.Errorf("%s: LosersIn = %+v, want %+v and %+v", name, got, want, all.Miner)
	}
	if !sameRecordLists(list, kept) {
		t.Fatalf("%s: what was handed in was changed", name)
	}
}

func expectLosersCode(t *testing.T, name string, list []impl.Record, code int64) {
	t.Helper()
	if got := impl.LosersIn(list); !sameMinedResult(got, impl.MinedResult{Code: code}) {
		t.Errorf("%s: LosersIn = %+v, want code %d alone", name, got, code)
	}
}

func TestLosersInOfFew(t *testing.T) {
	a, b := rowOf(1, 50, 1, "a"), rowOf(1, 50, 2, "bcd")
	none, pageA, pageB := impl.NewPage(0).Page, pageWith(t, rowCell(1, 50, 1, "a")), pageWith(t, rowCell(1, 50, 2, "bcd"))
	d := func(tx int64, before []byte, after []byte) impl.Record {
		return turned(impl.RecDelta, tx, 0, before, after)
	}
	back := turned(impl.RecComp, 9, 0, pageB, pageA)
	expectLosers(t, "nil", nil)
	expectLosers(t, "no records", []impl.Record{})
	expectLosers(t, "nothing but a begin", []impl.Record{begin(9)}, bufferOf(9))
	expectLosers(t, "over", []impl.Record{begin(9), d(9, none, pageA), commit(9)})
	expectLosers(t, "aborted", []impl.Record{begin(9), d(9, none, pageA), abort(9)})
	expectLosers(t, "one that put", []impl.Record{begin(9), d(9, none, pageA)}, bufferOf(9, put(a)))
	expectLosers(t, "one that put and turned", []impl.Record{begin(9), d(9, none, pageA), d(9, pageA, pageB)}, bufferOf(9, put(b)))
	expectLosers(t, "one that took it back", []impl.Record{begin(9), d(9, none, pageA), d(9, pageA, pageB), back}, bufferOf(9, put(a)))
	expectLosers(t, "one that took all back", []impl.Record{begin(9), d(9, none, pageA), turned(impl.RecComp, 9, 0, pageA, none)}, bufferOf(9))
	expectLosers(t, "one over, one open", []impl.Record{begin(9), d(9, none, pageA), commit(9), begin(4), d(4, pageA, pageB)}, bufferOf(4, turn(a, b)))
	expectLosers(t, "one open, one over", []impl.Record{begin(4), begin(9), d(9, none, pageA), commit(9), d(4, pageA, none)}, bufferOf(4, drop(a)))
	expectLosers(t, "one over, and open again", []impl.Record{begin(9), d(9, none, pageA), commit(9), begin(9), d(9, pageA, pageB)}, bufferOf(9, turn(a, b)))
	expectLosers(t, "an image between", []impl.Record{begin(9), d(9, none, pageA), image(0, pageA), image(1, none)}, bufferOf(9, put(a)))
	expectLosers(t, "records of nobody", []impl.Record{image(0, none), image(1, none)})
	expectLosers(t, "two of one row", []impl.Record{begin(9), begin(4), d(9, none, pageA), d(4, pageA, pageB)}, bufferOf(9, put(a)), bufferOf(4, turn(a, b)))
}

// They are told in the order in which they began, whatever their numbers are and whoever did something first.
func TestLosersInTheirOrder(t *testing.T) {
	one, two := smallPage(t, 0, 1), smallPage(t, 1, 1)
	ones, twos := turned(impl.RecDelta, 7, 0, impl.NewPage(0).Page, one), turned(impl.RecDelta, 3, 1, impl.NewPage(0).Page, two)
	sevens, threes := bufferOf(7, putsOf(smallRows(0, 1))...), bufferOf(3, putsOf(smallRows(1, 1))...)
	expectLosers(t, "7, 3", []impl.Record{begin(7), begin(3), ones, twos}, sevens, threes)
	expectLosers(t, "3, 7", []impl.Record{begin(3), begin(7), ones, twos}, threes, sevens)
	expectLosers(t, "3 behind what 7 did", []impl.Record{begin(7), ones, begin(3), twos}, sevens, threes)
	expectLosers(t, "one between is over", []impl.Record{begin(7), begin(5), begin(3), ones, twos, commit(5)}, sevens, threes)
	expectLosers(t, "one that was over is the last one", []impl.Record{begin(5), begin(7), begin(3), ones, twos, abort(5), begin(5)}, sevens, threes, bufferOf(5))
	txs := []int64{5, 99, 1, 50, 7, 2, 98, 3}
	var list []impl.Record
	for count, tx := range txs {
		list = append(list, begin(tx))
		expectLosers(t, strconv.Itoa(count+1)+" that did nothing", list, opened(txs[:count+1]...)...)
	}
	for at, tx := range txs {
		expectLosers(t, "7 of 8", append(slices.Clone(list), commit(tx)), slices.Delete(opened(txs...), at, at+1)...)
		expectLosers(t, "7 of 8, and the first one again", append(slices.Clone(list), abort(tx), begin(tx)), append(slices.Delete(opened(txs...), at, at+1), bufferOf(tx))...)
	}
	expectLosersCode(t, "9", append(list, begin(4)), impl.ErrMany)
}

// manyWrong are records with each code of MineAll, behind begin(8) and a page 0 with the row 1/50; 9 is over there.
func manyWrong(t *testing.T) (right []impl.Record, wrong map[string]faultyRecord) {
	t.Helper()
	none, page := impl.NewPage(0).Page, pageWith(t, rowCell(1, 50, 1, "a"))
	right = []impl.Record{begin(9), turned(impl.RecDelta, 9, 0, none, page), commit(9), begin(8)}
	list := append(faultyRecords(),
		faultyRecord{"a begin of what is open", begin(8), impl.ErrTaken},
		faultyRecord{"a commit of what is over", commit(9), impl.ErrNone},
		faultyRecord{"an abort of what never was", abort(7), impl.ErrNone},
		faultyRecord{"a delta of what is over", record(impl.RecDelta, 9, 0, run(20, 1)), impl.ErrNone},
		faultyRecord{"a comp of what is over", record(impl.RecComp, 9, 0, run(20, 1)), impl.ErrNone},
		faultyRecord{"a page too far", record(impl.RecDelta, 8, 2, run(20, 1)), impl.ErrForm},
		faultyRecord{"no page any more", record(impl.RecDelta, 8, 0, run(0, 17)), impl.ErrRange},
		faultyRecord{"no cell any more", record(impl.RecComp, 8, 0, run(57, 9)), impl.ErrText},
		faultyRecord{"a stub that tells nothing", turned(impl.RecDelta, 8, 0, page, pageWith(t, stubCell(0, 5))), impl.ErrNone},
		faultyRecord{"an image that turns a row", image(0, none), impl.ErrState},
		faultyRecord{"a row twice", turned(impl.RecDelta, 8, 1, none, page), impl.ErrState},
		faultyRecord{"two stubs that tell one cell", turned(impl.RecDelta, 8, 0, page, pageWith(t, movedCell(1, 1, 1, ""), stubCell(0, 0), stubCell(0, 0))), impl.ErrTaken},
	)
	wrong = map[string]faultyRecord{}
	for _, f := range list {
		wrong[f.name] = f
	}
	return right, wrong
}

// The first record with a code tells it, and nothing is told of those ahead.
func TestLosersInOfEachCode(t *testing.T) {
	right, wrong := manyWrong(t)
	expectLosers(t, "8 is open", right, bufferOf(8))
	for name, f := range wrong {
		expectLosersCode(t, name, append(slices.Clone(right), f.record), f.code)
		expectLosersCode(t, name+", then more", slices.Concat(right, []impl.Record{f.record, commit(8), begin(8)}), f.code)
		for other, g := range wrong {
			expectLosersCode(t, name+", then "+other, slices.Concat(right, []impl.Record{f.record, g.record}), f.code)
		}
	}
	for _, f := range faultyRecords() {
		expectLosersCode(t, f.name, []impl.Record{f.record}, f.code)
	}
}

// One may have turned 61 keys: they are told all the same. Of 62 the miner has a code.
func TestLosersInOfManyChanges(t *testing.T) {
	list, rows := putBy(t, 9, 61)
	expectLosers(t, "61 rows", list, bufferOf(9, putsOf(rows)...))
	list, _ = putBy(t, 9, 62)
	expectLosersCode(t, "62 rows", list, impl.ErrMany)
}

// putBy are a begin and a delta a row, and the rows, rising.
func putBy(t *testing.T, tx int64, count int) ([]impl.Record, []impl.Row) {
	t.Helper()
	list, rows := []impl.Record{begin(tx)}, smallRows(0, count)
	var pages [][]byte
	for _, r := range rows {
		edits := impl.InsertEdits(pages, r)
		if edits.Code != impl.OK {
			t.Fatalf("InsertEdits of %+v = %d", r, edits.Code)
		}
		list = append(list, recordsFor(impl.RecDelta, tx, pages, edits.Edits)...)
		pages = edits.Pages
	}
	return list, rows
}

// expectRedone asks for pages alone.
func expectRedone(t *testing.T, name string, list []impl.Record) {
	t.Helper()
	want, ok := pagesTold(nil, list)
	if !ok {
		t.Fatalf("%s: the records lead to no pages", name)
	}
	kept := cloneRecords(list)
	if got := impl.RedoAll(list); !sameEditsResult(got, impl.EditsResult{Pages: want}) {
		t.Errorf("%s: RedoAll = %+v, want the pages %v", name, got, want)
	}
	if !sameRecordLists(list, kept) {
		t.Fatalf("%s: what was handed in was changed", name)
	}
}

func TestRedoAllOfFew(t *testing.T) {
	expectRedone(t, "nil", nil)
	expectRedone(t, "no records", []impl.Record{})
	expectRedone(t, "nothing turns", []impl.Record{begin(1), commit(1), begin(1), abort(2)})
	expectRedone(t, "one byte", []impl.Record{record(impl.RecDelta, 1, 0, run(63, 9))})
	expectRedone(t, "a comp of nobody", []impl.Record{record(impl.RecComp, 99, 0, run(2, 1, 2), run(63, 9))})
	expectRedone(t, "an image", []impl.Record{image(0, filled(7))})
	expectRedone(t, "what stays as it is", []impl.Record{record(impl.RecDelta, 1, 0, run(1, 64))})
	expectRedone(t, "one byte, there and back", []impl.Record{record(impl.RecDelta, 1, 0, run(63, 9)), record(impl.RecComp, 1, 0, run(63, 0))})
	expectRedone(t, "an image over what was there", []impl.Record{record(impl.RecDelta, 1, 0, run(63, 9)), image(0, filled(5)), record(impl.RecDelta, 1, 0, run(0, 1))})
	expectRedone(t, "pages of open ones", recordsTo(openPages(t)))
	var list []impl.Record
	for page := range int64(12) {
		list = append(list, record(impl.RecDelta, 1+page, page, run(page, 9)), begin(3), image(page/2, filled(byte(page))))
		expectRedone(t, strconv.FormatInt(page+1, 10)+" pages", list)
	}
	got := impl.RedoAll([]impl.Record{record(impl.RecDelta, 1, 0, run(3, 9)), image(1, filled(4)), commit(1)})
	first := impl.NewPage(0).Page
	first[3] = 9
	if !sameEditsResult(got, impl.EditsResult{Pages: [][]byte{first, filled(4)}}) {
		t.Errorf("two pages: %+v", got)
	}
	for _, r := range kindRecords() {
		if r.Page == 0 {
			expectRedone(t, "each kind", []impl.Record{r})
			expectRedone(t, "each kind twice", []impl.Record{r, r})
		}
	}
	for at := range 200 {
		// A page of any bytes is taken as it is.
		expectRedone(t, "any bytes", []impl.Record{image(0, filled(byte(at))), record(impl.RecDelta, 1, 0, run(int64(at%64), byte(at)))})
	}
}

// The first record with a code tells it, wherever it stands, and all else is zero.
func TestRedoAllOfEachCode(t *testing.T) {
	expect := func(name string, code int64, list ...impl.Record) {
		t.Helper()
		expectEditsCode(t, name+": RedoAll", impl.RedoAll(list), code)
	}
	right := []impl.Record{begin(1), record(impl.RecDelta, 1, 0, run(3, 9)), commit(1)}
	wrong := append(faultyRecords(), faultyRecord{"a page too far", record(impl.RecDelta, 1, 2, run(3, 9)), impl.ErrForm}, faultyRecord{"an image too far", image(11, filled(3)), impl.ErrForm})
	for _, f := range wrong {
		expect(f.name, f.code, f.record)
		for at := range len(right) + 1 {
			expect(f.name+" at "+strconv.Itoa(at), f.code, slices.Insert(slices.Clone(right), at, f.record)...)
		}
		for _, g := range wrong {
			expect(f.name+", then "+g.name, f.code, slices.Concat(right, []impl.Record{f.record, g.record}, right)...)
		}
	}
	for page := int64(1); page < 12; page++ {
		expect("the first page is "+strconv.FormatInt(page, 10), impl.ErrForm, record(impl.RecComp, 1, page, run(3, 9)), right[1])
	}
	// Nobody asks who is open, nor whether the pages have a fault: that is the miner's.
	for name, f := range func() map[string]faultyRecord { _, wrong := manyWrong(t); return wrong }() {
		list := append(slices.Clone(right), f.record)
		if impl.RecordFault(f.record) == impl.OK && f.record.Page < 2 {
			expectRedone(t, name, list)
		}
	}
}

// Records of walks: LosersIn and RedoAll of each beginning of them.
func TestLosersInAndRedoAllOverWalks(t *testing.T) {
	next, counts := numbers(1301), map[int]int{}
	for range 12 {
		s := impl.RunStore(anyStoreRun(next, 60)).Store
		list := impl.LoggedIn(s).Records
		for at := range len(list) + 1 {
			losers := expectedMineAll(list[:at]).Miner.Open
			counts[len(losers)]++
			expectLosers(t, "a walk", list[:at], losers...)
			expectRedone(t, "a walk", list[:at])
		}
		if got := impl.RedoAll(list); !samePages(got.Pages, s.Pages) {
			t.Fatalf("RedoAll = %+v, want the pages %v", got, s.Pages)
		}
		for range 20 {
			wrong := slices.Clone(list)
			at := next(len(wrong))
			switch next(3) {
			case 0:
				wrong = slices.Delete(wrong, at, at+1)
			case 1:
				wrong = slices.Insert(wrong, at, wrong[next(len(wrong))])
			case 2:
				wrong[at] = wrong[next(len(wrong))]
			}
			if model := expectedMineAll(wrong); model.Code != impl.OK {
				expectLosersCode(t, "a walk with a record that is wrong", wrong, model.Code)
			} else {
				expectLosers(t, "a walk with another record", wrong, model.Miner.Open...)
			}
			if _, ok := pagesTold(nil, wrong); ok {
				expectRedone(t, "a walk with another record", wrong)
			} else {
				expectEditsCode(t, "a walk with a record that is wrong", impl.RedoAll(wrong), impl.ErrForm)
			}
		}
	}
	for count := range 5 {
		if counts[count] < 10 {
			t.Errorf("%d losers came %d times alone: %v", count, counts[count], counts)
		}
	}
}
