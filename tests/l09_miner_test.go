package tests

import (
	"bytes"
	"slices"
	"strconv"
	"testing"

	"loop.example/g00408/impl"
)

const maxOpen = 8

func begin(tx int64) impl.Record  { return record(impl.RecBegin, tx, 0) }
func commit(tx int64) impl.Record { return record(impl.RecCommit, tx, 0) }
func abort(tx int64) impl.Record  { return record(impl.RecAbort, tx, 0) }

// turned is a delta or a comp that makes the one page the other one.
func turned(kind int64, tx int64, page int64, before []byte, after []byte) impl.Record {
	return record(kind, tx, page, expectedDiff(before, after)...)
}

// recordsFor has a record for each edit; it asks nothing of the program.
func recordsFor(kind int64, tx int64, pages [][]byte, edits []impl.Edit) []impl.Record {
	var list []impl.Record
	for _, e := range edits {
		before := impl.NewPage(0).Page
		if int(e.Page) < len(pages) {
			before = pages[e.Page]
		}
		list = append(list, turned(kind, tx, e.Page, before, e.Bytes))
		pages = withEdit(pages, e)
	}
	return list
}

func bufferOf(tx int64, changes ...impl.Change) impl.Buffer {
	return impl.Buffer{Tx: tx, Changes: changes}
}

func minerOf(pages [][]byte, open ...impl.Buffer) impl.Miner {
	return impl.Miner{Pages: pages, Open: open}
}

// opened are buffers without changes.
func opened(txs ...int64) []impl.Buffer {
	var open []impl.Buffer
	for _, tx := range txs {
		open = append(open, bufferOf(tx))
	}
	return open
}

func sameBuffers(a []impl.Buffer, b []impl.Buffer) bool {
	return slices.EqualFunc(a, b, func(x impl.Buffer, y impl.Buffer) bool { return x.Tx == y.Tx && slices.Equal(x.Changes, y.Changes) })
}

func sameMiner(a impl.Miner, b impl.Miner) bool {
	return samePages(a.Pages, b.Pages) && sameBuffers(a.Open, b.Open)
}

func cloneBuffers(list []impl.Buffer) []impl.Buffer {
	var own []impl.Buffer
	for _, b := range list {
		own = append(own, impl.Buffer{Tx: b.Tx, Changes: ownChanges(b.Changes)})
	}
	return own
}

func cloneMiner(m impl.Miner) impl.Miner {
	return impl.Miner{Pages: clonePages(m.Pages), Open: cloneBuffers(m.Open)}
}

func sameMinerResult(a impl.MinerResult, b impl.MinerResult) bool {
	return a.Code == b.Code && a.Ended == b.Ended && a.Committed == b.Committed && a.Tx == b.Tx && slices.Equal(a.Changes, b.Changes) && sameMiner(a.Miner, b.Miner)
}

func sameMinedResult(a impl.MinedResult, b impl.MinedResult) bool {
	return a.Code == b.Code && sameBuffers(a.Mined, b.Mined) && sameMiner(a.Miner, b.Miner)
}

func expectStep(t *testing.T, name string, m impl.Miner, r impl.Record, want impl.MinerResult) {
	t.Helper()
	kept, keptRecord := cloneMiner(m), cloneRecord(r)
	if got := impl.StepMiner(m, r); !sameMinerResult(got, want) {
		t.Errorf("%s: StepMiner = %+v, want %+v", name, got, want)
	}
	if !sameMiner(m, kept) || !sameRecord(r, keptRecord) {
		t.Fatalf("%s: what was handed in was changed", name)
	}
}

func expectStepCode(t *testing.T, name string, m impl.Miner, r impl.Record, code int64) {
	t.Helper()
	expectStep(t, name, m, r, impl.MinerResult{Code: code})
}

func expectMiner(t *testing.T, name string, m impl.Miner, r impl.Record, want impl.Miner) {
	t.Helper()
	expectStep(t, name, m, r, impl.MinerResult{Miner: want})
}

func expectMined(t *testing.T, name string, list []impl.Record, m impl.Miner, want ...impl.Buffer) {
	t.Helper()
	kept := cloneRecords(list)
	if got := impl.MineAll(list); !sameMinedResult(got, impl.MinedResult{Mined: want, Miner: m}) {
		t.Errorf("%s: MineAll = %+v, want %+v and %+v", name, got, want, m)
	}
	if !sameRecordLists(list, kept) {
		t.Fatalf("%s: what was handed in was changed", name)
	}
}

func expectMinedCode(t *testing.T, name string, list []impl.Record, code int64) {
	t.Helper()
	if got := impl.MineAll(list); !sameMinedResult(got, impl.MinedResult{Code: code}) {
		t.Errorf("%s: MineAll = %+v, want code %d alone", name, got, code)
	}
}

// anyRecords are right and wrong ones of each kind.
func anyRecords(t *testing.T) []impl.Record {
	list := append(kindRecords(), begin(1), commit(1), abort(1), begin(50), image(0, pageWith(t, rowCell(1, 1, 1, ""))), record(impl.RecDelta, 1, 5, runOf(0, 1)))
	for _, f := range faultyRecords() {
		list = append(list, f.record)
	}
	return list
}

// expectMinerFault asks all that ask the MinerFault first, whatever stands behind.
func expectMinerFault(t *testing.T, name string, m impl.Miner, code int64) {
	t.Helper()
	if got := impl.MinerFault(m); got != code {
		t.Errorf("%s: MinerFault = %d, want %d", name, got, code)
	}
	if code == impl.OK {
		return
	}
	for _, r := range anyRecords(t) {
		expectStepCode(t, name, m, r, code)
	}
}

func TestMinerFaultOfRightMiners(t *testing.T) {
	a, b := rowOf(1, 50, 1, "a"), rowOf(1, 50, 2, "b")
	pages, _ := fullPages(t, 12)
	expectMinerFault(t, "nothing", impl.Miner{}, impl.OK)
	expectMinerFault(t, "empty lists", impl.Miner{Pages: [][]byte{}, Open: []impl.Buffer{}}, impl.OK)
	expectMinerFault(t, "12 pages", minerOf(pages), impl.OK)
	for count := range maxOpen + 1 {
		expectMinerFault(t, "as many open", minerOf(nil, opened(1, 99, 2, 98, 3, 97, 50, 51)[:count]...), impl.OK)
	}
	// Nobody asks whether the changes have to do with the pages, or with those of another one.
	expectMinerFault(t, "changes", minerOf(pages, bufferOf(99, put(a)), bufferOf(1, put(a)), bufferOf(7, turn(a, b)), bufferOf(8, drop(b))), impl.OK)
	expectMinerFault(t, "60 changes each", minerOf(nil, bufferOf(2, putsOf(manyRows(0, maxFolded, 1))...), bufferOf(1, putsOf(manyRows(50, maxFolded, 1))...)), impl.OK)
}

// faultyBuffers have a fault wherever they stand, beside any others.
func faultyBuffers() map[string]struct {
	buffer impl.Buffer
	code   int64
} {
	list := map[string]struct {
		buffer impl.Buffer
		code   int64
	}{}
	add := func(name string, code int64, b impl.Buffer) {
		list[name] = struct {
			buffer impl.Buffer
			code   int64
		}{b, code}
	}
	for _, tx := range append([]int64{0, 100}, farNumbers...) {
		add("Tx "+strconv.FormatInt(tx, 10), impl.ErrRange, bufferOf(tx))
		add("Tx and changes "+strconv.FormatInt(tx, 10), impl.ErrRange, bufferOf(tx, make([]impl.Change, 61)...))
	}
	a := rowOf(1, 50, 1, "a")
	add("61 changes", impl.ErrMany, bufferOf(60, putsOf(manyRows(0, maxFolded+1, 1))...))
	add("61 zero changes", impl.ErrMany, bufferOf(60, make([]impl.Change, 61)...))
	add("a zero change", impl.ErrForm, bufferOf(60, impl.Change{}))
	add("another Key", impl.ErrForm, bufferOf(60, turn(a, rowOf(1, 51, 1, "a"))))
	add("Val of Before", impl.ErrRange, bufferOf(60, turn(rowOf(1, 50, 1000, ""), rowOf(1, 50, 1, "A"))))
	add("Text of After", impl.ErrText, bufferOf(60, put(a), put(rowOf(1, 51, 1, "A"))))
	add("the same row", impl.ErrForm, bufferOf(60, turn(a, a)))
	add("one twice", impl.ErrForm, bufferOf(60, put(a), drop(a)))
	add("what does not rise", impl.ErrForm, bufferOf(60, put(a), put(rowOf(1, 49, 1, ""))))
	add("a fault behind what does not rise", impl.ErrForm, bufferOf(60, put(a), put(rowOf(1, 49, 1, "")), put(rowOf(1, 48, 1, "A"))))
	add("a fault ahead of what does not rise", impl.ErrText, bufferOf(60, put(rowOf(1, 48, 1, "A")), put(a), put(rowOf(1, 49, 1, ""))))
	add("a fault of what does not rise", impl.ErrText, bufferOf(60, put(a), put(rowOf(1, 49, 1, "A"))))
	return list
}

func TestMinerFaultOfBuffers(t *testing.T) {
	right := opened(1, 2, 3, 4, 5, 6, 7)
	faulty := faultyBuffers()
	for name, f := range faulty {
		for _, count := range []int{0, 1, 7} {
			for _, at := range []int{0, count / 2, count} {
				open := slices.Insert(slices.Clone(right[:count]), at, f.buffer)
				expectMinerFault(t, name+" at "+strconv.Itoa(at)+" of "+strconv.Itoa(count), minerOf(nil, open...), f.code)
				expectMinerFault(t, name+", 9 open", minerOf(nil, append(open, opened(11, 12, 13, 14, 15, 16, 17, 18)[:maxOpen-count]...)...), impl.ErrMany)
			}
		}
		// Its changes are asked ahead of whether its Tx is taken.
		if f.buffer.Tx == 60 {
			expectMinerFault(t, name+", taken too", minerOf(nil, bufferOf(60), f.buffer), f.code)
		}
		for other, g := range faulty {
			if got := impl.MinerFault(minerOf(nil, right[0], f.buffer, right[1], g.buffer)); got != f.code {
				t.Errorf("%s, then %s: MinerFault = %d, want %d", name, other, got, f.code)
			}
		}
		expectMinerFault(t, name+", behind one that is taken", minerOf(nil, bufferOf(1), bufferOf(1), f.buffer), impl.ErrTaken)
	}
}

func TestMinerFaultOfTakenTx(t *testing.T) {
	a := rowOf(1, 50, 1, "a")
	for _, tx := range []int64{1, 50, 99} {
		expectMinerFault(t, "two", minerOf(nil, opened(tx, tx)...), impl.ErrTaken)
		expectMinerFault(t, "two with changes", minerOf(nil, bufferOf(tx, put(a)), bufferOf(2), bufferOf(tx, drop(a))), impl.ErrTaken)
		expectMinerFault(t, "the first and the last of 8", minerOf(nil, opened(tx, 2, 3, 4, 5, 6, 7, tx)...), impl.ErrTaken)
		expectMinerFault(t, "the last two of 8", minerOf(nil, opened(2, 3, 4, 5, 6, 7, tx, tx)...), impl.ErrTaken)
		expectMinerFault(t, "two of 9", minerOf(nil, opened(tx, tx, 3, 4, 5, 6, 7, 8, 9)...), impl.ErrMany)
	}
	expectMinerFault(t, "9 open", minerOf(nil, opened(1, 2, 3, 4, 5, 6, 7, 8, 9)...), impl.ErrMany)
	expectMinerFault(t, "1000 open", minerOf(nil, make([]impl.Buffer, 1000)...), impl.ErrMany)
}

// The pages are asked ahead of all that is open, and of all records.
func TestMinerFaultOfPages(t *testing.T) {
	expect := func(name string, pages [][]byte, code int64) {
		t.Helper()
		if got := impl.PagesFault(pages); got != code {
			t.Fatalf("%s: PagesFault = %d, want %d", name, got, code)
		}
		if got := impl.NewMiner(pages); !sameMinerResult(got, impl.MinerResult{Code: code}) {
			t.Errorf("%s: NewMiner = %+v, want code %d alone", name, got, code)
		}
		expectMinerFault(t, name, minerOf(pages, opened(1)...), code)
		expectMinerFault(t, name+", 9 open", minerOf(pages, make([]impl.Buffer, 9)...), code)
		expectMinerFault(t, name+", Tx 0", minerOf(pages, opened(0)...), code)
		expectMinerFault(t, name+", wrong changes", minerOf(pages, bufferOf(1, impl.Change{}), bufferOf(1)), code)
	}
	for _, f := range faultyPages(t) {
		for _, count := range []int{1, 12} {
			pages := rightPages(t, count)
			pages[count-1] = f.page(int64(count - 1))
			expect(f.name, pages, f.code)
		}
		expect(f.name+", 13 pages", append(rightPages(t, 12), f.page(12)), impl.ErrMany)
	}
	expect("13 that are nil", make([][]byte, 13), impl.ErrMany)
	expect("two rows of one key", [][]byte{pageWith(t, rowCell(0, 1, 0, "")), pageWith(t, rowCell(0, 1, 1, ""))}, impl.ErrState)
}

func TestNewMiner(t *testing.T) {
	full, _ := fullPages(t, 12)
	for _, pages := range [][][]byte{nil, {}, {impl.NewPage(9).Page}, rightPages(t, 5), full, brimPages(t, 12)} {
		if got := impl.NewMiner(pages); !sameMinerResult(got, impl.MinerResult{Miner: minerOf(pages)}) {
			t.Errorf("NewMiner = %+v", got)
		}
		expectMinerFault(t, "a new one", impl.NewMiner(pages).Miner, impl.OK)
	}
}

// expectRecordApplied asks for the pages with these runs, and for no edits: nobody is told how it came to them.
func expectRecordApplied(t *testing.T, name string, pages [][]byte, r impl.Record) {
	t.Helper()
	want := impl.EditsResult{Pages: clonePages(pages)}
	if len(r.Runs) > 0 {
		data := make([]byte, 64)
		data[1] = 64
		if int(r.Page) < len(pages) {
			data = bytes.Clone(pages[r.Page])
		}
		for _, run := range r.Runs {
			copy(data[run.At:], run.Bytes)
		}
		want.Pages = withEdit(pages, impl.Edit{Page: r.Page, Bytes: data})
	}
	kept, keptRecord := clonePages(pages), cloneRecord(r)
	if got := impl.ApplyRecord(pages, r); !sameEditsResult(got, want) {
		t.Errorf("%s: ApplyRecord = %+v, want %+v", name, got, want)
	}
	if !samePages(pages, kept) || !sameRecord(r, keptRecord) {
		t.Fatalf("%s: what was handed in was changed", name)
	}
}

func expectRecordCode(t *testing.T, name string, pages [][]byte, r impl.Record, code int64) {
	t.Helper()
	expectEditsCode(t, name+": ApplyRecord", impl.ApplyRecord(pages, r), code)
}

// Any bytes are taken as pages: nobody asks for their fault.
func TestApplyRecordOfEachPage(t *testing.T) {
	for count := range 13 {
		pages := filledPages(count)
		for _, page := range append([]int64{0, 1, 2, 3, 4, 5, 6, 7, 8, 9, 10, 11, 12, 13}, farNumbers...) {
			for _, r := range []impl.Record{record(impl.RecDelta, 1, page, run(3, 9)), record(impl.RecComp, 99, page, run(0, 9), run(63, 9)), record(impl.RecImage, 0, page, runOf(0, 64))} {
				name := strconv.Itoa(count) + " pages, " + strconv.FormatInt(r.Kind, 10) + " of " + strconv.FormatInt(page, 10)
				switch {
				case page < 0 || page > 11:
					expectRecordCode(t, name, pages, r, impl.ErrRange)
				case page > int64(count):
					expectRecordCode(t, name, pages, r, impl.ErrForm)
				default:
					expectRecordApplied(t, name, pages, r)
				}
			}
		}
		for _, kind := range kindsOfTx {
			expectRecordApplied(t, "nothing turns", pages, record(kind, 1, 0))
			expectRecordApplied(t, "nothing turns", pages, record(kind, 99, 0))
		}
	}
}

func TestApplyRecordAtEdges(t *testing.T) {
	for _, e := range edgeRecords() {
		expectRecordApplied(t, e.name, filledPages(12), e.record)
		expectRecordApplied(t, e.name+", all but 0", filledPages(int(e.record.Page)), e.record)
		expectRecordApplied(t, e.name+", no page has a form", make12(t, headPage(17, 0)), e.record)
	}
}

func make12(t *testing.T, page []byte) [][]byte {
	t.Helper()
	var pages [][]byte
	for range 12 {
		pages = append(pages, bytes.Clone(page))
	}
	return pages
}

// One byte turns, in a page that is there or a new one: Pages tell it, and there are no Edits.
func TestApplyRecordTellsNoEdits(t *testing.T) {
	for _, kind := range kindsOfRuns {
		r := record(kind, 3, 0, run(63, 5))
		page, fresh := make([]byte, 64), impl.NewPage(0).Page
		for _, pages := range [][][]byte{nil, {}, {page}, {fresh}} {
			expectRecordApplied(t, "one byte", pages, r)
			if got := impl.ApplyRecord(pages, r); got.Code != impl.OK || len(got.Edits) != 0 || len(got.Pages) != 1 || got.Pages[0][63] != 5 {
				t.Errorf("of %d pages: %+v", len(pages), got)
			}
		}
	}
	for _, kind := range kindsOfTx {
		if got := impl.ApplyRecord(filledPages(2), record(kind, 3, 0)); got.Code != impl.OK || len(got.Edits) != 0 || len(got.Pages) != 2 {
			t.Errorf("nothing turns: %+v", got)
		}
	}
}

// What turns nothing leaves the pages; a new page stands there, whatever its bytes are.
func TestApplyRecordThatTurnsNothing(t *testing.T) {
	pages := filledPages(3)
	fresh := impl.NewPage(0).Page
	for page := range int64(3) {
		own := byte(100 + page)
		for _, r := range []impl.Record{image(page, pages[page]), record(impl.RecDelta, 1, page, run(5, own)), record(impl.RecComp, 1, page, run(0, own, own), run(63, own))} {
			expectRecordApplied(t, "as it is", pages, r)
			if got := impl.ApplyRecord(pages, r); len(got.Edits) != 0 || !samePages(got.Pages, pages) {
				t.Errorf("as it is: %+v", got)
			}
		}
	}
	for _, r := range []impl.Record{image(3, fresh), record(impl.RecDelta, 1, 3, run(63, 0)), record(impl.RecComp, 1, 3, run(0, 0, 64))} {
		expectRecordApplied(t, "a new page as it is", pages, r)
		if got := impl.ApplyRecord(pages, r); len(got.Edits) != 0 || len(got.Pages) != 4 || !bytes.Equal(got.Pages[3], fresh) {
			t.Errorf("a new page as it is: %+v", got)
		}
	}
}

func TestApplyRecordOfWrongPages(t *testing.T) {
	for _, r := range anyRecords(t) {
		for _, count := range []int{13, 14, 100} {
			expectRecordCode(t, "13 pages", filledPages(count), r, impl.ErrMany)
			expectRecordCode(t, "13 that are nil", make([][]byte, count), r, impl.ErrMany)
		}
		for _, wrong := range [][]byte{nil, {}, filled(1)[:63], append(filled(1), 1), make([]byte, 128)} {
			for _, count := range []int{1, 2, 12} {
				for _, at := range []int{0, count / 2, count - 1} {
					pages := filledPages(count)
					pages[at] = wrong
					expectRecordCode(t, "a page of "+strconv.Itoa(len(wrong)), pages, r, impl.ErrForm)
				}
			}
		}
	}
}

// The RecordFault is asked ahead of where its Page is.
func TestApplyRecordOfWrongRecords(t *testing.T) {
	for _, count := range []int{0, 1, 12} {
		for _, f := range faultyRecords() {
			expectRecordCode(t, f.name, filledPages(count), f.record, f.code)
			if f.code != impl.ErrForm && f.record.Page == 0 {
				f.record.Page = 11
				if impl.RecordFault(f.record) == f.code {
					expectRecordCode(t, f.name+", far behind", filledPages(count), f.record, f.code)
				}
			}
		}
	}
	far := record(impl.RecDelta, 1, 5, runOf(60, 5))
	expectRecordCode(t, "a run beyond, of a page far behind", nil, far, impl.ErrRange)
	expectRecordCode(t, "too many runs, of a page far behind", nil, record(impl.RecComp, 1, 5, manyRuns(65)...), impl.ErrMany)
}

func TestStepMinerBegins(t *testing.T) {
	a := rowOf(1, 50, 1, "a")
	pages := rightPages(t, 2)
	for _, tx := range []int64{1, 50, 99} {
		expectMiner(t, "the first", minerOf(pages), begin(tx), minerOf(pages, bufferOf(tx)))
		others := []impl.Buffer{bufferOf(98, put(a)), bufferOf(2), bufferOf(97, drop(a)), bufferOf(3), bufferOf(4), bufferOf(5), bufferOf(6)}
		for count := range len(others) + 1 {
			expectMiner(t, "the last", minerOf(pages, others[:count]...), begin(tx), minerOf(pages, append(slices.Clone(others[:count]), bufferOf(tx))...))
			open := slices.Insert(slices.Clone(others), count, bufferOf(tx, put(a)))
			expectStepCode(t, "open already, of 8", minerOf(pages, open...), begin(tx), impl.ErrTaken)
			expectStepCode(t, "open already", minerOf(pages, open[:count+1]...), begin(tx), impl.ErrTaken)
			expectStepCode(t, "8 are open", minerOf(pages, open...), begin(40), impl.ErrMany)
		}
	}
}

func TestStepMinerEnds(t *testing.T) {
	a, b := rowOf(1, 50, 1, "a"), rowOf(1, 51, 2, "b")
	pages := rightPages(t, 2)
	open := []impl.Buffer{bufferOf(99, put(a)), bufferOf(1), bufferOf(50, turn(a, rowOf(1, 50, 7, "")), drop(b)), bufferOf(2, put(b)), bufferOf(98, drop(a)), bufferOf(3), bufferOf(4, put(a), put(b)), bufferOf(5)}
	for count := 1; count <= maxOpen; count++ {
		for at, b := range open[:count] {
			rest := minerOf(pages, slices.Delete(slices.Clone(open[:count]), at, at+1)...)
			m := minerOf(pages, open[:count]...)
			expectStep(t, "commit", m, commit(b.Tx), impl.MinerResult{Ended: true, Committed: true, Tx: b.Tx, Changes: b.Changes, Miner: rest})
			expectStep(t, "abort", m, abort(b.Tx), impl.MinerResult{Ended: true, Tx: b.Tx, Changes: b.Changes, Miner: rest})
			expectStepCode(t, "commit again", rest, commit(b.Tx), impl.ErrNone)
			expectStepCode(t, "abort again", rest, abort(b.Tx), impl.ErrNone)
		}
	}
	for _, tx := range []int64{1, 7, 99} {
		expectStepCode(t, "nothing is open", impl.Miner{}, commit(tx), impl.ErrNone)
		expectStepCode(t, "nothing is open", impl.Miner{}, abort(tx), impl.ErrNone)
		expectStepCode(t, "another is open", minerOf(pages, opened(2, 98)...), commit(tx), impl.ErrNone)
	}
}

func TestStepMinerOfWrongRecords(t *testing.T) {
	for _, m := range []impl.Miner{{}, minerOf(rightPages(t, 12), opened(1, 2, 3, 4, 5, 6, 7, 8)...), minerOf(brimPages(t, 1), opened(99)...)} {
		for _, f := range faultyRecords() {
			expectStepCode(t, f.name, m, f.record, f.code)
		}
		for _, tx := range append([]int64{0, 100}, farNumbers...) {
			for _, kind := range kindsOfTx {
				expectStepCode(t, "Tx", m, record(kind, tx, 0), impl.ErrRange)
			}
			for _, kind := range kindsOfRuns {
				expectStepCode(t, "Tx", m, record(kind, tx, 0, runOf(0, 1)), impl.ErrRange)
			}
		}
	}
}

// A row is put into, turned in and dropped from a page by bytes alone.
func TestStepMinerOfDeltasAndComps(t *testing.T) {
	a, b, c := rowOf(1, 50, 1, "a"), rowOf(1, 50, 2, "bcd"), rowOf(0, 3, 3, "")
	none := impl.NewPage(0).Page
	pages := map[string][]byte{
		"none": none, "a": pageWith(t, cellOf(impl.FlagRow, a)), "b": pageWith(t, cellOf(impl.FlagRow, b)),
		"c and a": pageWith(t, cellOf(impl.FlagRow, c), cellOf(impl.FlagRow, a)), "b and c": pageWith(t, cellOf(impl.FlagRow, b), cellOf(impl.FlagRow, c)),
	}
	rows := map[string][]impl.Row{"a": {a}, "b": {b}, "c and a": {c, a}, "b and c": {c, b}}
	for _, kind := range kindsOfRuns {
		for from, before := range pages {
			for to, after := range pages {
				if from == to {
					continue
				}
				changes := expectedChanges(rows[from], rows[to])
				name := "from " + from + " to " + to
				r := turned(kind, 7, 1, before, after)
				m := minerOf([][]byte{none, before}, opened(9, 7, 8)...)
				want := minerOf([][]byte{none, after}, bufferOf(9), bufferOf(7, changes...), bufferOf(8))
				expectMiner(t, name, m, r, want)
				expectStepCode(t, name+", not open", minerOf(m.Pages, opened(9, 8)...), r, impl.ErrNone)
				expectStepCode(t, name+", nothing is open", minerOf(m.Pages), r, impl.ErrNone)
				// There and back again is no change.
				expectMiner(t, name+" and back", want, turned(kind, 7, 1, after, before), m)
				if from == "none" {
					expectMiner(t, name+", a new page", minerOf(m.Pages[:1], m.Open...), r, want)
				}
			}
		}
	}
}

// Bytes that tell no row turn, and nothing is mined; nevertheless somebody has to be open.
func TestStepMinerOfBytesThatTellNoRow(t *testing.T) {
	a := rowOf(1, 50, 1, "a")
	page := pageWith(t, cellOf(impl.FlagRow, a))
	idle := bytes.Clone(page)
	idle[20], idle[30] = 77, 78
	nobody := pageWith(t, cellOf(impl.FlagRow, a), movedCell(2, 2, 2, "m"))
	compact := impl.CompactPage(without(t, pageWith(t, rowCell(2, 9, 9, "z"), cellOf(impl.FlagRow, a)), 0)).Page
	gaps := without(t, pageWith(t, rowCell(2, 9, 9, "z"), cellOf(impl.FlagRow, a)), 0)
	for _, kind := range kindsOfRuns {
		for _, x := range [][2][]byte{{page, idle}, {idle, page}, {page, nobody}, {nobody, page}, {gaps, compact}} {
			r := turned(kind, 3, 0, x[0], x[1])
			expectMiner(t, "no row", minerOf([][]byte{x[0]}, bufferOf(3, put(a))), r, minerOf([][]byte{x[1]}, bufferOf(3, put(a))))
			expectStepCode(t, "no row, not open", minerOf([][]byte{x[0]}, bufferOf(4)), r, impl.ErrNone)
		}
		same := record(kind, 3, 0, run(0, page[0]))
		expectMiner(t, "no byte", minerOf([][]byte{page}, opened(3)...), same, minerOf([][]byte{page}, opened(3)...))
		expectStepCode(t, "no byte, not open", minerOf([][]byte{page}), same, impl.ErrNone)
		fresh := record(kind, 3, 1, run(63, 0))
		expectMiner(t, "a new page", minerOf([][]byte{page}, opened(3)...), fresh, minerOf([][]byte{page, impl.NewPage(0).Page}, opened(3)...))
	}
}

func TestStepMinerOfImages(t *testing.T) {
	a, b := rowOf(1, 50, 1, "a"), rowOf(1, 50, 2, "b")
	page := pageWith(t, cellOf(impl.FlagRow, a))
	idle := bytes.Clone(page)
	idle[20] = 77
	other := pageWith(t, cellOf(impl.FlagRow, b))
	swapped := [][]byte{pageWith(t, rowCell(3, 3, 3, "")), page}
	buffers := []impl.Buffer{bufferOf(5, put(b)), bufferOf(6)}
	for _, open := range [][]impl.Buffer{nil, buffers} {
		m := minerOf(swapped, open...)
		expectMiner(t, "as it is", m, image(1, page), m)
		expectMiner(t, "bytes turn", m, image(1, idle), minerOf([][]byte{swapped[0], idle}, open...))
		expectMiner(t, "compacted", minerOf([][]byte{without(t, brimPage(t, 0), 2)}, open...), image(0, impl.CompactPage(without(t, brimPage(t, 0), 2)).Page), minerOf([][]byte{impl.CompactPage(without(t, brimPage(t, 0), 2)).Page}, open...))
		expectMiner(t, "a new page", m, image(2, impl.NewPage(0).Page), minerOf(append(clonePages(swapped), impl.NewPage(0).Page), open...))
		expectMiner(t, "a new page of other bytes", m, image(2, impl.NewPage(9).Page), minerOf(append(clonePages(swapped), impl.NewPage(9).Page), open...))
		expectMiner(t, "a new page with what nobody tells", m, image(2, pageWith(t, movedCell(2, 2, 2, ""))), minerOf(append(clonePages(swapped), pageWith(t, movedCell(2, 2, 2, ""))), open...))
		expectMiner(t, "the first of all", minerOf(nil, open...), image(0, impl.NewPage(0).Page), minerOf([][]byte{impl.NewPage(0).Page}, open...))
		expectStepCode(t, "a row turns", m, image(1, other), impl.ErrState)
		expectStepCode(t, "a row goes", m, image(1, impl.NewPage(0).Page), impl.ErrState)
		expectStepCode(t, "a row comes", m, image(1, pageWith(t, cellOf(impl.FlagRow, a), rowCell(3, 99, 0, ""))), impl.ErrState)
		expectStepCode(t, "a row comes in a new page", m, image(2, pageWith(t, rowCell(3, 99, 0, ""))), impl.ErrState)
		expectStepCode(t, "the first row of all", minerOf(nil, open...), image(0, page), impl.ErrState)
		expectStepCode(t, "the page is no page", m, image(1, filled(255)), impl.ErrRange)
		expectStepCode(t, "a row twice", m, image(2, page), impl.ErrState)
		expectStepCode(t, "a page too far", m, image(3, page), impl.ErrForm)
		expectStepCode(t, "page 12", m, image(12, page), impl.ErrRange)
		expectStepCode(t, "page -1", m, image(-1, page), impl.ErrRange)
		last := minerOf(brimPages(t, 12), open...)
		expectMiner(t, "the last page as it is", last, image(11, last.Pages[11]), last)
		expectStepCode(t, "one more than 12", last, image(12, page), impl.ErrRange)
	}
}

// A row that moves without being another one is no change, be it by an image of its stub.
func TestStepMinerOfImagesThatMoveARow(t *testing.T) {
	a := rowOf(1, 50, 1, "a")
	pages := [][]byte{pageWith(t, cellOf(impl.FlagRow, a)), pageWith(t, cellOf(impl.FlagMoved, a))}
	stubbed := pageWith(t, stubCell(1, 0))
	expectMiner(t, "an image", minerOf(pages), image(0, stubbed), minerOf([][]byte{stubbed, pages[1]}))
	expectMiner(t, "a delta", minerOf(pages, opened(1)...), turned(impl.RecDelta, 1, 0, pages[0], stubbed), minerOf([][]byte{stubbed, pages[1]}, opened(1)...))
	other := pageWith(t, movedCell(1, 50, 2, "a"))
	expectStepCode(t, "another row by its stub", minerOf([][]byte{pages[0], other}), image(0, stubbed), impl.ErrState)
	expectMiner(t, "another row by its stub, a delta", minerOf([][]byte{pages[0], other}, opened(1)...), turned(impl.RecDelta, 1, 0, pages[0], stubbed), minerOf([][]byte{stubbed, other}, bufferOf(1, turn(a, rowOf(1, 50, 2, "a")))))
}

// The pages behind a record are asked ahead of who is open and of what turned.
func TestStepMinerOfFaultsBehind(t *testing.T) {
	for _, f := range faultyPages(t) {
		for _, count := range []int{1, 12} {
			for _, at := range []int{0, count / 2, count - 1} {
				pages := rightPages(t, count)
				faulty := f.page(int64(at))
				if len(faulty) != 64 {
					continue
				}
				for _, kind := range kindsOfRuns {
					r := turned(kind, 1, int64(at), pages[at], faulty)
					expectStepCode(t, f.name, minerOf(pages, opened(1)...), r, f.code)
					expectStepCode(t, f.name+", not open", minerOf(pages, opened(2)...), r, f.code)
					expectStepCode(t, f.name+", of a buffer that does not fit", minerOf(pages, bufferOf(1, put(rowOf(0, 1, 0, "")))), r, f.code)
				}
				expectStepCode(t, f.name+", by an image", minerOf(pages), image(int64(at), faulty), f.code)
				if at == count-1 && count > 1 {
					expectStepCode(t, f.name+", by a new page", minerOf(pages[:at], opened(1)...), turned(impl.RecDelta, 1, int64(at), impl.NewPage(0).Page, faulty), f.code)
				}
			}
		}
	}
	pages := [][]byte{pageWith(t, rowCell(1, 1, 1, ""))}
	far := record(impl.RecDelta, 1, 2, runOf(0, 64))
	expectStepCode(t, "a page too far, not open", minerOf(pages), far, impl.ErrForm)
	expectStepCode(t, "a page too far", minerOf(pages, opened(1)...), far, impl.ErrForm)
	expectStepCode(t, "a page too far, a comp", minerOf(nil, opened(1)...), record(impl.RecComp, 1, 1, runOf(0, 64)), impl.ErrForm)
	expectStepCode(t, "page 12 of 12", minerOf(brimPages(t, 12), opened(1)...), record(impl.RecComp, 1, 12, runOf(0, 64)), impl.ErrRange)
}

// What is in the buffer has to fit to what turns.
func TestStepMinerOfBuffersThatDoNotFit(t *testing.T) {
	a, b, c := rowOf(1, 50, 1, "a"), rowOf(1, 50, 2, "b"), rowOf(1, 50, 3, "c")
	pageOf := func(r impl.Row) []byte { return pageWith(t, cellOf(impl.FlagRow, r)) }
	none := impl.NewPage(0).Page
	for _, kind := range kindsOfRuns {
		for _, wrong := range []impl.Change{drop(a), put(b), drop(b), turn(a, b), turn(b, c)} {
			m := minerOf([][]byte{pageOf(a)}, bufferOf(2), bufferOf(1, wrong))
			expectStepCode(t, "turned", m, turned(kind, 1, 0, pageOf(a), pageOf(b)), impl.ErrState)
			expectStepCode(t, "dropped", m, turned(kind, 1, 0, pageOf(a), none), impl.ErrState)
		}
		for _, wrong := range []impl.Change{put(a), put(b), turn(a, b), turn(b, a)} {
			m := minerOf([][]byte{none}, bufferOf(2), bufferOf(1, wrong))
			expectStepCode(t, "put", m, turned(kind, 1, 0, none, pageOf(a)), impl.ErrState)
		}
		// Another one's buffer is not asked.
		m := minerOf([][]byte{pageOf(a)}, bufferOf(2, put(b)), bufferOf(1, turn(c, a)))
		expectMiner(t, "another one's buffer", m, turned(kind, 1, 0, pageOf(a), pageOf(b)), minerOf([][]byte{pageOf(b)}, bufferOf(2, put(b)), bufferOf(1, turn(c, b))))
		expectStepCode(t, "another one's delta", m, turned(kind, 2, 0, pageOf(a), none), impl.ErrState)
		// The first change fits, and the second one does not: nothing at all is told.
		two := pageWith(t, cellOf(impl.FlagRow, rowOf(1, 1, 1, "")), cellOf(impl.FlagRow, a))
		expectStepCode(t, "the second does not fit", minerOf([][]byte{none}, bufferOf(1, put(b))), turned(kind, 1, 0, none, two), impl.ErrState)
	}
}

// smallest rows: 7 of them are in a page.
func smallPage(t *testing.T, first int, count int) []byte {
	t.Helper()
	var cells [][]byte
	for i := first; i < first+count; i++ {
		cells = append(cells, rowCell(int64(i/99), int64(1+i%99), 7, ""))
	}
	return pageWith(t, cells...)
}

func smallRows(first int, count int) []impl.Row {
	var rows []impl.Row
	for i := first; i < first+count; i++ {
		rows = append(rows, rowOf(int64(i/99), int64(1+i%99), 7, ""))
	}
	return rows
}

// smallMiner has in its pages these rows, and a last page without any.
func smallMiner(t *testing.T, count int) impl.Miner {
	t.Helper()
	var m impl.Miner
	for first := 0; first < count; first += 7 {
		m.Pages = append(m.Pages, smallPage(t, first, min(7, count-first)))
	}
	m.Pages = append(m.Pages, impl.NewPage(0).Page)
	return m
}

// A buffer of 60 takes one more, and no more behind that.
func TestStepMinerOfFullBuffers(t *testing.T) {
	none := impl.NewPage(0).Page
	for count := 55; count <= maxFolded; count++ {
		m := smallMiner(t, count)
		last := int64(len(m.Pages) - 1)
		m.Open = []impl.Buffer{bufferOf(9), bufferOf(1, putsOf(smallRows(0, count))...)}
		for more := 1; more <= 7; more++ {
			name := strconv.Itoa(count) + " and " + strconv.Itoa(more)
			after := smallPage(t, count, more)
			r := turned(impl.RecDelta, 1, last, none, after)
			if count+more > maxFolded+1 {
				expectStepCode(t, name, m, r, impl.ErrMany)
				continue
			}
			want := minerOf(append(clonePages(m.Pages[:last]), after), bufferOf(9), bufferOf(1, putsOf(smallRows(0, count+more))...))
			expectMiner(t, name, m, r, want)
			code := int64(impl.OK)
			if count+more > maxFolded {
				code = impl.ErrMany
			}
			expectMinerFault(t, name, want, code)
		}
	}
}

// The same in one go: nobody asks for the MinerFault on the way, but FoldChange asks how many there are.
func TestMineAllOfFullBuffers(t *testing.T) {
	none := impl.NewPage(0).Page
	list := []impl.Record{begin(1)}
	var pages [][]byte
	for page := range int64(8) {
		pages = append(pages, smallPage(t, int(7*page), 7))
		list = append(list, turned(impl.RecDelta, 1, page, none, pages[page]))
	}
	five := append(pages, smallPage(t, 56, 5))
	list = append(list, turned(impl.RecDelta, 1, 8, none, five[8]))
	puts := putsOf(smallRows(0, 61))
	expectMined(t, "61 open", list, minerOf(five, bufferOf(1, puts...)))
	expectMined(t, "61 committed", append(slices.Clone(list), commit(1)), minerOf(five), bufferOf(1, puts...))
	expectMined(t, "61 and another one", append(slices.Clone(list), begin(2), abort(1)), minerOf(five, bufferOf(2)))
	idle := bytes.Clone(five[8])
	idle[20] = 77
	expectMined(t, "61, and no row turns", append(slices.Clone(list), turned(impl.RecDelta, 1, 8, five[8], idle)), minerOf(append(clonePages(five[:8]), idle), bufferOf(1, puts...)))
	for more, page := range [][]byte{none, smallPage(t, 56, 4), smallPage(t, 56, 6), smallPage(t, 57, 4)} {
		expectMinedCode(t, "61 and more, "+strconv.Itoa(more), append(slices.Clone(list), turned(impl.RecDelta, 1, 8, five[8], page)), impl.ErrMany)
	}
	expectMinedCode(t, "61 and the last one again", append(slices.Clone(list), turned(impl.RecDelta, 1, 8, five[8], smallPage(t, 56, 4)), commit(1)), impl.ErrMany)
}

// There may be more rows than ChangesOf takes.
func TestMinerOfManyRows(t *testing.T) {
	m := smallMiner(t, 77)
	m.Open = opened(1)
	if rows := impl.RowsIn(m.Pages); len(rows.Rows) != 77 || len(m.Pages) != 12 {
		t.Fatalf("%d rows in %d pages", len(rows.Rows), len(m.Pages))
	}
	after := smallPage(t, 77, 7)
	want := minerOf(append(clonePages(m.Pages[:11]), after), bufferOf(1, putsOf(smallRows(77, 7))...))
	expectMiner(t, "84 rows", m, turned(impl.RecDelta, 1, 11, m.Pages[11], after), want)
	expectMiner(t, "an image of them", want, image(11, after), want)
	gone := impl.NewPage(0).Page
	var drops []impl.Change
	for _, r := range smallRows(0, 7) {
		drops = append(drops, drop(r))
	}
	expectMiner(t, "77 of 84", want, turned(impl.RecComp, 1, 0, want.Pages[0], gone), minerOf(append([][]byte{gone}, want.Pages[1:]...), bufferOf(1, append(drops, want.Open[0].Changes...)...)))
	expectStepCode(t, "an image without them", want, image(0, gone), impl.ErrState)
}
