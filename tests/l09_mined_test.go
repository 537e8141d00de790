package tests

import (
	"bytes"
	"slices"
	"strconv"
	"strings"
	"testing"

	"loop.example/g00408/impl"
)

// minedOf goes step by step over records that have no code, and tells what was committed.
func minedOf(t *testing.T, name string, m impl.Miner, list []impl.Record) impl.MinedResult {
	t.Helper()
	var mined []impl.Buffer
	for i, r := range list {
		step := impl.StepMiner(m, r)
		if step.Code != impl.OK {
			t.Fatalf("%s: record %d of %d: StepMiner = %+v", name, i, len(list), step)
		}
		if step.Committed {
			mined = append(mined, impl.Buffer{Tx: step.Tx, Changes: step.Changes})
		}
		m = step.Miner
	}
	return impl.MinedResult{Mined: mined, Miner: m}
}

// expectMinedAsMade asks that the records of a change's edits are mined as just that change.
func expectMinedAsMade(t *testing.T, name string, pages [][]byte, c impl.Change) impl.EditsResult {
	t.Helper()
	edits := impl.EditsFor(pages, c)
	if edits.Code != impl.OK {
		t.Fatalf("%s: EditsFor = code %d", name, edits.Code)
	}
	var want []impl.Change
	if c.Was != c.Is || c.Before != c.After {
		want = []impl.Change{c}
	}
	var deltas []impl.Record
	now := pages
	for _, e := range edits.Edits {
		before := impl.NewPage(0).Page
		if int(e.Page) < len(now) {
			before = now[e.Page]
		}
		deltas = append(deltas, impl.Record{Kind: impl.RecDelta, Tx: 5, Page: e.Page, Runs: impl.DiffBytes(before, e.Bytes).Runs})
		now = withEdit(now, e)
	}
	start := impl.NewMiner(pages).Miner
	got := minedOf(t, name, start, slices.Concat([]impl.Record{begin(5)}, deltas, []impl.Record{commit(5)}))
	if !sameMinedResult(got, impl.MinedResult{Mined: []impl.Buffer{bufferOf(5, want...)}, Miner: minerOf(edits.Pages)}) {
		t.Fatalf("%s: mined %+v, want %+v", name, got.Mined, want)
	}
	// Comps are heard as deltas are.
	for i := range deltas {
		deltas[i].Kind = impl.RecComp
	}
	if comps := minedOf(t, name, start, slices.Concat([]impl.Record{begin(5)}, deltas, []impl.Record{commit(5)})); !sameMinedResult(comps, got) {
		t.Fatalf("%s: mined of comps %+v, want %+v", name, comps, got)
	}
	return edits
}

func TestMinedAsMadeByHand(t *testing.T) {
	r := rowOf(3, 99, 999, "abcdefgh")
	old := brimRow(0, 1)
	stubbed := [][]byte{pageWith(t, stubCell(1, 0)), pageWith(t, movedCell(1, 2, 3, "m"))}
	moved, longer := rowOf(1, 2, 3, "m"), rowOf(1, 2, 4, "abcdefgh")
	expectMinedAsMade(t, "the first row", nil, put(r))
	expectMinedAsMade(t, "a put in a new page", brimPages(t, 3), put(r))
	expectMinedAsMade(t, "a drop", brimPages(t, 3), drop(old))
	expectMinedAsMade(t, "the same row", brimPages(t, 3), turn(old, old))
	expectMinedAsMade(t, "turned behind a stub", stubbed, turn(moved, longer))
	expectMinedAsMade(t, "dropped behind a stub", stubbed, drop(moved))
	grows := expectMinedAsMade(t, "a row that had to go to another page", brimPages(t, 2), turn(old, grown(old)))
	if len(grows.Edits) != 2 {
		t.Errorf("a put of a moved cell, then its stub: %+v", grows.Edits)
	}
	holes := [][]byte{without(t, brimPage(t, 0), 0, 2, 4)}
	compacts := expectMinedAsMade(t, "a page that had to be compacted", holes, put(r))
	if len(compacts.Edits) != 2 {
		t.Errorf("a compacted page, then a put: %+v", compacts.Edits)
	}
	third := [][]byte{pageWith(t, stubCell(1, 0)), brimPage(t, 1), impl.NewPage(3).Page}
	third[1] = impl.SetSlot(third[1], 0, movedCell(2, 77, 1, "abcd")).Page
	goes := expectMinedAsMade(t, "a row that goes to a third page", third, turn(rowOf(2, 77, 1, "abcd"), rowOf(2, 77, 1, "abcdefgh")))
	if len(goes.Edits) != 3 {
		t.Errorf("a put, its stub, and a drop: %+v", goes.Edits)
	}
}

// Long walks over any pages: whatever ways the cells went, the change is mined alone.
func TestMinedAsMadeOverLongWalks(t *testing.T) {
	next, ways := numbers(13), map[string]int{}
	for walk := range 24 {
		pages := anyPages(next)
		for range 60 {
			c := anyChange(impl.RowsIn(pages).Rows, next, 4+walk%6)
			model, code := expectedEdits(pages, c)
			if code != impl.OK {
				continue
			}
			ways[strings.Join(model.way, " ")]++
			pages = expectMinedAsMade(t, "a walk", pages, c).Pages
		}
	}
	for _, way := range []string{"put", "compact put", "new", "", "set", "compact set", "moved", "drop", "drop drop", "put stub", "compact put stub", "new stub", "put stub drop"} {
		if ways[way] == 0 {
			t.Errorf("no walk goes the way %q", way)
		}
	}
}

func inverse(c impl.Change) impl.Change {
	return impl.Change{Was: c.Is, Before: c.After, Is: c.Was, After: c.Before}
}

// One transaction does any changes and takes all of them back, the last one first: nothing is mined of it.
func TestTakenBackIsMinedAsNothing(t *testing.T) {
	next, done := numbers(14), 0
	for walk := range 60 {
		pages := anyPages(next)
		start := impl.NewMiner(pages).Miner
		list := []impl.Record{begin(8)}
		do := func(kind int64, c impl.Change) bool {
			edits := impl.EditsFor(pages, c)
			if edits.Code != impl.OK {
				return false
			}
			list = append(list, recordsFor(kind, 8, pages, edits.Edits)...)
			pages = edits.Pages
			return true
		}
		var all []impl.Change
		for range 1 + next(12) {
			if c := anyChange(impl.RowsIn(pages).Rows, next, 4+walk%6); do(impl.RecDelta, c) {
				all = append(all, c)
			}
		}
		for len(all) > 0 && do(impl.RecComp, inverse(all[len(all)-1])) {
			all = all[:len(all)-1]
		}
		// Cells that moved may have taken the room that is needed.
		if len(all) > 0 {
			continue
		}
		done++
		for _, end := range []impl.Record{commit(8), abort(8)} {
			m := minedOf(t, "taken back", start, list).Miner
			expectStep(t, "taken back", m, end, impl.MinerResult{Ended: true, Committed: end.Kind == impl.RecCommit, Tx: 8, Miner: minerOf(pages)})
		}
	}
	if done < 40 {
		t.Errorf("only %d were taken back", done)
	}
}

func TestMineAllOfFew(t *testing.T) {
	a, b := rowOf(1, 50, 1, "a"), rowOf(1, 50, 2, "bcd")
	none, pageA, pageB := impl.NewPage(0).Page, pageWith(t, rowCell(1, 50, 1, "a")), pageWith(t, rowCell(1, 50, 2, "bcd"))
	d := func(tx int64, before []byte, after []byte) impl.Record {
		return turned(impl.RecDelta, tx, 0, before, after)
	}
	expectMined(t, "nil", nil, impl.Miner{})
	expectMined(t, "no records", []impl.Record{}, impl.Miner{})
	expectMined(t, "a begin", []impl.Record{begin(9)}, minerOf(nil, opened(9)...))
	expectMined(t, "nothing", []impl.Record{begin(9), commit(9)}, impl.Miner{}, bufferOf(9))
	expectMined(t, "nothing, aborted", []impl.Record{begin(9), abort(9)}, impl.Miner{})
	expectMined(t, "open", []impl.Record{begin(9), d(9, none, pageA)}, minerOf([][]byte{pageA}, bufferOf(9, put(a))))
	expectMined(t, "a put", []impl.Record{begin(9), d(9, none, pageA), commit(9)}, minerOf([][]byte{pageA}), bufferOf(9, put(a)))
	expectMined(t, "a put, aborted", []impl.Record{begin(9), d(9, none, pageA), turned(impl.RecComp, 9, 0, pageA, none), abort(9)}, minerOf([][]byte{none}))
	expectMined(t, "aborted, and nothing taken back", []impl.Record{begin(9), d(9, none, pageA), abort(9)}, minerOf([][]byte{pageA}))
	expectMined(t, "one Tx again", []impl.Record{begin(9), d(9, none, pageA), commit(9), begin(9), d(9, pageA, pageB), commit(9)}, minerOf([][]byte{pageB}), bufferOf(9, put(a)), bufferOf(9, turn(a, b)))
	expectMined(t, "put and dropped", []impl.Record{begin(9), d(9, none, pageA), d(9, pageA, none), commit(9)}, minerOf([][]byte{none}), bufferOf(9))
	expectMined(t, "put and turned", []impl.Record{begin(9), d(9, none, pageA), d(9, pageA, pageB), commit(9)}, minerOf([][]byte{pageB}), bufferOf(9, put(b)))
	expectMined(t, "one turns what the other one put", []impl.Record{begin(9), begin(1), d(9, none, pageA), d(1, pageA, pageB), commit(1), commit(9)}, minerOf([][]byte{pageB}), bufferOf(1, turn(a, b)), bufferOf(9, put(a)))
	expectMinedCode(t, "and drops it itself", []impl.Record{begin(9), begin(1), d(9, none, pageA), d(1, pageA, pageB), d(9, pageB, none)}, impl.ErrState)
	expectMined(t, "an image between", []impl.Record{begin(9), d(9, none, pageA), image(0, pageA), image(1, none), commit(9)}, minerOf([][]byte{pageA, none}), bufferOf(9, put(a)))
	expectMined(t, "an image alone", []impl.Record{image(0, none)}, minerOf([][]byte{none}))
}

// Those that begin first need not be over first.
func TestMineAllTellsTheOrderOfCommits(t *testing.T) {
	var begins, deltas []impl.Record
	var pages [][]byte
	txs := []int64{5, 99, 1, 50, 7, 2, 98, 3}
	for i, tx := range txs {
		pages = append(pages, smallPage(t, i, 1))
		begins = append(begins, begin(tx))
		deltas = append(deltas, turned(impl.RecDelta, tx, int64(i), impl.NewPage(0).Page, pages[i]))
	}
	next := numbers(15)
	for range 50 {
		order := []int{0, 1, 2, 3, 4, 5, 6, 7}
		for i := range order {
			j := i + next(len(order)-i)
			order[i], order[j] = order[j], order[i]
		}
		list := slices.Concat(begins, deltas)
		var want, open []impl.Buffer
		over := map[int]bool{}
		for _, i := range order {
			switch next(3) {
			case 0:
				list, over[i] = append(list, abort(txs[i])), true
			case 1:
				list, over[i] = append(list, commit(txs[i])), true
				want = append(want, bufferOf(txs[i], putsOf(smallRows(i, 1))...))
			}
		}
		for i, tx := range txs {
			if !over[i] {
				open = append(open, bufferOf(tx, putsOf(smallRows(i, 1))...))
			}
		}
		expectMined(t, "an order", list, minerOf(pages, open...), want...)
	}
}

// The first record with a code tells it, and nothing is told of those ahead.
func TestMineAllTellsTheFirstCode(t *testing.T) {
	none, page := impl.NewPage(0).Page, pageWith(t, rowCell(1, 50, 1, "a"))
	right := []impl.Record{begin(9), turned(impl.RecDelta, 9, 0, none, page), commit(9), begin(8)}
	wrong := map[string]struct {
		record impl.Record
		code   int64
	}{
		"a begin of what is open":      {begin(8), impl.ErrTaken},
		"a commit of what is over":     {commit(9), impl.ErrNone},
		"an abort of what never was":   {abort(7), impl.ErrNone},
		"a delta of what is over":      {record(impl.RecDelta, 9, 0, run(20, 1)), impl.ErrNone},
		"a comp of what is over":       {record(impl.RecComp, 9, 0, run(20, 1)), impl.ErrNone},
		"a page too far":               {record(impl.RecDelta, 8, 2, run(20, 1)), impl.ErrForm},
		"no page any more":             {record(impl.RecDelta, 8, 0, run(0, 17)), impl.ErrRange},
		"no cell any more":             {record(impl.RecComp, 8, 0, run(57, 9)), impl.ErrText},
		"a stub that tells nothing":    {turned(impl.RecDelta, 8, 0, page, pageWith(t, stubCell(0, 5))), impl.ErrNone},
		"an image that turns a row":    {image(0, none), impl.ErrState},
		"a row twice":                  {turned(impl.RecDelta, 8, 1, none, page), impl.ErrState},
		"a delta of Tx 0":              {record(impl.RecDelta, 0, 0, run(20, 1)), impl.ErrRange},
		"a begin of Tx 100":            {begin(100), impl.ErrRange},
		"a page 12":                    {record(impl.RecDelta, 8, 12, run(20, 1)), impl.ErrRange},
		"a record of no kind":          {impl.Record{}, impl.ErrForm},
		"too many runs":                {record(impl.RecDelta, 8, 0, manyRuns(65)...), impl.ErrMany},
		"two stubs that tell one cell": {turned(impl.RecDelta, 8, 0, page, pageWith(t, movedCell(1, 1, 1, ""), stubCell(0, 0), stubCell(0, 0))), impl.ErrTaken},
	}
	for name, w := range wrong {
		expectMinedCode(t, name, append(slices.Clone(right), w.record), w.code)
		expectMinedCode(t, name+", then more", slices.Concat(right, []impl.Record{w.record, commit(8)}), w.code)
		for other, v := range wrong {
			expectMinedCode(t, name+", then "+other, slices.Concat(right, []impl.Record{w.record, v.record}), w.code)
		}
	}
	eight := []impl.Record{begin(1), begin(2), begin(3), begin(4), begin(5), begin(6), begin(7), begin(99)}
	expectMined(t, "8 are open", eight, minerOf(nil, opened(1, 2, 3, 4, 5, 6, 7, 99)...))
	expectMinedCode(t, "one more", append(eight, begin(8)), impl.ErrMany)
	expectMinedCode(t, "one of them", append(eight, begin(4)), impl.ErrTaken)
	expectMined(t, "one more behind a commit", append(eight, commit(4), begin(4)), minerOf(nil, opened(1, 2, 3, 5, 6, 7, 99, 4)...), bufferOf(4))
	for _, f := range faultyRecords() {
		expectMinedCode(t, f.name, []impl.Record{f.record}, f.code)
		expectMinedCode(t, f.name, []impl.Record{begin(1), f.record, begin(1)}, f.code)
	}
}

func rowsFound(list []found) []impl.Row {
	var rows []impl.Row
	for _, f := range list {
		rows = append(rows, f.row)
	}
	return rows
}

// expectedTurned has no pages where there is a code. It asks nothing of ApplyRecord.
func expectedTurned(pages [][]byte, r impl.Record) ([][]byte, int64) {
	if r.Page > int64(len(pages)) {
		return nil, impl.ErrForm
	}
	data := make([]byte, 64)
	data[1] = 64
	if r.Page < int64(len(pages)) {
		data = bytes.Clone(pages[r.Page])
	}
	for _, run := range r.Runs {
		copy(data[run.At:], run.Bytes)
	}
	own := withEdit(pages, impl.Edit{Page: r.Page, Bytes: data})
	_, code := expectedView(own)
	if code != impl.OK {
		return nil, code
	}
	return own, impl.OK
}

// expectedStep has plain lists, and asks nothing of the miner itself.
func expectedStep(m impl.Miner, r impl.Record) impl.MinerResult {
	if code := impl.RecordFault(r); code != impl.OK {
		return impl.MinerResult{Code: code}
	}
	m = cloneMiner(m)
	at := slices.IndexFunc(m.Open, func(b impl.Buffer) bool { return b.Tx == r.Tx })
	switch {
	case r.Kind == impl.RecBegin && at >= 0:
		return impl.MinerResult{Code: impl.ErrTaken}
	case r.Kind == impl.RecBegin && len(m.Open) == maxOpen:
		return impl.MinerResult{Code: impl.ErrMany}
	case r.Kind == impl.RecBegin:
		m.Open = append(m.Open, bufferOf(r.Tx))
		return impl.MinerResult{Miner: m}
	case slices.Contains(kindsOfTx, r.Kind) && at < 0:
		return impl.MinerResult{Code: impl.ErrNone}
	case slices.Contains(kindsOfTx, r.Kind):
		changes := m.Open[at].Changes
		m.Open = slices.Delete(m.Open, at, at+1)
		return impl.MinerResult{Ended: true, Committed: r.Kind == impl.RecCommit, Tx: r.Tx, Changes: changes, Miner: m}
	}
	pages, code := expectedTurned(m.Pages, r)
	if code != impl.OK {
		return impl.MinerResult{Code: code}
	}
	before, _ := expectedView(m.Pages)
	after, _ := expectedView(pages)
	changes := expectedChanges(rowsFound(before), rowsFound(after))
	switch {
	case r.Kind == impl.RecImage && len(changes) > 0:
		return impl.MinerResult{Code: impl.ErrState}
	case r.Kind == impl.RecImage:
		m.Pages = pages
		return impl.MinerResult{Miner: m}
	case at < 0:
		return impl.MinerResult{Code: impl.ErrNone}
	}
	for _, c := range changes {
		now, code := expectedFold(m.Open[at].Changes, c)
		if code != impl.OK {
			return impl.MinerResult{Code: code}
		}
		m.Open[at].Changes = now
	}
	m.Pages = pages
	return impl.MinerResult{Miner: m}
}

// anyRecord is one that is heard often, or bytes that turn anywhere.
func anyRecord(next func(int) int, m impl.Miner) []impl.Record {
	tx, page := int64(1+next(10)), int64(next(len(m.Pages)+1))
	if len(m.Open) > 0 && next(4) > 0 {
		tx = m.Open[next(len(m.Open))].Tx
	}
	now := impl.NewPage(byte(next(256) * next(2))).Page
	if int(page) < len(m.Pages) {
		now = bytes.Clone(m.Pages[page])
	}
	kind := kindsOfRuns[next(2)]
	switch next(24) {
	case 0, 1, 2:
		return []impl.Record{begin(int64(1 + next(10)))}
	case 3:
		return []impl.Record{commit(tx)}
	case 4:
		return []impl.Record{abort(tx)}
	case 5, 6:
		at := next(64)
		return []impl.Record{record(kind, tx, page, run(int64(at), now[at]+byte(1+next(255))))}
	case 7:
		return []impl.Record{image(page, now)}
	case 8:
		now[next(64)] += byte(next(256))
		return []impl.Record{image(page, now)}
	case 9:
		return []impl.Record{record(kind, int64(next(12)), page+int64(next(3)), run(20, 1))}
	case 10:
		list := faultyRecords()
		return []impl.Record{list[next(len(list))].record}
	}
	c := anyChange(impl.RowsIn(m.Pages).Rows, next, 3+next(6))
	return recordsFor(kind, tx, m.Pages, impl.EditsFor(m.Pages, c).Edits)
}

// Long walks of any records beside the model: step by step, and all that were heard in one go.
func TestMinersOverLongWalks(t *testing.T) {
	next, counts, mostMined := numbers(16), map[int64]int{}, 0
	for range 25 {
		var m impl.Miner
		var heard []impl.Record
		var mined []impl.Buffer
		for range 150 {
			for _, r := range anyRecord(next, m) {
				want := expectedStep(m, r)
				counts[want.Code]++
				expectStep(t, "a walk", m, r, want)
				if want.Code != impl.OK {
					if next(10) == 0 {
						expectMinedCode(t, "a walk", append(slices.Clone(heard), r), want.Code)
					}
					break
				}
				m, heard = want.Miner, append(heard, r)
				if want.Committed {
					mined = append(mined, bufferOf(want.Tx, want.Changes...))
				}
				if code := impl.MinerFault(m); code != impl.OK {
					t.Fatalf("behind a step MinerFault = %d", code)
				}
			}
			if t.Failed() {
				return
			}
		}
		expectMined(t, "a walk", heard, m, mined...)
		if again := minedOf(t, "a walk", impl.NewMiner(nil).Miner, heard); !sameMinedResult(again, impl.MineAll(heard)) {
			t.Fatal("MineAll is not StepMiner record by record")
		}
		for _, b := range mined {
			mostMined = max(mostMined, len(b.Changes))
		}
	}
	for code, least := range map[int64]int{impl.OK: 1000, impl.ErrForm: 30, impl.ErrMany: 10, impl.ErrRange: 30, impl.ErrNone: 30, impl.ErrText: 10, impl.ErrTaken: 30, impl.ErrState: 20} {
		if counts[code] < least {
			t.Errorf("code %d came %d times alone", code, counts[code])
		}
	}
	if mostMined < 5 {
		t.Errorf("at most %d changes were mined at once", mostMined)
	}
}

// Rows at the beginning with what was mined, one behind the other, are the rows in the end.
func TestWhatIsMinedLeadsToTheRows(t *testing.T) {
	next := numbers(17)
	for range 20 {
		var pages [][]byte
		var list []impl.Record
		for tx := int64(1); tx <= 20; tx++ {
			list = append(list, begin(tx))
			for range next(5) {
				c := anyChange(impl.RowsIn(pages).Rows, next, 7)
				if edits := impl.EditsFor(pages, c); edits.Code == impl.OK && len(edits.Edits) > 0 {
					list = append(list, recordsFor(impl.RecDelta, tx, pages, edits.Edits)...)
					pages = edits.Pages
				}
			}
			list = append(list, commit(tx))
		}
		got := impl.MineAll(list)
		if got.Code != impl.OK || len(got.Mined) != 20 || !sameMiner(got.Miner, minerOf(pages)) {
			t.Fatalf("MineAll = %+v", got)
		}
		var rows []impl.Row
		for i, b := range got.Mined {
			by := impl.ApplyChanges(rows, b.Changes)
			if by.Code != impl.OK || b.Tx != int64(i+1) {
				t.Fatalf("mined %d: %+v, %+v", i, b, by)
			}
			rows = by.Rows
		}
		if !slices.Equal(rows, impl.RowsIn(pages).Rows) {
			t.Fatalf("rows %+v, want %+v", rows, impl.RowsIn(pages).Rows)
		}
	}
}

// minerGiven is all that is handed in to the calls of this layer.
type minerGiven struct {
	miner   impl.Miner
	list    []impl.Change
	records []impl.Record
}

// minerArguments stand in lists with more memory behind them; texts are the bytes of all texts.
func minerArguments(t *testing.T) (given minerGiven, texts [][]byte) {
	own := func(table int64, key int64, val int64, text string) impl.Row {
		is, data := ownText(text)
		texts = append(texts, data)
		return rowOf(table, key, val, is)
	}
	first, second := pageWith(t, rowCell(1, 50, 1, "abcd"), stubCell(1, 0)), pageWith(t, movedCell(2, 60, 2, "efgh"))
	given.miner.Pages = append([][]byte{append(first, "behind"...)[:64], append(second, "behind"...)[:64]}, []byte("behind"))[:2]
	given.list = append([]impl.Change{put(own(1, 50, 1, "abcd")), drop(own(2, 60, 7, "gone")), turn(own(3, 1, 1, "from"), own(3, 1, 2, "into"))}, impl.Change{})[:3]
	other := append([]impl.Change{drop(own(0, 9, 9, "other")), turn(own(2, 60, 1, "was"), own(2, 60, 2, "efgh"))}, impl.Change{})[:2]
	given.miner.Open = append([]impl.Buffer{{Tx: 9, Changes: other}, {Tx: 4, Changes: given.list}, {Tx: 5}}, impl.Buffer{Tx: 77})[:3]
	third := pageWith(t, rowCell(1, 50, 2, "longer"), stubCell(1, 0))
	idle := bytes.Clone(first[:64])
	idle[20] = 77
	given.records = []impl.Record{
		begin(1), commit(4), abort(9), commit(5), turned(impl.RecDelta, 4, 0, first, third), turned(impl.RecComp, 9, 1, second, pageWith(t, movedCell(2, 60, 3, "efghi"))),
		image(0, idle), image(2, impl.NewPage(5).Page), commit(88), turned(impl.RecDelta, 5, 1, second, impl.NewPage(0).Page), record(impl.RecDelta, 4, 2, run(20, 5, 6)),
	}
	for i, r := range given.records {
		for j, run := range r.Runs {
			given.records[i].Runs[j].Bytes = append(bytes.Clone(run.Bytes), "behind"...)[:len(run.Bytes)]
		}
	}
	return given, texts
}

// heardRecords are mined as two that are committed, and two that are open.
func heardRecords(t *testing.T) []impl.Record {
	none, a, b := impl.NewPage(0).Page, pageWith(t, rowCell(1, 1, 1, "abcd")), pageWith(t, rowCell(1, 1, 1, "abcd"), rowCell(2, 2, 2, "efgh"))
	c, d := pageWith(t, rowCell(3, 3, 3, "ijkl")), pageWith(t, rowCell(3, 3, 4, "mnop"))
	e := pageWith(t, rowCell(1, 1, 5, "qrst"), rowCell(2, 2, 2, "efgh"))
	return []impl.Record{
		begin(1), turned(impl.RecDelta, 1, 0, none, a), begin(2), turned(impl.RecDelta, 1, 0, a, b), turned(impl.RecDelta, 2, 1, none, c), begin(3),
		commit(1), turned(impl.RecDelta, 2, 1, c, d), commit(2), begin(4), turned(impl.RecDelta, 3, 0, b, e), image(1, d), turned(impl.RecComp, 4, 1, d, none),
	}
}

func (g minerGiven) clone() minerGiven {
	var own minerGiven
	for _, page := range g.miner.Pages[:cap(g.miner.Pages)] {
		own.miner.Pages = append(own.miner.Pages, bytes.Clone(page[:cap(page)]))
	}
	for _, b := range g.miner.Open[:cap(g.miner.Open)] {
		own.miner.Open = append(own.miner.Open, impl.Buffer{Tx: b.Tx, Changes: ownChanges(b.Changes[:cap(b.Changes)])})
	}
	own.list = ownChanges(g.list[:cap(g.list)])
	for _, r := range g.records {
		for j, run := range r.Runs {
			r.Runs = slices.Clone(r.Runs)
			r.Runs[j].Bytes = bytes.Clone(run.Bytes[:cap(run.Bytes)])
		}
		own.records = append(own.records, r)
	}
	return own
}

func (g minerGiven) isSame(own minerGiven) bool {
	now := g.clone()
	return sameMiner(now.miner, own.miner) && slices.Equal(now.list, own.list) && sameRecordLists(now.records, own.records)
}

// minerAnswer is all lists of an answer, whichever a call has.
type minerAnswer struct {
	told    string
	changes [][]impl.Change
	bytes   [][]byte
}

func (a minerAnswer) clone() minerAnswer {
	own := minerAnswer{told: a.told, bytes: clonePages(a.bytes)}
	for _, list := range a.changes {
		own.changes = append(own.changes, ownChanges(list))
	}
	return own
}

func (a minerAnswer) isSame(b minerAnswer) bool {
	return a.told == b.told && samePages(a.bytes, b.bytes) && slices.EqualFunc(a.changes, b.changes, func(x []impl.Change, y []impl.Change) bool { return slices.Equal(x, y) })
}

func (a *minerAnswer) tell(words ...int64) {
	for _, n := range words {
		a.told += strconv.FormatInt(n, 10) + " "
	}
}

func (a *minerAnswer) addBuffers(list []impl.Buffer) {
	for _, b := range list {
		a.tell(b.Tx)
		a.changes = append(a.changes, b.Changes)
	}
}

func (a *minerAnswer) addMiner(m impl.Miner) {
	a.tell(int64(len(m.Pages)))
	a.bytes = append(a.bytes, m.Pages...)
	a.addBuffers(m.Open)
}

func minerAnswers(t *testing.T, g minerGiven) map[string]func() minerAnswer {
	calls := map[string]func() minerAnswer{}
	ofStep := func(r impl.MinerResult) (a minerAnswer) {
		a.tell(r.Code, r.Tx)
		a.told += strconv.FormatBool(r.Ended) + strconv.FormatBool(r.Committed)
		a.changes = append(a.changes, r.Changes)
		a.addMiner(r.Miner)
		return a
	}
	ofChanges := func(r impl.ChangesResult) (a minerAnswer) {
		a.tell(r.Code)
		a.changes = [][]impl.Change{r.Changes}
		return a
	}
	calls["MinerFault"] = func() (a minerAnswer) { a.tell(impl.MinerFault(g.miner)); return a }
	calls["NewMiner"] = func() minerAnswer { return ofStep(impl.NewMiner(g.miner.Pages)) }
	for i, r := range g.records {
		n := " of record " + strconv.Itoa(i)
		calls["StepMiner"+n] = func() minerAnswer { return ofStep(impl.StepMiner(g.miner, r)) }
		calls["ApplyRecord"+n] = func() (a minerAnswer) {
			got := impl.ApplyRecord(g.miner.Pages, r)
			a.tell(got.Code, int64(len(got.Edits)))
			a.bytes = bytesIn(got)
			return a
		}
	}
	for i, c := range g.list {
		n := " of change " + strconv.Itoa(i)
		calls["FoldChange into none"+n] = func() minerAnswer { return ofChanges(impl.FoldChange(nil, c)) }
		calls["FoldChange back"+n] = func() minerAnswer { return ofChanges(impl.FoldChange(g.list, inverse(c))) }
		calls["FoldChange again"+n] = func() minerAnswer { return ofChanges(impl.FoldChange(g.list, c)) }
		calls["FoldChange into another"+n] = func() minerAnswer { return ofChanges(impl.FoldChange(g.list[i+1:], c)) }
	}
	heard := heardRecords(t)
	calls["MineAll"] = func() (a minerAnswer) {
		got := impl.MineAll(heard)
		a.tell(got.Code)
		a.addBuffers(got.Mined)
		a.addMiner(got.Miner)
		return a
	}
	return calls
}

// expectAnswerApart turns each list of an answer, and all memory behind it: no other one turns with it.
func expectAnswerApart(t *testing.T, name string, got minerAnswer) {
	t.Helper()
	for i, list := range got.bytes {
		kept := got.clone()
		scribbleAll(list)
		kept.bytes[i] = bytes.Clone(list)
		if !got.isSame(kept) {
			t.Errorf("%s: bytes %d share memory with another list of the answer", name, i)
		}
		scribbleAll(list)
	}
	for i, list := range got.changes {
		kept, own := got.clone(), slices.Clone(list[:cap(list)])
		clear(list[:cap(list)])
		kept.changes[i] = slices.Clone(list)
		if !got.isSame(kept) {
			t.Errorf("%s: changes %d share memory with another list of the answer", name, i)
		}
		copy(list[:cap(list)], own)
	}
}

func TestMinerAnswersAreNewMemory(t *testing.T) {
	given, _ := minerArguments(t)
	kept := given.clone()
	for name, call := range minerAnswers(t, given) {
		first, second := call(), call()
		want := second.clone()
		expectAnswerApart(t, name, first)
		for _, list := range first.bytes {
			scribbleAll(list)
		}
		for _, list := range first.changes {
			clear(list[:cap(list)])
		}
		if !second.isSame(want) {
			t.Errorf("%s: two answers share memory", name)
		}
		if !given.isSame(kept) {
			t.Fatalf("%s: the answer shares memory with what was handed in, or that was changed", name)
		}
		if third := call(); !third.isSame(want) {
			t.Errorf("%s: the answer is another one behind the first: %+v, want %+v", name, third, want)
		}
	}
}

// All that was handed in is turned behind the calls, the bytes of texts too, and no answer follows.
func TestMinerAnswersDoNotFollow(t *testing.T) {
	given, texts := minerArguments(t)
	got, want := map[string]minerAnswer{}, map[string]minerAnswer{}
	for name, call := range minerAnswers(t, given) {
		got[name] = call()
		want[name] = got[name].clone()
	}
	for _, page := range given.miner.Pages {
		scribble(page)
	}
	for _, r := range given.records {
		for _, run := range r.Runs {
			scribble(run.Bytes)
		}
		clear(r.Runs)
	}
	for _, data := range texts {
		scribble(data[:len(data):len(data)])
	}
	for _, b := range given.miner.Open {
		clear(b.Changes)
	}
	clear(given.miner.Pages)
	clear(given.miner.Open)
	clear(given.list)
	clear(given.records)
	codes := map[string]int{}
	for name, answer := range got {
		if !answer.isSame(want[name]) {
			t.Errorf("%s: the answer turns with what was handed in: %+v, want %+v", name, answer, want[name])
		}
		kind, _, _ := strings.Cut(name, " of ")
		code, _, _ := strings.Cut(answer.told, " ")
		codes[kind+" "+code]++
	}
	for kind, least := range map[string]int{"StepMiner 0": 9, "StepMiner 4": 1, "ApplyRecord 0": 11, "FoldChange into none 0": 3, "FoldChange back 0": 3, "FoldChange again 8": 3, "FoldChange into another 0": 3, "MineAll 0": 1, "NewMiner 0": 1, "MinerFault 0": 1} {
		if codes[kind] < least {
			t.Errorf("%s came %d times: %v", kind, codes[kind], codes)
		}
	}
}

func TestMinerAnswersHangOnArgumentsAlone(t *testing.T) {
	given, _ := minerArguments(t)
	want := map[string]minerAnswer{}
	for name, call := range minerAnswers(t, given) {
		want[name] = call()
	}
	for range 20 {
		impl.MineAll([]impl.Record{begin(4), begin(9), begin(5)})
		impl.StepMiner(minerOf(nil, opened(1, 2, 3, 4, 5, 6, 7, 8)...), commit(4))
		impl.FoldChange(putsOf(manyRows(0, 60, 1)), impl.Change{})
		for name, call := range minerAnswers(t, given) {
			if got := call(); !got.isSame(want[name]) {
				t.Fatalf("%s = %+v, want %+v", name, got, want[name])
			}
		}
	}
}

// Two pages may be one list of bytes, two buffers pieces of one list, and a record's bytes those of a page.
func TestMinerOfSharedMemory(t *testing.T) {
	data := slices.Concat(pageWith(t, rowCell(1, 1, 1, "a")), pageWith(t, rowCell(2, 2, 2, "b")))
	kept := bytes.Clone(data)
	changes := putsOf(manyRows(0, 10, 1))
	m := minerOf([][]byte{data[:64], data[64:]}, bufferOf(1, changes[:5]...), bufferOf(2, changes[2:7]...), bufferOf(3, changes...))
	after := pageWith(t, rowCell(1, 1, 1, "a"), rowCell(3, 3, 3, ""))
	r := turned(impl.RecDelta, 1, 0, data[:64], after)
	want := append(slices.Clone(changes[:5]), put(rowOf(3, 3, 3, "")))
	expectMiner(t, "pieces", m, r, minerOf([][]byte{after, data[64:]}, bufferOf(1, want...), bufferOf(2, changes[2:7]...), bufferOf(3, changes...)))
	own := image(0, data[:64])
	own.Runs[0].Bytes = data[:64]
	expectMiner(t, "an image of the page's own bytes", m, own, m)
	got := impl.StepMiner(m, impl.Record{Kind: impl.RecImage, Page: 2, Runs: []impl.Run{{Bytes: impl.NewPage(0).Page}}})
	var answer minerAnswer
	answer.addMiner(got.Miner)
	expectAnswerApart(t, "pieces", answer)
	if !bytes.Equal(data, kept) || !slices.Equal(changes, putsOf(manyRows(0, 10, 1))) {
		t.Error("what was handed in was changed")
	}
}
