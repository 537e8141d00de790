package tests

import (
	"bytes"
	"math"
	"slices"
	"strconv"
	"strings"
	"testing"

	"loop.example/g00408/impl"
)

func cloneEdits(edits []impl.Edit) []impl.Edit {
	var own []impl.Edit
	for _, e := range edits {
		own = append(own, impl.Edit{Page: e.Page, Bytes: bytes.Clone(e.Bytes)})
	}
	return own
}

func sameEdits(a []impl.Edit, b []impl.Edit) bool {
	return slices.EqualFunc(a, b, func(x impl.Edit, y impl.Edit) bool { return x.Page == y.Page && bytes.Equal(x.Bytes, y.Bytes) })
}

func sameEditsResult(a impl.EditsResult, b impl.EditsResult) bool {
	return a.Code == b.Code && sameEdits(a.Edits, b.Edits) && samePages(a.Pages, b.Pages)
}

func cloneEditsResult(r impl.EditsResult) impl.EditsResult {
	return impl.EditsResult{Code: r.Code, Edits: cloneEdits(r.Edits), Pages: clonePages(r.Pages)}
}

// withEdit asks nothing of the program.
func withEdit(pages [][]byte, e impl.Edit) [][]byte {
	own := clonePages(pages)
	if int(e.Page) == len(own) {
		return append(own, bytes.Clone(e.Bytes))
	}
	own[e.Page] = bytes.Clone(e.Bytes)
	return own
}

// changedRows are rows with this change, and no other.
func changedRows(rows []impl.Row, c impl.Change) []impl.Row {
	key := c.After
	if c.Was {
		key = c.Before
	}
	var changed []impl.Row
	for _, r := range rows {
		if r.Table != key.Table || r.Key != key.Key {
			changed = append(changed, r)
		}
	}
	if c.Is {
		changed = append(changed, c.After)
	}
	slices.SortFunc(changed, func(a impl.Row, b impl.Row) int { return int(100*(a.Table-b.Table) + a.Key - b.Key) })
	return changed
}

// editsOf asks the function of just this kind of change.
func editsOf(pages [][]byte, c impl.Change) impl.EditsResult {
	switch {
	case !c.Was:
		return impl.InsertEdits(pages, c.After)
	case !c.Is:
		return impl.DeleteEdits(pages, c.Before.Table, c.Before.Key)
	}
	return impl.UpdateEdits(pages, c.After)
}

// expectLeads asks for all that is promised of the edits of a change, whatever way its cells went.
func expectLeads(t *testing.T, name string, pages [][]byte, c impl.Change, got impl.EditsResult) {
	t.Helper()
	if got.Code != impl.OK {
		t.Fatalf("%s: code %d", name, got.Code)
	}
	ahead := impl.RowsIn(pages).Rows
	behind := changedRows(ahead, c)
	now, isTurned := clonePages(pages), false
	for k, e := range got.Edits {
		if e.Page < 0 || e.Page > int64(len(now)) || len(e.Bytes) != 64 {
			t.Fatalf("%s: edit %d is %+v", name, k, e)
		}
		if e.Page < int64(len(now)) && bytes.Equal(now[e.Page], e.Bytes) {
			t.Errorf("%s: edit %d turns nothing", name, k)
		}
		now = withEdit(now, e)
		if applied := impl.ApplyEdits(pages, got.Edits[:k+1]); applied.Code != impl.OK || !sameEdits(applied.Edits, got.Edits[:k+1]) || !samePages(applied.Pages, now) {
			t.Fatalf("%s: ApplyEdits of the first %d = %+v, want %v", name, k+1, applied, now)
		}
		seen := impl.RowsIn(now)
		switch {
		case seen.Code == impl.OK && slices.Equal(seen.Rows, behind):
			isTurned = true
		case seen.Code != impl.OK || isTurned || !slices.Equal(seen.Rows, ahead):
			t.Fatalf("%s: behind edit %d the rows are %+v", name, k, seen)
		}
	}
	if !samePages(got.Pages, now) {
		t.Fatalf("%s: Pages = %v, want %v", name, got.Pages, now)
	}
	if code := impl.PagesFault(got.Pages); code != impl.OK {
		t.Fatalf("%s: PagesFault of Pages = %d", name, code)
	}
	if seen := impl.RowsIn(got.Pages); !slices.Equal(seen.Rows, behind) {
		t.Fatalf("%s: rows %+v, want %+v", name, seen.Rows, behind)
	}
	expectJustThat(t, name, ahead, behind, c)
}

// expectJustThat asks ChangesOf, where there are not too many rows for it.
func expectJustThat(t *testing.T, name string, ahead []impl.Row, behind []impl.Row, c impl.Change) {
	t.Helper()
	if len(ahead) > maxRows || len(behind) > maxRows {
		return
	}
	var want []impl.Change
	if c.Was != c.Is || c.Before != c.After {
		want = append(want, c)
	}
	if got := impl.ChangesOf(ahead, behind); got.Code != impl.OK || !slices.Equal(got.Changes, want) {
		t.Fatalf("%s: ChangesOf = %+v, want %+v", name, got, want)
	}
}

// expectChange asks for just these edits, of the function of its kind and of EditsFor.
func expectChange(t *testing.T, name string, pages [][]byte, c impl.Change, want ...impl.Edit) {
	t.Helper()
	if code := impl.PagesFault(pages); code != impl.OK {
		t.Fatalf("%s: PagesFault = %d", name, code)
	}
	kept := clonePages(pages)
	for _, got := range []impl.EditsResult{editsOf(pages, c), impl.EditsFor(pages, c)} {
		if got.Code != impl.OK || !sameEdits(got.Edits, want) {
			t.Errorf("%s: code %d, edits %v, want %v", name, got.Code, got.Edits, want)
		}
		expectLeads(t, name, pages, c, got)
	}
	if !samePages(pages, kept) {
		t.Fatalf("%s: the pages were changed", name)
	}
}

func expectEditsCode(t *testing.T, name string, got impl.EditsResult, code int64) {
	t.Helper()
	if got.Code != code || len(got.Edits) != 0 || len(got.Pages) != 0 {
		t.Errorf("%s = %+v, want code %d alone", name, got, code)
	}
}

func expectChangeCode(t *testing.T, name string, pages [][]byte, c impl.Change, code int64) {
	t.Helper()
	kept := clonePages(pages)
	expectEditsCode(t, name, editsOf(pages, c), code)
	expectEditsCode(t, name+", EditsFor", impl.EditsFor(pages, c), code)
	if !samePages(pages, kept) {
		t.Fatalf("%s: the pages were changed", name)
	}
}

// steps are edits that are told by hand, one behind the other.
type steps struct {
	t     *testing.T
	pages [][]byte
	edits []impl.Edit
}

func stepsOn(t *testing.T, pages [][]byte) *steps {
	return &steps{t: t, pages: clonePages(pages)}
}

func (s *steps) is(page int, got impl.PageResult, slot int64) *steps {
	s.t.Helper()
	if got.Code != impl.OK || got.Slot != slot {
		s.t.Fatalf("a step of page %d = %+v, want slot %d", page, got, slot)
	}
	e := impl.Edit{Page: int64(page), Bytes: got.Page}
	s.pages, s.edits = withEdit(s.pages, e), append(s.edits, e)
	return s
}

func (s *steps) put(page int, slot int64, cell []byte) *steps {
	s.t.Helper()
	return s.is(page, impl.PutSlot(s.pages[page], cell), slot)
}

func (s *steps) set(page int, slot int64, cell []byte) *steps {
	s.t.Helper()
	return s.is(page, impl.SetSlot(s.pages[page], slot, cell), 0)
}

func (s *steps) drop(page int, slot int64) *steps {
	s.t.Helper()
	return s.is(page, impl.DropSlot(s.pages[page], slot), 0)
}

func (s *steps) compact(page int) *steps {
	s.t.Helper()
	return s.is(page, impl.CompactPage(s.pages[page]), 0)
}

func (s *steps) fresh(cell []byte) *steps {
	s.t.Helper()
	return s.is(len(s.pages), impl.PutSlot(impl.NewPage(0).Page, cell), 0)
}

func cellOf(flag int64, r impl.Row) []byte {
	return impl.PackRow(flag, r).Bytes
}

// brimRow has a cell of 10 bytes in the slots 0 to 2, of 11 in the slots 3 and 4.
func brimRow(page int64, slot int64) impl.Row {
	text := "abcd"
	if slot > 2 {
		text = "abcde"
	}
	return rowOf(page%4, 1+5*page+slot, page, text)
}

// brimPage has no byte left.
func brimPage(t *testing.T, page int64) []byte {
	var cells [][]byte
	for slot := range int64(5) {
		cells = append(cells, cellOf(impl.FlagRow, brimRow(page, slot)))
	}
	full := pageWith(t, cells...)
	if free := impl.FreeIn(full); free.Value != 0 {
		t.Fatalf("FreeIn of a brim page = %+v", free)
	}
	return full
}

func brimPages(t *testing.T, count int) [][]byte {
	var pages [][]byte
	for page := range int64(count) {
		pages = append(pages, brimPage(t, page))
	}
	return pages
}

func without(t *testing.T, page []byte, slots ...int64) []byte {
	t.Helper()
	for _, slot := range slots {
		drop := impl.DropSlot(page, slot)
		if drop.Code != impl.OK {
			t.Fatalf("DropSlot(%d) = %+v", slot, drop)
		}
		page = drop.Page
	}
	return page
}

// grown has the longest cell that there is, of 14 bytes.
func grown(r impl.Row) impl.Row {
	r.Text = "abcdefgh"
	return r
}

func TestFirstRowOfAllByBytes(t *testing.T) {
	want := make([]byte, 64)
	copy(want, []byte{1, 56, 56, 8})
	copy(want[56:], []byte{0, 1, 2, 1, 44, 2, 'a', 'b'})
	c := put(rowOf(1, 2, 300, "ab"))
	expectChange(t, "nil", nil, c, impl.Edit{Page: 0, Bytes: want})
	expectChange(t, "no pages", [][]byte{}, c, impl.Edit{Page: 0, Bytes: want})
}

func TestRowsAtEdgesArePutTurnedAndDropped(t *testing.T) {
	for i, r := range edgeRows() {
		s := stepsOn(t, nil).fresh(cellOf(impl.FlagRow, r))
		expectChange(t, "put", nil, put(r), s.edits...)
		other := rowOf(r.Table, r.Key, 999-r.Val, edgeRows()[i%7].Text)
		expectChange(t, "turn", s.pages, turn(r, other), stepsOn(t, s.pages).set(0, 0, cellOf(impl.FlagRow, other)).edits...)
		expectChange(t, "drop", s.pages, drop(r), stepsOn(t, s.pages).drop(0, 0).edits...)
		moved := [][]byte{pageWith(t, stubCell(1, 0)), pageWith(t, cellOf(impl.FlagMoved, r))}
		expectChange(t, "turn behind a stub", moved, turn(r, other), stepsOn(t, moved).set(1, 0, cellOf(impl.FlagMoved, other)).edits...)
		expectChange(t, "drop behind a stub", moved, drop(r), stepsOn(t, moved).drop(0, 0).drop(1, 0).edits...)
	}
}

func TestInsertEditsInTheFirstPageWithRoom(t *testing.T) {
	r := rowOf(3, 99, 999, "abcdefgh")
	cell, c := cellOf(impl.FlagRow, r), put(r)
	empty, some := impl.NewPage(9).Page, pageWith(t, rowCell(0, 99, 1, "ab"), rowCell(0, 98, 1, ""))
	brim := brimPages(t, 12)

	pages := [][]byte{empty}
	expectChange(t, "a page without slots", pages, c, stepsOn(t, pages).put(0, 0, cell).edits...)
	pages = [][]byte{some, empty, empty}
	expectChange(t, "room everywhere", pages, c, stepsOn(t, pages).put(0, 2, cell).edits...)
	pages = [][]byte{brim[0], brim[1], some, empty}
	expectChange(t, "room in a later page", pages, c, stepsOn(t, pages).put(2, 2, cell).edits...)
	pages = [][]byte{brim[0], empty}
	expectChange(t, "room in the last page", pages, c, stepsOn(t, pages).put(1, 0, cell).edits...)
	pages = [][]byte{brim[0], brim[1]}
	expectChange(t, "room nowhere", pages, c, stepsOn(t, pages).fresh(cell).edits...)
	pages = [][]byte{pageWith(t, rowCell(0, 99, 1, ""), nil, nil, rowCell(0, 98, 1, ""))}
	expectChange(t, "empty slots", pages, c, stepsOn(t, pages).put(0, 1, cell).edits...)
	pages = [][]byte{pageWith(t, movedCell(3, 99, 1, "lone"))}
	expectChange(t, "a moved cell of its key that nobody tells", pages, c, stepsOn(t, pages).put(0, 1, cell).edits...)
}

// A new slot takes two bytes more; an empty one takes none.
func TestInsertEditsWhereRoomJustFits(t *testing.T) {
	for length := range 9 {
		r := rowOf(3, 99, 7, strings.Repeat("k", length))
		cell, c := cellOf(impl.FlagRow, r), put(r)
		for left := range 9 {
			// From 9 to 17 bytes are free, all in one piece.
			base := pageWith(t, rowCell(0, 1, 0, "abcdefgh"), rowCell(0, 2, 0, "abcdefgh"), rowCell(0, 3, 0, "abcdefgh"[left:]), stubCell(1, 0))
			free := int(impl.FreeIn(base).Value)
			pages := [][]byte{base, pageWith(t, movedCell(1, 1, 1, "")), impl.NewPage(0).Page}
			want := stepsOn(t, pages)
			if free >= len(cell)+2 {
				want.put(0, 4, cell)
			} else {
				want.put(1, 1, cell)
			}
			expectChange(t, strconv.Itoa(free)+" bytes free for "+strconv.Itoa(len(cell)), pages, c, want.edits...)

			// From 11 to 19 bytes are free, 5 of them in one piece, and a slot is empty.
			gap := pageWith(t, rowCell(0, 1, 0, "abcd"), rowCell(0, 2, 0, "abcdefgh"[:left]), rowCell(0, 3, 0, "abcdefgh"), rowCell(0, 4, 0, "abcdefgh"[left:]), stubCell(1, 0))
			pages = [][]byte{without(t, gap, 1), pageWith(t, movedCell(1, 1, 1, "")), impl.NewPage(0).Page}
			free = int(impl.FreeIn(pages[0]).Value)
			want = stepsOn(t, pages)
			if free >= len(cell) {
				want.compact(0).put(0, 1, cell)
			} else {
				want.put(1, 1, cell)
			}
			expectChange(t, strconv.Itoa(free)+" bytes free in pieces for "+strconv.Itoa(len(cell)), pages, c, want.edits...)
		}
	}
}

func TestInsertEditsWhereRoomIsInPieces(t *testing.T) {
	brim := brimPages(t, 12)
	r := rowOf(3, 99, 7, "abcd")
	cell, c := cellOf(impl.FlagRow, r), put(r)
	pages := [][]byte{without(t, brim[0], 1)}
	expectChange(t, "the only page", pages, c, stepsOn(t, pages).compact(0).put(0, 1, cell).edits...)
	pages = [][]byte{brim[0], without(t, brim[1], 2), impl.NewPage(0).Page}
	expectChange(t, "a later page, ahead of one with room", pages, c, stepsOn(t, pages).compact(1).put(1, 2, cell).edits...)
	pages = [][]byte{without(t, brim[0], 1, 3), without(t, brim[1], 2)}
	expectChange(t, "two pages", pages, c, stepsOn(t, pages).compact(0).put(0, 1, cell).edits...)
	pages = [][]byte{without(t, brim[0], 4)}
	expectChange(t, "behind the last slot", pages, put(rowOf(3, 99, 7, "abc")), stepsOn(t, pages).compact(0).put(0, 4, rowCell(3, 99, 7, "abc")).edits...)
	// Pieces that are too little in all are no reason to compact.
	big := rowOf(3, 99, 7, "abcde")
	pages = [][]byte{without(t, brim[0], 1), without(t, brim[1], 0, 1)}
	expectChange(t, "too little, then enough", pages, put(big), stepsOn(t, pages).compact(1).put(1, 0, cellOf(impl.FlagRow, big)).edits...)
	pages = [][]byte{without(t, brim[0], 1), without(t, brim[1], 0)}
	expectChange(t, "too little in both", pages, put(big), stepsOn(t, pages).fresh(cellOf(impl.FlagRow, big)).edits...)
	// A page that was compacted already has its room in one piece.
	pages = [][]byte{impl.CompactPage(without(t, brim[0], 1)).Page}
	expectChange(t, "compacted already", pages, c, stepsOn(t, pages).put(0, 1, cell).edits...)
	// Stubs tell the same slots behind a compacting as ahead of it.
	pages = [][]byte{without(t, pageWith(t, rowCell(0, 1, 0, "abcdefgh"), stubCell(0, 3), rowCell(0, 2, 0, "abcdefgh"), movedCell(0, 3, 0, "abcdefgh"), stubCell(1, 0)), 0), pageWith(t, movedCell(0, 4, 0, ""))}
	long := rowOf(2, 2, 2, "abcdefgh")
	expectChange(t, "among stubs", pages, put(long), stepsOn(t, pages).compact(0).put(0, 0, cellOf(impl.FlagRow, long)).edits...)
}

// A page without a fault has at most 12 cells, as a cell has 3 bytes or more; its slots may be 16 all the same.
func TestInsertEditsAndManySlots(t *testing.T) {
	r := rowOf(3, 99, 7, "")
	cell, c := cellOf(impl.FlagRow, r), put(r)
	var stubs, moved [][]byte
	for i := range int64(12) {
		stubs = append(stubs, stubCell(1+i/6, i%6))
		moved = append(moved, movedCell(1, 1+i, 0, ""))
	}
	pages := [][]byte{pageWith(t, stubs...), pageWith(t, moved[:6]...), pageWith(t, moved[6:]...)}
	expectChange(t, "12 stubs", pages, c, stepsOn(t, pages).put(1, 6, cell).edits...)
	pages = [][]byte{sparsePage(15, rowCell(0, 1, 1, "")), impl.NewPage(0).Page}
	expectChange(t, "16 slots, all but the last empty", pages, c, stepsOn(t, pages).put(0, 0, cell).edits...)
	pages[0] = stepsOn(t, pages).put(0, 0, rowCell(0, 2, 1, "abcdefgh")).put(0, 1, rowCell(0, 3, 1, "abcd")).pages[0]
	expectChange(t, "16 slots, 13 of them empty, and no room", pages, c, stepsOn(t, pages).put(1, 0, cell).edits...)
}

func TestInsertEditsAroundMaxPages(t *testing.T) {
	r := rowOf(3, 99, 7, "")
	cell, c := cellOf(impl.FlagRow, r), put(r)
	for count := range 12 {
		pages := brimPages(t, count)
		expectChange(t, strconv.Itoa(count)+" full pages", pages, c, stepsOn(t, pages).fresh(cell).edits...)
	}
	full := brimPages(t, 12)
	expectChangeCode(t, "12 full pages", full, c, impl.ErrFull)
	expectChangeCode(t, "12 full pages and one more", append(clonePages(full), impl.NewPage(0).Page), c, impl.ErrMany)
	for at := range 12 {
		pages := clonePages(full)
		pages[at] = impl.NewPage(3).Page
		expectChange(t, "12 pages, room in one", pages, c, stepsOn(t, pages).put(at, 0, cell).edits...)
		pages[at] = without(t, full[at], 2)
		expectChange(t, "12 pages, pieces in one", pages, c, stepsOn(t, pages).compact(at).put(at, 2, cell).edits...)
		expectChangeCode(t, "12 pages, too small pieces in one", pages, put(grown(r)), impl.ErrFull)
	}
	// 84 rows are more than a list of rows may have, and no fault here.
	many, _ := fullPages(t, 12)
	expectChangeCode(t, "84 rows", many, put(rowOf(3, 1, 0, "")), impl.ErrFull)
	many[11] = without(t, many[11], 6)
	expectChange(t, "83 rows", many, put(rowOf(3, 1, 0, "")), stepsOn(t, many).put(11, 6, rowCell(3, 1, 0, "")).edits...)
}

// The same row has no edits, wherever it stands, and however full its page is.
func TestUpdateEditsOfTheSameRow(t *testing.T) {
	full := brimPages(t, 12)
	for page := range int64(12) {
		for slot := range int64(5) {
			r := brimRow(page, slot)
			expectChange(t, "a full page", full, turn(r, r))
			pages := clonePages(full)
			pages[page] = without(t, full[page], (slot+1)%5)
			expectChange(t, "a page in pieces", pages, turn(r, r))
		}
	}
	moved := [][]byte{pageWith(t, stubCell(1, 0)), pageWith(t, movedCell(1, 2, 3, "m"))}
	expectChange(t, "behind a stub", moved, turn(rowOf(1, 2, 3, "m"), rowOf(1, 2, 3, "m")))
}

func TestUpdateEditsInPlace(t *testing.T) {
	old := rowOf(1, 2, 300, "abcd")
	others := []impl.Row{rowOf(1, 2, 301, "abcd"), rowOf(1, 2, 300, "abce"), rowOf(1, 2, 300, ""), rowOf(1, 2, 0, "abc"), rowOf(1, 2, 300, "abcde"), rowOf(1, 2, 999, "abcdefgh")}
	for _, r := range others {
		cell, moved, c := cellOf(impl.FlagRow, r), cellOf(impl.FlagMoved, r), turn(old, r)
		pages := [][]byte{pageWith(t, cellOf(impl.FlagRow, old))}
		expectChange(t, "alone", pages, c, stepsOn(t, pages).set(0, 0, cell).edits...)
		pages = [][]byte{impl.NewPage(0).Page, pageWith(t, rowCell(0, 1, 1, "a"), nil, cellOf(impl.FlagRow, old), rowCell(0, 2, 1, "b"))}
		expectChange(t, "among others", pages, c, stepsOn(t, pages).set(1, 2, cell).edits...)
		pages = [][]byte{pageWith(t, rowCell(0, 1, 1, "a"), stubCell(1, 2)), pageWith(t, rowCell(0, 2, 1, "a"), nil, cellOf(impl.FlagMoved, old))}
		expectChange(t, "behind a stub", pages, c, stepsOn(t, pages).set(1, 2, moved).edits...)
		pages = [][]byte{pageWith(t, cellOf(impl.FlagMoved, old)), impl.NewPage(0).Page, pageWith(t, stubCell(0, 0))}
		expectChange(t, "ahead of its stub", pages, c, stepsOn(t, pages).set(0, 0, moved).edits...)
		pages = [][]byte{pageWith(t, stubCell(0, 1), cellOf(impl.FlagMoved, old))}
		expectChange(t, "in the page of its stub", pages, c, stepsOn(t, pages).set(0, 1, moved).edits...)
	}
	// What is not longer needs no room, even in a full page.
	for slot := range int64(5) {
		r := brimRow(0, slot)
		for _, text := range []string{"", "z", "zzzz"} {
			turned := rowOf(r.Table, r.Key, 999, text)
			pages := brimPages(t, 2)
			expectChange(t, "a full page", pages, turn(r, turned), stepsOn(t, pages).set(0, slot, cellOf(impl.FlagRow, turned)).edits...)
		}
	}
}

func TestUpdateEditsInPlaceBehindACompacting(t *testing.T) {
	brim := brimPages(t, 3)
	for slot := range int64(3) {
		for _, text := range []string{"abcde", "abcdef", "abcdefg", "abcdefgh"} {
			old, r := brimRow(1, slot), brimRow(1, slot)
			r.Text = text
			pages := [][]byte{brim[0], without(t, brim[1], (slot+1)%3, 3), brim[2]}
			expectChange(t, text, pages, turn(old, r), stepsOn(t, pages).compact(1).set(1, slot, cellOf(impl.FlagRow, r)).edits...)
			// In one piece already, it goes there at once.
			pages[1] = impl.CompactPage(pages[1]).Page
			expectChange(t, text+", in one piece", pages, turn(old, r), stepsOn(t, pages).set(1, slot, cellOf(impl.FlagRow, r)).edits...)
		}
	}
	// Behind a stub it is the page of the cell that is compacted, not that of the stub.
	old, r := rowOf(2, 2, 2, "abcd"), rowOf(2, 2, 2, "abcdefgh")
	room := pageWith(t, rowCell(0, 1, 0, "abcdefgh"), movedCell(2, 2, 2, "abcd"), rowCell(0, 2, 0, "abcdefgh"), rowCell(0, 3, 0, "abcdefgh"))
	pages := [][]byte{pageWith(t, nil, stubCell(1, 1)), without(t, room, 0)}
	expectChange(t, "behind a stub", pages, turn(old, r), stepsOn(t, pages).compact(1).set(1, 1, cellOf(impl.FlagMoved, r)).edits...)
	pages = [][]byte{without(t, room, 2), pageWith(t, stubCell(0, 1))}
	expectChange(t, "ahead of its stub", pages, turn(old, r), stepsOn(t, pages).compact(0).set(0, 1, cellOf(impl.FlagMoved, r)).edits...)
	both := pageWith(t, rowCell(0, 1, 0, "abcdefgh"), stubCell(0, 2), movedCell(2, 2, 2, "abcd"), rowCell(0, 3, 0, "abcdefgh"), rowCell(0, 4, 0, "abc"))
	pages = [][]byte{without(t, both, 0)}
	expectChange(t, "in the page of its stub", pages, turn(old, r), stepsOn(t, pages).compact(0).set(0, 2, cellOf(impl.FlagMoved, r)).edits...)
}

// The moved cell comes first, then the stub in its old place.
func TestUpdateEditsToAnotherPage(t *testing.T) {
	brim, empty := brimPages(t, 12), impl.NewPage(4).Page
	for slot := range int64(5) {
		old := brimRow(1, slot)
		r := grown(old)
		cell, c := cellOf(impl.FlagMoved, r), turn(old, r)
		pages := [][]byte{empty, brim[1], empty}
		expectChange(t, "to a page ahead", pages, c, stepsOn(t, pages).put(0, 0, cell).set(1, slot, stubCell(0, 0)).edits...)
		pages = [][]byte{brim[0], brim[1], brim[2], pageWith(t, rowCell(3, 99, 9, ""), nil, rowCell(3, 98, 9, "")), empty}
		expectChange(t, "to a page behind", pages, c, stepsOn(t, pages).put(3, 1, cell).set(1, slot, stubCell(3, 1)).edits...)
		pages = [][]byte{brim[0], brim[1], brim[2]}
		expectChange(t, "to a new page", pages, c, stepsOn(t, pages).fresh(cell).set(1, slot, stubCell(3, 0)).edits...)
		pages = [][]byte{brim[0], brim[1], without(t, brim[2], 0, 3)}
		expectChange(t, "to a page in pieces", pages, c, stepsOn(t, pages).compact(2).put(2, 0, cell).set(1, slot, stubCell(2, 0)).edits...)
		pages = [][]byte{brim[1]}
		expectChange(t, "out of the only page", pages, c, stepsOn(t, pages).fresh(cell).set(0, slot, stubCell(1, 0)).edits...)
	}
	// A stub may tell the last page, and a slot far behind.
	pages := clonePages(brim)
	pages[11] = sparsePage(15, rowCell(3, 99, 9, ""))
	old := brimRow(0, 0)
	expectChange(t, "to the last page", pages, turn(old, grown(old)), stepsOn(t, pages).put(11, 0, cellOf(impl.FlagMoved, grown(old))).set(0, 0, stubCell(11, 0)).edits...)
	pages[11] = pageWith(t, rowCell(3, 99, 9, ""), stubCell(11, 3), stubCell(11, 4), movedCell(3, 1, 1, ""), movedCell(3, 2, 2, ""))
	expectChange(t, "to a slot behind", pages, turn(old, grown(old)), stepsOn(t, pages).put(11, 5, cellOf(impl.FlagMoved, grown(old))).set(0, 0, stubCell(11, 5)).edits...)
}

// The room in all would do, but the old cell stands in it: the page is compacted in vain, and that edit stays.
func TestUpdateEditsCompactsInVain(t *testing.T) {
	brim, empty := brimPages(t, 12), impl.NewPage(4).Page
	for slot := range int64(5) {
		old := brimRow(1, slot)
		r := grown(old)
		cell, c := cellOf(impl.FlagMoved, r), turn(old, r)
		gap := without(t, brim[1], (slot+1)%4)
		pages := [][]byte{brim[0], gap, empty}
		expectChange(t, "then a later page", pages, c, stepsOn(t, pages).compact(1).put(2, 0, cell).set(1, slot, stubCell(2, 0)).edits...)
		pages = [][]byte{empty, gap}
		expectChange(t, "then a page ahead", pages, c, stepsOn(t, pages).compact(1).put(0, 0, cell).set(1, slot, stubCell(0, 0)).edits...)
		pages = [][]byte{brim[0], gap}
		expectChange(t, "then a new page", pages, c, stepsOn(t, pages).compact(1).fresh(cell).set(1, slot, stubCell(2, 0)).edits...)
		pages = [][]byte{brim[0], gap, without(t, brim[2], 0, 1)}
		expectChange(t, "then one that is compacted, too", pages, c, stepsOn(t, pages).compact(1).compact(2).put(2, 0, cell).set(1, slot, stubCell(2, 0)).edits...)
		pages = [][]byte{brim[0], impl.CompactPage(gap).Page, empty}
		expectChange(t, "in one piece already", pages, c, stepsOn(t, pages).put(2, 0, cell).set(1, slot, stubCell(2, 0)).edits...)
		pages = clonePages(brim)
		pages[1] = gap
		expectChangeCode(t, "12 pages, no room", pages, c, impl.ErrFull)
		pages[1] = impl.CompactPage(gap).Page
		expectChangeCode(t, "12 pages, in one piece, no room", pages, c, impl.ErrFull)
		expectChange(t, "11 pages", pages[:11], c, stepsOn(t, pages[:11]).fresh(cell).set(1, slot, stubCell(11, 0)).edits...)
	}
}

func TestUpdateEditsAroundMaxPages(t *testing.T) {
	for count := 1; count <= 12; count++ {
		pages := brimPages(t, count)
		for page := range int64(count) {
			old := brimRow(page, page%5)
			c, name := turn(old, grown(old)), strconv.Itoa(count)+" full pages"
			if count == 12 {
				expectChangeCode(t, name, pages, c, impl.ErrFull)
				continue
			}
			expectChange(t, name, pages, c, stepsOn(t, pages).fresh(cellOf(impl.FlagMoved, grown(old))).set(int(page), page%5, stubCell(int64(count), 0)).edits...)
		}
	}
	expectChangeCode(t, "one page more", append(brimPages(t, 12), impl.NewPage(0).Page), turn(brimRow(0, 0), grown(brimRow(0, 0))), impl.ErrMany)
}

// The new cell comes first, then the stub, and the old cell goes at last.
func TestUpdateEditsOnToAThirdPage(t *testing.T) {
	old, r := rowOf(2, 2, 2, "ab"), rowOf(2, 2, 3, "abcdefgh")
	cell, c := cellOf(impl.FlagMoved, r), turn(old, r)
	brim, empty := brimPages(t, 12), impl.NewPage(4).Page
	// Pages in which the moved cell has no room to grow, in the middle and in the last slot.
	middle := pageWith(t, rowCell(3, 1, 0, "abcdefgh"), movedCell(2, 2, 2, "ab"), rowCell(3, 2, 0, "abcdefgh"), rowCell(3, 3, 0, "abcdefgh"))
	last := pageWith(t, rowCell(3, 1, 0, "abcdefgh"), rowCell(3, 2, 0, "abcdefgh"), rowCell(3, 3, 0, "abcdefgh"), movedCell(2, 2, 2, "ab"))
	// A page with its stub in slot 1, and no byte left.
	stubbed := func(page int64, slot int64) []byte {
		return pageWith(t, rowCell(3, 11, 0, "abcdefgh"), stubCell(page, slot), rowCell(3, 12, 0, "abcdefgh"), rowCell(3, 13, 0, "abcdefgh"), rowCell(3, 14, 0, "a"))
	}
	pages := [][]byte{stubbed(1, 1), middle, brim[2], empty}
	expectChange(t, "to a page behind both", pages, c, stepsOn(t, pages).put(3, 0, cell).set(0, 1, stubCell(3, 0)).drop(1, 1).edits...)
	pages = [][]byte{stubbed(1, 3), last, brim[2], empty}
	expectChange(t, "out of the last slot", pages, c, stepsOn(t, pages).put(3, 0, cell).set(0, 1, stubCell(3, 0)).drop(1, 3).edits...)
	pages = [][]byte{stubbed(2, 1), empty, middle}
	expectChange(t, "to a page between", pages, c, stepsOn(t, pages).put(1, 0, cell).set(0, 1, stubCell(1, 0)).drop(2, 1).edits...)
	pages = [][]byte{empty, stubbed(2, 1), middle}
	expectChange(t, "to a page ahead of both", pages, c, stepsOn(t, pages).put(0, 0, cell).set(1, 1, stubCell(0, 0)).drop(2, 1).edits...)
	pages = [][]byte{middle, brim[1], stubbed(0, 1), empty}
	expectChange(t, "where the stub stands behind", pages, c, stepsOn(t, pages).put(3, 0, cell).set(2, 1, stubCell(3, 0)).drop(0, 1).edits...)
	pages = [][]byte{stubbed(1, 1), middle}
	expectChange(t, "to a new page", pages, c, stepsOn(t, pages).fresh(cell).set(0, 1, stubCell(2, 0)).drop(1, 1).edits...)
	pages = [][]byte{stubbed(1, 1), middle, without(t, brim[2], 0, 1)}
	expectChange(t, "to a page in pieces", pages, c, stepsOn(t, pages).compact(2).put(2, 0, cell).set(0, 1, stubCell(2, 0)).drop(1, 1).edits...)
	pages = [][]byte{stubbed(1, 1), without(t, middle, 0), brim[2]}
	expectChange(t, "where its own page has room again", pages, c, stepsOn(t, pages).compact(1).set(1, 1, cell).edits...)

	full := append([][]byte{stubbed(1, 1), middle}, brim[2:]...)
	expectChangeCode(t, "12 full pages", full, c, impl.ErrFull)
	expectChange(t, "11 full pages", full[:11], c, stepsOn(t, full[:11]).fresh(cell).set(0, 1, stubCell(11, 0)).drop(1, 1).edits...)
}

func TestUpdateEditsToThePageOfItsStub(t *testing.T) {
	old, r := rowOf(2, 2, 2, "ab"), rowOf(2, 2, 3, "abcdefgh")
	cell, c := cellOf(impl.FlagMoved, r), turn(old, r)
	brim := brimPages(t, 12)
	middle := pageWith(t, rowCell(3, 1, 0, "abcdefgh"), movedCell(2, 2, 2, "ab"), rowCell(3, 2, 0, "abcdefgh"), rowCell(3, 3, 0, "abcdefgh"))
	pages := [][]byte{pageWith(t, stubCell(1, 1)), middle}
	expectChange(t, "with room", pages, c, stepsOn(t, pages).put(0, 1, cell).set(0, 0, stubCell(0, 1)).drop(1, 1).edits...)
	pages = [][]byte{pageWith(t, nil, stubCell(1, 1)), middle}
	expectChange(t, "ahead of its stub", pages, c, stepsOn(t, pages).put(0, 0, cell).set(0, 1, stubCell(0, 0)).drop(1, 1).edits...)
	pages = [][]byte{middle, brim[1], pageWith(t, stubCell(0, 1), rowCell(3, 9, 0, ""))}
	expectChange(t, "in a page behind", pages, c, stepsOn(t, pages).put(2, 2, cell).set(2, 0, stubCell(2, 2)).drop(0, 1).edits...)
	stubbed := pageWith(t, rowCell(3, 11, 0, "abcdefgh"), stubCell(1, 1), rowCell(3, 12, 0, "abcdefgh"), rowCell(3, 13, 0, "abcdefgh"), rowCell(3, 14, 0, "a"))
	pages = [][]byte{without(t, stubbed, 2), middle}
	expectChange(t, "in pieces", pages, c, stepsOn(t, pages).compact(0).put(0, 2, cell).set(0, 1, stubCell(0, 2)).drop(1, 1).edits...)
	pages = append([][]byte{without(t, stubbed, 0), middle}, brim[2:]...)
	expectChange(t, "in pieces, of 12 pages", pages, c, stepsOn(t, pages).compact(0).put(0, 0, cell).set(0, 1, stubCell(0, 0)).drop(1, 1).edits...)
}

// Its own page is compacted in vain first, also where its stub stands there.
func TestUpdateEditsBehindAStubCompactsInVain(t *testing.T) {
	old, r := rowOf(2, 2, 2, "ab"), rowOf(2, 2, 3, "abcdefgh")
	cell, c := cellOf(impl.FlagMoved, r), turn(old, r)
	brim, empty := brimPages(t, 12), impl.NewPage(4).Page
	home := pageWith(t, rowCell(3, 1, 0, "abcdefgh"), movedCell(2, 2, 2, "ab"), rowCell(3, 2, 0, "ab"), rowCell(3, 3, 0, "abcdefgh"), rowCell(3, 4, 0, "a"))
	home = without(t, home, 2)
	pages := [][]byte{pageWith(t, stubCell(1, 1)), home}
	expectChange(t, "to the page of its stub", pages, c, stepsOn(t, pages).compact(1).put(0, 1, cell).set(0, 0, stubCell(0, 1)).drop(1, 1).edits...)
	pages = [][]byte{home, pageWith(t, stubCell(0, 1)), empty}
	expectChange(t, "ahead of its stub", pages, c, stepsOn(t, pages).compact(0).put(1, 1, cell).set(1, 0, stubCell(1, 1)).drop(0, 1).edits...)
	pages = [][]byte{home, impl.SetSlot(brim[1], 0, stubCell(0, 1)).Page, without(t, brim[2], 3, 4)}
	expectChange(t, "to a third page in pieces", pages, c, stepsOn(t, pages).compact(0).compact(2).put(2, 3, cell).set(1, 0, stubCell(2, 3)).drop(0, 1).edits...)
	pages = [][]byte{home, impl.SetSlot(brim[1], 0, stubCell(0, 1)).Page}
	expectChange(t, "to a new page", pages, c, stepsOn(t, pages).compact(0).fresh(cell).set(1, 0, stubCell(2, 0)).drop(0, 1).edits...)
	pages[0] = impl.CompactPage(home).Page
	expectChange(t, "in one piece already", pages, c, stepsOn(t, pages).fresh(cell).set(1, 0, stubCell(2, 0)).drop(0, 1).edits...)
	pages = append(pages, brim[2:]...)
	expectChangeCode(t, "12 pages, in one piece already", pages, c, impl.ErrFull)
	pages[0] = home
	expectChangeCode(t, "12 pages", pages, c, impl.ErrFull)

}

// onePage has both the stub of 2/2 and its cell, and no byte left.
func onePage(t *testing.T, stub int64, home int64) []byte {
	t.Helper()
	var cells [][]byte
	for slot := range int64(5) {
		cells = append(cells, rowCell(3, 1+slot, 0, "abcdefgh"))
	}
	cells[2] = rowCell(3, 3, 0, "abcdefg")
	cells[stub], cells[home] = stubCell(0, home), movedCell(2, 2, 2, "ab")
	return pageWith(t, cells...)
}

func TestUpdateEditsOutOfThePageOfItsStub(t *testing.T) {
	old, r := rowOf(2, 2, 2, "ab"), rowOf(2, 2, 3, "abcdefgh")
	cell, c := cellOf(impl.FlagMoved, r), turn(old, r)
	brim := brimPages(t, 12)
	for _, at := range [][2]int64{{0, 1}, {1, 0}, {1, 3}, {3, 1}, {0, 4}, {4, 0}, {3, 4}, {4, 3}} {
		stub, home := at[0], at[1]
		full := onePage(t, stub, home)
		pages := [][]byte{full}
		expectChange(t, "a full page", pages, c, stepsOn(t, pages).fresh(cell).set(0, stub, stubCell(1, 0)).drop(0, home).edits...)
		pages = [][]byte{full, brim[1], impl.NewPage(0).Page}
		expectChange(t, "a full page, then room", pages, c, stepsOn(t, pages).put(2, 0, cell).set(0, stub, stubCell(2, 0)).drop(0, home).edits...)
		// 13 bytes are free then, and 8 are those of the cell itself.
		pages = [][]byte{without(t, full, 2), brim[1]}
		expectChange(t, "compacted in vain", pages, c, stepsOn(t, pages).compact(0).fresh(cell).set(0, stub, stubCell(2, 0)).drop(0, home).edits...)
		shorter := rowOf(2, 2, 3, "abcdefg")
		expectChange(t, "compacted", pages, turn(old, shorter), stepsOn(t, pages).compact(0).set(0, home, cellOf(impl.FlagMoved, shorter)).edits...)
		expectChangeCode(t, "12 pages", append(pages, brim[2:]...), c, impl.ErrFull)
	}
}

func TestDeleteEditsOfRows(t *testing.T) {
	pages := brimPages(t, 3)
	for page := range 3 {
		for slot := range int64(5) {
			expectChange(t, "of a full page", pages, drop(brimRow(int64(page), slot)), stepsOn(t, pages).drop(page, slot).edits...)
		}
	}
	sparse := [][]byte{impl.NewPage(0).Page, sparsePage(15, rowCell(3, 99, 1, "z"))}
	expectChange(t, "the only one, in slot 15", sparse, drop(rowOf(3, 99, 1, "z")), stepsOn(t, sparse).drop(1, 15).edits...)
	if got := impl.DeleteEdits(sparse, 3, 99); got.Pages[1][0] != 0 || len(got.Pages) != 2 {
		t.Errorf("a page without slots stays: %+v", got)
	}
	// Moved cells that nobody tells stay, also those of its key.
	lone := [][]byte{pageWith(t, movedCell(1, 2, 3, "lone"), rowCell(1, 2, 9, "seen"), movedCell(1, 2, 3, "lone"))}
	expectChange(t, "beside moved cells", lone, drop(rowOf(1, 2, 9, "seen")), stepsOn(t, lone).drop(0, 1).edits...)
}

// The stub goes first, and then the cell that it told.
func TestDeleteEditsBehindStubs(t *testing.T) {
	r := rowOf(2, 2, 2, "ab")
	moved := cellOf(impl.FlagMoved, r)
	pages := [][]byte{pageWith(t, stubCell(1, 0)), pageWith(t, moved)}
	expectChange(t, "alone", pages, drop(r), stepsOn(t, pages).drop(0, 0).drop(1, 0).edits...)
	pages = [][]byte{pageWith(t, rowCell(0, 1, 1, ""), nil, moved, rowCell(0, 2, 1, "")), impl.NewPage(0).Page, pageWith(t, rowCell(0, 3, 1, ""), stubCell(0, 2), rowCell(0, 4, 1, ""))}
	expectChange(t, "a stub behind, among others", pages, drop(r), stepsOn(t, pages).drop(2, 1).drop(0, 2).edits...)
	pages = [][]byte{pageWith(t, stubCell(2, 0)), pageWith(t, moved, moved), pageWith(t, moved, moved)}
	expectChange(t, "its likes stay", pages, drop(r), stepsOn(t, pages).drop(0, 0).drop(2, 0).edits...)
	for _, at := range [][2]int64{{0, 1}, {1, 0}, {1, 3}, {3, 1}, {0, 4}, {4, 0}, {3, 4}, {4, 3}} {
		pages = [][]byte{onePage(t, at[0], at[1])}
		expectChange(t, "in one page", pages, drop(r), stepsOn(t, pages).drop(0, at[0]).drop(0, at[1]).edits...)
	}
	for page := range 12 {
		for slot := range 16 {
			pages = make([][]byte, 12)
			for i := range pages {
				pages[i] = impl.NewPage(0).Page
			}
			stubAt := (page + 7) % 12
			pages[page], pages[stubAt] = sparsePage(slot, moved), sparsePage(15-slot, stubCell(int64(page), int64(slot)))
			expectChange(t, "any place", pages, drop(r), stepsOn(t, pages).drop(stubAt, int64(15-slot)).drop(page, int64(slot)).edits...)
		}
	}
}

// Rows that are gone leave room to others, and a row may come back.
func TestEditsOneBehindTheOther(t *testing.T) {
	pages := brimPages(t, 12)
	old := brimRow(5, 2)
	expectChangeCode(t, "no room", pages, put(rowOf(3, 99, 9, "")), impl.ErrFull)
	pages = impl.DeleteEdits(pages, old.Table, old.Key).Pages
	expectChange(t, "room again", pages, put(rowOf(3, 99, 9, "")), stepsOn(t, pages).compact(5).put(5, 2, rowCell(3, 99, 9, "")).edits...)
	pages = impl.InsertEdits(pages, old).Pages
	expectChange(t, "back again, and gone again", pages, drop(old), stepsOn(t, pages).drop(5, 2).edits...)
	expectChangeCode(t, "no room again", pages, put(rowOf(3, 99, 9, "")), impl.ErrFull)
}

// modelHeap goes the ways of the document, word by word: no label, nothing deferred.
type modelHeap struct {
	pages [][]byte
	edits []impl.Edit
	way   []string
}

func (m *modelHeap) edit(what string, page int64, data []byte) {
	if page < int64(len(m.pages)) && bytes.Equal(m.pages[page], data) {
		m.way = append(m.way, "("+what+")")
		return
	}
	e := impl.Edit{Page: page, Bytes: data}
	m.pages, m.edits, m.way = withEdit(m.pages, e), append(m.edits, e), append(m.way, what)
}

func (m *modelHeap) place(cell []byte, but int64) (page int64, slot int64, ok bool) {
	for number := range int64(len(m.pages)) {
		if number == but {
			continue
		}
		got := impl.PutSlot(m.pages[number], cell)
		if got.Code == impl.ErrState {
			m.edit("compact", number, impl.CompactPage(m.pages[number]).Page)
			got = impl.PutSlot(m.pages[number], cell)
		}
		if got.Code == impl.OK {
			m.edit("put", number, got.Page)
			return number, got.Slot, true
		}
	}
	if len(m.pages) == 12 {
		return 0, 0, false
	}
	page = int64(len(m.pages))
	m.edit("new", page, impl.PutSlot(impl.NewPage(0).Page, cell).Page)
	return page, 0, true
}

func (m *modelHeap) turn(what string, page int64, slot int64, cell []byte) bool {
	got := impl.SetSlot(m.pages[page], slot, cell)
	if got.Code == impl.ErrState {
		m.edit("compact", page, impl.CompactPage(m.pages[page]).Page)
		got = impl.SetSlot(m.pages[page], slot, cell)
	}
	if got.Code != impl.OK {
		return false
	}
	m.edit(what, page, got.Page)
	return true
}

func (m *modelHeap) drop(page int64, slot int64) {
	m.edit("drop", page, impl.DropSlot(m.pages[page], slot).Page)
}

func (m *modelHeap) update(f found, home impl.CellResult, r impl.Row) bool {
	if home.Flag != impl.FlagStub {
		if m.turn("set", f.page, f.slot, cellOf(impl.FlagRow, r)) {
			return true
		}
		page, slot, ok := m.place(cellOf(impl.FlagMoved, r), f.page)
		return ok && m.turn("stub", f.page, f.slot, stubCell(page, slot))
	}
	if m.turn("moved", home.Page, home.Slot, cellOf(impl.FlagMoved, r)) {
		return true
	}
	page, slot, ok := m.place(cellOf(impl.FlagMoved, r), home.Page)
	if !ok || !m.turn("stub", f.page, f.slot, stubCell(page, slot)) {
		return false
	}
	if page == f.page {
		m.way = append(m.way, "home")
	}
	m.drop(home.Page, home.Slot)
	return true
}

// expectedEdits is asked for changes that fit alone.
func expectedEdits(pages [][]byte, c impl.Change) (*modelHeap, int64) {
	m := &modelHeap{pages: clonePages(pages)}
	view, _ := expectedView(pages)
	at := slices.IndexFunc(view, func(f found) bool { return f.row.Table == c.Before.Table && f.row.Key == c.Before.Key })
	if !c.Was {
		if _, _, ok := m.place(cellOf(impl.FlagRow, c.After), -1); !ok {
			return m, impl.ErrFull
		}
		return m, impl.OK
	}
	home := impl.UnpackCell(impl.SlotIn(pages[view[at].page], view[at].slot).Bytes)
	switch {
	case !c.Is:
		m.drop(view[at].page, view[at].slot)
		if home.Flag == impl.FlagStub {
			m.drop(home.Page, home.Slot)
		}
	case c.Before != c.After && !m.update(view[at], home, c.After):
		return m, impl.ErrFull
	}
	return m, impl.OK
}

// anyPages have any cells, moved ones that nobody tells too, in pages that are no longer new.
func anyPages(next func(int) int) [][]byte {
	pages := make([][]byte, next(13))
	for i := range pages {
		pages[i] = impl.NewPage(byte(next(256))).Page
	}
	try := func(i int, got impl.PageResult) bool {
		if got.Code != impl.OK {
			return false
		}
		was := pages[i]
		pages[i] = got.Page
		if impl.PagesFault(pages) != impl.OK {
			pages[i] = was
			return false
		}
		return true
	}
	for range next(1 + 8*len(pages)) {
		i, j := next(len(pages)), next(len(pages))
		r := rowOf(int64(next(4)), int64(1+next(18)), int64(next(1000)), strings.Repeat("x", next(9)))
		switch next(4) {
		case 0:
			at := impl.PutSlot(pages[i], cellOf(impl.FlagMoved, r))
			if try(i, at) && next(5) > 0 {
				try(j, impl.PutSlot(pages[j], stubCell(int64(i), at.Slot)))
			}
		case 1:
			try(i, impl.DropSlot(pages[i], int64(next(6))))
		default:
			try(i, impl.PutSlot(pages[i], cellOf(impl.FlagRow, r)))
		}
	}
	return pages
}

// anyChange fits to the rows; the more of them there are to be, the more of them are put.
func anyChange(rows []impl.Row, next func(int) int, puts int) impl.Change {
	r := rowOf(int64(next(4)), int64(1+next(18)), int64(next(3)), "abcdefgh"[:next(9)])
	at := slices.IndexFunc(rows, func(o impl.Row) bool { return o.Table == r.Table && o.Key == r.Key })
	switch {
	case at < 0:
		return put(r)
	case next(10) >= puts:
		return drop(rows[at])
	case next(20) == 0:
		return turn(rows[at], rows[at])
	}
	return turn(rows[at], r)
}

// Long walks of all kinds of changes beside the model; a change with a code turns nothing.
func TestEditsOverLongWalks(t *testing.T) {
	next, counts := numbers(7), map[string]int{}
	for walk := range 60 {
		pages := anyPages(next)
		for range 150 {
			c := anyChange(impl.RowsIn(pages).Rows, next, 4+walk%6)
			want, code := expectedEdits(pages, c)
			counts[strings.Join(want.way, " ")+" "+strconv.FormatInt(code, 10)]++
			if code != impl.OK {
				expectChangeCode(t, "a walk", pages, c, code)
				continue
			}
			got := editsOf(pages, c)
			if !sameEdits(got.Edits, want.edits) || !sameEditsResult(got, impl.EditsFor(pages, c)) {
				t.Fatalf("edits of %+v in %v: %+v, want %v", c, pages, got, want.edits)
			}
			expectLeads(t, "a walk", pages, c, got)
			pages = got.Pages
		}
	}
	for _, way := range []string{
		"put 0", "compact put 0", "new 0", " 9", "compact 9", "(compact) 9", " 0",
		"set 0", "compact set 0", "moved 0", "compact moved 0", "drop 0", "drop drop 0",
		"put stub 0", "compact put stub 0", "compact compact put stub 0", "(compact) put stub 0", "new stub 0", "compact new stub 0",
		"put stub drop 0", "compact put stub drop 0", "compact compact put stub drop 0", "compact put stub home drop 0", "compact new stub drop 0",
	} {
		if counts[way] == 0 {
			t.Errorf("no walk goes the way %q", way)
		}
	}
}

// heapCalls are all that ask the PagesFault first, each with right and with wrong things behind the pages.
func heapCalls(pages [][]byte) map[string]impl.EditsResult {
	calls := map[string]impl.EditsResult{}
	rows := []impl.Row{rowOf(0, 1, 0, ""), rowOf(3, 98, 0, ""), rowOf(3, 50, 1, "new"), rowOf(1, 50, 3, "A"), rowOf(4, 100, 1000, "A"), {}}
	for i, r := range rows {
		n := " of row " + strconv.Itoa(i)
		calls["InsertEdits"+n] = impl.InsertEdits(pages, r)
		calls["UpdateEdits"+n] = impl.UpdateEdits(pages, r)
		calls["DeleteEdits"+n] = impl.DeleteEdits(pages, r.Table, r.Key)
		calls["EditsFor a put"+n] = impl.EditsFor(pages, put(r))
		calls["EditsFor a drop"+n] = impl.EditsFor(pages, drop(r))
		calls["EditsFor a turn"+n] = impl.EditsFor(pages, turn(r, r))
		calls["EditsFor another key"+n] = impl.EditsFor(pages, turn(r, rowOf(2, 2, 2, "")))
	}
	calls["EditsFor nothing"] = impl.EditsFor(pages, impl.Change{})
	calls["DeleteEdits far away"] = impl.DeleteEdits(pages, math.MinInt64, math.MaxInt64)
	return calls
}

func TestEditsAskThePagesFaultFirst(t *testing.T) {
	expect := func(name string, pages [][]byte, code int64) {
		t.Helper()
		if got := impl.PagesFault(pages); got != code {
			t.Fatalf("%s: PagesFault = %d, want %d", name, got, code)
		}
		for call, got := range heapCalls(pages) {
			expectEditsCode(t, name+": "+call, got, code)
		}
	}
	for _, f := range faultyPages(t) {
		for _, count := range []int{1, 4, 12} {
			for _, at := range []int{0, count / 2, count - 1} {
				pages := rightPages(t, count)
				pages[at] = f.page(int64(at))
				expect(f.name, pages, f.code)
			}
		}
		expect(f.name+", 13 pages", append(rightPages(t, 12), f.page(12)), impl.ErrMany)
	}
	expect("13 full pages", append(brimPages(t, 12), impl.NewPage(0).Page), impl.ErrMany)
	expect("13 that are nil", make([][]byte, 13), impl.ErrMany)
	expect("1000 pages", make([][]byte, 1000), impl.ErrMany)
	expect("one that is nil", make([][]byte, 1), impl.ErrForm)
	expect("a stub that tells nothing", [][]byte{pageWith(t, stubCell(0, 1), rowCell(0, 1, 0, ""))}, impl.ErrNone)
	expect("two stubs of one", [][]byte{pageWith(t, stubCell(0, 2), stubCell(0, 2), movedCell(0, 1, 0, ""))}, impl.ErrTaken)
	expect("two rows of one key", [][]byte{pageWith(t, rowCell(0, 1, 0, "")), pageWith(t, rowCell(0, 1, 1, ""))}, impl.ErrState)
}

// A row with a fault tells it, whether its key is there or not, and whether there is room or not.
func TestEditsOfFaultyRows(t *testing.T) {
	there := [][]byte{pageWith(t, rowCell(1, 50, 0, ""), stubCell(0, 2), movedCell(1, 51, 0, ""))}
	for _, pages := range [][][]byte{nil, there, brimPages(t, 12)} {
		for _, f := range faultyRows() {
			expectEditsCode(t, "InsertEdits of "+f.name, impl.InsertEdits(pages, f.row), f.code)
			expectEditsCode(t, "UpdateEdits of "+f.name, impl.UpdateEdits(pages, f.row), f.code)
		}
	}
}

func TestInsertEditsOfTakenKeys(t *testing.T) {
	pages := [][]byte{pageWith(t, rowCell(1, 50, 3, "a"), stubCell(1, 0)), pageWith(t, movedCell(2, 60, 3, "b"))}
	for _, r := range []impl.Row{rowOf(1, 50, 3, "a"), rowOf(1, 50, 4, ""), rowOf(2, 60, 3, "b"), rowOf(2, 60, 9, "abcdefgh")} {
		expectEditsCode(t, "InsertEdits", impl.InsertEdits(pages, r), impl.ErrTaken)
	}
	full := brimPages(t, 12)
	for page := range int64(12) {
		expectEditsCode(t, "InsertEdits without room", impl.InsertEdits(full, brimRow(page, 3)), impl.ErrTaken)
	}
	for _, r := range []impl.Row{rowOf(1, 60, 0, ""), rowOf(2, 50, 0, ""), rowOf(1, 49, 0, ""), rowOf(0, 50, 0, "")} {
		expectChange(t, "half a key", pages, put(r), stepsOn(t, pages).put(0, 2, cellOf(impl.FlagRow, r)).edits...)
	}
}

func TestEditsOfKeysThatAreNotThere(t *testing.T) {
	full := brimPages(t, 12)
	lone := [][]byte{pageWith(t, rowCell(1, 50, 3, "a"), movedCell(3, 99, 3, "lone"))}
	for _, pages := range [][][]byte{nil, {}, {impl.NewPage(0).Page}, full, lone} {
		for _, r := range []impl.Row{rowOf(3, 99, 3, "lone"), rowOf(0, 99, 0, ""), rowOf(3, 1, 999, "abcdefgh"), rowOf(2, 50, 0, "")} {
			expectEditsCode(t, "UpdateEdits", impl.UpdateEdits(pages, r), impl.ErrNone)
			expectEditsCode(t, "DeleteEdits", impl.DeleteEdits(pages, r.Table, r.Key), impl.ErrNone)
			expectEditsCode(t, "EditsFor a turn", impl.EditsFor(pages, turn(r, r)), impl.ErrState)
			expectEditsCode(t, "EditsFor a drop", impl.EditsFor(pages, drop(r)), impl.ErrState)
		}
	}
}

func TestDeleteEditsOfKeysOutOfBounds(t *testing.T) {
	far := []int64{math.MinInt64, -1 << 32, -256, -255, -1, 256, 257, 1<<32 + 1, math.MaxInt64}
	for _, pages := range [][][]byte{nil, {impl.NewPage(0).Page}, brimPages(t, 12)} {
		for _, table := range append([]int64{4, 5}, far...) {
			for _, key := range append([]int64{0, 1, 99, 100}, far...) {
				expectEditsCode(t, "DeleteEdits of a table", impl.DeleteEdits(pages, table, key), impl.ErrRange)
			}
		}
		for table := range int64(4) {
			for _, key := range append([]int64{0, 100, 101}, far...) {
				expectEditsCode(t, "DeleteEdits of a key", impl.DeleteEdits(pages, table, key), impl.ErrRange)
			}
		}
	}
}

// wrongChanges tell their codes beside the rows 0/1, 1/20 and 1/50, here in pages.
func TestEditsForWrongChanges(t *testing.T) {
	few := [][]byte{pageWith(t, rowCell(0, 1, 0, ""), stubCell(1, 0)), pageWith(t, movedCell(1, 20, 1, "a"), rowCell(1, 50, 0, ""))}
	for name, f := range wrongChanges() {
		expectEditsCode(t, name, impl.EditsFor(few, f.change), f.code)
		if f.code != impl.ErrState {
			expectEditsCode(t, name+", without room", impl.EditsFor(brimPages(t, 12), f.change), f.code)
			expectEditsCode(t, name+", without pages", impl.EditsFor(nil, f.change), f.code)
		}
	}
}

func TestEditsForChangesThatDoNotFit(t *testing.T) {
	a, b, other := rowOf(1, 50, 3, "a"), rowOf(2, 60, 3, "b"), rowOf(3, 70, 3, "c")
	pages := [][]byte{pageWith(t, cellOf(impl.FlagRow, a), stubCell(1, 0)), pageWith(t, cellOf(impl.FlagMoved, b), cellOf(impl.FlagMoved, other))}
	for _, r := range []impl.Row{a, b} {
		val, text := r, r
		val.Val, text.Text = 4, "ab"
		for _, c := range []impl.Change{put(r), put(val), put(text), drop(val), drop(text), turn(val, r), turn(text, r), turn(val, val), turn(text, val)} {
			expectEditsCode(t, "EditsFor", impl.EditsFor(pages, c), impl.ErrState)
		}
	}
	// A moved cell that nobody tells is no row.
	for _, c := range []impl.Change{drop(other), turn(other, other), turn(other, rowOf(3, 70, 4, ""))} {
		expectEditsCode(t, "EditsFor", impl.EditsFor(pages, c), impl.ErrState)
	}
	expectChange(t, "a put beside a moved cell", pages, put(other), stepsOn(t, pages).put(0, 2, cellOf(impl.FlagRow, other)).edits...)
	// It does not fit, and there would be no room either.
	full := brimPages(t, 12)
	r := brimRow(3, 3)
	r.Val = 999
	expectEditsCode(t, "EditsFor without room", impl.EditsFor(full, turn(r, grown(r))), impl.ErrState)
	expectEditsCode(t, "EditsFor without room", impl.EditsFor(full, put(r)), impl.ErrState)
	expectEditsCode(t, "EditsFor without room", impl.EditsFor(full, put(other)), impl.ErrFull)
	expectEditsCode(t, "EditsFor without room", impl.EditsFor(full, turn(brimRow(3, 3), grown(brimRow(3, 3)))), impl.ErrFull)
}

// Without Was nobody asks Before for anything, nor After without Is.
func TestEditsForPassesByWhatIsNotSaid(t *testing.T) {
	a, b := rowOf(1, 50, 3, "a"), rowOf(1, 20, 3, "b")
	pages := [][]byte{pageWith(t, cellOf(impl.FlagRow, a))}
	for _, f := range append(faultyRows(), faultyRow{"a right row", rowOf(3, 3, 3, "c"), impl.OK}, faultyRow{"a row that is there", a, impl.OK}) {
		comes, goes := put(b), drop(a)
		comes.Before, goes.After = f.row, f.row
		if got := impl.EditsFor(pages, comes); !sameEditsResult(got, impl.InsertEdits(pages, b)) || got.Code != impl.OK {
			t.Errorf("put beside %s: %+v", f.name, got)
		}
		if got := impl.EditsFor(pages, goes); !sameEditsResult(got, impl.DeleteEdits(pages, 1, 50)) || got.Code != impl.OK {
			t.Errorf("drop beside %s: %+v", f.name, got)
		}
		comes.After = a
		expectEditsCode(t, "put of one there, beside "+f.name, impl.EditsFor(pages, comes), impl.ErrState)
		goes.Before = b
		expectEditsCode(t, "drop of one not there, beside "+f.name, impl.EditsFor(pages, goes), impl.ErrState)
	}
}

// turning are the edits that turn something, each one as pages are then. It asks nothing of the program.
func turning(pages [][]byte, edits []impl.Edit) []impl.Edit {
	var kept []impl.Edit
	for _, e := range edits {
		if int(e.Page) == len(pages) || !bytes.Equal(pages[e.Page], e.Bytes) {
			kept = append(kept, e)
		}
		pages = withEdit(pages, e)
	}
	return kept
}

// expectApplied asks for all edits that turn something, and for the pages that come of them.
func expectApplied(t *testing.T, name string, pages [][]byte, edits []impl.Edit, want [][]byte) {
	t.Helper()
	kept := turning(pages, edits)
	if got := impl.ApplyEdits(pages, edits); got.Code != impl.OK || !sameEdits(got.Edits, kept) || !samePages(got.Pages, want) {
		t.Errorf("%s: ApplyEdits = %+v, want %v and %v", name, got, kept, want)
	}
}

func expectApplyEditsCode(t *testing.T, name string, pages [][]byte, edits []impl.Edit, code int64) {
	t.Helper()
	expectEditsCode(t, name+": ApplyEdits", impl.ApplyEdits(pages, edits), code)
}

// filled is any 64 bytes: to apply an edit nobody asks whether they are a page.
func filled(b byte) []byte {
	return bytes.Repeat([]byte{b}, 64)
}

func filledPages(count int) [][]byte {
	var pages [][]byte
	for i := range count {
		pages = append(pages, filled(byte(100+i)))
	}
	return pages
}

func TestApplyEditsOfEachPage(t *testing.T) {
	expectApplied(t, "nothing", nil, nil, nil)
	expectApplied(t, "empty lists", [][]byte{}, []impl.Edit{}, nil)
	for count := range 13 {
		pages := filledPages(count)
		expectApplied(t, "no edits", pages, nil, pages)
		for page := int64(-2); page <= 15; page++ {
			e := impl.Edit{Page: page, Bytes: filled(7)}
			name := strconv.Itoa(count) + " pages, edit of " + strconv.FormatInt(page, 10)
			switch {
			case page < 0 || page > int64(count):
				expectApplyEditsCode(t, name, pages, []impl.Edit{e}, impl.ErrForm)
			case page == 12:
				expectApplyEditsCode(t, name, pages, []impl.Edit{e}, impl.ErrMany)
			default:
				expectApplied(t, name, pages, []impl.Edit{e}, withEdit(pages, e))
			}
		}
		for _, page := range farNumbers {
			expectApplyEditsCode(t, "far away", pages, []impl.Edit{{Page: page, Bytes: filled(7)}}, impl.ErrForm)
		}
	}
}

func TestApplyEditsOneBehindTheOther(t *testing.T) {
	three := filledPages(3)
	edits := []impl.Edit{{Page: 3, Bytes: filled(1)}, {Page: 4, Bytes: filled(2)}}
	expectApplied(t, "the second fits behind the first", three, edits, append(filledPages(3), filled(1), filled(2)))
	expectApplyEditsCode(t, "the second ahead", three, []impl.Edit{edits[1], edits[0]}, impl.ErrForm)
	expectApplyEditsCode(t, "the second alone", three, edits[1:], impl.ErrForm)
	expectApplied(t, "a new page, twice", three, []impl.Edit{edits[0], {Page: 3, Bytes: filled(9)}}, append(filledPages(3), filled(9)))
	expectApplied(t, "one page, three times", three, []impl.Edit{{Page: 1, Bytes: filled(1)}, {Page: 1, Bytes: filled(2)}, {Page: 1, Bytes: filled(3)}}, [][]byte{filled(100), filled(3), filled(102)})
	expectApplied(t, "what turns nothing", three, []impl.Edit{{Page: 2, Bytes: filled(102)}, {Page: 0, Bytes: filled(100)}}, three)
	var all []impl.Edit
	for page := range int64(12) {
		all = append(all, impl.Edit{Page: page, Bytes: filled(byte(100 + page))})
	}
	expectApplied(t, "all pages of nothing", nil, all, filledPages(12))
	expectApplied(t, "all pages again and again", nil, slices.Repeat(all, 100), filledPages(12))
	expectApplied(t, "all pages of all", brimPages(t, 12), all, filledPages(12))
	expectApplyEditsCode(t, "one too many", nil, append(slices.Clone(all), impl.Edit{Page: 12, Bytes: filled(1)}), impl.ErrMany)
	expectApplyEditsCode(t, "one too many, of 11", filledPages(11), []impl.Edit{{Page: 11, Bytes: filled(1)}, {Page: 12, Bytes: filled(1)}}, impl.ErrMany)
}

func TestApplyEditsTellsItsEdits(t *testing.T) {
	edit := func(page int64, b byte) impl.Edit { return impl.Edit{Page: page, Bytes: filled(b)} }
	two := [][]byte{filled(1), filled(2)}
	for _, c := range []struct {
		name        string
		pages       [][]byte
		given, want []impl.Edit
		then        [][]byte
	}{
		{"none", two, nil, nil, two},
		{"one", two, []impl.Edit{edit(1, 5)}, []impl.Edit{edit(1, 5)}, [][]byte{filled(1), filled(5)}},
		{"falling pages", two, []impl.Edit{edit(1, 5), edit(0, 6)}, []impl.Edit{edit(1, 5), edit(0, 6)}, [][]byte{filled(6), filled(5)}},
		{"rising pages", two, []impl.Edit{edit(0, 6), edit(1, 5)}, []impl.Edit{edit(0, 6), edit(1, 5)}, [][]byte{filled(6), filled(5)}},
		{"new pages", two, []impl.Edit{edit(2, 5), edit(3, 6)}, []impl.Edit{edit(2, 5), edit(3, 6)}, [][]byte{filled(1), filled(2), filled(5), filled(6)}},
		{"one page again and again", two, []impl.Edit{edit(0, 5), edit(0, 6), edit(0, 7)}, []impl.Edit{edit(0, 5), edit(0, 6), edit(0, 7)}, [][]byte{filled(7), filled(2)}},
		{"there and back", two, []impl.Edit{edit(0, 5), edit(0, 1)}, []impl.Edit{edit(0, 5), edit(0, 1)}, two},
		{"nothing turned", two, []impl.Edit{edit(0, 1), edit(1, 2)}, nil, two},
		{"nothing turned ahead", two, []impl.Edit{edit(0, 1), edit(1, 5)}, []impl.Edit{edit(1, 5)}, [][]byte{filled(1), filled(5)}},
		{"nothing turned behind", two, []impl.Edit{edit(1, 5), edit(0, 1)}, []impl.Edit{edit(1, 5)}, [][]byte{filled(1), filled(5)}},
		{"the same twice", two, []impl.Edit{edit(1, 5), edit(1, 5), edit(0, 5)}, []impl.Edit{edit(1, 5), edit(0, 5)}, [][]byte{filled(5), filled(5)}},
		{"a new page twice", two, []impl.Edit{edit(2, 5), edit(2, 5)}, []impl.Edit{edit(2, 5)}, [][]byte{filled(1), filled(2), filled(5)}},
		{"a new page of zeros", two, []impl.Edit{edit(2, 0)}, []impl.Edit{edit(2, 0)}, [][]byte{filled(1), filled(2), filled(0)}},
		{"the first page", nil, []impl.Edit{edit(0, 5)}, []impl.Edit{edit(0, 5)}, [][]byte{filled(5)}},
	} {
		if got := impl.ApplyEdits(c.pages, c.given); got.Code != impl.OK || !sameEdits(got.Edits, c.want) || !samePages(got.Pages, c.then) {
			t.Errorf("%s: ApplyEdits = %+v, want %v and %v", c.name, got, c.want, c.then)
		}
		for _, wrong := range []impl.Edit{{Page: 0}, edit(-1, 5), edit(9, 5)} {
			expectApplyEditsCode(t, c.name+" and a wrong one", c.pages, append(slices.Clone(c.given), wrong), impl.ErrForm)
		}
	}
}

// A page that is new turns something, even where it is empty as any new page is.
func TestApplyEditsOfAnEmptyNewPage(t *testing.T) {
	empty := impl.NewPage(0).Page
	var pages [][]byte
	for number := range int64(12) {
		got := impl.ApplyEdits(pages, []impl.Edit{{Page: number, Bytes: empty}, {Page: number, Bytes: empty}})
		pages = append(pages, empty)
		if got.Code != impl.OK || !sameEdits(got.Edits, []impl.Edit{{Page: number, Bytes: empty}}) || !samePages(got.Pages, pages) {
			t.Errorf("page %d: ApplyEdits = %+v", number, got)
		}
	}
	expectApplyEditsCode(t, "one too many", pages, []impl.Edit{{Page: 12, Bytes: empty}}, impl.ErrMany)
}

// Edits of few bytes turn nothing now and then, and some are wrong: the first of those tells its code.
func TestApplyEditsOfManyLists(t *testing.T) {
	next := numbers(23)
	for range 4000 {
		pages := filledPages(next(13))
		var edits []impl.Edit
		want, code := clonePages(pages), int64(impl.OK)
		for range next(8) {
			e := impl.Edit{Page: int64(next(len(want) + 1)), Bytes: filled(byte(100 + next(4)))}
			if next(40) == 0 {
				e.Page = int64(len(want)) + 1
			}
			edits = append(edits, e)
			switch {
			case code != impl.OK:
			case e.Page > int64(len(want)):
				code = impl.ErrForm
			case e.Page == 12:
				code = impl.ErrMany
			default:
				want = withEdit(want, e)
			}
		}
		if code != impl.OK {
			expectApplyEditsCode(t, "many", pages, edits, code)
			continue
		}
		expectApplied(t, "many", pages, edits, want)
	}
}

// Pages are taken as they are: even what is none stays, or is turned by an edit.
func TestApplyEditsAsksNothingOfPages(t *testing.T) {
	odd := [][]byte{nil, {1, 2, 3}, filled(255), append(filled(1), 2), {}}
	expectApplied(t, "no edits", odd, nil, odd)
	for page := range int64(6) {
		e := impl.Edit{Page: page, Bytes: headPage(17, 65)}
		expectApplied(t, "an edit", odd, []impl.Edit{e}, withEdit(odd, e))
	}
}

func TestApplyEditsOfTooManyPages(t *testing.T) {
	for _, count := range []int{13, 14, 100} {
		pages := filledPages(count)
		for _, edits := range [][]impl.Edit{nil, {{Page: 0, Bytes: filled(1)}}, {{Page: 0}}, {{Page: -1, Bytes: filled(1)}}, {{Page: int64(count), Bytes: filled(1)}}} {
			expectApplyEditsCode(t, strconv.Itoa(count)+" pages", pages, edits, impl.ErrMany)
		}
		expectApplyEditsCode(t, "pages that are nil", make([][]byte, count), nil, impl.ErrMany)
	}
}

// An edit is asked for its form ahead of one page too many, and the first wrong one tells its code.
func TestApplyEditsOfWrongEdits(t *testing.T) {
	full := filledPages(12)
	type wrong struct {
		edit impl.Edit
		code int64
	}
	var list []wrong
	for _, length := range []int{0, 1, 63, 65, 128} {
		for _, page := range []int64{-1, 0, 11, 12, 13, math.MinInt64, math.MaxInt64} {
			list = append(list, wrong{impl.Edit{Page: page, Bytes: make([]byte, length)}, impl.ErrForm})
		}
	}
	for _, page := range []int64{-1, 13, 256, math.MinInt64, math.MaxInt64} {
		list = append(list, wrong{impl.Edit{Page: page, Bytes: filled(1)}, impl.ErrForm})
	}
	list = append(list, wrong{impl.Edit{Page: 12, Bytes: filled(1)}, impl.ErrMany})
	right := impl.Edit{Page: 11, Bytes: filled(2)}
	for _, a := range list {
		expectApplyEditsCode(t, "alone", full, []impl.Edit{a.edit}, a.code)
		expectApplyEditsCode(t, "behind a right one", full, []impl.Edit{right, a.edit}, a.code)
		expectApplyEditsCode(t, "behind a new page", full[:11], []impl.Edit{right, a.edit}, a.code)
		expectApplyEditsCode(t, "ahead of a right one", full, []impl.Edit{a.edit, right}, a.code)
		for _, b := range list {
			expectApplyEditsCode(t, "ahead of another", full, []impl.Edit{right, a.edit, right, b.edit}, a.code)
		}
	}
}

// heapGiven is all that is handed in to the calls of this layer.
type heapGiven struct {
	pages [][]byte
	edits []impl.Edit
	rows  []impl.Row
}

// heapArguments stand in lists with more memory behind them; texts are the bytes of all texts.
func heapArguments(t *testing.T) (given heapGiven, texts [][]byte) {
	full := brimPages(t, 4)
	stubbed := pageWith(t, rowCell(3, 11, 0, "abcdefgh"), stubCell(1, 1), rowCell(3, 12, 0, "abcdefgh"), rowCell(3, 13, 0, "abcdefgh"), rowCell(3, 14, 0, "a"))
	home := pageWith(t, rowCell(3, 1, 0, "abcdefgh"), movedCell(2, 2, 2, "ab"), rowCell(3, 2, 0, "abcdefgh"), rowCell(3, 3, 0, "abcdefgh"))
	given.pages = [][]byte{stubbed, home, without(t, full[2], 1), without(t, full[3], 0, 1)}
	for i, page := range given.pages {
		given.pages[i] = append(page, "behind"...)[:64]
	}
	given.pages = append(given.pages, []byte("behind"))[:4]
	given.edits = []impl.Edit{{Page: 1, Bytes: append(filled(1), "behind"...)[:64]}, {Page: 4, Bytes: filled(2)}, {Page: 4, Bytes: filled(3)}}
	given.edits = append(given.edits, impl.Edit{Page: 9, Bytes: []byte("behind")})[:3]
	for _, r := range []impl.Row{rowOf(1, 90, 9, "abc"), rowOf(1, 91, 9, "abcdefgh"), rowOf(2, 2, 2, "ab"), rowOf(2, 2, 3, "abcdefgh"), brimRow(2, 0), grown(brimRow(2, 0)), rowOf(2, 2, 3, "A")} {
		own, data := ownText(r.Text)
		r.Text = own
		given.rows, texts = append(given.rows, r), append(texts, data)
	}
	return given, texts
}

// clone has all memory of its own, what lies behind the lists too.
func (g heapGiven) clone() heapGiven {
	var own heapGiven
	for _, page := range g.pages[:cap(g.pages)] {
		own.pages = append(own.pages, bytes.Clone(page[:cap(page)]))
	}
	for _, e := range g.edits[:cap(g.edits)] {
		own.edits = append(own.edits, impl.Edit{Page: e.Page, Bytes: bytes.Clone(e.Bytes[:cap(e.Bytes)])})
	}
	own.rows = ownRows(g.rows)
	return own
}

func (g heapGiven) isSame(own heapGiven) bool {
	now := g.clone()
	return samePages(now.pages, own.pages) && sameEdits(now.edits, own.edits) && slices.Equal(now.rows, own.rows)
}

func heapAnswers(g heapGiven) map[string]func() impl.EditsResult {
	return map[string]func() impl.EditsResult{
		"InsertEdits in pieces":     func() impl.EditsResult { return impl.InsertEdits(g.pages, g.rows[0]) },
		"InsertEdits of a long one": func() impl.EditsResult { return impl.InsertEdits(g.pages, g.rows[1]) },
		"InsertEdits, a new page":   func() impl.EditsResult { return impl.InsertEdits(g.pages[:2], g.rows[1]) },
		"InsertEdits, taken":        func() impl.EditsResult { return impl.InsertEdits(g.pages, g.rows[2]) },
		"InsertEdits, a fault":      func() impl.EditsResult { return impl.InsertEdits(g.pages, g.rows[6]) },
		"UpdateEdits of the same":   func() impl.EditsResult { return impl.UpdateEdits(g.pages, g.rows[2]) },
		"UpdateEdits, a third page": func() impl.EditsResult { return impl.UpdateEdits(g.pages, g.rows[3]) },
		"UpdateEdits, a new page":   func() impl.EditsResult { return impl.UpdateEdits(g.pages[:3], g.rows[3]) },
		"UpdateEdits in vain":       func() impl.EditsResult { return impl.UpdateEdits(g.pages, g.rows[5]) },
		"UpdateEdits, none":         func() impl.EditsResult { return impl.UpdateEdits(g.pages, g.rows[0]) },
		"DeleteEdits":               func() impl.EditsResult { return impl.DeleteEdits(g.pages, 3, 12) },
		"DeleteEdits of a stub":     func() impl.EditsResult { return impl.DeleteEdits(g.pages, 2, 2) },
		"DeleteEdits, none":         func() impl.EditsResult { return impl.DeleteEdits(g.pages, 2, 3) },
		"EditsFor a put":            func() impl.EditsResult { return impl.EditsFor(g.pages, put(g.rows[1])) },
		"EditsFor a drop":           func() impl.EditsResult { return impl.EditsFor(g.pages, drop(g.rows[2])) },
		"EditsFor a turn":           func() impl.EditsResult { return impl.EditsFor(g.pages, turn(g.rows[2], g.rows[3])) },
		"EditsFor a turn in vain":   func() impl.EditsResult { return impl.EditsFor(g.pages, turn(g.rows[4], g.rows[5])) },
		"EditsFor the same":         func() impl.EditsResult { return impl.EditsFor(g.pages, turn(g.rows[2], g.rows[2])) },
		"EditsFor, a fault":         func() impl.EditsResult { return impl.EditsFor(g.pages, turn(g.rows[2], g.rows[6])) },
		"ApplyEdits":                func() impl.EditsResult { return impl.ApplyEdits(g.pages, g.edits) },
		"ApplyEdits of none":        func() impl.EditsResult { return impl.ApplyEdits(g.pages, nil) },
		"ApplyEdits on no pages":    func() impl.EditsResult { return impl.ApplyEdits(nil, g.edits[:0]) },
		"ApplyEdits, a fault":       func() impl.EditsResult { return impl.ApplyEdits(g.pages, g.edits[:4]) },
	}
}

// bytesIn are all lists of bytes of an answer, those of Edits ahead of those of Pages.
func bytesIn(r impl.EditsResult) [][]byte {
	var all [][]byte
	for _, e := range r.Edits {
		all = append(all, e.Bytes)
	}
	return append(all, r.Pages...)
}

// expectEditsApart turns each list of an answer, and all memory behind it: no other one turns with it.
func expectEditsApart(t *testing.T, name string, got impl.EditsResult) {
	t.Helper()
	all := bytesIn(got)
	for i, list := range all {
		kept := clonePages(all)
		scribbleAll(list)
		for j := range all {
			if j != i && !bytes.Equal(all[j], kept[j]) {
				t.Errorf("%s: lists %d and %d of one answer share memory", name, i, j)
			}
		}
		scribbleAll(list)
	}
}

func TestEditsAreNewMemory(t *testing.T) {
	given, _ := heapArguments(t)
	kept := given.clone()
	for name, call := range heapAnswers(given) {
		first, second := call(), call()
		want := cloneEditsResult(second)
		expectEditsApart(t, name, first)
		for _, list := range bytesIn(first) {
			scribbleAll(list)
		}
		clear(first.Edits[:cap(first.Edits)])
		clear(first.Pages[:cap(first.Pages)])
		if !sameEditsResult(second, want) {
			t.Errorf("%s: two answers share memory", name)
		}
		if !given.isSame(kept) {
			t.Fatalf("%s: the answer shares memory with what was handed in, or that was changed", name)
		}
		if third := call(); !sameEditsResult(third, want) {
			t.Errorf("%s: the answer is another one behind the first: %+v, want %+v", name, third, want)
		}
	}
}

// All that was handed in is turned behind the calls, the bytes of texts too, and no answer follows.
func TestEditsDoNotFollow(t *testing.T) {
	given, texts := heapArguments(t)
	got, want := map[string]impl.EditsResult{}, map[string]impl.EditsResult{}
	for name, call := range heapAnswers(given) {
		got[name] = call()
		want[name] = cloneEditsResult(got[name])
	}
	for _, page := range given.pages {
		scribble(page)
	}
	for _, e := range given.edits {
		scribble(e.Bytes)
	}
	for _, data := range texts {
		scribble(data[:len(data):len(data)])
	}
	clear(given.pages)
	clear(given.edits)
	for name, answer := range got {
		if !sameEditsResult(answer, want[name]) {
			t.Errorf("%s: the answer turns with what was handed in", name)
		}
	}
	counts := map[string]int{"InsertEdits in pieces": 2, "InsertEdits, a new page": 1, "UpdateEdits of the same": 0, "UpdateEdits, a third page": 4, "UpdateEdits, a new page": 3, "UpdateEdits in vain": 4, "DeleteEdits of a stub": 2, "EditsFor a turn": 4, "ApplyEdits": 3, "ApplyEdits of none": 0}
	for name, count := range counts {
		if len(want[name].Edits) != count || len(want[name].Pages) < 3 && name != "InsertEdits, a new page" {
			t.Errorf("%s: %d edits, want %d", name, len(want[name].Edits), count)
		}
	}
}

// Pages may be pieces of one list, or one and the same.
func TestEditsOfSharedMemory(t *testing.T) {
	data := slices.Concat(brimPage(t, 0), brimPage(t, 1), impl.NewPage(0).Page)
	kept := bytes.Clone(data)
	pages := [][]byte{data[:64], data[64:128], data[128:]}
	old := brimRow(0, 1)
	expectChange(t, "pieces of one list", pages, turn(old, grown(old)), stepsOn(t, pages).put(2, 0, cellOf(impl.FlagMoved, grown(old))).set(0, 1, stubCell(2, 0)).edits...)
	lone := pageWith(t, movedCell(1, 2, 3, "m"))
	pages = [][]byte{lone, lone, lone}
	expectChange(t, "one page three times", pages, put(rowOf(1, 1, 1, "")), stepsOn(t, pages).put(0, 1, rowCell(1, 1, 1, "")).edits...)
	page := filled(1)
	expectApplied(t, "an edit of a page's own bytes", [][]byte{page, filled(2)}, []impl.Edit{{Page: 1, Bytes: page}, {Page: 2, Bytes: page}}, [][]byte{filled(1), filled(1), filled(1)})
	got := impl.ApplyEdits([][]byte{page, filled(2), page}, []impl.Edit{{Page: 1, Bytes: page}, {Page: 3, Bytes: page}, {Page: 2, Bytes: page}})
	if len(got.Edits) != 2 || len(got.Pages) != 4 {
		t.Errorf("one list everywhere: %+v", got)
	}
	expectEditsApart(t, "one list everywhere", got)
	if !bytes.Equal(data, kept) || !bytes.Equal(page, filled(1)) {
		t.Error("what was handed in was changed")
	}
}

func TestEditsHangOnArgumentsAlone(t *testing.T) {
	given, _ := heapArguments(t)
	want := map[string]impl.EditsResult{}
	for name, call := range heapAnswers(given) {
		want[name] = call()
	}
	full := brimPages(t, 12)
	for range 20 {
		impl.InsertEdits(full, rowOf(3, 99, 0, ""))
		impl.UpdateEdits(full, grown(brimRow(0, 0)))
		impl.DeleteEdits([][]byte{nil}, 0, 0)
		for name, call := range heapAnswers(given) {
			if got := call(); !sameEditsResult(got, want[name]) {
				t.Fatalf("%s = %+v, want %+v", name, got, want[name])
			}
		}
	}
}
