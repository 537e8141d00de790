package tests

import (
	"bytes"
	"math"
	"slices"
	"strconv"
	"strings"
	"testing"
	"unsafe"

	"loop.example/g00408/impl"
)

const maxRows = 60

func rowOf(table int64, key int64, val int64, text string) impl.Row {
	return impl.Row{Table: table, Key: key, Val: val, Text: text}
}

func rowCell(table int64, key int64, val int64, text string) []byte {
	return impl.PackRow(impl.FlagRow, rowOf(table, key, val, text)).Bytes
}

func movedCell(table int64, key int64, val int64, text string) []byte {
	return impl.PackRow(impl.FlagMoved, rowOf(table, key, val, text)).Bytes
}

func stubCell(page int64, slot int64) []byte {
	return impl.PackStub(page, slot).Bytes
}

// sparsePage has one cell, in this slot, and all slots ahead of it are empty.
func sparsePage(slot int, cell []byte) []byte {
	page := make([]byte, 64)
	low := 64 - len(cell)
	page[0], page[1] = byte(slot+1), byte(low)
	page[2+2*slot], page[3+2*slot] = byte(low), byte(len(cell))
	copy(page[low:], cell)
	return page
}

func clonePages(pages [][]byte) [][]byte {
	var own [][]byte
	for _, page := range pages {
		own = append(own, bytes.Clone(page))
	}
	return own
}

func samePages(a [][]byte, b [][]byte) bool {
	return slices.EqualFunc(a, b, bytes.Equal)
}

// found is a row with the place at which it is to be found.
type found struct {
	page int64
	slot int64
	row  impl.Row
}

// expectSeen asks for just these rows, and every key for its place or for none.
func expectSeen(t *testing.T, name string, pages [][]byte, want ...found) {
	t.Helper()
	if code := impl.PagesFault(pages); code != impl.OK {
		t.Fatalf("%s: PagesFault = %d", name, code)
	}
	places := map[impl.Key]found{}
	for _, w := range want {
		places[impl.Key{Table: w.row.Table, Key: w.row.Key}] = w
	}
	var rows []impl.Row
	for table := range int64(4) {
		for key := int64(1); key <= 99; key++ {
			w, ok := places[impl.Key{Table: table, Key: key}]
			answer := impl.PlaceResult{Code: impl.ErrNone}
			if ok {
				rows = append(rows, w.row)
				answer = impl.PlaceResult{Page: w.page, Slot: w.slot, Row: w.row}
			}
			if got := impl.FindRow(pages, table, key); got != answer {
				t.Errorf("%s: FindRow of %d/%d = %+v, want %+v", name, table, key, got, answer)
			}
		}
	}
	if got := impl.RowsIn(pages); got.Code != impl.OK || !slices.Equal(got.Rows, rows) {
		t.Errorf("%s: RowsIn = %+v, want %+v", name, got, rows)
	}
}

var askedKeys = []impl.Key{{Table: 0, Key: 1}, {Table: 1, Key: 2}, {Table: 3, Key: 99}, {}, {Table: -1, Key: 1}, {Table: 4, Key: 1}, {Table: 1, Key: 100}, {Table: math.MinInt64, Key: math.MaxInt64}}

// expectPagesFault asks all three, FindRow with keys that are none, too.
func expectPagesFault(t *testing.T, name string, pages [][]byte, code int64) {
	t.Helper()
	if got := impl.PagesFault(pages); got != code {
		t.Errorf("%s: PagesFault = %d, want %d", name, got, code)
	}
	if got := impl.RowsIn(pages); got.Code != code || len(got.Rows) != 0 {
		t.Errorf("%s: RowsIn = %+v, want code %d alone", name, got, code)
	}
	for _, k := range askedKeys {
		if got := impl.FindRow(pages, k.Table, k.Key); got != (impl.PlaceResult{Code: code}) {
			t.Errorf("%s: FindRow of %+v = %+v, want code %d alone", name, k, got, code)
		}
	}
}

func TestRowsInFewPages(t *testing.T) {
	expectSeen(t, "nil", nil)
	expectSeen(t, "no pages", [][]byte{})
	expectSeen(t, "a page without slots", [][]byte{impl.NewPage(0).Page})
	expectSeen(t, "a page without slots, filled", [][]byte{impl.NewPage(255).Page})
	expectSeen(t, "pages without slots", [][]byte{impl.NewPage(0).Page, impl.NewPage(1).Page, impl.NewPage(2).Page})
	expectSeen(t, "one row", [][]byte{pageWith(t, rowCell(1, 2, 300, "ab"))}, found{0, 0, rowOf(1, 2, 300, "ab")})
	expectSeen(t, "rows that fall",
		[][]byte{pageWith(t, rowCell(3, 1, 1, ""), rowCell(2, 99, 2, "b"), rowCell(2, 1, 3, ""), rowCell(0, 99, 4, ""), rowCell(0, 1, 5, ""))},
		found{0, 0, rowOf(3, 1, 1, "")}, found{0, 1, rowOf(2, 99, 2, "b")}, found{0, 2, rowOf(2, 1, 3, "")}, found{0, 3, rowOf(0, 99, 4, "")}, found{0, 4, rowOf(0, 1, 5, "")})
	expectSeen(t, "empty slots between",
		[][]byte{pageWith(t, nil, rowCell(1, 2, 3, "a"), nil, nil, rowCell(1, 1, 4, "b"))},
		found{0, 1, rowOf(1, 2, 3, "a")}, found{0, 4, rowOf(1, 1, 4, "b")})
	expectSeen(t, "several pages",
		[][]byte{pageWith(t, rowCell(2, 5, 1, "")), impl.NewPage(3).Page, pageWith(t, nil, rowCell(1, 5, 2, "")), pageWith(t, rowCell(3, 5, 3, ""), rowCell(0, 5, 4, ""))},
		found{0, 0, rowOf(2, 5, 1, "")}, found{2, 1, rowOf(1, 5, 2, "")}, found{3, 0, rowOf(3, 5, 3, "")}, found{3, 1, rowOf(0, 5, 4, "")})
}

// A row behind a stub is found where its stub is, not where its cell is.
func TestRowsBehindStubs(t *testing.T) {
	row := rowOf(1, 2, 3, "moved")
	moved := movedCell(1, 2, 3, "moved")
	expectSeen(t, "a stub ahead in its page", [][]byte{pageWith(t, stubCell(0, 1), moved)}, found{0, 0, row})
	expectSeen(t, "a stub behind in its page", [][]byte{pageWith(t, moved, stubCell(0, 0))}, found{0, 1, row})
	expectSeen(t, "empty slots between", [][]byte{pageWith(t, nil, moved, nil, stubCell(0, 1))}, found{0, 3, row})
	expectSeen(t, "a stub of a page behind", [][]byte{pageWith(t, stubCell(1, 0)), pageWith(t, moved)}, found{0, 0, row})
	expectSeen(t, "a stub of a page ahead", [][]byte{pageWith(t, nil, moved), pageWith(t, nil, nil, stubCell(0, 1))}, found{1, 2, row})
	expectSeen(t, "beside rows",
		[][]byte{pageWith(t, rowCell(1, 3, 0, ""), stubCell(2, 1)), impl.NewPage(0).Page, pageWith(t, rowCell(1, 1, 0, ""), moved)},
		found{0, 0, rowOf(1, 3, 0, "")}, found{0, 1, row}, found{2, 0, rowOf(1, 1, 0, "")})
	expectSeen(t, "two stubs that cross",
		[][]byte{pageWith(t, stubCell(1, 1), movedCell(0, 1, 1, "")), pageWith(t, stubCell(0, 1), moved)},
		found{0, 0, row}, found{1, 0, rowOf(0, 1, 1, "")})
	expectSeen(t, "stubs of slots that are turned round",
		[][]byte{pageWith(t, movedCell(2, 2, 2, ""), movedCell(2, 1, 1, ""), stubCell(0, 1), stubCell(0, 0))},
		found{0, 2, rowOf(2, 1, 1, "")}, found{0, 3, rowOf(2, 2, 2, "")})
}

func TestMovedCellsThatNobodyTells(t *testing.T) {
	lone := movedCell(1, 2, 3, "lone")
	expectSeen(t, "alone", [][]byte{pageWith(t, lone)})
	expectSeen(t, "twice", [][]byte{pageWith(t, lone, lone), pageWith(t, lone)})
	expectSeen(t, "beside another key", [][]byte{pageWith(t, rowCell(1, 1, 0, ""), lone)}, found{0, 0, rowOf(1, 1, 0, "")})
	expectSeen(t, "beside a seen row of its key", [][]byte{pageWith(t, lone, rowCell(1, 2, 9, "seen"))}, found{0, 1, rowOf(1, 2, 9, "seen")})
	expectSeen(t, "beside its like, the first one told", [][]byte{pageWith(t, lone, movedCell(1, 2, 4, "other"), stubCell(0, 0))}, found{0, 2, rowOf(1, 2, 3, "lone")})
	expectSeen(t, "beside its like, the second one told", [][]byte{pageWith(t, lone, movedCell(1, 2, 4, "other"), stubCell(0, 1))}, found{0, 2, rowOf(1, 2, 4, "other")})
	expectSeen(t, "its like told in another page",
		[][]byte{pageWith(t, lone), pageWith(t, lone), pageWith(t, stubCell(1, 0))},
		found{2, 0, rowOf(1, 2, 3, "lone")})
}

func TestRowsAtEdgesAreFound(t *testing.T) {
	for _, r := range edgeRows() {
		plain := [][]byte{pageWith(t, impl.PackRow(impl.FlagRow, r).Bytes)}
		moved := [][]byte{pageWith(t, stubCell(1, 0)), pageWith(t, impl.PackRow(impl.FlagMoved, r).Bytes)}
		for _, pages := range [][][]byte{plain, moved} {
			if got := impl.RowsIn(pages); got.Code != impl.OK || !slices.Equal(got.Rows, []impl.Row{r}) {
				t.Fatalf("RowsIn = %+v, want %+v", got, r)
			}
			if got := impl.FindRow(pages, r.Table, r.Key); got != (impl.PlaceResult{Row: r}) {
				t.Fatalf("FindRow = %+v, want %+v", got, r)
			}
		}
	}
}

// Every page and slot that a stub can tell, and those beside it.
func TestStubsOfAllPlaces(t *testing.T) {
	row := rowOf(3, 99, 999, "zz")
	for page := range int64(12) {
		for slot := range int64(16) {
			name := "page " + strconv.FormatInt(page, 10) + ", slot " + strconv.FormatInt(slot, 10)
			pages := make([][]byte, 12)
			for i := range pages {
				pages[i] = impl.NewPage(0).Page
			}
			pages[page] = sparsePage(int(slot), movedCell(3, 99, 999, "zz"))
			stubAt := (page + 5) % 12
			for told := range int64(16) {
				pages[stubAt] = sparsePage(int(15-slot), stubCell(page, told))
				if told != slot {
					expectPagesFault(t, name, pages, impl.ErrNone)
				} else if got := impl.FindRow(pages, 3, 99); got != (impl.PlaceResult{Page: stubAt, Slot: 15 - slot, Row: row}) {
					t.Errorf("%s: FindRow = %+v", name, got)
				}
			}
			pages[stubAt] = sparsePage(0, stubCell((page+1)%12, slot))
			expectPagesFault(t, name, pages, impl.ErrNone)
		}
	}
}

// fullPages have as many rows as fit in so many pages, all unlike: more than 60 of them are no fault here.
func fullPages(t *testing.T, count int) ([][]byte, []found) {
	var pages [][]byte
	var want []found
	for page := range int64(count) {
		var cells [][]byte
		for slot := range int64(7) {
			r := rowOf((page+slot)%4, 99-7*page-slot, page, "")
			cells = append(cells, impl.PackRow(impl.FlagRow, r).Bytes)
			want = append(want, found{page, slot, r})
		}
		pages = append(pages, pageWith(t, cells...))
	}
	return pages, want
}

func TestPagesAroundMaxPages(t *testing.T) {
	for count := range 13 {
		pages, want := fullPages(t, count)
		expectSeen(t, strconv.Itoa(count)+" pages", pages, want...)
	}
	pages, want := fullPages(t, 12)
	if got := impl.RowsIn(pages); len(got.Rows) != 84 || len(want) != 84 {
		t.Errorf("12 full pages: %d rows, want 84", len(got.Rows))
	}
	expectPagesFault(t, "one page more", append(pages, impl.NewPage(0).Page), impl.ErrMany)
	expectPagesFault(t, "13 that are nil", make([][]byte, 13), impl.ErrMany)
	expectPagesFault(t, "1000 pages", slices.Repeat(pages[:1], 1000), impl.ErrMany)
	expectPagesFault(t, "12 pages, all one", slices.Repeat(pages[:1], 12), impl.ErrState)
	expectPagesFault(t, "12 that are nil", make([][]byte, 12), impl.ErrForm)
}

func TestFindRowOfKeysOutOfBounds(t *testing.T) {
	pages, _ := fullPages(t, 12)
	far := []int64{math.MinInt64, math.MinInt64 + 1, -1 << 32, -256, -255, -1, 256, 257, 1 << 32, 1<<32 + 1, math.MaxInt64 - 1, math.MaxInt64}
	for _, pages := range [][][]byte{nil, {impl.NewPage(0).Page}, pages} {
		for _, table := range append([]int64{4, 5}, far...) {
			for _, key := range append([]int64{0, 1, 99, 100}, far...) {
				if got := impl.FindRow(pages, table, key); got != (impl.PlaceResult{Code: impl.ErrRange}) {
					t.Errorf("FindRow of %d/%d = %+v", table, key, got)
				}
			}
		}
		for table := range int64(4) {
			for _, key := range append([]int64{0, 100, 101}, far...) {
				if got := impl.FindRow(pages, table, key); got != (impl.PlaceResult{Code: impl.ErrRange}) {
					t.Errorf("FindRow of %d/%d = %+v", table, key, got)
				}
			}
		}
	}
}

func TestStubsThatTellNothing(t *testing.T) {
	row, moved := rowCell(1, 1, 1, "row"), movedCell(1, 2, 2, "moved")
	cases := []struct {
		name  string
		pages [][]byte
	}{
		{"a page that is none", [][]byte{pageWith(t, stubCell(1, 0), moved)}},
		{"the last page that may be", [][]byte{pageWith(t, stubCell(11, 15), moved)}},
		{"a slot that is none", [][]byte{pageWith(t, stubCell(1, 1)), pageWith(t, moved)}},
		{"a slot of its page that is none", [][]byte{pageWith(t, stubCell(0, 2), moved)}},
		{"a page without slots", [][]byte{pageWith(t, stubCell(1, 0)), impl.NewPage(0).Page}},
		{"an empty slot", [][]byte{pageWith(t, stubCell(1, 0)), pageWith(t, nil, moved)}},
		{"an empty slot of its page", [][]byte{pageWith(t, stubCell(0, 1), nil, moved)}},
		{"a row", [][]byte{pageWith(t, stubCell(1, 0)), pageWith(t, row, moved)}},
		{"a row of its page", [][]byte{pageWith(t, row, stubCell(0, 0))}},
		{"itself", [][]byte{pageWith(t, stubCell(0, 0))}},
		{"another stub that tells a row", [][]byte{pageWith(t, stubCell(0, 1), stubCell(0, 2), moved)}},
		{"another stub of another page", [][]byte{pageWith(t, stubCell(1, 0)), pageWith(t, stubCell(2, 0)), pageWith(t, moved)}},
		{"each other", [][]byte{pageWith(t, stubCell(1, 0)), pageWith(t, stubCell(0, 0))}},
		{"a slot whose bytes are still there", [][]byte{pageWith(t, stubCell(1, 1)), impl.DropSlot(pageWith(t, row, moved), 1).Page}},
		{"nothing, behind one that tells a row", [][]byte{pageWith(t, stubCell(0, 2), stubCell(0, 3), moved)}},
	}
	for _, c := range cases {
		expectPagesFault(t, c.name, c.pages, impl.ErrNone)
	}
}

func TestTwoStubsThatTellOne(t *testing.T) {
	moved, other := movedCell(1, 2, 3, "moved"), movedCell(1, 3, 3, "")
	expectPagesFault(t, "in its page", [][]byte{pageWith(t, stubCell(0, 1), moved, stubCell(0, 1))}, impl.ErrTaken)
	expectPagesFault(t, "in another page", [][]byte{pageWith(t, moved), pageWith(t, stubCell(0, 0), stubCell(0, 0))}, impl.ErrTaken)
	expectPagesFault(t, "in two pages", [][]byte{pageWith(t, stubCell(1, 0)), pageWith(t, moved), pageWith(t, nil, stubCell(1, 0))}, impl.ErrTaken)
	expectPagesFault(t, "the first and the last",
		[][]byte{pageWith(t, stubCell(1, 0), stubCell(1, 1)), pageWith(t, moved, other), pageWith(t, rowCell(0, 1, 1, ""), stubCell(1, 0))}, impl.ErrTaken)
	expectPagesFault(t, "three of them", [][]byte{pageWith(t, stubCell(0, 3), stubCell(0, 3), stubCell(0, 3), moved)}, impl.ErrTaken)
	expectPagesFault(t, "beside a row of that key", [][]byte{pageWith(t, stubCell(0, 2), stubCell(0, 2), moved, rowCell(1, 2, 3, "moved"))}, impl.ErrTaken)
}

func TestTwoSeenRowsOfOneKey(t *testing.T) {
	row, moved := rowCell(1, 2, 3, "row"), movedCell(1, 2, 3, "row")
	others := map[string][]byte{"alike": row, "of another Val": rowCell(1, 2, 4, "row"), "of another Text": rowCell(1, 2, 3, "")}
	for name, other := range others {
		behind := append([]byte{impl.FlagMoved}, other[1:]...)
		expectPagesFault(t, name+", in one page", [][]byte{pageWith(t, row, other)}, impl.ErrState)
		expectPagesFault(t, name+", in two pages", [][]byte{pageWith(t, row), impl.NewPage(0).Page, pageWith(t, nil, other)}, impl.ErrState)
		expectPagesFault(t, name+", one behind a stub", [][]byte{pageWith(t, row, stubCell(0, 2), behind)}, impl.ErrState)
		expectPagesFault(t, name+", one behind a stub ahead", [][]byte{pageWith(t, stubCell(1, 0)), pageWith(t, behind, row)}, impl.ErrState)
		expectPagesFault(t, name+", both behind stubs", [][]byte{pageWith(t, stubCell(1, 0), stubCell(1, 1)), pageWith(t, moved, behind)}, impl.ErrState)
		expectPagesFault(t, name+", both behind stubs of other pages", [][]byte{pageWith(t, stubCell(1, 1), moved), pageWith(t, stubCell(0, 1), behind)}, impl.ErrState)
		expectPagesFault(t, name+", a moved one between", [][]byte{pageWith(t, row, behind, other)}, impl.ErrState)
	}
	expectSeen(t, "the same Table alone", [][]byte{pageWith(t, row, rowCell(1, 3, 3, "row"))}, found{0, 0, rowOf(1, 2, 3, "row")}, found{0, 1, rowOf(1, 3, 3, "row")})
	expectSeen(t, "the same Key alone", [][]byte{pageWith(t, row, rowCell(2, 2, 3, "row"))}, found{0, 0, rowOf(1, 2, 3, "row")}, found{0, 1, rowOf(2, 2, 3, "row")})
	expectSeen(t, "Table and Key turned round", [][]byte{pageWith(t, rowCell(1, 2, 0, ""), rowCell(2, 1, 0, ""))}, found{0, 0, rowOf(1, 2, 0, "")}, found{0, 1, rowOf(2, 1, 0, "")})
}

// noCells are bytes that a slot may have, but that are no cell.
func noCells() map[string][]byte {
	row := rowCell(1, 2, 3, "abc")
	turned := func(at int, b byte) []byte {
		cell := bytes.Clone(row)
		cell[at] = b
		return cell
	}
	return map[string][]byte{
		"one byte":              {0},
		"flag 3":                turned(0, 3),
		"flag 255":              turned(0, 255),
		"table 4":               turned(1, 4),
		"key 0":                 turned(2, 0),
		"key 100":               turned(2, 100),
		"val 1000":              {0, 1, 2, 3, 232, 0},
		"a length too small":    turned(5, 2),
		"a length too great":    turned(5, 4),
		"a Text of other bytes": turned(8, 'A'),
		"a Text of 9":           {0, 1, 2, 0, 3, 9, 'a', 'b', 'c', 'd', 'e', 'f', 'g', 'h', 'i'},
		"a moved one cut":       movedCell(1, 2, 3, "abc")[:8],
		"a stub cut":            {1, 0},
		"a stub and a byte":     {1, 0, 0, 0},
		"a stub of page 12":     {1, 12, 0},
		"a stub of slot 16":     {1, 0, 16},
	}
}

func TestCellsThatAreNone(t *testing.T) {
	row := rowCell(0, 1, 0, "")
	for name, cell := range noCells() {
		expectPagesFault(t, name, [][]byte{pageWith(t, cell)}, impl.ErrText)
		expectPagesFault(t, name+", between cells", [][]byte{pageWith(t, row, cell, rowCell(0, 2, 0, ""))}, impl.ErrText)
		expectPagesFault(t, name+", the last of all", [][]byte{pageWith(t, row), impl.NewPage(0).Page, pageWith(t, nil, cell)}, impl.ErrText)
	}
	// A slot may be longer than any cell.
	long := headPage(1, 20, 20, 44)
	copy(long[20:], rowCell(1, 2, 3, "abcdefgh"))
	expectPagesFault(t, "a slot of 44 bytes", [][]byte{long}, impl.ErrText)
	// What was a cell, and is told by no slot any more, is asked nothing.
	dropped := impl.DropSlot(pageWith(t, row, []byte("no cell")), 1).Page
	expectSeen(t, "no cell, but dropped", [][]byte{dropped}, found{0, 0, rowOf(0, 1, 0, "")})
}

// faultyPage is a page that has a fault by itself, whatever stands in the others.
type faultyPage struct {
	name string
	code int64
	// Those of rank 0 are asked page by page, the others over all pages, the lesser rank first.
	rank int
	page func(number int64) []byte
}

func faultyPages(t *testing.T) []faultyPage {
	row, moved := rowCell(3, 98, 0, ""), movedCell(3, 97, 0, "")
	plain := func(page []byte) func(int64) []byte { return func(int64) []byte { return page } }
	return []faultyPage{
		{"no bytes", impl.ErrForm, 0, plain(nil)},
		{"63 bytes", impl.ErrForm, 0, plain(headPage(0, 64)[:63])},
		{"65 bytes", impl.ErrForm, 0, plain(append(headPage(0, 64), 0))},
		{"17 slots", impl.ErrRange, 0, plain(headPage(17, 64))},
		{"low too low", impl.ErrRange, 0, plain(headPage(1, 3, 60, 4))},
		{"low too high", impl.ErrRange, 0, plain(headPage(0, 65))},
		{"a cell beyond the end", impl.ErrRange, 0, plain(headPage(1, 60, 60, 5))},
		{"cells with a common byte", impl.ErrState, 0, plain(headPage(2, 50, 50, 6, 55, 6))},
		{"an empty last slot", impl.ErrState, 0, plain(headPage(1, 64, 0, 0))},
		{"no cell", impl.ErrText, 0, plain(pageWith(t, row, []byte{9}))},
		{"no cell and an empty last slot", impl.ErrState, 0, plain(headPage(2, 63, 63, 1, 0, 0))},
		{"no cell and a stub of itself", impl.ErrText, 0, func(number int64) []byte { return pageWith(t, stubCell(number, 0), []byte{9}) }},
		{"a stub of itself", impl.ErrNone, 1, func(number int64) []byte { return pageWith(t, stubCell(number, 0)) }},
		{"a stub of itself and all behind", impl.ErrNone, 1, func(number int64) []byte {
			return pageWith(t, row, row, moved, stubCell(number, 2), stubCell(number, 2), stubCell(number, 5))
		}},
		{"two stubs of one", impl.ErrTaken, 2, func(number int64) []byte { return pageWith(t, moved, stubCell(number, 0), stubCell(number, 0)) }},
		{"two stubs of one and two rows", impl.ErrTaken, 2, func(number int64) []byte {
			return pageWith(t, row, row, moved, stubCell(number, 2), stubCell(number, 2))
		}},
		{"two rows of one key", impl.ErrState, 3, plain(pageWith(t, row, row))},
		{"two moved rows of one key", impl.ErrState, 3, func(number int64) []byte {
			return pageWith(t, moved, moved, stubCell(number, 1), stubCell(number, 0))
		}},
	}
}

// rightPages have no fault, alone and beside faultyPages.
func rightPages(t *testing.T, count int) [][]byte {
	pages := make([][]byte, count)
	for i := range pages {
		pages[i] = pageWith(t, rowCell(0, int64(1+2*i), 0, ""), nil, stubCell(int64(i), 3), movedCell(0, int64(2+2*i), 1, "m"))
	}
	return pages
}

func TestPagesFaultOfEachPage(t *testing.T) {
	for _, count := range []int{1, 2, 5, 12} {
		if code := impl.PagesFault(rightPages(t, count)); code != impl.OK {
			t.Fatalf("%d right pages: PagesFault = %d", count, code)
		}
		for _, f := range faultyPages(t) {
			for _, at := range []int{0, count / 2, count - 1} {
				pages := rightPages(t, count)
				pages[at] = f.page(int64(at))
				expectPagesFault(t, f.name+", page "+strconv.Itoa(at)+" of "+strconv.Itoa(count), pages, f.code)
				expectPagesFault(t, f.name+", 13 pages", append(pages, rightPages(t, 13-count)...), impl.ErrMany)
			}
		}
	}
}

// Of two faults in two pages the one that is asked first is told: of those asked page by page
// that of the page ahead, of the others that of the lesser rank, wherever it stands.
func TestPagesFaultOfTwoPages(t *testing.T) {
	for _, a := range faultyPages(t) {
		for _, b := range faultyPages(t) {
			want := a.code
			if b.rank < a.rank {
				want = b.code
			}
			for _, at := range [][2]int{{0, 1}, {0, 4}, {2, 3}} {
				pages := rightPages(t, 5)
				pages[at[0]], pages[at[1]] = a.page(int64(at[0])), b.page(int64(at[1]))
				expectPagesFault(t, a.name+", then "+b.name, pages, want)
			}
		}
	}
}

// expectedView goes through all pairs of cells, where the program has maps.
func expectedView(pages [][]byte) ([]found, int64) {
	type cell struct {
		page, slot int64
		is         impl.CellResult
	}
	var cells []cell
	for i, page := range pages {
		if code := expectedPageFault(page); code != impl.OK {
			return nil, code
		}
		for slot := range int64(16) {
			if data := impl.SlotIn(page, slot); data.Code == impl.OK {
				is := impl.UnpackCell(data.Bytes)
				if is.Code != impl.OK {
					return nil, impl.ErrText
				}
				cells = append(cells, cell{int64(i), slot, is})
			}
		}
	}
	isNone, isTaken, isState := false, false, false
	var seen []found
	for i, c := range cells {
		switch c.is.Flag {
		case impl.FlagRow:
			seen = append(seen, found{c.page, c.slot, c.is.Row})
		case impl.FlagStub:
			told := slices.IndexFunc(cells, func(o cell) bool {
				return o.page == c.is.Page && o.slot == c.is.Slot && o.is.Flag == impl.FlagMoved
			})
			if told < 0 {
				isNone = true
				continue
			}
			seen = append(seen, found{c.page, c.slot, cells[told].is.Row})
			isTaken = isTaken || slices.ContainsFunc(cells[:i], func(o cell) bool { return o.is == c.is })
		}
	}
	for i, a := range seen {
		for _, b := range seen[:i] {
			isState = isState || a.row.Table == b.row.Table && a.row.Key == b.row.Key
		}
	}
	switch {
	case isNone:
		return nil, impl.ErrNone
	case isTaken:
		return nil, impl.ErrTaken
	case isState:
		return nil, impl.ErrState
	}
	slices.SortFunc(seen, func(a found, b found) int { return int(100*(a.row.Table-b.row.Table) + a.row.Key - b.row.Key) })
	return seen, impl.OK
}

// numbers tells one list of numbers in every run of the tests.
func numbers(state uint64) func(below int) int {
	return func(below int) int {
		state = state*6364136223846793005 + 1442695040888963407
		return int(state>>33) % below
	}
}

// Any cells in any slots, few of them, so that each fault and none come often.
func TestAnyPages(t *testing.T) {
	next, counts := numbers(3), map[int64]int{}
	for range 60000 {
		pages := make([][]byte, 1+next(4))
		for i := range pages {
			pages[i] = impl.NewPage(byte(next(256))).Page
		}
		for range next(7) {
			r := rowOf(int64(next(4)), int64(1+next(3)), int64(next(1000)), strings.Repeat("x", next(9)))
			cell := impl.PackRow(rowFlags[next(2)], r).Bytes
			switch next(20) {
			case 0, 1, 2, 3, 4, 5, 6, 7:
				cell = stubCell(int64(next(len(pages))), int64(next(3)))
			case 8:
				if next(8) == 0 {
					cell[next(len(cell))] += byte(1 + next(255))
				}
			}
			i := next(len(pages))
			if with := impl.PutSlot(pages[i], cell); with.Code == impl.OK {
				pages[i] = with.Page
			}
			if without := impl.DropSlot(pages[i], int64(next(12))); without.Code == impl.OK {
				pages[i] = without.Page
			}
		}
		if next(50) == 0 {
			pages[next(len(pages))][next(4)] += byte(1 + next(3))
		}
		want, code := expectedView(pages)
		counts[code]++
		if got := impl.PagesFault(pages); got != code {
			t.Fatalf("PagesFault(%v) = %d, want %d", pages, got, code)
		}
		got := impl.RowsIn(pages)
		if got.Code != code || len(got.Rows) != len(want) {
			t.Fatalf("RowsIn(%v) = %+v, want code %d and %+v", pages, got, code, want)
		}
		for i, w := range want {
			if got.Rows[i] != w.row {
				t.Fatalf("RowsIn(%v) = %+v, want %+v", pages, got, want)
			}
			if place := impl.FindRow(pages, w.row.Table, w.row.Key); place != (impl.PlaceResult{Page: w.page, Slot: w.slot, Row: w.row}) {
				t.Fatalf("FindRow(%v) = %+v, want %+v", pages, place, w)
			}
		}
	}
	for _, code := range []int64{impl.OK, impl.ErrRange, impl.ErrText, impl.ErrNone, impl.ErrTaken, impl.ErrState} {
		if counts[code] < 100 {
			t.Errorf("code %d came %d times alone", code, counts[code])
		}
	}
}

// manyRows rise, from this key on: 99 of each table and then the next one.
func manyRows(from int, count int, val int64) []impl.Row {
	var rows []impl.Row
	for i := from; i < from+count; i++ {
		rows = append(rows, rowOf(int64(i/99), int64(1+i%99), val, strings.Repeat("y", i%9)))
	}
	return rows
}

type faultyRow struct {
	name string
	row  impl.Row
	code int64
}

func faultyRows() []faultyRow {
	return []faultyRow{
		{"table -1", rowOf(-1, 50, 0, ""), impl.ErrRange},
		{"table 4", rowOf(4, 50, 0, ""), impl.ErrRange},
		{"key 0", rowOf(1, 0, 0, ""), impl.ErrRange},
		{"key 100", rowOf(1, 100, 0, ""), impl.ErrRange},
		{"val -1", rowOf(1, 50, -1, ""), impl.ErrRange},
		{"val 1000", rowOf(1, 50, 1000, ""), impl.ErrRange},
		{"a Text of 9", rowOf(1, 50, 0, "abcdefghi"), impl.ErrText},
		{"a Text of other bytes", rowOf(1, 50, 0, "A"), impl.ErrText},
		{"a Text with a 0", rowOf(1, 50, 0, "a\x00"), impl.ErrText},
		{"val and Text", rowOf(1, 50, 1000, "A"), impl.ErrRange},
		{"all of it", rowOf(math.MinInt64, math.MaxInt64, math.MinInt64, strings.Repeat("~", 1000)), impl.ErrRange},
		{"zero", impl.Row{}, impl.ErrRange},
	}
}

func put(r impl.Row) impl.Change {
	return impl.Change{Is: true, After: r}
}

func drop(r impl.Row) impl.Change {
	return impl.Change{Was: true, Before: r}
}

func turn(before impl.Row, after impl.Row) impl.Change {
	return impl.Change{Was: true, Before: before, Is: true, After: after}
}

func putsOf(rows []impl.Row) []impl.Change {
	var list []impl.Change
	for _, r := range rows {
		list = append(list, put(r))
	}
	return list
}

// expectRowsFault asks all that ask the RowsFault, beside other things that are wrong.
func expectRowsFault(t *testing.T, name string, rows []impl.Row, code int64) {
	t.Helper()
	if got := impl.RowsFault(rows); got != code {
		t.Errorf("%s: RowsFault = %d, want %d", name, got, code)
	}
	if code == impl.OK {
		return
	}
	others := [][]impl.Row{nil, manyRows(0, maxRows, 0), rows, {{}}, manyRows(0, maxRows+1, 0), {rowOf(1, 2, 3, "A")}, {rowOf(1, 2, 3, ""), rowOf(1, 2, 3, "")}}
	for _, other := range others {
		expectChangesCode(t, name, rows, other, code)
		if impl.RowsFault(other) == impl.OK {
			expectChangesCode(t, name+", of after", other, rows, code)
		}
	}
	a := rowOf(1, 20, 1, "a")
	for _, list := range [][]impl.Change{nil, {put(a)}, {{}}, {drop(a), drop(a)}, {{Is: true}}} {
		expectApplyCode(t, name, rows, list, code)
	}
}

func expectChangesCode(t *testing.T, name string, before []impl.Row, after []impl.Row, code int64) {
	t.Helper()
	if got := impl.ChangesOf(before, after); got.Code != code || len(got.Changes) != 0 {
		t.Errorf("%s: ChangesOf = %+v, want code %d alone", name, got, code)
	}
}

func expectApplyCode(t *testing.T, name string, rows []impl.Row, list []impl.Change, code int64) {
	t.Helper()
	if got := impl.ApplyChanges(rows, list); got.Code != code || len(got.Rows) != 0 {
		t.Errorf("%s: ApplyChanges = %+v, want code %d alone", name, got, code)
	}
}

func expectApply(t *testing.T, name string, rows []impl.Row, list []impl.Change, want ...impl.Row) {
	t.Helper()
	if got := impl.ApplyChanges(rows, list); got.Code != impl.OK || !slices.Equal(got.Rows, want) {
		t.Errorf("%s: ApplyChanges = %+v, want %+v", name, got, want)
	}
}

func TestRowsFaultOfRightRows(t *testing.T) {
	expectRowsFault(t, "nil", nil, impl.OK)
	expectRowsFault(t, "none", []impl.Row{}, impl.OK)
	for _, r := range edgeRows() {
		expectRowsFault(t, "one", []impl.Row{r}, impl.OK)
	}
	for count := range maxRows + 1 {
		expectRowsFault(t, strconv.Itoa(count)+" rows", manyRows(80, count, 7), impl.OK)
	}
	expectRowsFault(t, "the ends", []impl.Row{rowOf(0, 1, 0, ""), rowOf(0, 99, 0, ""), rowOf(3, 1, 0, ""), rowOf(3, 99, 999, "zzzzzzzz")}, impl.OK)
}

func TestRowsFaultOfTooMany(t *testing.T) {
	expectRowsFault(t, "61 rows", manyRows(80, maxRows+1, 7), impl.ErrMany)
	expectRowsFault(t, "all keys", manyRows(0, 396, 0), impl.ErrMany)
	expectRowsFault(t, "61 zero rows", make([]impl.Row, maxRows+1), impl.ErrMany)
	expectRowsFault(t, "60 zero rows", make([]impl.Row, maxRows), impl.ErrRange)
	expectRowsFault(t, "61 alike", slices.Repeat(manyRows(0, 1, 0), maxRows+1), impl.ErrMany)
	expectRowsFault(t, "60 alike", slices.Repeat(manyRows(0, 1, 0), maxRows), impl.ErrForm)
}

func TestRowsFaultOfEachRow(t *testing.T) {
	for _, f := range faultyRows() {
		for _, count := range []int{1, 2, 3, 9, maxRows} {
			for _, at := range []int{0, count / 2, count - 1} {
				name := f.name + ", row " + strconv.Itoa(at) + " of " + strconv.Itoa(count)
				rows := manyRows(110, count, 7)
				rows[at] = f.row
				expectRowsFault(t, name, rows, f.code)
				// One that does not rise stands behind it, or is the very one with the fault.
				if at+1 < count {
					rows[at+1] = rowOf(0, 1, 0, "")
					expectRowsFault(t, name+", then one that falls", rows, f.code)
				}
				if at > 0 {
					rows[at-1] = rowOf(3, 99, 0, "")
					expectRowsFault(t, name+", and it falls", rows, f.code)
				}
			}
		}
	}
}

// The first row that is wrong tells its code, whichever of the codes that is.
func TestRowsFaultOfTwoRows(t *testing.T) {
	for _, a := range faultyRows() {
		for _, b := range faultyRows() {
			rows := manyRows(110, 9, 7)
			rows[3], rows[6] = a.row, b.row
			expectRowsFault(t, a.name+", then "+b.name, rows, a.code)
		}
		rows := manyRows(110, 9, 7)
		rows[6] = a.row
		rows[3] = rows[2]
		expectRowsFault(t, "two alike, then "+a.name, rows, impl.ErrForm)
	}
}

func TestRowsThatDoNotRise(t *testing.T) {
	for _, count := range []int{2, 3, 9, maxRows} {
		for _, at := range []int{1, count / 2, count - 1} {
			name := "row " + strconv.Itoa(at) + " of " + strconv.Itoa(count)
			rows := manyRows(70, count, 7)
			rows[at] = rows[at-1]
			expectRowsFault(t, name+" is alike", rows, impl.ErrForm)
			rows[at].Val, rows[at].Text = 8, "other"
			expectRowsFault(t, name+" has the key ahead", rows, impl.ErrForm)
			rows = manyRows(70, count, 7)
			rows[at-1], rows[at] = rows[at], rows[at-1]
			expectRowsFault(t, name+" falls", rows, impl.ErrForm)
		}
	}
	expectRowsFault(t, "a lesser table, a greater key", []impl.Row{rowOf(1, 1, 0, ""), rowOf(0, 99, 0, "")}, impl.ErrForm)
	expectRowsFault(t, "a greater table, a lesser key", []impl.Row{rowOf(0, 99, 0, ""), rowOf(1, 1, 0, "")}, impl.OK)
	// Each is held against the one ahead alone: a greater one between hides nothing.
	expectRowsFault(t, "up, down, up", []impl.Row{rowOf(1, 1, 0, ""), rowOf(1, 5, 0, ""), rowOf(1, 2, 0, ""), rowOf(1, 6, 0, "")}, impl.ErrForm)
}

func TestChangesOfExamples(t *testing.T) {
	a, a2, b, c := rowOf(1, 20, 1, "a"), rowOf(1, 20, 1, "b"), rowOf(1, 30, 1, "a"), rowOf(2, 1, 0, "")
	cases := []struct {
		name          string
		before, after []impl.Row
		want          []impl.Change
	}{
		{"nothing", nil, nil, nil},
		{"empty lists", []impl.Row{}, []impl.Row{}, nil},
		{"the same", []impl.Row{a, b}, []impl.Row{a, b}, nil},
		{"a put", nil, []impl.Row{a}, []impl.Change{put(a)}},
		{"a drop", []impl.Row{a}, nil, []impl.Change{drop(a)}},
		{"a turn of Text", []impl.Row{a}, []impl.Row{a2}, []impl.Change{turn(a, a2)}},
		{"a turn of Val", []impl.Row{a}, []impl.Row{rowOf(1, 20, 2, "a")}, []impl.Change{turn(a, rowOf(1, 20, 2, "a"))}},
		{"another key", []impl.Row{a}, []impl.Row{b}, []impl.Change{drop(a), put(b)}},
		{"another key ahead", []impl.Row{b}, []impl.Row{a}, []impl.Change{put(a), drop(b)}},
		{"another table", []impl.Row{rowOf(2, 7, 1, "a")}, []impl.Row{rowOf(1, 7, 1, "a")}, []impl.Change{put(rowOf(1, 7, 1, "a")), drop(rowOf(2, 7, 1, "a"))}},
		{"all at once", []impl.Row{a, b}, []impl.Row{a2, c}, []impl.Change{turn(a, a2), drop(b), put(c)}},
		{"among the same", []impl.Row{a, b, c}, []impl.Row{a, c}, []impl.Change{drop(b)}},
	}
	for _, c := range cases {
		if got := impl.ChangesOf(c.before, c.after); got.Code != impl.OK || !slices.Equal(got.Changes, c.want) {
			t.Errorf("%s: ChangesOf = %+v, want %+v", c.name, got, c.want)
		}
		expectApply(t, c.name, c.before, c.want, c.after...)
	}
}

// expectedChanges asks every key there is, where the program has maps.
func expectedChanges(before []impl.Row, after []impl.Row) []impl.Change {
	var changes []impl.Change
	for table := range int64(4) {
		for key := int64(1); key <= 99; key++ {
			var c impl.Change
			is := func(r impl.Row) bool { return r.Table == table && r.Key == key }
			if at := slices.IndexFunc(before, is); at >= 0 {
				c.Was, c.Before = true, before[at]
			}
			if at := slices.IndexFunc(after, is); at >= 0 {
				c.Is, c.After = true, after[at]
			}
			if c.Was != c.Is || c.Before != c.After {
				changes = append(changes, c)
			}
		}
	}
	return changes
}

func expectThereByChanges(t *testing.T, before []impl.Row, after []impl.Row) {
	t.Helper()
	got := impl.ChangesOf(before, after)
	if got.Code != impl.OK || !slices.Equal(got.Changes, expectedChanges(before, after)) {
		t.Fatalf("ChangesOf(%+v, %+v) = %+v", before, after, got)
	}
	if there := impl.ApplyChanges(before, got.Changes); there.Code != impl.OK || !slices.Equal(there.Rows, after) {
		t.Fatalf("ApplyChanges(%+v, %+v) = %+v, want %+v", before, got.Changes, there, after)
	}
	if same := impl.ChangesOf(after, after); same.Code != impl.OK || len(same.Changes) != 0 {
		t.Fatalf("ChangesOf of %+v and itself = %+v", after, same)
	}
}

// Each of four keys is not there, or has one of three rows, before and after.
func TestWhatChangedMakesTheOnesTheOthers(t *testing.T) {
	keys := []impl.Key{{Table: 0, Key: 1}, {Table: 0, Key: 99}, {Table: 2, Key: 50}, {Table: 3, Key: 99}}
	var lists [][]impl.Row
	for n := range 256 {
		var rows []impl.Row
		for i, k := range keys {
			switch n >> (2 * i) & 3 {
			case 1:
				rows = append(rows, rowOf(k.Table, k.Key, 0, ""))
			case 2:
				rows = append(rows, rowOf(k.Table, k.Key, 999, ""))
			case 3:
				rows = append(rows, rowOf(k.Table, k.Key, 0, "abcdefgh"))
			}
		}
		lists = append(lists, rows)
	}
	for i := range lists {
		for j := i % 7; j < len(lists); j += 7 {
			expectThereByChanges(t, lists[i], lists[j])
		}
		expectThereByChanges(t, lists[i], lists[i])
	}
}

func TestChangesOfManyRows(t *testing.T) {
	lists := [][]impl.Row{nil, manyRows(0, 1, 0), manyRows(0, maxRows, 0), manyRows(0, maxRows, 999), manyRows(30, maxRows, 0), manyRows(336, maxRows, 0), manyRows(90, 31, 5), manyRows(395, 1, 5)}
	for _, before := range lists {
		for _, after := range lists {
			expectThereByChanges(t, before, after)
		}
	}
	// All puts stand ahead of all drops: 120 rows are there on the way.
	got := impl.ChangesOf(manyRows(336, maxRows, 0), manyRows(0, maxRows, 0))
	if len(got.Changes) != 2*maxRows || got.Changes[59].Was || got.Changes[60].Is {
		t.Errorf("%d changes: %+v", len(got.Changes), got)
	}
}

func TestApplyChangesAroundSixtyRows(t *testing.T) {
	rows, more := manyRows(0, maxRows, 0), manyRows(maxRows, 336, 3)
	expectApply(t, "60 rows", rows, nil, rows...)
	expectApply(t, "the 60th put", rows[:59], []impl.Change{put(rows[59])}, rows...)
	expectApplyCode(t, "the 61st put", rows, []impl.Change{put(more[0])}, impl.ErrMany)
	expectApplyCode(t, "60 and one, of none", nil, putsOf(manyRows(0, maxRows+1, 0)), impl.ErrMany)
	expectApply(t, "one more on the way", rows, []impl.Change{put(more[0]), drop(rows[0])}, append(slices.Clone(rows[1:]), more[0])...)
	list := putsOf(more)
	expectApplyCode(t, "every key", rows, list, impl.ErrMany)
	expectApplyCode(t, "every key, then a fault", rows, append(slices.Clone(list), put(more[0])), impl.ErrState)
	expectApplyCode(t, "every key, then no change", rows, append(slices.Clone(list), impl.Change{}), impl.ErrForm)
	expectApplyCode(t, "every key, then a row that is none", rows, append(slices.Clone(list), put(rowOf(1, 1, 0, "A"))), impl.ErrText)
	for i := len(more) - 1; i > 0; i-- {
		list = append(list, drop(more[i]))
	}
	expectApplyCode(t, "every key, and all but one gone again", rows, list, impl.ErrMany)
	expectApply(t, "every key, and all gone again", rows, append(list, drop(more[0])), rows...)
}

func TestApplyChangesFitsAsRowsAreThen(t *testing.T) {
	a, a2, a3, b := rowOf(1, 20, 1, "a"), rowOf(1, 20, 2, "a"), rowOf(1, 20, 2, "b"), rowOf(1, 10, 1, "")
	expectApply(t, "put, turn, drop", nil, []impl.Change{put(a), turn(a, a2), drop(a2)})
	expectApply(t, "drop, put", []impl.Row{a}, []impl.Change{drop(a), put(a2)}, a2)
	expectApply(t, "turn, turn", []impl.Row{a}, []impl.Change{turn(a, a2), turn(a2, a3)}, a3)
	expectApply(t, "there and back", []impl.Row{b, a}, []impl.Change{turn(a, a2), turn(a2, a)}, b, a)
	expectApply(t, "a turn that turns nothing", []impl.Row{a}, []impl.Change{turn(a, a)}, a)
	expectApply(t, "falling keys", nil, []impl.Change{put(a), put(b)}, b, a)
	expectApplyCode(t, "turn ahead of put", nil, []impl.Change{turn(a, a2), put(a)}, impl.ErrState)
	expectApplyCode(t, "put ahead of drop", []impl.Row{a}, []impl.Change{put(a2), drop(a)}, impl.ErrState)
	expectApplyCode(t, "the second turn ahead", []impl.Row{a}, []impl.Change{turn(a2, a3), turn(a, a2)}, impl.ErrState)
	expectApplyCode(t, "put twice", nil, []impl.Change{put(a), put(a)}, impl.ErrState)
	expectApplyCode(t, "drop twice", []impl.Row{a}, []impl.Change{drop(a), drop(a)}, impl.ErrState)
	expectApplyCode(t, "turn twice", []impl.Row{a}, []impl.Change{turn(a, a2), turn(a, a2)}, impl.ErrState)
	expectApplyCode(t, "drop of another Val", []impl.Row{a}, []impl.Change{drop(a2)}, impl.ErrState)
	expectApplyCode(t, "drop of another Text", []impl.Row{a2}, []impl.Change{drop(a3)}, impl.ErrState)
	expectApplyCode(t, "turn of another Val", []impl.Row{a}, []impl.Change{turn(a2, a)}, impl.ErrState)
	expectApplyCode(t, "turn of another Text", []impl.Row{a2}, []impl.Change{turn(a3, a2)}, impl.ErrState)
	expectApplyCode(t, "turn of one that is not there", []impl.Row{b}, []impl.Change{turn(a, a2)}, impl.ErrState)
	expectApplyCode(t, "drop of one that is not there", nil, []impl.Change{drop(a)}, impl.ErrState)
	expectApplyCode(t, "put of another row of a key", []impl.Row{a}, []impl.Change{put(a2)}, impl.ErrState)
	expectApplyCode(t, "drop of the least row, not there", nil, []impl.Change{drop(rowOf(0, 1, 0, ""))}, impl.ErrState)
}

type faultyChange struct {
	change impl.Change
	code   int64
}

// wrongChanges have these codes beside the rows 0/1, 1/20 and 1/50 of TestApplyChangesOfWrongChanges.
func wrongChanges() map[string]faultyChange {
	a := rowOf(1, 50, 3, "a")
	list := map[string]faultyChange{
		"neither":              {impl.Change{}, impl.ErrForm},
		"neither, with rows":   {impl.Change{Before: a, After: a}, impl.ErrForm},
		"neither, with faults": {impl.Change{Before: rowOf(9, 0, 0, "A"), After: rowOf(9, 0, 0, "A")}, impl.ErrForm},
		"another Table":        {turn(a, rowOf(2, 50, 3, "a")), impl.ErrForm},
		"another Key":          {turn(a, rowOf(1, 51, 3, "a")), impl.ErrForm},
		"turned round":         {turn(rowOf(1, 2, 0, ""), rowOf(2, 1, 0, "")), impl.ErrForm},
		"both zero":            {turn(impl.Row{}, impl.Row{}), impl.ErrRange},
	}
	for _, f := range faultyRows() {
		sameKey := rowOf(f.row.Table, f.row.Key, 0, "")
		list["put of "+f.name] = faultyChange{put(f.row), f.code}
		list["drop of "+f.name] = faultyChange{drop(f.row), f.code}
		list["turn of "+f.name] = faultyChange{turn(f.row, sameKey), f.code}
		list["turn into "+f.name] = faultyChange{turn(sameKey, f.row), f.code}
		list["another Key of "+f.name] = faultyChange{turn(f.row, rowOf(3, 77, 0, "A")), impl.ErrForm}
		list["another Key into "+f.name] = faultyChange{turn(rowOf(3, 77, 1000, ""), f.row), impl.ErrForm}
	}
	text, val := rowOf(1, 50, 3, "A"), rowOf(1, 50, 1000, "a")
	list["Text, then Val"] = faultyChange{turn(text, val), impl.ErrText}
	list["Val, then Text"] = faultyChange{turn(val, text), impl.ErrRange}
	list["put of one there"] = faultyChange{put(rowOf(1, 20, 1, "a")), impl.ErrState}
	list["drop of one not there"] = faultyChange{drop(rowOf(2, 20, 1, "a")), impl.ErrState}
	return list
}

func TestApplyChangesOfWrongChanges(t *testing.T) {
	rows := []impl.Row{rowOf(0, 1, 0, ""), rowOf(1, 20, 1, "a"), rowOf(1, 50, 0, "")}
	fits := []impl.Change{put(rowOf(3, 1, 0, "")), drop(rowOf(0, 1, 0, ""))}
	for name, f := range wrongChanges() {
		expectApplyCode(t, name, rows, []impl.Change{f.change}, f.code)
		expectApplyCode(t, name+", behind some", rows, append(slices.Clone(fits), f.change), f.code)
		expectApplyCode(t, name+", ahead of some", rows, append([]impl.Change{f.change}, fits...), f.code)
		for other, g := range wrongChanges() {
			expectApplyCode(t, name+", then "+other, rows, []impl.Change{fits[0], f.change, fits[1], g.change}, f.code)
		}
	}
}

// Without Was nobody asks Before for anything, nor After without Is.
func TestApplyChangesPassesByWhatIsNotSaid(t *testing.T) {
	a := rowOf(1, 50, 3, "a")
	for _, f := range append(faultyRows(), faultyRow{"a right row", rowOf(3, 3, 3, "c"), impl.OK}, faultyRow{"the row itself", a, impl.OK}) {
		comes, goes := put(a), drop(a)
		comes.Before, goes.After = f.row, f.row
		expectApply(t, "put beside "+f.name, nil, []impl.Change{comes}, a)
		expectApply(t, "drop beside "+f.name, []impl.Row{a}, []impl.Change{goes})
		expectApplyCode(t, "put of one there, beside "+f.name, []impl.Row{a}, []impl.Change{comes}, impl.ErrState)
		expectApplyCode(t, "drop of one not there, beside "+f.name, nil, []impl.Change{goes}, impl.ErrState)
	}
}

// Long lists of any changes beside a model that has rows in a plain list.
func TestChangesOverLongWalks(t *testing.T) {
	next, counts := numbers(5), map[int64]int{}
	for range 4000 {
		var rows []impl.Row
		for _, r := range manyRows(95, 8, int64(next(2))) {
			if next(2) == 0 {
				rows = append(rows, r)
			}
		}
		model, want := slices.Clone(rows), int64(impl.OK)
		var list []impl.Change
		for range next(8) {
			key := rowOf(int64(next(2)), int64(1+next(5)+95*next(2)), 0, "")
			before, after := key, key
			before.Val, after.Val, after.Text = int64(next(2)), int64(next(2)), strings.Repeat("z", next(2))
			at := slices.IndexFunc(model, func(r impl.Row) bool { return r.Table == key.Table && r.Key == key.Key })
			c := impl.Change{Was: at >= 0, Before: before, Is: at < 0 || next(2) == 0, After: after}
			if at >= 0 && next(8) > 0 {
				c.Before = model[at]
			}
			if next(12) == 0 {
				c.Was = !c.Was
			}
			list = append(list, c)
			if want == impl.OK {
				model, want = expectedTurn(model, c)
			}
		}
		counts[want]++
		if want != impl.OK {
			expectApplyCode(t, "a walk", rows, list, want)
			continue
		}
		slices.SortFunc(model, func(a impl.Row, b impl.Row) int { return int(100*(a.Table-b.Table) + a.Key - b.Key) })
		expectApply(t, "a walk", rows, list, model...)
		expectThereByChanges(t, rows, model)
	}
	if counts[impl.OK] < 500 || counts[impl.ErrState] < 500 || counts[impl.ErrRange] < 100 {
		t.Errorf("walks by code: %v", counts)
	}
}

func expectedTurn(rows []impl.Row, c impl.Change) ([]impl.Row, int64) {
	switch {
	case !c.Was && !c.Is:
		return nil, impl.ErrForm
	case c.Was && impl.RowFault(c.Before) != impl.OK:
		return nil, impl.RowFault(c.Before)
	case c.Is && impl.RowFault(c.After) != impl.OK:
		return nil, impl.RowFault(c.After)
	}
	at := slices.IndexFunc(rows, func(r impl.Row) bool { return r.Table == c.Before.Table && r.Key == c.Before.Key })
	if c.Was != (at >= 0) || c.Was && rows[at] != c.Before {
		return nil, impl.ErrState
	}
	if c.Was {
		rows = slices.Delete(rows, at, at+1)
	}
	if c.Is {
		rows = append(rows, c.After)
	}
	return rows, impl.OK
}

// viewGiven is all that is handed in to the calls of this layer.
type viewGiven struct {
	pages  [][]byte
	before []impl.Row
	after  []impl.Row
	list   []impl.Change
}

// ownText is a text whose bytes a test may turn, as nothing in the program can.
func ownText(text string) (string, []byte) {
	data := []byte(text)
	return unsafe.String(unsafe.SliceData(data), len(data)), data
}

// viewArguments stand in lists with more memory behind them; texts are the bytes of all texts.
func viewArguments(t *testing.T) (given viewGiven, texts [][]byte) {
	long := func(table int64, key int64, text string) impl.Row {
		own, data := ownText(text)
		texts = append(texts, data)
		return rowOf(table, key, 7, own)
	}
	given.pages = [][]byte{pageWith(t, stubCell(1, 1), rowCell(2, 3, 4, "efgh")), pageWith(t, rowCell(0, 1, 1, "abcd"), movedCell(1, 2, 3, "moved"))}
	given.before = []impl.Row{long(0, 1, "kept"), long(1, 1, "dropped"), long(2, 1, "turned"), long(3, 1, "stays")}
	given.after = []impl.Row{long(0, 1, "kept"), long(0, 2, "put"), long(2, 1, "into"), long(3, 1, "stays")}
	given.list = []impl.Change{drop(long(1, 1, "dropped")), turn(long(2, 1, "turned"), long(2, 1, "other")), put(long(3, 9, "new"))}
	for i, page := range given.pages {
		given.pages[i] = append(page, "behind"...)[:64]
	}
	given.pages = append(given.pages, []byte("behind"))[:2]
	given.before = append(given.before, rowOf(9, 9, 9, "behind"))[:4]
	given.after = append(given.after, rowOf(9, 9, 9, "behind"))[:4]
	given.list = append(given.list, impl.Change{})[:3]
	return given, texts
}

// clone has all memory of its own, what lies behind the lists too.
func (g viewGiven) clone() viewGiven {
	own := viewGiven{before: ownRows(g.before[:cap(g.before)]), after: ownRows(g.after[:cap(g.after)])}
	for _, page := range g.pages[:cap(g.pages)] {
		own.pages = append(own.pages, bytes.Clone(page[:cap(page)]))
	}
	own.list = ownChanges(g.list[:cap(g.list)])
	return own
}

func (g viewGiven) isSame(own viewGiven) bool {
	now := g.clone()
	return samePages(now.pages, own.pages) && slices.Equal(now.before, own.before) && slices.Equal(now.after, own.after) && slices.Equal(now.list, own.list)
}

func ownRows(rows []impl.Row) []impl.Row {
	var own []impl.Row
	for _, r := range rows {
		r.Text = strings.Clone(r.Text)
		own = append(own, r)
	}
	return own
}

func ownChanges(list []impl.Change) []impl.Change {
	var own []impl.Change
	for _, c := range list {
		c.Before.Text, c.After.Text = strings.Clone(c.Before.Text), strings.Clone(c.After.Text)
		own = append(own, c)
	}
	return own
}

// viewAnswer is a code or number, rows and changes, whichever a call has.
type viewAnswer struct {
	code    int64
	rows    []impl.Row
	changes []impl.Change
}

func (a viewAnswer) clone() viewAnswer {
	return viewAnswer{a.code, ownRows(a.rows), ownChanges(a.changes)}
}

func (a viewAnswer) isSame(b viewAnswer) bool {
	return a.code == b.code && slices.Equal(a.rows, b.rows) && slices.Equal(a.changes, b.changes)
}

func viewCalls(g viewGiven) map[string]func() viewAnswer {
	ofRows := func(r impl.RowsResult) viewAnswer { return viewAnswer{r.Code, r.Rows, nil} }
	ofPlace := func(r impl.PlaceResult) viewAnswer {
		return viewAnswer{1000*r.Code + 100*r.Page + r.Slot, []impl.Row{r.Row}, nil}
	}
	ofChanges := func(r impl.ChangesResult) viewAnswer { return viewAnswer{r.Code, nil, r.Changes} }
	return map[string]func() viewAnswer{
		"PagesFault":                   func() viewAnswer { return viewAnswer{impl.PagesFault(g.pages), nil, nil} },
		"PagesFault of one":            func() viewAnswer { return viewAnswer{impl.PagesFault(g.pages[:1]), nil, nil} },
		"RowsIn":                       func() viewAnswer { return ofRows(impl.RowsIn(g.pages)) },
		"RowsIn of one":                func() viewAnswer { return ofRows(impl.RowsIn(g.pages[:1])) },
		"FindRow":                      func() viewAnswer { return ofPlace(impl.FindRow(g.pages, 2, 3)) },
		"FindRow behind a stub":        func() viewAnswer { return ofPlace(impl.FindRow(g.pages, 1, 2)) },
		"FindRow of none":              func() viewAnswer { return ofPlace(impl.FindRow(g.pages, 1, 3)) },
		"ChangesOf":                    func() viewAnswer { return ofChanges(impl.ChangesOf(g.before, g.after)) },
		"ChangesOf of one list":        func() viewAnswer { return ofChanges(impl.ChangesOf(g.before, g.before)) },
		"ChangesOf of two pieces":      func() viewAnswer { return ofChanges(impl.ChangesOf(g.before[:2], g.before[1:])) },
		"ChangesOf of a fault":         func() viewAnswer { return ofChanges(impl.ChangesOf(g.before, g.after[:5])) },
		"RowsFault":                    func() viewAnswer { return viewAnswer{impl.RowsFault(g.before), nil, nil} },
		"RowsFault of a fault":         func() viewAnswer { return viewAnswer{impl.RowsFault(g.before[:5]), nil, nil} },
		"ApplyChanges":                 func() viewAnswer { return ofRows(impl.ApplyChanges(g.before, g.list)) },
		"ApplyChanges of none":         func() viewAnswer { return ofRows(impl.ApplyChanges(g.before, nil)) },
		"ApplyChanges that do not fit": func() viewAnswer { return ofRows(impl.ApplyChanges(g.after, g.list)) },
		"ApplyChanges of a fault":      func() viewAnswer { return ofRows(impl.ApplyChanges(g.before, g.list[:4])) },
	}
}

func TestViewAnswersAreNewMemory(t *testing.T) {
	given, _ := viewArguments(t)
	kept := given.clone()
	for name, call := range viewCalls(given) {
		first, second := call(), call()
		want := second.clone()
		clear(first.rows[:cap(first.rows)])
		clear(first.changes[:cap(first.changes)])
		if !second.isSame(want) {
			t.Errorf("%s: two answers share memory", name)
		}
		if !given.isSame(kept) {
			t.Fatalf("%s: the answer shares memory with what was handed in, or that was changed", name)
		}
		if third := call(); !third.isSame(want) {
			t.Errorf("%s: the answer is another one behind the first: %+v, want %+v", name, third, want)
		}
	}
}

// All that was handed in is turned behind the calls, the bytes of texts too, and no answer follows.
func TestViewAnswersDoNotFollow(t *testing.T) {
	given, texts := viewArguments(t)
	got, want := map[string]viewAnswer{}, map[string]viewAnswer{}
	for name, call := range viewCalls(given) {
		got[name] = call()
		want[name] = got[name].clone()
	}
	for _, page := range given.pages {
		scribble(page)
	}
	for _, data := range texts {
		scribble(data[:len(data):len(data)])
	}
	clear(given.pages)
	clear(given.before)
	clear(given.after)
	clear(given.list)
	for name, answer := range got {
		if !answer.isSame(want[name]) {
			t.Errorf("%s: the answer turns with what was handed in: %+v, want %+v", name, answer, want[name])
		}
	}
	if len(got["RowsIn"].rows) != 3 || len(got["ChangesOf"].changes) != 3 || len(got["ApplyChanges"].rows) != 4 {
		t.Errorf("answers: %+v", got)
	}
}

// Two pages may be one list of bytes, and two lists of rows pieces of one.
func TestViewOfSharedMemory(t *testing.T) {
	data := slices.Concat(pageWith(t, stubCell(1, 0), rowCell(0, 9, 9, "")), pageWith(t, movedCell(1, 2, 3, "m")))
	expectSeen(t, "pieces of one list", [][]byte{data[:64], data[64:]}, found{0, 0, rowOf(1, 2, 3, "m")}, found{0, 1, rowOf(0, 9, 9, "")})
	expectPagesFault(t, "a page that goes on behind its end", [][]byte{data[:65], data[64:]}, impl.ErrForm)
	lone := pageWith(t, movedCell(1, 2, 3, "m"))
	expectSeen(t, "one page twice, and a stub of the second", [][]byte{lone, lone, pageWith(t, stubCell(1, 0))}, found{2, 0, rowOf(1, 2, 3, "m")})
	rows := manyRows(0, maxRows, 0)
	for cut := range len(rows) {
		expectThereByChanges(t, rows[:cut], rows[cut:])
		expectThereByChanges(t, rows[cut:], rows[:cut])
		expectThereByChanges(t, rows, rows[:cut])
	}
}

// The order in which a map is gone through differs from call to call, and none of that is told.
func TestViewAnswersHangOnArgumentsAlone(t *testing.T) {
	pages, _ := fullPages(t, 12)
	before, after := manyRows(0, maxRows, 0), manyRows(30, maxRows, 1)
	rows, changes := impl.RowsIn(pages), impl.ChangesOf(before, after)
	kept := clonePages(pages)
	for range 100 {
		impl.RowsIn(pages[:5])
		impl.RowsIn([][]byte{nil})
		impl.FindRow(pages, 9, 9)
		impl.ChangesOf(after, []impl.Row{{}})
		impl.ApplyChanges(after, changes.Changes)
		if got := impl.RowsIn(pages); got.Code != impl.OK || !slices.Equal(got.Rows, rows.Rows) {
			t.Fatalf("RowsIn = %+v, want %+v", got, rows)
		}
		if got := impl.ChangesOf(before, after); got.Code != impl.OK || !slices.Equal(got.Changes, changes.Changes) {
			t.Fatalf("ChangesOf = %+v, want %+v", got, changes)
		}
		expectApply(t, "again", before, changes.Changes, after...)
	}
	if !samePages(pages, kept) {
		t.Error("the pages were changed")
	}
}
