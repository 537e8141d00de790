package tests

import (
	"bytes"
	"math"
	"slices"
	"strconv"
	"testing"

	"loop.example/g00408/impl"
)

var farSlots = []int64{math.MinInt64, math.MinInt64 + 1, -1 << 32, -256, -16, -1, 16, 17, 31, 255, 256, 257, 1 << 32, 1<<63 - 1 - 255, math.MaxInt64}

// headPage is a page with just this head and directory, and 7 everywhere else.
func headPage(head ...byte) []byte {
	return append(head, bytes.Repeat([]byte{7}, 64-len(head))...)
}

// seqCell is a cell whose bytes are all unlike, so that a byte at a wrong place is seen.
func seqCell(first byte, length int) []byte {
	cell := make([]byte, length)
	for i := range cell {
		cell[i] = first + byte(i)
	}
	return cell
}

// pageWith has these cells, put one behind the other; a nil one is dropped again.
func pageWith(t *testing.T, cells ...[]byte) []byte {
	t.Helper()
	page := impl.NewPage(9).Page
	for i, cell := range cells {
		if cell == nil {
			cell = []byte("x")
		}
		put := impl.PutSlot(page, cell)
		if put.Code != impl.OK || put.Slot != int64(i) {
			t.Fatalf("PutSlot of cell %d = %+v", i, put)
		}
		page = put.Page
	}
	for i, cell := range cells {
		if cell == nil {
			drop := impl.DropSlot(page, int64(i))
			if drop.Code != impl.OK {
				t.Fatalf("DropSlot(%d) = %+v", i, drop)
			}
			page = drop.Page
		}
	}
	return page
}

// fullDirectory has MaxSlots slots of one byte each, and 14 bytes free.
func fullDirectory(t *testing.T) []byte {
	var cells [][]byte
	for i := range 16 {
		cells = append(cells, []byte{byte('a' + i)})
	}
	return pageWith(t, cells...)
}

// expectCells asks every slot, and some beyond.
func expectCells(t *testing.T, what string, page []byte, cells ...[]byte) {
	t.Helper()
	if code := impl.PageFault(page); code != impl.OK {
		t.Fatalf("%s: PageFault(%v) = %d", what, page, code)
	}
	if int(page[0]) != len(cells) {
		t.Errorf("%s: %d slots, want %d", what, page[0], len(cells))
	}
	for slot := int64(-1); slot <= 17; slot++ {
		got := impl.SlotIn(page, slot)
		if slot < 0 || slot >= int64(len(cells)) || cells[slot] == nil {
			if got.Code != impl.ErrNone || len(got.Bytes) != 0 {
				t.Errorf("%s: SlotIn(%d) = %+v, want code %d", what, slot, got, impl.ErrNone)
			}
		} else if got.Code != impl.OK || !bytes.Equal(got.Bytes, cells[slot]) {
			t.Errorf("%s: SlotIn(%d) = %+v, want %v", what, slot, got, cells[slot])
		}
	}
}

// expectTurned asks that no byte turned but at these places.
func expectTurned(t *testing.T, what string, before []byte, after []byte, places ...int) {
	t.Helper()
	for at := range before {
		if before[at] != after[at] && !slices.Contains(places, at) {
			t.Errorf("%s: byte %d turned from %d to %d", what, at, before[at], after[at])
		}
	}
}

func fromTo(from int, behind int) []int {
	var places []int
	for at := from; at < behind; at++ {
		places = append(places, at)
	}
	return places
}

func expectPageCode(t *testing.T, what string, got impl.PageResult, code int64) {
	t.Helper()
	if got.Code != code || got.Slot != 0 || len(got.Page) != 0 {
		t.Errorf("%s = %+v, want code %d and nothing else", what, got, code)
	}
}

func TestNewPageOfEachFill(t *testing.T) {
	if impl.PageBytes != 64 || impl.MaxSlots != 16 {
		t.Fatal(impl.PageBytes, impl.MaxSlots)
	}
	for fill := range 256 {
		got := impl.NewPage(byte(fill))
		want := bytes.Repeat([]byte{byte(fill)}, 64)
		want[0], want[1] = 0, 64
		if got.Code != impl.OK || got.Slot != 0 || !bytes.Equal(got.Page, want) {
			t.Fatalf("NewPage(%d) = %+v", fill, got)
		}
		if free := impl.FreeIn(got.Page); free != (impl.IntResult{Value: 62}) {
			t.Errorf("FreeIn(NewPage(%d)) = %+v", fill, free)
		}
		expectCells(t, "new page", got.Page)
	}
}

func TestPageFaultAtEdges(t *testing.T) {
	cases := []struct {
		name string
		page []byte
		code int64
	}{
		{"nil", nil, impl.ErrForm},
		{"no bytes", []byte{}, impl.ErrForm},
		{"the head alone", []byte{0, 64}, impl.ErrForm},
		{"a byte less", headPage(0, 64)[:63], impl.ErrForm},
		{"a byte more", append(headPage(0, 64), 0), impl.ErrForm},
		{"two pages", append(headPage(0, 64), headPage(0, 64)...), impl.ErrForm},
		{"65536 bytes and 64", make([]byte, 65600), impl.ErrForm},
		{"too short, and n too great", headPage(17, 64)[:63], impl.ErrForm},
		{"too long, and low too great", append(headPage(0, 65), 0), impl.ErrForm},
		{"too short, and cells with a byte in common", headPage(2, 60, 60, 2, 61, 2)[:63], impl.ErrForm},

		{"no slot, low at the end", headPage(0, 64), impl.OK},
		{"no slot, low at the directory's end", headPage(0, 2), impl.OK},
		{"no slot, low in the directory", headPage(0, 1), impl.ErrRange},
		{"no slot, low 0", headPage(0, 0), impl.ErrRange},
		{"low behind the page", headPage(0, 65), impl.ErrRange},
		{"low 255", headPage(0, 255), impl.ErrRange},
		{"low 128", headPage(0, 128), impl.ErrRange},
		{"all zeros", make([]byte, 64), impl.ErrRange},
		{"one slot, low at the directory's end", headPage(1, 4, 4, 60), impl.OK},
		{"one slot, low in the directory", headPage(1, 3, 4, 60), impl.ErrRange},
		{"17 slots", headPage(17, 64, 63, 1), impl.ErrRange},
		{"17 slots of no cell", append([]byte{17, 64}, make([]byte, 62)...), impl.ErrRange},
		{"255 slots", headPage(255, 64), impl.ErrRange},
		{"128 slots", headPage(128, 64), impl.ErrRange},

		{"a cell of one byte", headPage(1, 63, 63, 1), impl.OK},
		{"a cell of 20 bytes", headPage(1, 44, 44, 20), impl.OK},
		{"a cell of 21 bytes", headPage(1, 43, 43, 21), impl.OK},
		{"a cell of all bytes", headPage(1, 4, 4, 60), impl.OK},
		{"a place without a length", headPage(1, 60, 60, 0), impl.ErrRange},
		{"a place at low, without a length, then a cell", headPage(2, 60, 60, 0, 63, 1), impl.ErrRange},
		{"a length without a place", headPage(1, 60, 0, 4), impl.ErrRange},
		{"a length without a place, then a cell", headPage(2, 60, 0, 1, 63, 1), impl.ErrRange},
		{"a place below low", headPage(1, 60, 59, 2), impl.ErrRange},
		{"a place at low", headPage(1, 60, 60, 2), impl.OK},
		{"a place above low", headPage(1, 60, 61, 2), impl.OK},
		{"low far below all cells", headPage(1, 4, 62, 2), impl.OK},
		{"an end behind the page", headPage(1, 60, 60, 5), impl.ErrRange},
		{"an end at the page's", headPage(1, 60, 60, 4), impl.OK},
		{"an end that goes round", headPage(1, 60, 60, 200), impl.ErrRange},
		{"an end that goes round to 0", headPage(1, 60, 60, 196), impl.ErrRange},
		{"a place behind the page", headPage(1, 60, 64, 1), impl.ErrRange},
		{"a place of 255", headPage(1, 60, 255, 1), impl.ErrRange},
		{"a place of 255 that goes round", headPage(1, 60, 255, 4), impl.ErrRange},
		{"a wrong second slot", headPage(2, 60, 60, 2, 62, 3), impl.ErrRange},
		{"a wrong slot in the middle", headPage(3, 60, 60, 1, 59, 1, 62, 1), impl.ErrRange},

		{"an empty slot, then a cell", headPage(2, 60, 0, 0, 60, 4), impl.OK},
		{"two empty slots, then a cell", headPage(3, 60, 0, 0, 0, 0, 60, 4), impl.OK},
		{"the last slot empty", headPage(1, 60, 0, 0), impl.ErrState},
		{"the last slot empty behind a cell", headPage(2, 60, 60, 4, 0, 0), impl.ErrState},
		{"two cells side by side", headPage(2, 60, 60, 2, 62, 2), impl.OK},
		{"two cells side by side, the other way", headPage(2, 60, 62, 2, 60, 2), impl.OK},
		{"two cells with one byte in common", headPage(2, 60, 60, 3, 62, 2), impl.ErrState},
		{"the same, the other way", headPage(2, 60, 62, 2, 60, 3), impl.ErrState},
		{"two cells that are the same", headPage(2, 60, 60, 2, 60, 2), impl.ErrState},
		{"a cell in a cell", headPage(2, 60, 60, 4, 61, 1), impl.ErrState},
		{"a cell in a cell, the other way", headPage(2, 60, 61, 1, 60, 4), impl.ErrState},
		{"the first and the third in common", headPage(3, 60, 60, 2, 63, 1, 61, 2), impl.ErrState},
		{"common bytes beside an empty slot", headPage(3, 60, 60, 2, 0, 0, 61, 2), impl.ErrState},

		{"common bytes ahead of a wrong slot", headPage(3, 60, 60, 2, 60, 2, 62, 3), impl.ErrRange},
		{"common bytes and a place below low", headPage(3, 60, 60, 2, 60, 2, 59, 1), impl.ErrRange},
		{"an empty last slot behind a wrong one", headPage(2, 60, 59, 1, 0, 0), impl.ErrRange},
		{"an empty last slot, and low behind the page", headPage(1, 65, 0, 0), impl.ErrRange},
		{"common bytes, and the last slot empty", headPage(3, 60, 60, 2, 60, 2, 0, 0), impl.ErrState},
		{"common bytes, and low in the directory", headPage(2, 5, 60, 2, 60, 2), impl.ErrRange},
	}
	for _, c := range cases {
		if code := impl.PageFault(c.page); code != c.code {
			t.Errorf("%s: PageFault = %d, want %d", c.name, code, c.code)
		}
		if c.code != impl.OK {
			expectFaultEverywhere(t, c.name, c.page, c.code)
		}
	}
}

// expectFaultEverywhere asks all functions of a page for its fault, ahead of every other code.
func expectFaultEverywhere(t *testing.T, name string, page []byte, code int64) {
	t.Helper()
	if got := impl.FreeIn(page); got != (impl.IntResult{Code: code}) {
		t.Errorf("%s: FreeIn = %+v, want code %d", name, got, code)
	}
	for _, slot := range append([]int64{0, 1}, farSlots...) {
		if got := impl.SlotIn(page, slot); got.Code != code || len(got.Bytes) != 0 {
			t.Errorf("%s: SlotIn(%d) = %+v, want code %d", name, slot, got, code)
		}
		expectPageCode(t, name+": DropSlot", impl.DropSlot(page, slot), code)
		for _, length := range []int{0, 1, 20, 21} {
			expectPageCode(t, name+": SetSlot", impl.SetSlot(page, slot, seqCell(1, length)), code)
		}
	}
	for _, length := range []int{0, 1, 20, 21} {
		expectPageCode(t, name+": PutSlot", impl.PutSlot(page, seqCell(1, length)), code)
	}
	expectPageCode(t, name+": CompactPage", impl.CompactPage(page), code)
}

// A directory of MaxSlots slots, with low at its end and at the end of the page.
func TestPageFaultOfFullDirectory(t *testing.T) {
	page := append([]byte{16, 34}, make([]byte, 62)...)
	if code := impl.PageFault(page); code != impl.ErrState {
		t.Errorf("16 empty slots: %d", code)
	}
	page[32], page[33] = 34, 30
	if code := impl.PageFault(page); code != impl.OK {
		t.Errorf("15 empty slots and one cell: %d", code)
	}
	page[1] = 33
	if code := impl.PageFault(page); code != impl.ErrRange {
		t.Errorf("low in the directory: %d", code)
	}
	page[1] = 64
	if code := impl.PageFault(page); code != impl.ErrRange {
		t.Errorf("low behind a cell: %d", code)
	}
}

// expectedPageFault counts bytes, where the program compares ends.
func expectedPageFault(page []byte) int64 {
	if len(page) != 64 {
		return impl.ErrForm
	}
	n, low := int(page[0]), int(page[1])
	if n > 16 || low-2*n < 2 || low > 64 {
		return impl.ErrRange
	}
	owners, lengths := map[int]int{}, 0
	for i := 0; i < n; i++ {
		place, length := int(page[2+2*i]), int(page[3+2*i])
		lengths += length
		if place == 0 && length == 0 {
			continue
		}
		if place == 0 || length == 0 || place < low || place+length > 64 {
			return impl.ErrRange
		}
		for at := place; at < place+length; at++ {
			owners[at]++
		}
	}
	if len(owners) != lengths || n > 0 && page[2*n] == 0 && page[2*n+1] == 0 {
		return impl.ErrState
	}
	return impl.OK
}

// All pages that are one or two bytes of the head and directory away from some base.
func TestPageFaultOfNearPages(t *testing.T) {
	bases := [][]byte{
		headPage(0, 64),
		headPage(3, 40, 60, 4, 0, 0, 40, 20),
		headPage(4, 50, 50, 5, 55, 5, 60, 2, 62, 2),
		fullDirectory(t),
	}
	for _, base := range bases {
		for first := range 12 {
			for second := first + 1; second < 12; second++ {
				page := bytes.Clone(base)
				for _, a := range []byte{0, 1, 2, 4, 16, 17, 50, 54, 55, 61, 62, 63, 64, 65, 206, 255} {
					for b := range 256 {
						page[first], page[second] = a, byte(b)
						if code, want := impl.PageFault(page), expectedPageFault(page); code != want {
							t.Fatalf("PageFault(%v) = %d, want %d", page, code, want)
						}
					}
				}
			}
		}
	}
}

func TestFreeIn(t *testing.T) {
	cases := []struct {
		page []byte
		free int64
	}{
		{headPage(0, 64), 62},
		{headPage(0, 2), 62},
		{headPage(1, 63, 63, 1), 59},
		{headPage(1, 4, 63, 1), 59},
		{headPage(1, 4, 4, 60), 0},
		{headPage(2, 40, 0, 0, 60, 4), 54},
		{headPage(2, 40, 60, 4, 40, 20), 34},
		{headPage(3, 40, 60, 4, 0, 0, 40, 20), 32},
		{fullDirectory(t), 14},
		{append([]byte{16, 34}, append(make([]byte, 30), headPage(34, 30)[:32]...)...), 0},
		{append([]byte{16, 34}, append(make([]byte, 30), headPage(63, 1)[:32]...)...), 29},
	}
	for _, c := range cases {
		if got := impl.FreeIn(c.page); got != (impl.IntResult{Value: c.free}) {
			t.Errorf("FreeIn(%v) = %+v, want %d", c.page, got, c.free)
		}
	}
}

func TestSlotInReadsCells(t *testing.T) {
	page := headPage(3, 50, 61, 3, 0, 0, 52, 5)
	copy(page[50:], "0123456789abcd")
	expectCells(t, "page", page, []byte("bcd"), nil, []byte("23456"))
	for _, slot := range farSlots {
		if got := impl.SlotIn(page, slot); got.Code != impl.ErrNone || len(got.Bytes) != 0 {
			t.Errorf("SlotIn(%d) = %+v, want code %d", slot, got, impl.ErrNone)
		}
	}
	long := headPage(1, 4, 4, 60)
	if got := impl.SlotIn(long, 0); got.Code != impl.OK || len(got.Bytes) != 60 {
		t.Errorf("SlotIn of a cell of 60 bytes = %+v", got)
	}
}

func TestPutSlotBytes(t *testing.T) {
	first := impl.PutSlot(headPage(0, 64), []byte("abc"))
	want := headPage(1, 61, 61, 3)
	copy(want[61:], "abc")
	if first.Code != impl.OK || first.Slot != 0 || !bytes.Equal(first.Page, want) {
		t.Fatalf("first put = %+v, want %v", first, want)
	}
	second := impl.PutSlot(first.Page, []byte("defgh"))
	want = headPage(2, 56, 61, 3, 56, 5)
	copy(want[56:], "defghabc")
	if second.Code != impl.OK || second.Slot != 1 || !bytes.Equal(second.Page, want) {
		t.Fatalf("second put = %+v, want %v", second, want)
	}
	// Low counts, not where the lowest cell stands.
	lower := impl.PutSlot(headPage(1, 30, 60, 4), []byte("xy"))
	want = headPage(2, 28, 60, 4, 28, 2)
	copy(want[28:], "xy")
	if lower.Code != impl.OK || lower.Slot != 1 || !bytes.Equal(lower.Page, want) {
		t.Fatalf("put ahead of low = %+v, want %v", lower, want)
	}
}

func TestPutSlotTakesTheFirstEmptySlot(t *testing.T) {
	page := pageWith(t, []byte("ab"), nil, []byte("cde"), nil, []byte("f"))
	middle := impl.PutSlot(page, []byte("new"))
	if middle.Code != impl.OK || middle.Slot != 1 {
		t.Fatalf("put = %+v, want slot 1", middle)
	}
	expectCells(t, "put into an empty slot", middle.Page, []byte("ab"), []byte("new"), []byte("cde"), nil, []byte("f"))
	low := int(page[1])
	expectTurned(t, "put into an empty slot", page, middle.Page, append(fromTo(low-3, low), 1, 4, 5)...)

	next := impl.PutSlot(middle.Page, []byte("more"))
	if next.Code != impl.OK || next.Slot != 3 {
		t.Fatalf("put = %+v, want slot 3", next)
	}
	expectCells(t, "put into the other one", next.Page, []byte("ab"), []byte("new"), []byte("cde"), []byte("more"), []byte("f"))

	last := impl.PutSlot(next.Page, []byte("end"))
	if last.Code != impl.OK || last.Slot != 5 {
		t.Fatalf("put = %+v, want slot 5", last)
	}
	expectCells(t, "put behind all", last.Page, []byte("ab"), []byte("new"), []byte("cde"), []byte("more"), []byte("f"), []byte("end"))
	low = int(next.Page[1])
	expectTurned(t, "put behind all", next.Page, last.Page, append(fromTo(low-3, low), 0, 1, 12, 13)...)

	first := impl.PutSlot(pageWith(t, nil, []byte("b")), []byte("a"))
	if first.Code != impl.OK || first.Slot != 0 {
		t.Fatalf("put = %+v, want slot 0", first)
	}
	expectCells(t, "put into the first slot", first.Page, []byte("a"), []byte("b"))
}

func TestCellsOfAllLengths(t *testing.T) {
	page := pageWith(t, seqCell(100, 10))
	for length := range 260 {
		cell := seqCell(1, length)
		put, set := impl.PutSlot(page, cell), impl.SetSlot(page, 0, cell)
		if length < 1 || length > 20 {
			expectPageCode(t, "PutSlot of "+strconv.Itoa(length), put, impl.ErrForm)
			expectPageCode(t, "SetSlot of "+strconv.Itoa(length), set, impl.ErrForm)
			continue
		}
		if put.Code != impl.OK || put.Slot != 1 || set.Code != impl.OK {
			t.Fatalf("%d bytes: %+v, %+v", length, put, set)
		}
		expectCells(t, "put", put.Page, seqCell(100, 10), cell)
		expectCells(t, "set", set.Page, cell)
	}
	expectPageCode(t, "PutSlot of nil", impl.PutSlot(page, nil), impl.ErrForm)
	expectPageCode(t, "SetSlot of nil", impl.SetSlot(page, 0, nil), impl.ErrForm)
	// The length of a cell is asked ahead of the slot and of the room.
	for _, slot := range farSlots {
		expectPageCode(t, "SetSlot of 21", impl.SetSlot(page, slot, seqCell(1, 21)), impl.ErrForm)
		expectPageCode(t, "SetSlot of 0", impl.SetSlot(page, slot, nil), impl.ErrForm)
	}
	expectPageCode(t, "PutSlot of 21, ErrMany", impl.PutSlot(fullDirectory(t), seqCell(1, 21)), impl.ErrForm)
	expectPageCode(t, "PutSlot of 21, ErrFull", impl.PutSlot(headPage(1, 4, 4, 60), seqCell(1, 21)), impl.ErrForm)
	expectPageCode(t, "PutSlot of 21, ErrState", impl.PutSlot(headPage(0, 2), seqCell(1, 21)), impl.ErrForm)
	expectPageCode(t, "SetSlot of 21, ErrFull", impl.SetSlot(headPage(2, 6, 6, 1, 7, 57), 0, seqCell(1, 21)), impl.ErrForm)
}

func TestPutSlotRoomForANewSlot(t *testing.T) {
	for length := 1; length <= 20; length++ {
		cell := seqCell(1, length)
		// All bytes below low are free: there is just the room that low leaves.
		for gap := range 30 {
			low := 6 + gap
			page := headPage(2, byte(low), byte(low), 1, byte(low+1), byte(64-low-1))
			got := impl.PutSlot(page, cell)
			if gap < length+2 {
				expectPageCode(t, "PutSlot in a full page", got, impl.ErrFull)
				continue
			}
			if got.Code != impl.OK || got.Slot != 2 || int(got.Page[1]) != low-length {
				t.Fatalf("PutSlot of %d, gap %d = %+v", length, gap, got)
			}
			expectTurned(t, "PutSlot", page, got.Page, append(fromTo(low-length, low), 0, 1, 6, 7)...)
		}
		// There is room, but not in one piece.
		for gap := range 30 {
			low := 4 + gap
			page := headPage(1, byte(low), 63, 1)
			got := impl.PutSlot(page, cell)
			if gap < length+2 {
				expectPageCode(t, "PutSlot in a loose page", got, impl.ErrState)
				expectGoesThrough(t, page, cell)
				continue
			}
			if got.Code != impl.OK || got.Slot != 1 || int(got.Page[1]) != low-length {
				t.Fatalf("PutSlot of %d, gap %d = %+v", length, gap, got)
			}
		}
	}
}

func TestPutSlotRoomForAnEmptySlot(t *testing.T) {
	for length := 1; length <= 20; length++ {
		cell := seqCell(1, length)
		for gap := range 30 {
			low := 6 + gap
			page := headPage(2, byte(low), 0, 0, byte(low), byte(64-low))
			got := impl.PutSlot(page, cell)
			if gap < length {
				expectPageCode(t, "PutSlot in a full page", got, impl.ErrFull)
				continue
			}
			if got.Code != impl.OK || got.Slot != 0 || int(got.Page[1]) != low-length {
				t.Fatalf("PutSlot of %d, gap %d = %+v", length, gap, got)
			}
			expectTurned(t, "PutSlot", page, got.Page, append(fromTo(low-length, low), 1, 2, 3)...)
		}
		for gap := range 30 {
			low := 6 + gap
			page := headPage(2, byte(low), 0, 0, 63, 1)
			got := impl.PutSlot(page, cell)
			if gap < length {
				expectPageCode(t, "PutSlot in a loose page", got, impl.ErrState)
				expectGoesThrough(t, page, cell)
				continue
			}
			if got.Code != impl.OK || got.Slot != 0 || int(got.Page[1]) != low-length {
				t.Fatalf("PutSlot of %d, gap %d = %+v", length, gap, got)
			}
		}
	}
}

// expectGoesThrough asks that only the pieces were in the way of a put.
func expectGoesThrough(t *testing.T, page []byte, cell []byte) {
	t.Helper()
	compact := impl.CompactPage(page)
	put := impl.PutSlot(compact.Page, cell)
	if compact.Code != impl.OK || put.Code != impl.OK || !bytes.Equal(impl.SlotIn(put.Page, put.Slot).Bytes, cell) {
		t.Errorf("PutSlot behind CompactPage(%v) = %+v", page, put)
	}
}

func TestPutSlotManyAheadOfFullAheadOfState(t *testing.T) {
	full := fullDirectory(t)
	expectPageCode(t, "a 17th slot", impl.PutSlot(full, []byte("x")), impl.ErrMany)
	expectPageCode(t, "a 17th slot without room", impl.PutSlot(full, seqCell(1, 15)), impl.ErrMany)
	loose := bytes.Clone(full)
	loose[1] = 34
	expectPageCode(t, "a 17th slot, room in pieces", impl.PutSlot(loose, []byte("x")), impl.ErrMany)

	// Of 16 slots one is empty: it is taken, and needs nothing but the cell.
	hole := impl.DropSlot(full, 7).Page
	expectPageCode(t, "16 bytes, 15 free", impl.PutSlot(hole, seqCell(1, 16)), impl.ErrFull)
	expectPageCode(t, "15 bytes, 15 free, 14 in one piece", impl.PutSlot(hole, seqCell(1, 15)), impl.ErrState)
	put := impl.PutSlot(hole, seqCell(1, 14))
	if put.Code != impl.OK || put.Slot != 7 || put.Page[0] != 16 || put.Page[1] != 34 {
		t.Errorf("14 bytes = %+v", put)
	}
	// The 16th slot is a new one.
	fifteen := impl.DropSlot(full, 15).Page
	put = impl.PutSlot(fifteen, []byte("z"))
	if put.Code != impl.OK || put.Slot != 15 || put.Page[0] != 16 {
		t.Errorf("the 16th slot = %+v", put)
	}
	// Neither the free bytes nor the piece suffice: the sum is asked first.
	tight := headPage(2, 6, 10, 20, 30, 34)
	expectPageCode(t, "4 free, low at the directory", impl.PutSlot(tight, seqCell(1, 3)), impl.ErrFull)
	expectPageCode(t, "4 free, low at the directory", impl.PutSlot(tight, seqCell(1, 2)), impl.ErrState)
	expectPageCode(t, "1 free for a slot of 2", impl.PutSlot(headPage(1, 5, 5, 59), []byte("x")), impl.ErrFull)
	expectPageCode(t, "none free", impl.PutSlot(headPage(1, 4, 4, 60), []byte("x")), impl.ErrFull)
}

func TestSetSlotShorterAndAsLong(t *testing.T) {
	cells := [][]byte{[]byte("abc"), []byte("0123456789"), nil, []byte("xy")}
	page := pageWith(t, cells...)
	place := int(page[4])
	for length := 1; length <= 10; length++ {
		cell := seqCell(200, length)
		got := impl.SetSlot(page, 1, cell)
		if got.Code != impl.OK {
			t.Fatalf("SetSlot of %d = %+v", length, got)
		}
		expectCells(t, "shorter", got.Page, cells[0], cell, nil, cells[3])
		if int(got.Page[4]) != place+10-length || int(got.Page[5]) != length || got.Page[1] != page[1] {
			t.Errorf("SetSlot of %d: %v", length, got.Page[:10])
		}
		expectTurned(t, "shorter", page, got.Page, append(fromTo(place+10-length, place+10), 4, 5)...)
		if impl.FreeIn(got.Page).Value != impl.FreeIn(page).Value+10-int64(length) {
			t.Errorf("SetSlot of %d: FreeIn = %+v", length, impl.FreeIn(got.Page))
		}
	}
	// The lowest cell is no exception: low stays where it is.
	lowest := impl.SetSlot(page, 3, []byte("z"))
	expectCells(t, "the lowest", lowest.Page, cells[0], cells[1], nil, []byte("z"))
	expectTurned(t, "the lowest", page, lowest.Page, int(page[8])+1, 8, 9)
	// A shorter one needs no room at all.
	full := headPage(1, 4, 4, 60)
	for length := 1; length <= 20; length++ {
		if got := impl.SetSlot(full, 0, seqCell(1, length)); got.Code != impl.OK || int(got.Page[2]) != 64-length {
			t.Errorf("SetSlot of %d in a full page = %+v", length, got)
		}
	}
}

func TestSetSlotLonger(t *testing.T) {
	cells := [][]byte{[]byte("abc"), []byte("01234"), nil, []byte("xy")}
	page := pageWith(t, cells...)
	low := int(page[1])
	for length := 6; length <= 20; length++ {
		cell := seqCell(200, length)
		got := impl.SetSlot(page, 1, cell)
		if got.Code != impl.OK {
			t.Fatalf("SetSlot of %d = %+v", length, got)
		}
		expectCells(t, "longer", got.Page, cells[0], cell, nil, cells[3])
		if int(got.Page[1]) != low-length || int(got.Page[4]) != low-length || int(got.Page[5]) != length {
			t.Errorf("SetSlot of %d: %v", length, got.Page[:10])
		}
		expectTurned(t, "longer", page, got.Page, append(fromTo(low-length, low), 1, 4, 5)...)
	}
}

func TestSetSlotRoom(t *testing.T) {
	for length := 4; length <= 20; length++ {
		cell := seqCell(1, length)
		// The cell of 3 bytes stands at low; below it there is the gap, and no other byte is free.
		for gap := range 24 {
			low := 6 + gap
			page := headPage(2, byte(low), byte(low), 3, byte(low+3), byte(64-low-3))
			got := impl.SetSlot(page, 0, cell)
			switch {
			case gap+3 < length:
				expectPageCode(t, "SetSlot in a full page", got, impl.ErrFull)
			case gap < length:
				expectPageCode(t, "SetSlot with its own room in pieces", got, impl.ErrState)
			case got.Code != impl.OK || int(got.Page[1]) != low-length || int(got.Page[2]) != low-length:
				t.Errorf("SetSlot of %d, gap %d = %+v", length, gap, got)
			}
		}
		for gap := range 24 {
			low := 6 + gap
			page := headPage(2, byte(low), 61, 3, 60, 1)
			got := impl.SetSlot(page, 0, cell)
			if gap < length {
				expectPageCode(t, "SetSlot in a loose page", got, impl.ErrState)
			} else if got.Code != impl.OK || int(got.Page[1]) != low-length {
				t.Errorf("SetSlot of %d, gap %d = %+v", length, gap, got)
			}
		}
	}
}

func TestSlotsThatAreNoneOrEmpty(t *testing.T) {
	page := pageWith(t, []byte("abc"), nil, []byte("d"))
	full := headPage(3, 8, 8, 1, 0, 0, 9, 55)
	for _, slot := range append([]int64{1, 3, 4}, farSlots...) {
		for _, page := range [][]byte{page, full} {
			name := "slot " + strconv.FormatInt(slot, 10)
			if got := impl.SlotIn(page, slot); got.Code != impl.ErrNone || len(got.Bytes) != 0 {
				t.Errorf("%s: SlotIn = %+v", name, got)
			}
			expectPageCode(t, name+": DropSlot", impl.DropSlot(page, slot), impl.ErrNone)
			expectPageCode(t, name+": SetSlot", impl.SetSlot(page, slot, []byte("x")), impl.ErrNone)
			expectPageCode(t, name+": SetSlot of 20", impl.SetSlot(page, slot, seqCell(1, 20)), impl.ErrNone)
		}
		if got := impl.SlotIn(impl.NewPage(1).Page, slot); got.Code != impl.ErrNone {
			t.Errorf("SlotIn(%d) of a new page = %+v", slot, got)
		}
	}
	expectPageCode(t, "DropSlot of a new page", impl.DropSlot(impl.NewPage(1).Page, 0), impl.ErrNone)
	expectPageCode(t, "SetSlot of a new page", impl.SetSlot(impl.NewPage(1).Page, 0, []byte("x")), impl.ErrNone)
	all := fullDirectory(t)
	for slot := range int64(16) {
		if impl.SlotIn(all, slot).Code != impl.OK || impl.DropSlot(all, slot).Code != impl.OK || impl.SetSlot(all, slot, []byte("x")).Code != impl.OK {
			t.Errorf("slot %d of 16 is not there", slot)
		}
	}
	for _, slot := range farSlots {
		expectPageCode(t, "DropSlot of 16", impl.DropSlot(all, slot), impl.ErrNone)
	}
}

func TestDropSlot(t *testing.T) {
	page := pageWith(t, []byte("ab"), []byte("cde"), []byte("f"))
	middle := impl.DropSlot(page, 1)
	if middle.Code != impl.OK || middle.Slot != 0 {
		t.Fatalf("DropSlot(1) = %+v", middle)
	}
	expectCells(t, "the middle", middle.Page, []byte("ab"), nil, []byte("f"))
	expectTurned(t, "the middle", page, middle.Page, 4, 5)

	// With the last one the empty one ahead of it goes too.
	two := impl.DropSlot(middle.Page, 2)
	expectCells(t, "the last", two.Page, []byte("ab"))
	expectTurned(t, "the last", middle.Page, two.Page, 0, 6, 7)
	if two.Page[0] != 1 || !bytes.Equal(two.Page[4:8], []byte{0, 0, 0, 0}) || two.Page[1] != page[1] {
		t.Errorf("behind the last: %v", two.Page)
	}
	none := impl.DropSlot(two.Page, 0)
	expectCells(t, "all", none.Page)
	expectTurned(t, "all", two.Page, none.Page, 0, 2, 3)
	if none.Page[0] != 0 || none.Page[1] != page[1] || impl.FreeIn(none.Page).Value != 62 {
		t.Errorf("behind all: %v", none.Page)
	}
	// A first one that is dropped takes none behind it along.
	first := impl.DropSlot(page, 0)
	expectCells(t, "the first", first.Page, nil, []byte("cde"), []byte("f"))
	expectTurned(t, "the first", page, first.Page, 2, 3)
}

func TestDropSlotDownToNone(t *testing.T) {
	page := fullDirectory(t)
	for slot := range int64(15) {
		page = impl.DropSlot(page, slot).Page
		if page[0] != 16 || impl.PageFault(page) != impl.OK {
			t.Fatalf("behind %d: %v", slot, page)
		}
	}
	last := impl.DropSlot(page, 15)
	want := append([]byte{0, 48}, make([]byte, 32)...)
	if last.Code != impl.OK || !bytes.Equal(last.Page[:34], want) || !bytes.Equal(last.Page[34:], page[34:]) {
		t.Errorf("behind all: %+v", last)
	}
}

func TestCompactPageBytes(t *testing.T) {
	page := headPage(5, 20, 30, 3, 0, 0, 50, 2, 0, 0, 40, 4)
	copy(page[30:], "abc")
	copy(page[50:], "de")
	copy(page[40:], "fghi")
	want := append([]byte{5, 55, 61, 3, 0, 0, 59, 2, 0, 0, 55, 4}, make([]byte, 43)...)
	want = append(want, "fghideabc"...)
	got := impl.CompactPage(page)
	if got.Code != impl.OK || got.Slot != 0 || !bytes.Equal(got.Page, want) {
		t.Errorf("CompactPage = %+v, want %v", got, want)
	}
	// A page without slots has neither cells nor other bytes behind it.
	for _, low := range []byte{2, 30, 64} {
		got := impl.CompactPage(headPage(0, low))
		if want := append([]byte{0, 64}, make([]byte, 62)...); got.Code != impl.OK || !bytes.Equal(got.Page, want) {
			t.Errorf("CompactPage without slots = %+v", got)
		}
	}
	// Where nothing is free nothing turns.
	full := headPage(2, 6, 34, 30, 6, 28)
	if got := impl.CompactPage(full); got.Code != impl.OK || !bytes.Equal(got.Page, full) {
		t.Errorf("CompactPage of a full page = %+v", got)
	}
	// The order is that of the slots, not that of the places.
	turned := headPage(2, 60, 60, 2, 62, 2)
	copy(turned[60:], "abcd")
	want = append([]byte{2, 60, 62, 2, 60, 2}, make([]byte, 54)...)
	want = append(want, "cdab"...)
	if got := impl.CompactPage(turned); got.Code != impl.OK || !bytes.Equal(got.Page, want) {
		t.Errorf("CompactPage = %+v, want %v", got, want)
	}
}

func TestCompactPageOfLongCells(t *testing.T) {
	page := headPage(2, 10, 10, 40, 60, 4)
	copy(page[10:], seqCell(100, 54))
	got := impl.CompactPage(page)
	if got.Code != impl.OK || got.Page[1] != 20 {
		t.Fatalf("CompactPage = %+v", got)
	}
	expectCells(t, "long cells", got.Page, page[10:50], page[60:64])
}

// modelPage is what a page should be: its cells, their places, low, and no bytes.
type modelPage struct {
	low    int
	cells  [][]byte
	places []int
}

func (m *modelPage) free() int {
	free := 62 - 2*len(m.cells)
	for _, cell := range m.cells {
		free -= len(cell)
	}
	return free
}

func (m *modelPage) has(slot int64) bool {
	return slot >= 0 && slot < int64(len(m.cells)) && m.cells[slot] != nil
}

func (m *modelPage) put(cell []byte) (int64, int64) {
	if len(cell) == 0 || len(cell) > 20 {
		return impl.ErrForm, 0
	}
	slot := slices.IndexFunc(m.cells, func(c []byte) bool { return c == nil })
	more := 0
	if slot < 0 {
		slot, more = len(m.cells), 1
	}
	switch {
	case slot == 16:
		return impl.ErrMany, 0
	case m.free()-2*more-len(cell) < 0:
		return impl.ErrFull, 0
	case m.low-2-2*(len(m.cells)+more)-len(cell) < 0:
		return impl.ErrState, 0
	}
	if more > 0 {
		m.cells, m.places = append(m.cells, nil), append(m.places, 0)
	}
	m.low -= len(cell)
	m.cells[slot], m.places[slot] = cell, m.low
	return impl.OK, int64(slot)
}

func (m *modelPage) set(slot int64, cell []byte) int64 {
	if len(cell) == 0 || len(cell) > 20 {
		return impl.ErrForm
	}
	if !m.has(slot) {
		return impl.ErrNone
	}
	old := len(m.cells[slot])
	switch {
	case len(cell) <= old:
		m.places[slot] += old - len(cell)
		m.cells[slot] = cell
		return impl.OK
	case m.free()+old-len(cell) < 0:
		return impl.ErrFull
	case m.low-2-2*len(m.cells)-len(cell) < 0:
		return impl.ErrState
	}
	m.low -= len(cell)
	m.cells[slot], m.places[slot] = cell, m.low
	return impl.OK
}

func (m *modelPage) drop(slot int64) int64 {
	if !m.has(slot) {
		return impl.ErrNone
	}
	m.cells[slot], m.places[slot] = nil, 0
	for n := len(m.cells); n > 0 && m.cells[n-1] == nil; n-- {
		m.cells, m.places = m.cells[:n-1], m.places[:n-1]
	}
	return impl.OK
}

func (m *modelPage) compact() {
	m.low = 64
	for i, cell := range m.cells {
		if cell != nil {
			m.low -= len(cell)
			m.places[i] = m.low
		}
	}
}

func (m *modelPage) expect(t *testing.T, page []byte) {
	t.Helper()
	want := []byte{byte(len(m.cells)), byte(m.low)}
	for i, cell := range m.cells {
		want = append(want, byte(m.places[i]), byte(len(cell)))
	}
	if len(page) != 64 || !bytes.Equal(page[:len(want)], want) {
		t.Fatalf("page %v, want directory %v", page, want)
	}
	expectCells(t, "walk", page, m.cells...)
	if free := impl.FreeIn(page); free != (impl.IntResult{Value: int64(m.free())}) {
		t.Fatalf("FreeIn = %+v, want %d", free, m.free())
	}
}

// Long walks of all kinds of steps; a step with a code turns nothing.
func TestPagesOverLongWalks(t *testing.T) {
	seed := uint32(1)
	below := func(n uint32) int {
		seed = seed*1664525 + 1013904223
		return int(seed >> 8 % n)
	}
	seen := map[string]int{}
	for walk := range 60 {
		page, model := impl.NewPage(byte(walk)).Page, &modelPage{low: 64}
		for range 200 {
			kind, slot := below(10), int64(below(19)-1)
			cell := seqCell(byte(below(256)), 1+below(uint32(2+walk%20)))
			var got impl.PageResult
			want, wantSlot, name := int64(impl.OK), int64(0), "put"
			switch {
			case kind < 5:
				got = impl.PutSlot(page, cell)
				want, wantSlot = model.put(cell)
			case kind < 7:
				name, got, want = "set", impl.SetSlot(page, slot, cell), model.set(slot, cell)
			case kind < 9:
				name, got, want = "drop", impl.DropSlot(page, slot), model.drop(slot)
			default:
				name, got = "compact", impl.CompactPage(page)
				model.compact()
			}
			seen[name+strconv.FormatInt(want, 10)]++
			if want != impl.OK {
				expectPageCode(t, name, got, want)
				continue
			}
			if got.Code != impl.OK || got.Slot != wantSlot {
				t.Fatalf("%s = %+v, want slot %d", name, got, wantSlot)
			}
			page = got.Page
			model.expect(t, page)
		}
	}
	for _, name := range []string{"put0", "put1", "put2", "put8", "put9", "set0", "set1", "set4", "set8", "set9", "drop0", "drop4", "compact0"} {
		if seen[name] == 0 {
			t.Errorf("no walk comes by %s", name)
		}
	}
}

// Behind a compacting all room is in one piece, and its bytes are 0.
func TestCompactPageLeavesOnePiece(t *testing.T) {
	pages := [][]byte{
		pageWith(t, []byte("abc"), nil, seqCell(1, 20), nil, []byte("d")),
		pageWith(t, nil, seqCell(1, 20)),
		headPage(3, 8, 20, 3, 0, 0, 40, 20),
		headPage(1, 4, 40, 1),
		fullDirectory(t),
		impl.DropSlot(fullDirectory(t), 3).Page,
	}
	for _, page := range pages {
		got := impl.CompactPage(page)
		if got.Code != impl.OK || impl.FreeIn(got.Page) != impl.FreeIn(page) || got.Page[0] != page[0] {
			t.Fatalf("CompactPage(%v) = %+v", page, got)
		}
		for slot := range int64(page[0]) {
			was, is := impl.SlotIn(page, slot), impl.SlotIn(got.Page, slot)
			if was.Code != is.Code || !bytes.Equal(was.Bytes, is.Bytes) {
				t.Errorf("slot %d: %+v, want %+v", slot, is, was)
			}
		}
		behind, low := 2+2*int(page[0]), int(got.Page[1])
		if int64(low-behind) != impl.FreeIn(page).Value {
			t.Errorf("CompactPage(%v) leaves %d bytes in one piece", page, low-behind)
		}
		for at := behind; at < low; at++ {
			if got.Page[at] != 0 {
				t.Errorf("byte %d is %d", at, got.Page[at])
			}
		}
		if again := impl.CompactPage(got.Page); !bytes.Equal(again.Page, got.Page) {
			t.Errorf("compacted twice: %v, once: %v", again.Page, got.Page)
		}
	}
}

func TestPagesAreNotChanged(t *testing.T) {
	pages := [][]byte{
		headPage(0, 64),
		pageWith(t, []byte("abc"), nil, []byte("defgh"), []byte("i")),
		headPage(3, 20, 20, 3, 0, 0, 50, 14),
		fullDirectory(t),
		headPage(17, 64),
		headPage(2, 60, 60, 2, 60, 2),
		headPage(0, 64)[:63],
	}
	for _, page := range pages {
		// What stands behind the list in memory is nobody's.
		room, cellRoom := append(bytes.Clone(page), "behind"...), []byte("0123456789behind")
		kept, cellKept := bytes.Clone(room), bytes.Clone(cellRoom)
		given := room[:len(page)]
		impl.PageFault(given)
		impl.FreeIn(given)
		impl.CompactPage(given)
		for length := range 11 {
			impl.PutSlot(given, cellRoom[:length])
		}
		for slot := int64(-1); slot < 18; slot++ {
			impl.SlotIn(given, slot)
			impl.DropSlot(given, slot)
			for length := range 11 {
				impl.SetSlot(given, slot, cellRoom[:length])
			}
		}
		if !bytes.Equal(room, kept) || !bytes.Equal(cellRoom, cellKept) {
			t.Errorf("%v turned into %v, %v", kept, room, cellRoom)
		}
	}
}

// scribble turns all bytes of a list, and all memory that an append to it would reach.
func scribble(list []byte) {
	list = list[:cap(list)]
	for i := range list {
		list[i] ^= 255
	}
}

func TestPageAnswersAreNewMemory(t *testing.T) {
	page := pageWith(t, []byte("abc"), nil, []byte("defgh"), []byte("i"))
	kept, cell := bytes.Clone(page), []byte("xyz")
	calls := map[string]func() []byte{
		"NewPage":         func() []byte { return impl.NewPage(3).Page },
		"SlotIn":          func() []byte { return impl.SlotIn(page, 2).Bytes },
		"PutSlot":         func() []byte { return impl.PutSlot(page, cell).Page },
		"SetSlot longer":  func() []byte { return impl.SetSlot(page, 3, cell).Page },
		"SetSlot shorter": func() []byte { return impl.SetSlot(page, 2, cell).Page },
		"SetSlot alike":   func() []byte { return impl.SetSlot(page, 0, []byte("abc")).Page },
		"DropSlot":        func() []byte { return impl.DropSlot(page, 3).Page },
		"CompactPage":     func() []byte { return impl.CompactPage(page).Page },
	}
	for name, call := range calls {
		first, second := call(), call()
		want := bytes.Clone(second)
		if len(first) == 0 || !bytes.Equal(first, want) {
			t.Errorf("%s told %v, then %v", name, first, want)
		}
		scribble(first)
		if third := call(); !bytes.Equal(second, want) || !bytes.Equal(third, want) {
			t.Errorf("%s shares memory from call to call", name)
		}
		if !bytes.Equal(page, kept) || string(cell) != "xyz" {
			t.Errorf("%s shares memory with what was handed in", name)
		}
	}
	// Nor does an answer follow when what was handed in turns later.
	read, put, compact := impl.SlotIn(page, 2), impl.PutSlot(page, cell), impl.CompactPage(page)
	wantRead, wantPut, wantCompact := bytes.Clone(read.Bytes), bytes.Clone(put.Page), bytes.Clone(compact.Page)
	scribble(page)
	scribble(cell)
	if !bytes.Equal(read.Bytes, wantRead) || !bytes.Equal(put.Page, wantPut) || !bytes.Equal(compact.Page, wantCompact) {
		t.Error("an answer turns with what was handed in")
	}
}

// A page ends where its list ends, and the bytes behind its cells count for nothing.
func TestPagesReadNoCapacity(t *testing.T) {
	whole := headPage(1, 61, 61, 3)
	for length := range 64 {
		if code := impl.PageFault(whole[:length]); code != impl.ErrForm {
			t.Errorf("PageFault of %d bytes = %d", length, code)
		}
	}
	got := impl.PutSlot(whole, seqCell(1, 30)[:5])
	if got.Code != impl.OK || got.Page[5] != 5 {
		t.Errorf("PutSlot = %+v", got)
	}
}
