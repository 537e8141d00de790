package tests

import (
	"bytes"
	"math"
	"regexp"
	"slices"
	"strconv"
	"strings"
	"testing"

	"loop.example/g00408/impl"
)

var rowFlags = []int64{impl.FlagRow, impl.FlagMoved}

// edgeRows has the ends of every bound, and what lies beside the places where bytes and digits turn.
func edgeRows() []impl.Row {
	var rows []impl.Row
	for _, table := range []int64{0, 1, 2, 3} {
		for _, key := range []int64{1, 2, 9, 10, 98, 99} {
			for _, val := range []int64{0, 1, 9, 10, 99, 100, 255, 256, 257, 300, 511, 512, 998, 999} {
				for _, text := range []string{"", "a", "z", "ab", "abcdefg", "abcdefgh", "zzzzzzzz"} {
					rows = append(rows, impl.Row{Table: table, Key: key, Val: val, Text: text})
				}
			}
		}
	}
	return rows
}

func TestCodesAndFlags(t *testing.T) {
	codes := []int64{impl.OK, impl.ErrForm, impl.ErrMany, impl.ErrRange, impl.ErrNone, impl.ErrText, impl.ErrTaken, impl.ErrLock, impl.ErrState, impl.ErrFull, impl.ErrType}
	for i, code := range codes {
		if code != int64(i) {
			t.Errorf("code %d is %d", i, code)
		}
	}
	if impl.FlagRow != 0 || impl.FlagStub != 1 || impl.FlagMoved != 2 {
		t.Error(impl.FlagRow, impl.FlagStub, impl.FlagMoved)
	}
}

func TestRowFaultAtEdges(t *testing.T) {
	const least, greatest = math.MinInt64, math.MaxInt64
	cases := []struct {
		row  impl.Row
		code int64
	}{
		{impl.Row{Table: 0, Key: 1, Val: 0}, impl.OK},
		{impl.Row{Table: 3, Key: 99, Val: 999, Text: "abcdefgh"}, impl.OK},
		{impl.Row{Table: -1, Key: 1}, impl.ErrRange},
		{impl.Row{Table: 4, Key: 1}, impl.ErrRange},
		{impl.Row{Table: least, Key: 1}, impl.ErrRange},
		{impl.Row{Table: greatest, Key: 1}, impl.ErrRange},
		{impl.Row{Table: 256, Key: 1}, impl.ErrRange},
		{impl.Row{}, impl.ErrRange},
		{impl.Row{Key: -1}, impl.ErrRange},
		{impl.Row{Key: 100}, impl.ErrRange},
		{impl.Row{Key: least}, impl.ErrRange},
		{impl.Row{Key: greatest}, impl.ErrRange},
		{impl.Row{Key: 257}, impl.ErrRange},
		{impl.Row{Key: 1, Val: -1}, impl.ErrRange},
		{impl.Row{Key: 1, Val: 1000}, impl.ErrRange},
		{impl.Row{Key: 1, Val: least}, impl.ErrRange},
		{impl.Row{Key: 1, Val: greatest}, impl.ErrRange},
		{impl.Row{Key: 1, Val: 65536}, impl.ErrRange},
		{impl.Row{Key: 1, Text: "abcdefghi"}, impl.ErrText},
		{impl.Row{Key: 1, Text: strings.Repeat("a", 256)}, impl.ErrText},
		{impl.Row{Key: 1, Text: "A"}, impl.ErrText},
		{impl.Row{Key: 1, Text: " "}, impl.ErrText},
		{impl.Row{Key: 1, Text: "a b"}, impl.ErrText},
		{impl.Row{Key: 1, Text: "é"}, impl.ErrText},
		{impl.Row{Key: 1, Text: "\x00"}, impl.ErrText},
		{impl.Row{Key: 1, Text: "\xff"}, impl.ErrText},
		{impl.Row{Table: 4, Key: 1, Text: "A"}, impl.ErrRange},
		{impl.Row{Key: 0, Text: "A"}, impl.ErrRange},
		{impl.Row{Key: 1, Val: 1000, Text: "abcdefghi"}, impl.ErrRange},
	}
	for _, c := range cases {
		if code := impl.RowFault(c.row); code != c.code {
			t.Errorf("RowFault(%+v) = %d, want %d", c.row, code, c.code)
		}
		if c.code == impl.OK {
			continue
		}
		if text := impl.RowText(c.row); text != (impl.TextResult{Code: c.code}) {
			t.Errorf("RowText(%+v) = %+v, want code %d", c.row, text, c.code)
		}
		for _, flag := range rowFlags {
			if cell := impl.PackRow(flag, c.row); cell.Code != c.code || len(cell.Bytes) != 0 {
				t.Errorf("PackRow(%d, %+v) = %+v, want code %d", flag, c.row, cell, c.code)
			}
		}
	}
}

// Every byte is asked at every place of a text, so that no place goes unread.
func TestRowFaultOfEachByteOfText(t *testing.T) {
	for place := range 8 {
		for b := range 256 {
			text := []byte("mmmmmmmm")
			text[place] = byte(b)
			want := int64(impl.ErrText)
			if b >= 'a' && b <= 'z' {
				want = impl.OK
			}
			if code := impl.RowFault(impl.Row{Key: 1, Text: string(text)}); code != want {
				t.Errorf("RowFault of text %q = %d, want %d", text, code, want)
			}
		}
	}
}

func TestIsBeforeOrdersKeys(t *testing.T) {
	var rising []impl.Row
	for table := int64(0); table <= 3; table++ {
		for key := int64(1); key <= 99; key++ {
			rising = append(rising, impl.Row{Table: table, Key: key, Val: 999 - key, Text: "z"})
		}
	}
	for i, a := range rising {
		for j, b := range rising {
			b.Val, b.Text = 500, "m"
			if impl.IsBefore(a, b) != (i < j) {
				t.Fatalf("IsBefore(%+v, %+v) = %v", a, b, i >= j)
			}
		}
	}
}

func TestIsBeforeFarOutOfBounds(t *testing.T) {
	numbers := []int64{math.MinInt64, math.MinInt64 + 1, -1, 0, 1, math.MaxInt64 - 1, math.MaxInt64}
	var rising []impl.Row
	for _, table := range numbers {
		for _, key := range numbers {
			rising = append(rising, impl.Row{Table: table, Key: key})
		}
	}
	for i, a := range rising {
		for j, b := range rising {
			if impl.IsBefore(a, b) != (i < j) {
				t.Errorf("IsBefore(%+v, %+v) = %v", a, b, i >= j)
			}
		}
	}
}

func TestPackRowBytes(t *testing.T) {
	cases := []struct {
		flag int64
		row  impl.Row
		cell []byte
	}{
		{impl.FlagRow, impl.Row{Key: 1}, []byte{0, 0, 1, 0, 0, 0}},
		{impl.FlagMoved, impl.Row{Key: 1}, []byte{2, 0, 1, 0, 0, 0}},
		{impl.FlagRow, impl.Row{Table: 1, Key: 2, Val: 300, Text: "ab"}, []byte{0, 1, 2, 1, 44, 2, 'a', 'b'}},
		{impl.FlagMoved, impl.Row{Table: 3, Key: 99, Val: 999, Text: "abcdefgh"}, []byte{2, 3, 99, 3, 231, 8, 'a', 'b', 'c', 'd', 'e', 'f', 'g', 'h'}},
		{impl.FlagRow, impl.Row{Table: 2, Key: 50, Val: 255, Text: "z"}, []byte{0, 2, 50, 0, 255, 1, 'z'}},
		{impl.FlagRow, impl.Row{Table: 2, Key: 50, Val: 256, Text: "z"}, []byte{0, 2, 50, 1, 0, 1, 'z'}},
	}
	for _, c := range cases {
		if got := impl.PackRow(c.flag, c.row); got.Code != impl.OK || !bytes.Equal(got.Bytes, c.cell) {
			t.Errorf("PackRow(%d, %+v) = %+v, want %v", c.flag, c.row, got, c.cell)
		}
	}
}

func TestCellsOfRowsAreReadBack(t *testing.T) {
	for _, row := range edgeRows() {
		for _, flag := range rowFlags {
			cell := impl.PackRow(flag, row)
			if cell.Code != impl.OK || len(cell.Bytes) != 6+len(row.Text) {
				t.Fatalf("PackRow(%d, %+v) = %+v", flag, row, cell)
			}
			want := impl.CellResult{Flag: flag, Row: row}
			if got := impl.UnpackCell(cell.Bytes); got != want {
				t.Fatalf("UnpackCell(%v) = %+v, want %+v", cell.Bytes, got, want)
			}
		}
	}
}

func TestPackRowOfWrongFlag(t *testing.T) {
	flags := []int64{impl.FlagStub, -1, 3, 255, 256, 258, math.MinInt64, math.MaxInt64}
	rows := []impl.Row{{Key: 1, Text: "ab"}, {}, {Key: 1, Text: "A"}, {Table: math.MaxInt64, Text: "A"}}
	for _, flag := range flags {
		for _, row := range rows {
			if got := impl.PackRow(flag, row); got.Code != impl.ErrForm || len(got.Bytes) != 0 {
				t.Errorf("PackRow(%d, %+v) = %+v, want code %d", flag, row, got, impl.ErrForm)
			}
		}
	}
}

func TestStubsAreReadBack(t *testing.T) {
	for page := int64(0); page <= 11; page++ {
		for slot := int64(0); slot <= 15; slot++ {
			cell := impl.PackStub(page, slot)
			if cell.Code != impl.OK || !bytes.Equal(cell.Bytes, []byte{1, byte(page), byte(slot)}) {
				t.Fatalf("PackStub(%d, %d) = %+v", page, slot, cell)
			}
			want := impl.CellResult{Flag: impl.FlagStub, Page: page, Slot: slot}
			if got := impl.UnpackCell(cell.Bytes); got != want {
				t.Fatalf("UnpackCell(%v) = %+v, want %+v", cell.Bytes, got, want)
			}
		}
	}
}

func TestPackStubBeyondEdges(t *testing.T) {
	far := []int64{-1, 256, 257, math.MinInt64, math.MaxInt64}
	for _, page := range append(far, 12, 0, 11) {
		for _, slot := range append(far, 16, 0, 15) {
			if page >= 0 && page <= 11 && slot >= 0 && slot <= 15 {
				continue
			}
			if got := impl.PackStub(page, slot); got.Code != impl.ErrRange || len(got.Bytes) != 0 {
				t.Errorf("PackStub(%d, %d) = %+v, want code %d", page, slot, got, impl.ErrRange)
			}
		}
	}
}

func TestUnpackCellOfNothing(t *testing.T) {
	cases := map[string][]byte{
		"nil":                     nil,
		"no bytes":                {},
		"a row's flag alone":      {0},
		"a stub's flag alone":     {1},
		"a moved flag alone":      {2},
		"a row of 5 bytes":        {0, 0, 1, 0, 0},
		"a moved row of 5 bytes":  {2, 0, 1, 0, 0},
		"a row of 3 bytes":        {0, 0, 1},
		"a row with a byte more":  {0, 0, 1, 0, 0, 0, 'a'},
		"a row with a 0 more":     {0, 0, 1, 0, 0, 0, 0},
		"a text with a byte less": {0, 0, 1, 0, 0, 2, 'a'},
		"a text with a byte more": {0, 0, 1, 0, 0, 1, 'a', 'b'},
		"a text of 9":             {0, 0, 1, 0, 0, 9, 'a', 'a', 'a', 'a', 'a', 'a', 'a', 'a', 'a'},
		"a length of 255":         {0, 0, 1, 0, 0, 255},
		"a length of 255 with 8":  {0, 0, 1, 0, 0, 255, 'a', 'a', 'a', 'a', 'a', 'a', 'a', 'a'},
		"a text of 255":           append([]byte{0, 0, 1, 0, 0, 255}, bytes.Repeat([]byte{'a'}, 255)...),
		"a text of 256":           append([]byte{0, 0, 1, 0, 0, 0}, bytes.Repeat([]byte{'a'}, 256)...),
		"a capital":               {0, 0, 1, 0, 0, 1, 'A'},
		"a byte ahead of a":       {0, 0, 1, 0, 0, 1, 'a' - 1},
		"a byte behind z":         {2, 0, 1, 0, 0, 1, 'z' + 1},
		"a blank in the text":     {2, 0, 1, 0, 0, 3, 'a', ' ', 'a'},
		"table 4":                 {0, 4, 1, 0, 0, 0},
		"table 255":               {0, 255, 1, 0, 0, 0},
		"key 0":                   {0, 0, 0, 0, 0, 0},
		"key 100":                 {0, 0, 100, 0, 0, 0},
		"key 255":                 {2, 0, 255, 0, 0, 0},
		"val 1000":                {0, 0, 1, 3, 232, 0},
		"val 1024":                {0, 0, 1, 4, 0, 0},
		"val 65535":               {2, 0, 1, 255, 255, 0},
		"flag 3":                  {3, 0, 1, 0, 0, 0},
		"flag 3 of 3 bytes":       {3, 0, 0},
		"flag 255":                {255, 0, 1, 0, 0, 0},
		"a stub of 2 bytes":       {1, 0},
		"a stub of 4 bytes":       {1, 0, 0, 0},
		"a stub as long as a row": {1, 0, 1, 0, 0, 0},
		"page 12":                 {1, 12, 0},
		"page 255":                {1, 255, 0},
		"slot 16":                 {1, 0, 16},
		"slot 255":                {1, 0, 255},
		"many bytes":              make([]byte, 70000),
	}
	for name, data := range cases {
		if got := impl.UnpackCell(data); got != (impl.CellResult{Code: impl.ErrText}) {
			t.Errorf("%s: UnpackCell(%v) = %+v, want code %d", name, data, got, impl.ErrText)
		}
	}
}

// Whatever three bytes there are, only the stubs among them are cells.
func TestUnpackCellOfAllThreeBytes(t *testing.T) {
	for flag := range 256 {
		for page := range 256 {
			for slot := range 256 {
				want := impl.CellResult{Code: impl.ErrText}
				if flag == 1 && page <= 11 && slot <= 15 {
					want = impl.CellResult{Flag: 1, Page: int64(page), Slot: int64(slot)}
				}
				if got := impl.UnpackCell([]byte{byte(flag), byte(page), byte(slot)}); got != want {
					t.Fatalf("UnpackCell(%d %d %d) = %+v, want %+v", flag, page, slot, got, want)
				}
			}
		}
	}
}

// Data is a cell just where the cell of what was read is that data again.
func TestUnpackCellTakesNothingElse(t *testing.T) {
	base := impl.PackRow(impl.FlagMoved, impl.Row{Table: 1, Key: 9, Val: 300, Text: "abcdefgh"}).Bytes
	for cut := 0; cut <= len(base); cut++ {
		for place := range cut {
			for b := range 256 {
				data := bytes.Clone(base[:cut])
				data[place] = byte(b)
				got := impl.UnpackCell(data)
				if isCell(data) != (got.Code == impl.OK) {
					t.Fatalf("UnpackCell(%v) = %+v", data, got)
				}
				if got.Code == impl.OK && got.Flag != impl.FlagStub && !bytes.Equal(impl.PackRow(got.Flag, got.Row).Bytes, data) {
					t.Fatalf("UnpackCell(%v) = %+v", data, got)
				}
			}
		}
	}
}

func isCell(data []byte) bool {
	if len(data) == 3 {
		return data[0] == 1 && data[1] <= 11 && data[2] <= 15
	}
	if len(data) < 6 || data[0] != 0 && data[0] != 2 {
		return false
	}
	letters := 0
	for _, b := range data[6:] {
		if b >= 'a' && b <= 'z' {
			letters++
		}
	}
	return data[1] <= 3 && data[2] >= 1 && data[2] <= 99 && int(data[3])*256+int(data[4]) <= 999 &&
		letters <= 8 && letters == int(data[5]) && letters == len(data)-6
}

func TestRowTextExamples(t *testing.T) {
	cases := []struct {
		row  impl.Row
		text string
	}{
		{impl.Row{Table: 1, Key: 2, Val: 3, Text: "abc"}, "1 2 3 abc"},
		{impl.Row{Table: 1, Key: 2, Val: 300, Text: "ab"}, "1 2 300 ab"},
		{impl.Row{Key: 1}, "0 1 0"},
		{impl.Row{Table: 3, Key: 99, Val: 999}, "3 99 999"},
		{impl.Row{Table: 3, Key: 99, Val: 999, Text: "zzzzzzzz"}, "3 99 999 zzzzzzzz"},
		{impl.Row{Table: 2, Key: 10, Val: 100, Text: "a"}, "2 10 100 a"},
	}
	for _, c := range cases {
		if got := impl.RowText(c.row); got != (impl.TextResult{Text: c.text}) {
			t.Errorf("RowText(%+v) = %+v, want %q", c.row, got, c.text)
		}
		if got := impl.ParseRow(c.text); got != (impl.RowResult{Row: c.row}) {
			t.Errorf("ParseRow(%q) = %+v, want %+v", c.text, got, c.row)
		}
	}
}

func TestRowsAreReadBackFromTheirTexts(t *testing.T) {
	for _, row := range edgeRows() {
		text := impl.RowText(row)
		if text.Code != impl.OK {
			t.Fatalf("RowText(%+v) = %+v", row, text)
		}
		if got := impl.ParseRow(text.Text); got != (impl.RowResult{Row: row}) {
			t.Fatalf("ParseRow(%q) = %+v, want %+v", text.Text, got, row)
		}
	}
}

func TestParseRowOfWrongTexts(t *testing.T) {
	texts := []string{
		"", " ", "   ", "a", "abc", "1", "1 ", "1 2", "1 2 ", "1 2 a", "1 a 3", "a 2 3",
		"01 2 3", "1 02 3", "1 2 03", "00 2 3", "1 2 00", "1 00 3", "1 2 0003", "1 2 003 abc",
		"1  2 3", "1 2  3", "1 2 3  abc", " 1 2 3", "1 2 3 ", "1 2 3 abc ", "  1 2 3 abc",
		"+1 2 3", "1 +2 3", "1 2 +3", "-1 2 3", "1 -2 3", "1 2 -3", "1 2 -0", "-0 2 3",
		" 2 3", "1  3", "1 2  abc", "1 3 abc",
		"1 2 3 abc d", "1 2 3 4", "1 2 3 4 abc", "1 2 3 abc 4", "1 2 3abc", "1 2 3 abc1", "1 2 3 1abc",
		"1 2 3 Abc", "1 2 3 aBc", "1 2 3 abC", "1 2 3 `", "1 2 3 {", "1 2 3 é", "1 2 3 a\x00", "1 2 3 \xff",
		"1 2 3 abcdefghi", "1 2 3 " + strings.Repeat("a", 256), "1 2 3 " + strings.Repeat("a", 70000),
		"4 2 3", "10 2 3", "1 0 3", "1 100 3", "1 2 1000", "1 2 9999", "1 2 10000", "9999 2 3",
		"256 2 3", "1 257 3", "1 2 65536", "1 2 0x1", "1 2 1e1", "1 2 1_0", "1 2 3.0",
		"1 2 18446744073709551616", "18446744073709551617 2 3", "1 4294967298 3", "1 2 " + strings.Repeat("9", 70000),
		"1\t2\t3", "1 2 3\n", "1 2 3 abc\n", "\n1 2 3", "1,2,3", "1 2 3\tabc", "1 2 3\x00",
		"\u0661 2 3", "1 2 \u00b3", "1\u00a02 3", "1 2 :", "1 2 /", "/ 2 3", ": 2 3", "1 2 3:", "1 2 3/",
		strings.Repeat(" ", 70000), strings.Repeat("1 ", 35000),
	}
	for _, text := range texts {
		if got := impl.ParseRow(text); got != (impl.RowResult{Code: impl.ErrText}) {
			t.Errorf("ParseRow(%.40q) = %+v, want code %d", text, got, impl.ErrText)
		}
	}
}

var rowShape = regexp.MustCompile(`^([0-3]) ([1-9][0-9]?) (0|[1-9][0-9]{0,2})(?: ([a-z]{1,8}))?$`)

// expectedRow tells the row of a text by its shape alone, another way than the program does.
func expectedRow(text string) impl.RowResult {
	parts := rowShape.FindStringSubmatch(text)
	if parts == nil {
		return impl.RowResult{Code: impl.ErrText}
	}
	var numbers [3]int64
	for i := range numbers {
		numbers[i], _ = strconv.ParseInt(parts[i+1], 10, 64)
	}
	return impl.RowResult{Row: impl.Row{Table: numbers[0], Key: numbers[1], Val: numbers[2], Text: parts[4]}}
}

// nearTexts are all texts that are one byte away from a text: one turned, one more, one less.
func nearTexts(text string) []string {
	var near []string
	for at := 0; at <= len(text); at++ {
		for b := range 256 {
			near = append(near, text[:at]+string([]byte{byte(b)})+text[at:])
			if at < len(text) {
				near = append(near, text[:at]+string([]byte{byte(b)})+text[at+1:])
			}
		}
		if at < len(text) {
			near = append(near, text[:at]+text[at+1:])
		}
	}
	return near
}

func TestParseRowOfNearTexts(t *testing.T) {
	for _, text := range []string{"1 2 3 abc", "0 1 0", "3 99 999 abcdefgh", "2 10 100", "0 9 10 z", "3 99 999"} {
		for _, near := range nearTexts(text) {
			if got, want := impl.ParseRow(near), expectedRow(near); got != want {
				t.Fatalf("ParseRow(%q) = %+v, want %+v", near, got, want)
			}
		}
	}
}

// Short texts of the bytes that matter, all of them.
func TestParseRowOfAllShortTexts(t *testing.T) {
	texts := []string{""}
	for range 7 {
		var longer []string
		for _, text := range texts {
			if got, want := impl.ParseRow(text), expectedRow(text); got != want {
				t.Fatalf("ParseRow(%q) = %+v, want %+v", text, got, want)
			}
			for _, b := range " 0149az" {
				longer = append(longer, text+string(b))
			}
		}
		texts = longer
	}
	for _, text := range texts {
		if got, want := impl.ParseRow(text), expectedRow(text); got != want {
			t.Fatalf("ParseRow(%q) = %+v, want %+v", text, got, want)
		}
	}
}

func TestUnpackCellChangesNothing(t *testing.T) {
	cells := [][]byte{
		impl.PackRow(impl.FlagRow, impl.Row{Table: 1, Key: 2, Val: 300, Text: "ab"}).Bytes,
		impl.PackRow(impl.FlagMoved, impl.Row{Table: 1, Key: 2, Val: 300, Text: "abcdefgh"}).Bytes,
		impl.PackStub(11, 15).Bytes,
		{3, 2, 1},
		{0, 0, 1, 0, 0, 1, 'A'},
	}
	for _, cell := range cells {
		room := append(bytes.Clone(cell), "mnopqrst"...)
		kept := bytes.Clone(room)
		impl.UnpackCell(room[:len(cell)])
		if !bytes.Equal(room, kept) {
			t.Errorf("UnpackCell turned %v into %v", kept, room)
		}
	}
}

// A cell ends where its list ends, whatever stands behind it in memory.
func TestUnpackCellReadsNoCapacity(t *testing.T) {
	whole := []byte{0, 0, 1, 0, 0, 2, 'a', 'b', 'c'}
	for length := range len(whole) {
		got := impl.UnpackCell(whole[:length])
		if (got.Code == impl.OK) != (length == 8) {
			t.Errorf("UnpackCell of %d bytes = %+v", length, got)
		}
	}
}

func TestAnswersAreNewMemory(t *testing.T) {
	row := impl.Row{Table: 1, Key: 2, Val: 300, Text: "ab"}
	first, second := impl.PackRow(impl.FlagRow, row), impl.PackRow(impl.FlagRow, row)
	want := bytes.Clone(second.Bytes)
	got := impl.UnpackCell(first.Bytes)
	for i := range first.Bytes {
		first.Bytes[i] = 'x'
	}
	if got.Row != row || row.Text != "ab" {
		t.Errorf("a row shares memory with its cell: %+v", got)
	}
	if third := impl.PackRow(impl.FlagRow, row); !bytes.Equal(second.Bytes, want) || !bytes.Equal(third.Bytes, want) {
		t.Errorf("cells share memory: %v, %v", second.Bytes, third.Bytes)
	}
	stub, other := impl.PackStub(3, 4), impl.PackStub(3, 4)
	for i := range stub.Bytes {
		stub.Bytes[i] = 'x'
	}
	if third := impl.PackStub(3, 4); !bytes.Equal(other.Bytes, []byte{1, 3, 4}) || !bytes.Equal(third.Bytes, []byte{1, 3, 4}) {
		t.Errorf("stubs share memory: %v, %v", other.Bytes, third.Bytes)
	}
}

// Answers hang on arguments alone: what was asked in between, wrong things too, tells nothing.
func TestAnswersHangOnArgumentsAlone(t *testing.T) {
	row := impl.Row{Table: 2, Key: 7, Val: 256, Text: "key"}
	var cells [][]byte
	for range 3 {
		cells = append(cells, impl.PackRow(impl.FlagMoved, row).Bytes)
		if got := impl.ParseRow("2 7 256 key"); got != (impl.RowResult{Row: row}) {
			t.Errorf("ParseRow = %+v", got)
		}
		if got := impl.UnpackCell(cells[0]); got != (impl.CellResult{Flag: impl.FlagMoved, Row: row}) {
			t.Errorf("UnpackCell = %+v", got)
		}
		impl.PackRow(9, impl.Row{Table: math.MaxInt64})
		impl.ParseRow("3 99 999 zzzzzzzzz")
		impl.UnpackCell([]byte{0, 0, 1, 0, 0, 9})
	}
	if !slices.EqualFunc(cells, [][]byte{cells[0], cells[0], cells[0]}, bytes.Equal) {
		t.Errorf("cells of one row: %v", cells)
	}
}
