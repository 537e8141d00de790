package tests

import (
	"math"
	"regexp"
	"slices"
	"strconv"
	"strings"
	"testing"

	"loop.example/g00408/impl"
)

const maxLetters = "abcdefgh"

// told is the row that tells a table.
func told(table int64, longest int64) impl.Row {
	return rowOf(0, table, longest, "")
}

// farTables are no tables that a row can tell.
var farTables = []int64{math.MinInt64, math.MinInt64 + 1, -1 << 32, -256, -3, -2, -1, 0, 4, 5, 99, 255, 256, 257, 258, 259, 1<<32 + 1, 1<<32 + 2, math.MaxInt64 - 254, math.MaxInt64}

func expectTables(t *testing.T, name string, rows []impl.Row, want ...impl.Row) {
	t.Helper()
	if got := impl.TablesIn(rows); got.Code != impl.OK || !slices.Equal(got.Rows, want) {
		t.Errorf("%s: TablesIn = %+v, want %+v", name, got, want)
	}
}

func expectLongestOf(t *testing.T, name string, rows []impl.Row, table int64, want int64) {
	t.Helper()
	if got := impl.LongestIn(rows, table); got != (impl.IntResult{Value: want}) {
		t.Errorf("%s: LongestIn of %d = %+v, want %d", name, table, got, want)
	}
}

func expectLongestCode(t *testing.T, name string, rows []impl.Row, table int64, code int64) {
	t.Helper()
	if got := impl.LongestIn(rows, table); got != (impl.IntResult{Code: code}) {
		t.Errorf("%s: LongestIn of %d = %+v, want code %d alone", name, table, got, code)
	}
}

func expectMayBe(t *testing.T, name string, rows []impl.Row, c impl.Change, code int64) {
	t.Helper()
	if got := impl.MayBe(rows, c); got != code {
		t.Errorf("%s: MayBe(%+v, %+v) = %d, want %d", name, rows, c, got, code)
	}
}

func TestTablesInIsTheRowsOfTable0(t *testing.T) {
	expectTables(t, "nil", nil)
	expectTables(t, "no rows", []impl.Row{})
	expectTables(t, "one", []impl.Row{told(1, 3)}, told(1, 3))
	expectTables(t, "rows of other tables alone", []impl.Row{rowOf(1, 1, 3, ""), rowOf(2, 2, 3, "b"), rowOf(3, 3, 3, "c")})
	expectTables(t, "all three", []impl.Row{told(1, 0), told(2, 8), told(3, 5), rowOf(1, 1, 0, ""), rowOf(3, 99, 0, "abcde")}, told(1, 0), told(2, 8), told(3, 5))
	odd := []impl.Row{rowOf(0, 1, 999, "x"), rowOf(0, 3, 9, maxLetters), rowOf(0, 4, 0, ""), rowOf(0, 99, 8, "z")}
	expectTables(t, "rows that tell no table", odd, odd...)
	expectTables(t, "those, and others", append(slices.Clone(odd), rowOf(1, 4, 0, "")), odd...)
	many := manyRows(99-30, maxRows, 7)
	expectTables(t, "as many as there may be, of two tables", many, many[:30]...)
	all := manyRows(0, maxRows, 7)
	expectTables(t, "as many as there may be, of table 0", all, all...)
	expectTables(t, "as many as there may be, of table 1", manyRows(99, maxRows, 7))
}

func TestLongestInIsWhatIsTold(t *testing.T) {
	for table := int64(1); table <= 3; table++ {
		for _, val := range []int64{0, 1, 7, 8, 9, 10, 255, 256, 998, 999} {
			rows := []impl.Row{told(table, val)}
			expectLongestOf(t, "alone", rows, table, val)
			for other := int64(1); other <= 3; other++ {
				if other != table {
					expectLongestCode(t, "of another", rows, other, impl.ErrNone)
				}
			}
		}
	}
	rows := []impl.Row{told(1, 4), told(2, 0), told(3, 8), rowOf(0, 4, 6, ""), rowOf(1, 1, 1, ""), rowOf(1, 2, 2, ""), rowOf(2, 1, 7, ""), rowOf(2, 3, 5, ""), rowOf(3, 1, 3, "")}
	expectLongestOf(t, "beside rows of all tables", rows, 1, 4)
	expectLongestOf(t, "beside rows of all tables", rows, 2, 0)
	expectLongestOf(t, "beside rows of all tables", rows, 3, 8)
	expectLongestOf(t, "a row with a Text", []impl.Row{rowOf(0, 2, 6, "ab")}, 2, 6)
}

func TestLongestInOfTablesThatNobodyTells(t *testing.T) {
	full := manyRows(99, maxRows, 7)
	for table := int64(1); table <= 3; table++ {
		expectLongestCode(t, "nil", nil, table, impl.ErrNone)
		expectLongestCode(t, "no rows", []impl.Row{}, table, impl.ErrNone)
		expectLongestCode(t, "rows of table 1 alone", full, table, impl.ErrNone)
		expectLongestCode(t, "rows of its own alone", []impl.Row{rowOf(table, table, 5, "a")}, table, impl.ErrNone)
		expectLongestCode(t, "other keys of table 0", []impl.Row{rowOf(0, 4, 5, ""), rowOf(0, table+10, 5, ""), rowOf(0, 99, 5, "")}, table, impl.ErrNone)
	}
}

// A row of table 0 may have a Key that is no table: asked for, it is none.
func TestLongestInOfTablesOutOfBounds(t *testing.T) {
	odd := []impl.Row{told(1, 1), told(2, 2), told(3, 3), rowOf(0, 4, 4, ""), rowOf(0, 5, 5, ""), rowOf(0, 99, 6, "")}
	for _, table := range farTables {
		expectLongestCode(t, "no rows", nil, table, impl.ErrRange)
		expectLongestCode(t, "all told", odd, table, impl.ErrRange)
		expectLongestCode(t, "as many rows as there may be", manyRows(0, maxRows, 3), table, impl.ErrRange)
	}
}

// Every table, told or not, with every length that it may tell, and rows of every length.
func TestRowsOfToldTables(t *testing.T) {
	for table := int64(1); table <= 3; table++ {
		for longest := int64(0); longest <= 8; longest++ {
			others := []impl.Row{told(1, 8), told(2, 8), told(3, 8)}
			others[table-1] = told(table, longest)
			untold := slices.Delete(slices.Clone(others), int(table-1), int(table))
			for length := range int64(9) {
				r := rowOf(table, 7, 12, maxLetters[:length])
				short := rowOf(table, 7, 500, "")
				want := int64(impl.OK)
				if length > longest {
					want = impl.ErrType
				}
				for _, rows := range [][]impl.Row{{told(table, longest)}, others} {
					expectMayBe(t, "put", rows, put(r), want)
					expectMayBe(t, "turned", append(slices.Clone(rows), short), turn(short, r), want)
					expectMayBe(t, "turned from one that is longer", append(slices.Clone(rows), short), turn(rowOf(table, 7, 1, maxLetters), r), want)
					expectMayBe(t, "dropped", append(slices.Clone(rows), r), drop(r), impl.OK)
				}
				for _, rows := range [][]impl.Row{nil, untold, {rowOf(table, table, 8, "")}} {
					expectMayBe(t, "put, not told", rows, put(r), impl.ErrNone)
					expectMayBe(t, "turned, not told", rows, turn(short, r), impl.ErrNone)
					expectMayBe(t, "dropped, not told", rows, drop(r), impl.OK)
				}
			}
		}
	}
}

func TestRowsAtEdgesOfToldTables(t *testing.T) {
	empty := rowOf(1, 1, 0, "")
	expectMayBe(t, "Val 0 and an empty Text", []impl.Row{told(1, 0)}, put(empty), impl.OK)
	expectMayBe(t, "Val 0 and one byte", []impl.Row{told(1, 0)}, put(rowOf(1, 1, 0, "a")), impl.ErrType)
	expectMayBe(t, "not told, an empty Text", nil, put(empty), impl.ErrNone)
	for _, val := range []int64{9, 255, 256, 999} {
		expectMayBe(t, "told longer than a Text can be", []impl.Row{told(1, val)}, put(rowOf(1, 1, 0, maxLetters)), impl.OK)
	}
	for _, r := range edgeRows() {
		if r.Table == 0 {
			continue
		}
		rows := []impl.Row{told(r.Table, int64(len(r.Text)))}
		expectMayBe(t, "just as long", rows, put(r), impl.OK)
		expectMayBe(t, "just as long, turned into itself", append(rows, r), turn(r, r), impl.OK)
		if r.Text != "" {
			expectMayBe(t, "one longer", []impl.Row{told(r.Table, int64(len(r.Text))-1)}, put(r), impl.ErrType)
		}
	}
	full := append([]impl.Row{told(3, 8)}, manyRows(99, maxRows-1, 0)...)
	expectMayBe(t, "a row more than there may be", full, put(rowOf(3, 9, 0, maxLetters)), impl.OK)
}

// What MayBe asks is not whether the change fits: that is asked by ApplyChanges.
func TestMayBeDoesNotAskWhetherItFits(t *testing.T) {
	a, b := rowOf(1, 5, 0, "ab"), rowOf(1, 5, 1, "cd")
	rows := []impl.Row{told(1, 2), a}
	expectMayBe(t, "a row that is there", rows, put(a), impl.OK)
	expectMayBe(t, "another row of a key that is there", rows, put(b), impl.OK)
	expectMayBe(t, "turned from another one", rows, turn(b, a), impl.OK)
	expectMayBe(t, "turned from one that is not there", rows[:1], turn(a, b), impl.OK)
	expectMayBe(t, "dropped, and not there", rows, drop(b), impl.OK)
	expectMayBe(t, "a table that is told", rows, put(told(1, 2)), impl.OK)
	expectMayBe(t, "a table that is told otherwise", rows, put(told(1, 8)), impl.OK)
	expectMayBe(t, "a table turned that is not told", nil, turn(told(1, 2), told(1, 3)), impl.OK)
	expectMayBe(t, "a table dropped that is not told", nil, drop(told(1, 2)), impl.OK)
	expectMayBe(t, "a table dropped that is told otherwise", rows[:1], drop(told(1, 3)), impl.OK)
	expectMayBe(t, "nothing turned", rows, turn(told(1, 2), told(1, 2)), impl.OK)
	expectMayBe(t, "a row turned into itself", rows, turn(a, a), impl.OK)
}

// tellings are all ways in which a row comes to tell a table: it is put, or turned from lower and from higher.
func tellings(after impl.Row) map[string]impl.Change {
	key := rowOf(0, after.Key, 0, "")
	low, high := key, key
	low.Val, high.Val, high.Text = 0, 999, maxLetters
	return map[string]impl.Change{"put": put(after), "turned from low": turn(low, after), "turned from high": turn(high, after), "turned into itself": turn(after, after)}
}

func expectTelling(t *testing.T, name string, rows []impl.Row, after impl.Row, code int64) {
	t.Helper()
	for way, c := range tellings(after) {
		expectMayBe(t, name+", "+way, rows, c, code)
	}
}

func TestRowsThatTellTables(t *testing.T) {
	for key := int64(1); key <= 99; key++ {
		for _, val := range []int64{0, 1, 7, 8, 9, 10, 255, 256, 264, 998, 999} {
			want := int64(impl.OK)
			if key > 3 || val > 8 {
				want = impl.ErrType
			}
			expectTelling(t, "no rows", nil, told(key, val), want)
			expectTelling(t, "other rows", []impl.Row{told(1, 8), told(2, 8), told(3, 8), rowOf(0, 4, 0, "")}, told(key, val), want)
			for _, text := range []string{"a", "z", "ab", maxLetters} {
				expectTelling(t, "with a Text", nil, rowOf(0, key, val, text), impl.ErrType)
			}
		}
	}
	for _, key := range []int64{1, 3, 4, 99} {
		for _, val := range []int64{math.MinInt64, -1, 1000, math.MaxInt64} {
			expectMayBe(t, "Val out of bounds", nil, put(told(key, val)), impl.ErrRange)
			expectMayBe(t, "Val out of bounds, with a Text", nil, put(rowOf(0, key, val, "a")), impl.ErrRange)
		}
	}
}

// A table is told anew beside rows just as long, and longer by one, wherever the longest of them stands.
func TestTablesToldBesideRows(t *testing.T) {
	for table := int64(1); table <= 3; table++ {
		for longest := range int64(9) {
			short, long := rowOf(table, 1, 0, ""), rowOf(table, 2, 0, maxLetters[:longest])
			last := rowOf(table, 3, 0, maxLetters[:longest/2])
			for _, rows := range [][]impl.Row{{long}, {short, long}, {short, long, last}, {told(table, 8), short, long}, {told(table, longest), long, last}} {
				for val := range int64(9) {
					want := int64(impl.OK)
					if val < longest {
						want = impl.ErrState
					}
					expectTelling(t, "beside rows of its table", rows, told(table, val), want)
					other := table%3 + 1
					expectTelling(t, "beside rows of another table", rows, told(other, val), impl.OK)
				}
			}
		}
	}
}

// Rows of table 0 are no rows of a table that one of them tells.
func TestTextsOfTable0CountForNoTable(t *testing.T) {
	rows := []impl.Row{rowOf(0, 1, 8, maxLetters), rowOf(0, 4, 0, "abc")}
	expectTelling(t, "Texts in table 0", rows, told(1, 0), impl.OK)
	expectTelling(t, "Texts in table 0", rows, told(2, 0), impl.OK)
	expectMayBe(t, "dropped beside Texts in table 0", rows, drop(told(1, 8)), impl.OK)
}

func TestTablesDropped(t *testing.T) {
	for table := int64(1); table <= 3; table++ {
		other := table%3 + 1
		all := []impl.Row{told(1, 8), told(2, 8), told(3, 8)}
		for _, row := range []impl.Row{told(table, 8), told(table, 0), rowOf(0, table, 999, maxLetters)} {
			c := drop(row)
			expectMayBe(t, "none", nil, c, impl.OK)
			expectMayBe(t, "tables alone", all, c, impl.OK)
			expectMayBe(t, "rows of another table", append(slices.Clone(all), rowOf(other, table, 0, "a"), rowOf(other, 99, 0, "")), c, impl.OK)
			expectMayBe(t, "a row of that table", append(slices.Clone(all), rowOf(table, 99, 0, "a")), c, impl.ErrState)
			expectMayBe(t, "a row with an empty Text", append(slices.Clone(all), rowOf(table, 1, 0, "")), c, impl.ErrState)
			expectMayBe(t, "rows of all tables", append(slices.Clone(all), rowOf(1, 9, 0, ""), rowOf(2, 9, 0, ""), rowOf(3, 9, 0, "")), c, impl.ErrState)
			expectMayBe(t, "a row of a table that is not told", []impl.Row{rowOf(table, 5, 0, "")}, c, impl.ErrState)
		}
	}
	rows := []impl.Row{rowOf(0, 4, 9, "x"), rowOf(0, 99, 9, ""), rowOf(1, 4, 0, ""), rowOf(2, 99, 0, ""), rowOf(3, 99, 0, "")}
	for key := int64(4); key <= 99; key++ {
		expectMayBe(t, "one that tells no table", rows, drop(rowOf(0, key, 9, "x")), impl.OK)
	}
}

// ErrType and ErrState of table 0, each alone and both at once.
func TestTypeIsAskedAheadOfState(t *testing.T) {
	rows := []impl.Row{told(1, 8), rowOf(1, 1, 0, "abc")}
	expectTelling(t, "neither", rows, told(1, 3), impl.OK)
	expectTelling(t, "ErrState alone", rows, told(1, 2), impl.ErrState)
	expectTelling(t, "ErrType alone, Val", rows, told(1, 9), impl.ErrType)
	expectTelling(t, "ErrType alone, Text", rows, rowOf(0, 1, 3, "a"), impl.ErrType)
	expectTelling(t, "ErrType alone, Key", rows, told(4, 3), impl.ErrType)
	expectTelling(t, "both", rows, rowOf(0, 1, 2, "a"), impl.ErrType)
}

// Without Is the row that goes is not asked what one that tells is asked, nor how long it is.
func TestWhatGoesIsAskedLess(t *testing.T) {
	expectMayBe(t, "a Text in table 0", nil, drop(rowOf(0, 1, 9, "a")), impl.OK)
	expectMayBe(t, "turned out of what is no table", nil, turn(rowOf(0, 2, 999, "abc"), told(2, 8)), impl.OK)
	expectMayBe(t, "turned into what is no table", nil, turn(told(2, 8), rowOf(0, 2, 9, "")), impl.ErrType)
	expectMayBe(t, "a row too long", []impl.Row{told(1, 2), rowOf(1, 1, 0, "abc")}, drop(rowOf(1, 1, 0, "abc")), impl.OK)
	for _, f := range append(faultyRows(), faultyRow{"a row of table 0", told(1, 3), impl.OK}, faultyRow{"a row of table 1", rowOf(1, 1, 3, "abc"), impl.OK}, faultyRow{"what is no table", rowOf(0, 50, 9, "a"), impl.OK}) {
		row, rows := rowOf(1, 1, 0, "a"), []impl.Row{told(1, 1), rowOf(1, 1, 0, "a")}
		comes, goes := put(row), drop(row)
		comes.Before, goes.After = f.row, f.row
		expectMayBe(t, "put beside "+f.name, rows, comes, impl.OK)
		expectMayBe(t, "put beside "+f.name+", not told", nil, comes, impl.ErrNone)
		expectMayBe(t, "drop beside "+f.name, rows, goes, impl.OK)
		comes, goes = put(told(1, 0)), drop(told(1, 1))
		comes.Before, goes.After = f.row, f.row
		expectMayBe(t, "table put beside "+f.name, rows, comes, impl.ErrState)
		expectMayBe(t, "table put beside "+f.name+", no rows", nil, comes, impl.OK)
		expectMayBe(t, "table drop beside "+f.name, rows, goes, impl.ErrState)
		expectMayBe(t, "table drop beside "+f.name+", no rows", nil, goes, impl.OK)
	}
}

func TestMayBeOfWrongChanges(t *testing.T) {
	lists := [][]impl.Row{nil, {told(1, 8), told(2, 0)}, {told(1, 0), rowOf(1, 50, 0, "abc")}, manyRows(0, maxRows, 9)}
	for name, f := range wrongChanges() {
		if f.code == impl.ErrState {
			continue
		}
		for _, rows := range lists {
			expectMayBe(t, name, rows, f.change, f.code)
		}
	}
	long := []impl.Row{told(1, 8), rowOf(1, 1, 0, "abc")}
	expectMayBe(t, "tables of two Keys", long, turn(told(1, 8), told(2, 8)), impl.ErrForm)
	expectMayBe(t, "out of table 0", long, turn(told(1, 8), rowOf(1, 1, 0, "")), impl.ErrForm)
	expectMayBe(t, "into table 0", long, turn(rowOf(1, 1, 0, "abc"), told(1, 2)), impl.ErrForm)
	expectMayBe(t, "a fault of Before, and no table", long, turn(rowOf(0, 1, 8, "A"), rowOf(0, 1, 9, "a")), impl.ErrText)
	expectMayBe(t, "a fault of Before, and long rows", long, turn(told(1, 1000), told(1, 0)), impl.ErrRange)
	expectMayBe(t, "a fault of After, and no table", long, turn(told(1, 8), rowOf(0, 1, 9, "A")), impl.ErrText)
	expectMayBe(t, "a fault of After, not told", nil, put(rowOf(1, 1, 0, "abcdefghi")), impl.ErrText)
	expectMayBe(t, "a fault of Before, dropped with rows", long, drop(rowOf(0, 1, 8, "A")), impl.ErrText)
	expectMayBe(t, "Before, then After", long, turn(rowOf(0, 1, 8, "A"), told(1, -1)), impl.ErrText)
	expectMayBe(t, "Before, then After, the other way round", long, turn(told(1, -1), rowOf(0, 1, 8, "A")), impl.ErrRange)
}

// expectCatalogFault asks all but KeyText, beside other things that are wrong.
func expectCatalogFault(t *testing.T, name string, rows []impl.Row, code int64) {
	t.Helper()
	if got := impl.TablesIn(rows); got.Code != code || len(got.Rows) != 0 {
		t.Errorf("%s: TablesIn = %+v, want code %d alone", name, got, code)
	}
	for _, table := range append([]int64{1, 2, 3}, farTables...) {
		expectLongestCode(t, name, rows, table, code)
	}
	for change, f := range wrongChanges() {
		expectMayBe(t, name+", "+change, rows, f.change, code)
	}
	for _, c := range []impl.Change{put(told(1, 8)), put(told(4, 9)), drop(told(1, 8)), drop(told(99, 0)), put(rowOf(1, 1, 0, "")), drop(rowOf(3, 1, 0, ""))} {
		expectMayBe(t, name, rows, c, code)
	}
}

func TestCatalogAsksTheRowsFaultFirst(t *testing.T) {
	expectCatalogFault(t, "one row too many", manyRows(0, maxRows+1, 3), impl.ErrMany)
	expectCatalogFault(t, "one row too many, not of table 0", manyRows(120, maxRows+1, 3), impl.ErrMany)
	expectCatalogFault(t, "too many, and no rows", make([]impl.Row, maxRows+1), impl.ErrMany)
	expectCatalogFault(t, "two alike", []impl.Row{told(1, 3), told(1, 3)}, impl.ErrForm)
	expectCatalogFault(t, "one key", []impl.Row{told(1, 3), told(1, 4)}, impl.ErrForm)
	expectCatalogFault(t, "falling keys", []impl.Row{told(2, 3), told(1, 3)}, impl.ErrForm)
	expectCatalogFault(t, "falling tables", []impl.Row{told(1, 3), rowOf(2, 1, 0, ""), rowOf(1, 2, 0, "")}, impl.ErrForm)
	for _, f := range faultyRows() {
		expectCatalogFault(t, f.name, []impl.Row{f.row}, f.code)
		expectCatalogFault(t, f.name+", behind a table", []impl.Row{told(1, 3), f.row}, f.code)
		expectCatalogFault(t, f.name+", ahead of one that falls", []impl.Row{told(1, 3), f.row, told(1, 3)}, f.code)
		expectCatalogFault(t, f.name+", behind one that falls", []impl.Row{told(1, 3), told(1, 3), f.row}, impl.ErrForm)
	}
	full := manyRows(0, maxRows, 3)
	if impl.TablesIn(full).Code != impl.OK || impl.LongestIn(full, 1).Code != impl.OK || impl.MayBe(full, put(rowOf(1, 1, 0, "abc"))) != impl.OK {
		t.Error("as many rows as there may be have a code")
	}
}

var keyShape = regexp.MustCompile(`^([0-3])/([1-9][0-9]?)$`)

func TestKeyTextOfAllKeys(t *testing.T) {
	seen := map[string]int{}
	for table := range int64(4) {
		for key := int64(1); key <= 99; key++ {
			got := impl.KeyText(impl.Key{Table: table, Key: key})
			parts := keyShape.FindStringSubmatch(got.Text)
			if got.Code != impl.OK || parts == nil {
				t.Fatalf("KeyText of %d and %d = %+v", table, key, got)
			}
			first, _ := strconv.ParseInt(parts[1], 10, 64)
			second, _ := strconv.ParseInt(parts[2], 10, 64)
			if first != table || second != key {
				t.Errorf("KeyText of %d and %d = %+v", table, key, got)
			}
			seen[got.Text]++
		}
	}
	if len(seen) != 4*99 {
		t.Errorf("%d texts", len(seen))
	}
	for k, want := range map[impl.Key]string{{Table: 0, Key: 1}: "0/1", {Table: 0, Key: 9}: "0/9", {Table: 3, Key: 10}: "3/10", {Table: 3, Key: 99}: "3/99", {Table: 1, Key: 30}: "1/30"} {
		if got := impl.KeyText(k); got != (impl.TextResult{Text: want}) {
			t.Errorf("KeyText of %+v = %+v, want %q", k, got, want)
		}
	}
}

func TestKeyTextOutOfBounds(t *testing.T) {
	far := []int64{math.MinInt64, math.MinInt64 + 1, -1 << 32, -256, -1, 100, 255, 256, 257, 1<<32 + 1, math.MaxInt64 - 254, math.MaxInt64}
	var keys []impl.Key
	for _, n := range far {
		keys = append(keys, impl.Key{Table: n, Key: 1}, impl.Key{Table: n, Key: 99}, impl.Key{Table: 0, Key: n}, impl.Key{Table: 3, Key: n}, impl.Key{Table: n, Key: n})
	}
	keys = append(keys, impl.Key{}, impl.Key{Table: 3, Key: 0}, impl.Key{Table: 4, Key: 1}, impl.Key{Table: 4, Key: 99}, impl.Key{Table: 4, Key: 0}, impl.Key{Table: 99, Key: 3})
	for _, k := range keys {
		if got := impl.KeyText(k); got != (impl.TextResult{Code: impl.ErrRange}) {
			t.Errorf("KeyText of %+v = %+v, want ErrRange alone", k, got)
		}
	}
}

// expectedMayBe goes by the words of the chapter, over a plain list.
func expectedMayBe(rows []impl.Row, c impl.Change) int64 {
	longest, key := [4]int64{-1, -1, -1, -1}, c.Before
	if c.Is {
		key = c.After
	}
	tells := key.Table == 0
	var count, length [100]int64
	for _, r := range rows {
		if r.Table == 0 && r.Key <= 3 {
			longest[r.Key] = r.Val
		}
		count[r.Table]++
		length[r.Table] = max(length[r.Table], int64(len(r.Text)))
	}
	switch {
	case tells && c.Is && (key.Key > 3 || key.Val > 8 || key.Text != ""):
		return impl.ErrType
	case tells && c.Is && length[key.Key] > key.Val, tells && !c.Is && count[key.Key] > 0:
		return impl.ErrState
	case !tells && c.Is && longest[key.Table] < 0:
		return impl.ErrNone
	case !tells && c.Is && longest[key.Table] < int64(len(key.Text)):
		return impl.ErrType
	}
	return impl.OK
}

// expectTold asks for what is promised: no row but in a table that is told, and none too long for it.
func expectTold(t *testing.T, rows []impl.Row) {
	t.Helper()
	tables := impl.TablesIn(rows)
	if tables.Code != impl.OK {
		t.Fatalf("TablesIn(%+v) = %+v", rows, tables)
	}
	for i, r := range rows {
		if (r.Table == 0) != (i < len(tables.Rows)) || r.Table == 0 && tables.Rows[i] != r {
			t.Fatalf("TablesIn(%+v) = %+v", rows, tables)
		}
		if r.Table == 0 {
			expectLongestOf(t, "a walk", rows, r.Key, r.Val)
			continue
		}
		if longest := impl.LongestIn(rows, r.Table); longest.Code != impl.OK || int64(len(r.Text)) > longest.Value {
			t.Fatalf("%+v stands in %+v, where its table tells %+v", r, rows, longest)
		}
	}
}

// Long walks from no rows on: whatever fits and is let by, each row stays where its table is told.
func TestTablesOverLongWalks(t *testing.T) {
	next, counts := numbers(8), map[string]int{}
	for range 150 {
		var rows []impl.Row
		for range 120 {
			r := rowOf(int64(next(4)), int64(1+next(4)), int64(next(10)), maxLetters[:next(9)])
			if r.Table == 0 && next(4) > 0 {
				r.Text = ""
			}
			at := slices.IndexFunc(rows, func(o impl.Row) bool { return o.Table == r.Table && o.Key == r.Key })
			c := put(r)
			if at >= 0 {
				c = []impl.Change{drop(rows[at]), turn(rows[at], r), turn(rows[at], rows[at])}[next(3)]
			}
			want := expectedMayBe(rows, c)
			expectMayBe(t, "a walk", rows, c, want)
			counts[strconv.FormatBool(r.Table == 0)+strconv.FormatBool(c.Was)+strconv.FormatBool(c.Is)+strconv.FormatInt(want, 10)]++
			if want == impl.OK {
				rows = impl.ApplyChanges(rows, []impl.Change{c}).Rows
				expectTold(t, rows)
			}
		}
	}
	for _, way := range []string{"truefalsetrue0", "truefalsetrue10", "truetruetrue0", "truetruetrue8", "truetruetrue10", "truetruefalse0", "truetruefalse8",
		"falsefalsetrue0", "falsefalsetrue4", "falsefalsetrue10", "falsetruetrue0", "falsetruetrue10", "falsetruefalse0"} {
		if counts[way] == 0 {
			t.Errorf("no walk goes the way %s: %v", way, counts)
		}
	}
}

// Any rows, also such as no change leads to, and any change that has no fault.
func TestMayBeOfAnyRows(t *testing.T) {
	next, counts := numbers(88), map[int64]int{}
	for range 20000 {
		var rows []impl.Row
		for table := range int64(4) {
			for key := int64(1); key <= 5; key++ {
				if next(4) == 0 {
					rows = append(rows, rowOf(table, key, int64(next(12)), maxLetters[:next(9)]))
				}
			}
		}
		r := rowOf(int64(next(4)), int64(1+next(5)), int64(next(12)), maxLetters[:next(9)*next(2)])
		before := rowOf(r.Table, r.Key, int64(next(12)), maxLetters[:next(9)])
		c := []impl.Change{put(r), drop(r), turn(before, r)}[next(3)]
		want := expectedMayBe(rows, c)
		counts[want]++
		expectMayBe(t, "any rows", rows, c, want)
	}
	for _, code := range []int64{impl.OK, impl.ErrNone, impl.ErrState, impl.ErrType} {
		if counts[code] < 500 {
			t.Errorf("code %d came %d times alone", code, counts[code])
		}
	}
}

// catalogArguments stand in lists with more memory behind them; texts are the bytes of all texts.
func catalogArguments() (rows []impl.Row, list []impl.Change, texts [][]byte) {
	long := func(table int64, key int64, val int64, text string) impl.Row {
		own, data := ownText(text)
		texts = append(texts, data)
		return rowOf(table, key, val, own)
	}
	rows = []impl.Row{long(0, 1, 5, "first"), long(0, 2, 3, ""), long(0, 4, 9, "last"), long(1, 1, 0, "abc"), long(2, 3, 0, "xyz")}
	rows = append(rows, rowOf(9, 9, 9, "behind"))[:5]
	list = []impl.Change{
		put(long(1, 2, 0, "abcde")), turn(long(1, 1, 0, "abc"), long(1, 1, 0, "abcdef")), drop(long(2, 3, 0, "xyz")),
		put(long(0, 3, 8, "")), turn(long(0, 1, 5, "first"), long(0, 1, 2, "")), drop(long(0, 2, 3, "")), put(long(3, 1, 0, "x")), {},
	}
	return rows, list, texts
}

// catalogAnswers are the tables in rows, and all numbers and texts that the other calls answer.
func catalogAnswers(rows []impl.Row, list []impl.Change) ([]impl.Row, string) {
	var said []string
	for table := int64(-1); table <= 4; table++ {
		longest := impl.LongestIn(rows, table)
		said = append(said, strconv.FormatInt(longest.Code, 10)+":"+strconv.FormatInt(longest.Value, 10), impl.KeyText(impl.Key{Table: table, Key: 9}).Text)
	}
	for _, c := range list {
		said = append(said, strconv.FormatInt(impl.MayBe(rows, c), 10))
	}
	return impl.TablesIn(rows).Rows, strings.Join(said, " ")
}

func TestCatalogAnswersAreNewMemory(t *testing.T) {
	rows, list, texts := catalogArguments()
	keptRows, keptList := ownRows(rows[:cap(rows)]), ownChanges(list[:cap(list)])
	first, said := catalogAnswers(rows, list)
	if want := "3:0  3:0 0/9 0:5 1/9 0:3 2/9 4:0 3/9 3:0  0 10 0 0 8 8 4 1"; said != want {
		t.Errorf("answers: %q, want %q", said, want)
	}
	second, again := catalogAnswers(rows, list)
	want := ownRows(second)
	clear(first[:cap(first)])
	if !slices.Equal(second, want) || len(want) != 3 {
		t.Errorf("two answers share memory: %+v, want %+v", second, want)
	}
	if again != said {
		t.Errorf("answers: %q, then %q", said, again)
	}
	if !slices.Equal(ownRows(rows[:cap(rows)]), keptRows) || !slices.Equal(ownChanges(list[:cap(list)]), keptList) {
		t.Error("the answer shares memory with what was handed in, or that was changed")
	}
	for _, data := range texts {
		scribble(data[:len(data):len(data)])
	}
	clear(rows)
	clear(list)
	if !slices.Equal(second, want) {
		t.Errorf("the answer turns with what was handed in: %+v, want %+v", second, want)
	}
}

func TestCatalogAnswersHangOnArgumentsAlone(t *testing.T) {
	rows, list, _ := catalogArguments()
	want, said := catalogAnswers(rows, list)
	for i := range 50 {
		catalogAnswers(rows[:i%5], list)
		catalogAnswers([]impl.Row{{}}, list)
		catalogAnswers(manyRows(0, maxRows+i%2, int64(i)), list)
		if got, again := catalogAnswers(rows, list); !slices.Equal(got, want) || again != said {
			t.Fatalf("answers: %+v %q, want %+v %q", got, again, want, said)
		}
	}
}

// An empty list, with memory behind it or without, is the same as nil.
func TestCatalogOfNilAndEmpty(t *testing.T) {
	_, list, _ := catalogArguments()
	none, said := catalogAnswers(nil, list)
	empty, again := catalogAnswers([]impl.Row{}, list)
	other, third := catalogAnswers(make([]impl.Row, 0, 8), list)
	if len(none) != 0 || len(empty) != 0 || len(other) != 0 || said != again || said != third {
		t.Errorf("nil: %+v %q, empty: %+v %q", none, said, empty, again)
	}
}
