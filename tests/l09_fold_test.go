package tests

import (
	"maps"
	"slices"
	"strconv"
	"testing"

	"loop.example/g00408/impl"
)

const maxFolded = 60

func keyOfChange(c impl.Change) impl.Key {
	if c.Was {
		return impl.Key{Table: c.Before.Table, Key: c.Before.Key}
	}
	return impl.Key{Table: c.After.Table, Key: c.After.Key}
}

func rises(list []impl.Change) bool {
	for i := 1; i < len(list); i++ {
		a, b := keyOfChange(list[i-1]), keyOfChange(list[i])
		if 1000*a.Table+a.Key >= 1000*b.Table+b.Key {
			return false
		}
	}
	return true
}

// expectedAlone is the code of one change, as chapter 9 asks it.
func expectedAlone(c impl.Change) int64 {
	switch {
	case !c.Was && !c.Is:
		return impl.ErrForm
	case c.Was && c.Is && (c.Before.Table != c.After.Table || c.Before.Key != c.After.Key):
		return impl.ErrForm
	case c.Was && impl.RowFault(c.Before) != impl.OK:
		return impl.RowFault(c.Before)
	case c.Is && impl.RowFault(c.After) != impl.OK:
		return impl.RowFault(c.After)
	case c.Was && c.Is && c.Before == c.After:
		return impl.ErrForm
	}
	return impl.OK
}

func expectedListFault(list []impl.Change) int64 {
	if len(list) > maxFolded {
		return impl.ErrMany
	}
	for i, c := range list {
		if code := expectedAlone(c); code != impl.OK {
			return code
		}
		if !rises(list[:i+1]) {
			return impl.ErrForm
		}
	}
	return impl.OK
}

// expectedFold goes along the list, where the program has a map.
func expectedFold(list []impl.Change, c impl.Change) ([]impl.Change, int64) {
	if code := expectedListFault(list); code != impl.OK {
		return nil, code
	}
	if code := expectedAlone(c); code != impl.OK {
		return nil, code
	}
	own := slices.Clone(list)
	at := slices.IndexFunc(own, func(o impl.Change) bool { return keyOfChange(o) == keyOfChange(c) })
	if at < 0 {
		own = append(own, c)
		for i := len(own) - 1; i > 0 && !rises(own); i-- {
			own[i-1], own[i] = own[i], own[i-1]
		}
		return own, impl.OK
	}
	switch ahead := own[at]; {
	case ahead.Is && !c.Was, !ahead.Is && c.Was, ahead.Is && ahead.After != c.Before:
		return nil, impl.ErrState
	case !ahead.Was && !c.Is, ahead.Was && c.Is && ahead.Before == c.After:
		return slices.Delete(own, at, at+1), impl.OK
	default:
		own[at] = impl.Change{Was: ahead.Was, Before: ahead.Before, Is: c.Is, After: c.After}
		return own, impl.OK
	}
}

func expectFold(t *testing.T, name string, list []impl.Change, c impl.Change, want ...impl.Change) {
	t.Helper()
	kept := ownChanges(list)
	got := impl.FoldChange(list, c)
	if got.Code != impl.OK || !slices.Equal(got.Changes, want) {
		t.Errorf("%s: FoldChange = %+v, want %+v", name, got, want)
	}
	if !slices.Equal(list, kept) {
		t.Fatalf("%s: the list was changed", name)
	}
}

func expectFoldCode(t *testing.T, name string, list []impl.Change, c impl.Change, code int64) {
	t.Helper()
	if got := impl.FoldChange(list, c); got.Code != code || len(got.Changes) != 0 {
		t.Errorf("%s: FoldChange = %+v, want code %d alone", name, got, code)
	}
}

type neighbours struct {
	name   string
	ahead  []impl.Change
	behind []impl.Change
}

// around are changes ahead of and behind one of the key 1/50.
func around() []neighbours {
	ahead := []impl.Change{put(rowOf(0, 99, 1, "a")), turn(rowOf(1, 49, 1, ""), rowOf(1, 49, 2, ""))}
	behind := []impl.Change{drop(rowOf(1, 51, 1, "b")), put(rowOf(2, 1, 1, "c"))}
	return []neighbours{{"the only one", nil, nil}, {"the first", nil, behind}, {"the last", ahead, nil}, {"a middle one", ahead, behind}}
}

func (n neighbours) with(between ...impl.Change) []impl.Change {
	return slices.Concat(n.ahead, between, n.behind)
}

// folded are changes of one key, and the one that they are in the end, if any.
type folded struct {
	name string
	list []impl.Change
	want []impl.Change
}

func foldedOfOneKey() []folded {
	a, b, c := rowOf(1, 50, 1, "a"), rowOf(1, 50, 2, "a"), rowOf(1, 50, 1, "c")
	is := func(c ...impl.Change) []impl.Change { return c }
	return []folded{
		{"put", is(put(a)), is(put(a))},
		{"turned", is(turn(a, b)), is(turn(a, b))},
		{"dropped", is(drop(a)), is(drop(a))},
		{"put and dropped", is(put(a), drop(a)), nil},
		{"dropped and put again", is(drop(a), put(a)), nil},
		{"turned and turned back", is(turn(a, b), turn(b, a)), nil},
		{"the Text turned and turned back", is(turn(a, c), turn(c, a)), nil},
		{"put, turned and dropped", is(put(a), turn(a, b), drop(b)), nil},
		{"put, turned, turned back and dropped", is(put(a), turn(a, b), turn(b, a), drop(a)), nil},
		{"turned, dropped and put as it was", is(turn(a, b), drop(b), put(a)), nil},
		{"dropped, put as another, turned back", is(drop(a), put(b), turn(b, a)), nil},
		{"turned on and on and back", is(turn(a, b), turn(b, c), turn(c, a)), nil},
		{"dropped and put as another", is(drop(a), put(b)), is(turn(a, b))},
		{"dropped and put with another Text", is(drop(a), put(c)), is(turn(a, c))},
		{"put and turned", is(put(a), turn(a, b)), is(put(b))},
		{"put, turned and turned back", is(put(a), turn(a, b), turn(b, a)), is(put(a))},
		{"turned and dropped", is(turn(a, b), drop(b)), is(drop(a))},
		{"turned and turned", is(turn(a, b), turn(b, c)), is(turn(a, c))},
		{"put, dropped and put as another", is(put(a), drop(a), put(b)), is(put(b))},
		{"put, dropped and put again", is(put(a), drop(a), put(a)), is(put(a))},
		{"dropped, put, dropped", is(drop(a), put(b), drop(b)), is(drop(a))},
		{"turned, dropped, put as another", is(turn(a, b), drop(b), put(c)), is(turn(a, c))},
	}
}

func TestFoldChangeOfOneKey(t *testing.T) {
	for _, n := range around() {
		for _, f := range foldedOfOneKey() {
			name, last := f.name+", "+n.name, len(f.list)-1
			list := n.with()
			for _, c := range f.list[:last] {
				got := impl.FoldChange(list, c)
				if got.Code != impl.OK {
					t.Fatalf("%s: FoldChange = %+v", name, got)
				}
				list = got.Changes
			}
			expectFold(t, name, list, f.list[last], n.with(f.want...)...)
		}
	}
}

// A change of a key that is not there stands where it rises, be it ahead of all or behind.
func TestFoldChangeStandsInItsPlace(t *testing.T) {
	rows := manyRows(70, maxFolded+1, 3)
	all := putsOf(rows)
	for at, r := range rows {
		list := slices.Delete(slices.Clone(all), at, at+1)
		for _, c := range []impl.Change{put(r), drop(r), turn(rowOf(r.Table, r.Key, 4, ""), r)} {
			want := slices.Clone(all)
			want[at] = c
			expectFold(t, "at "+strconv.Itoa(at), list, c, want...)
		}
	}
	for _, r := range edgeRows() {
		expectFoldCode(t, "the same row", nil, turn(r, r), impl.ErrForm)
		expectFold(t, "the first of all", nil, put(r), put(r))
		expectFold(t, "into an empty list", []impl.Change{}, drop(r), drop(r))
	}
}

// Of 60 changes each may be folded on, and one more may stand beside them; 61 are too many.
func TestFoldChangeOfManyChanges(t *testing.T) {
	rows := manyRows(0, maxFolded, 3)
	all, more := putsOf(rows), rowOf(3, 1, 1, "more")
	for at, r := range rows {
		expectFold(t, "dropped of 60", all, drop(r), slices.Delete(slices.Clone(all), at, at+1)...)
		other := slices.Clone(all)
		other[at] = put(rowOf(r.Table, r.Key, 4, "t"))
		expectFold(t, "turned of 60", all, turn(r, other[at].After), other...)
	}
	expectFold(t, "one more than 60", all, put(more), append(slices.Clone(all), put(more))...)
	over := append(slices.Clone(all), put(more))
	for _, c := range []impl.Change{put(rowOf(3, 2, 1, "")), drop(more), drop(rows[0]), put(rows[0]), {}, put(impl.Row{}), turn(more, more)} {
		expectFoldCode(t, "61 changes", over, c, impl.ErrMany)
	}
	for _, count := range []int{61, 62, 100, 1000} {
		expectFoldCode(t, "zero changes", make([]impl.Change, count), impl.Change{}, impl.ErrMany)
	}
	expectFoldCode(t, "60 zero changes", make([]impl.Change, maxFolded), impl.Change{}, impl.ErrForm)
}

func TestFoldChangeThatDoesNotFit(t *testing.T) {
	a, b, c := rowOf(1, 50, 1, "a"), rowOf(1, 50, 2, "a"), rowOf(1, 50, 1, "c")
	lists := map[string][]impl.Change{"put": {put(a)}, "dropped": {drop(b)}, "turned": {turn(b, a)}}
	wrong := map[string][]impl.Change{
		"put":     {put(a), put(b), drop(b), drop(c), turn(b, a), turn(c, a), turn(b, c)},
		"dropped": {drop(a), drop(b), turn(b, a), turn(a, b), turn(a, c)},
		"turned":  {put(a), put(b), put(c), drop(b), drop(c), turn(b, a), turn(c, b), turn(b, c)},
	}
	for _, n := range around() {
		for name, list := range lists {
			for i, c := range wrong[name] {
				expectFoldCode(t, name+", "+n.name+", wrong "+strconv.Itoa(i), n.with(list...), c, impl.ErrState)
			}
		}
	}
	full := putsOf(manyRows(0, maxFolded, 3))
	expectFoldCode(t, "put again, of 60", full, full[59], impl.ErrState)
	expectFoldCode(t, "put again, of 60", full, full[0], impl.ErrState)
}

// wrongAlone are changes that nothing ahead or behind makes right.
func wrongAlone() map[string]faultyChange {
	list := wrongChanges()
	maps.DeleteFunc(list, func(_ string, f faultyChange) bool { return f.code == impl.ErrState })
	for i, r := range []impl.Row{rowOf(0, 1, 0, ""), rowOf(1, 50, 1, "a"), rowOf(3, 99, 999, "zzzzzzzz")} {
		list["the same row "+strconv.Itoa(i)] = faultyChange{turn(r, r), impl.ErrForm}
	}
	text := rowOf(1, 50, 3, "A")
	list["the same row with a fault"] = faultyChange{turn(text, text), impl.ErrText}
	return list
}

func TestFoldChangeOfWrongChanges(t *testing.T) {
	a, b := rowOf(1, 50, 1, "a"), rowOf(1, 50, 2, "b")
	lists := [][]impl.Change{nil, {put(a)}, {drop(a)}, {turn(a, b)}, putsOf(manyRows(90, maxFolded, 1))}
	for name, f := range wrongAlone() {
		if code := expectedAlone(f.change); code != f.code {
			t.Fatalf("%s: the model has code %d, want %d", name, code, f.code)
		}
		for _, list := range lists {
			expectFoldCode(t, name, list, f.change, f.code)
		}
		for _, n := range around() {
			expectFoldCode(t, name+" in the list, "+n.name, n.with(f.change), put(rowOf(3, 9, 9, "")), f.code)
			expectFoldCode(t, name+" in the list, ahead of what does not fit, "+n.name, n.with(f.change), put(a), f.code)
		}
		expectFoldCode(t, name+", the 60th", append(putsOf(manyRows(0, maxFolded-1, 1)), f.change), put(rowOf(3, 9, 9, "")), f.code)
		expectFoldCode(t, name+", the 61st", append(putsOf(manyRows(0, maxFolded, 1)), f.change), put(rowOf(3, 9, 9, "")), impl.ErrMany)
		expectFoldCode(t, name+", behind 61", putsOf(manyRows(0, maxFolded+1, 1)), f.change, impl.ErrMany)
	}
}

// Of two wrong changes the one ahead tells its code, and those of the list are ahead of c.
func TestFoldChangeTellsTheFirstWrongChange(t *testing.T) {
	right, wrong := put(rowOf(0, 1, 0, "")), wrongAlone()
	for name, f := range wrong {
		for other, g := range wrong {
			expectFoldCode(t, name+", then "+other, []impl.Change{right, f.change, g.change}, right, f.code)
			expectFoldCode(t, name+", c "+other, []impl.Change{right, f.change}, g.change, f.code)
		}
	}
}

func TestFoldChangeOfWhatDoesNotRise(t *testing.T) {
	a, b := rowOf(1, 50, 1, "a"), rowOf(1, 50, 2, "b")
	low, high := rowOf(1, 49, 9, "z"), rowOf(2, 1, 0, "")
	lists := map[string][]impl.Change{
		"one twice":                 {put(a), put(a)},
		"one put and dropped":       {put(a), drop(a)},
		"one dropped and put":       {drop(a), put(b)},
		"one turned on":             {put(high), turn(a, b), turn(b, a)},
		"the Key falls":             {put(a), put(low)},
		"the Key falls, Before":     {drop(a), drop(low)},
		"the Key falls, one each":   {drop(a), put(low)},
		"the Key falls, turned":     {put(a), turn(low, rowOf(1, 49, 8, ""))},
		"the Table falls":           {drop(high), put(a)},
		"the Table falls, Key more": {put(rowOf(1, 1, 0, "")), put(rowOf(0, 99, 0, ""))},
		"the last one falls":        {put(low), put(a), put(high), put(rowOf(0, 1, 0, ""))},
		"the first one is last":     {put(high), put(low), put(a)},
	}
	for name, list := range lists {
		for _, c := range []impl.Change{put(rowOf(3, 9, 9, "")), put(a), drop(a), put(low), {}, put(impl.Row{}), put(rowOf(1, 1, 1, "A"))} {
			expectFoldCode(t, name, list, c, impl.ErrForm)
		}
		for other, f := range wrongAlone() {
			expectFoldCode(t, name+", then "+other, append(slices.Clone(list), f.change), put(a), impl.ErrForm)
			expectFoldCode(t, other+", then "+name, append([]impl.Change{f.change}, list...), put(a), f.code)
		}
	}
	many := putsOf(manyRows(0, maxFolded, 1))
	many[58], many[59] = many[59], many[58]
	expectFoldCode(t, "the last of 60", many, put(a), impl.ErrForm)
	expectFoldCode(t, "61 that do not rise", append(many, put(low)), put(a), impl.ErrMany)
}

// lowChanges have the key 1/20 and a fault of their own that is not ErrForm, so that it is told apart from
// whether they rise.
func lowChanges() map[string]faultyChange {
	right, val, text := rowOf(1, 20, 1, "a"), rowOf(1, 20, 1000, "a"), rowOf(1, 20, 1, "A")
	return map[string]faultyChange{
		"a put of a Val":    {put(val), impl.ErrRange},
		"a drop of a Val":   {drop(val), impl.ErrRange},
		"a turn into a Val": {turn(right, val), impl.ErrRange},
		"a put of a Text":   {put(text), impl.ErrText},
		"a drop of a Text":  {drop(text), impl.ErrText},
		"a turn of a Text":  {turn(text, right), impl.ErrText},
		"the same row":      {turn(text, text), impl.ErrText},
	}
}

// Each change is asked its own codes and then whether it rises, ahead of the next one.
func TestFoldChangeAsksOneByOneWhetherTheyRise(t *testing.T) {
	high, low, c := put(rowOf(1, 50, 1, "a")), put(rowOf(1, 30, 1, "a")), put(rowOf(3, 9, 9, ""))
	expect := func(name string, code int64, list ...impl.Change) {
		t.Helper()
		if model := expectedListFault(list); model != code {
			t.Fatalf("%s: the model has code %d, want %d", name, model, code)
		}
		expectFoldCode(t, name, list, c, code)
		expectMinerFault(t, name, minerOf(nil, bufferOf(1, list...)), code)
		expectMinerFault(t, name+", of the last one", minerOf(nil, bufferOf(2, high), bufferOf(1, list...)), code)
	}
	for name, f := range lowChanges() {
		expect("one that does not rise, then "+name, impl.ErrForm, high, low, f.change)
		expect("one twice, then "+name, impl.ErrForm, high, high, f.change)
		expect(name+" ahead of one that does not rise", f.code, f.change, high, low)
		expect(name+" just ahead of one that does not rise", f.code, low, f.change, put(rowOf(1, 10, 1, "")))
		expect(name+", which does not rise itself", f.code, high, f.change)
		expect(name+", which does not rise itself, then one more", f.code, low, high, f.change, low)
		expect(name+" twice", f.code, f.change, f.change)
		many := putsOf(manyRows(150, maxFolded, 1))
		expect(name+", the 60th, which does not rise itself", f.code, append(slices.Clone(many[:59]), f.change)...)
		expect(name+", the 60th, behind one that does not rise", impl.ErrForm, slices.Concat(many[:57], []impl.Change{many[58], many[57], f.change})...)
	}
	wrong := put(rowOf(4, 1, 3, "ab"))
	expect("a Table that is none, behind one that does not rise", impl.ErrForm, high, low, wrong)
	expect("a Table that is none, ahead of one that does not rise", impl.ErrRange, high, wrong, low)
}

// Without Was nobody looks at Before, nor at After without Is.
func TestFoldChangePassesByWhatIsNotSaid(t *testing.T) {
	a, b := rowOf(1, 50, 1, "a"), rowOf(1, 50, 2, "b")
	said := func(c impl.Change) impl.Change {
		if !c.Was {
			c.Before = impl.Row{}
		}
		if !c.Is {
			c.After = impl.Row{}
		}
		return c
	}
	others := append(faultyRows(), faultyRow{"a right row", rowOf(3, 3, 3, "c"), impl.OK}, faultyRow{"the row itself", a, impl.OK})
	for _, f := range others {
		for _, g := range others {
			beside := func(c impl.Change, r impl.Row) impl.Change {
				if !c.Was {
					c.Before = r
				}
				if !c.Is {
					c.After = r
				}
				return c
			}
			expect := func(ahead impl.Change, c impl.Change, want ...impl.Change) {
				t.Helper()
				list := []impl.Change{put(rowOf(1, 49, 1, "")), beside(ahead, f.row), put(rowOf(1, 51, 1, ""))}
				got := impl.FoldChange(list, beside(c, g.row))
				var now []impl.Change
				for _, c := range got.Changes {
					now = append(now, said(c))
				}
				if got.Code != impl.OK || !slices.Equal(now, slices.Concat(list[:1], want, list[2:])) {
					t.Errorf("beside %s and %s: FoldChange = %+v, want %+v", f.name, g.name, got, want)
				}
			}
			expect(put(a), drop(a))
			expect(drop(a), put(a))
			expect(drop(a), put(b), turn(a, b))
			expect(put(a), turn(a, b), put(b))
			expect(turn(a, b), drop(b), drop(a))
			expectFoldCode(t, "put twice", []impl.Change{beside(put(a), f.row)}, beside(put(a), g.row), impl.ErrState)
			expectFoldCode(t, "dropped twice", []impl.Change{beside(drop(a), f.row)}, beside(drop(a), g.row), impl.ErrState)
		}
	}
}

// anyRows of four keys: few, so that changes meet.
func anyRows(next func(int) int) []impl.Row {
	var rows []impl.Row
	for _, key := range []impl.Key{{Table: 0, Key: 99}, {Table: 1, Key: 1}, {Table: 1, Key: 2}, {Table: 3, Key: 50}} {
		if next(2) == 0 {
			rows = append(rows, rowOf(key.Table, key.Key, int64(next(2)), ""))
		}
	}
	return rows
}

// anyFold is mostly a right change of one of four keys, whether it fits to anything or not.
func anyFold(next func(int) int) impl.Change {
	key := []impl.Key{{Table: 0, Key: 99}, {Table: 1, Key: 1}, {Table: 1, Key: 2}, {Table: 3, Key: 50}}[next(4)]
	a, b := rowOf(key.Table, key.Key, int64(next(2)), ""), rowOf(key.Table, key.Key, int64(next(2)), "")
	switch next(12) {
	case 0, 1, 2:
		return put(a)
	case 3, 4, 5:
		return drop(a)
	case 6:
		b.Key += int64(next(2))
		return impl.Change{Was: next(2) == 0, Before: a, Is: next(2) == 0, After: b}
	case 7:
		b.Val -= int64(next(2))
		return turn(a, b)
	}
	return turn(a, b)
}

// Folded on and on, beside the model: what all of them do one behind the other, the folded ones do at once.
func TestFoldedChangesDoWhatAllOfThemDo(t *testing.T) {
	next, counts, applied, gone := numbers(11), map[int64]int{}, 0, 0
	for range 3000 {
		var list, all []impl.Change
		for range 12 {
			c := anyFold(next)
			want, code := expectedFold(list, c)
			counts[code]++
			if code != impl.OK {
				expectFoldCode(t, "a walk", list, c, code)
				continue
			}
			expectFold(t, "a walk", list, c, want...)
			if !rises(want) || expectedListFault(want) != impl.OK {
				t.Fatalf("FoldChange(%+v, %+v) = %+v", list, c, want)
			}
			if len(want) < len(list) {
				gone++
			}
			list, all = want, append(all, c)
			rows := anyRows(next)
			if by := impl.ApplyChanges(rows, all); by.Code == impl.OK {
				expectApply(t, "the folded ones", rows, list, by.Rows...)
				applied++
			}
		}
		broken := slices.Clone(list)
		for range next(3) {
			broken = slices.Insert(broken, next(len(broken)+1), anyFold(next))
		}
		c := anyFold(next)
		if want, code := expectedFold(broken, c); code != impl.OK {
			counts[100+code]++
			expectFoldCode(t, "a list with any", broken, c, code)
		} else {
			expectFold(t, "a list with any", broken, c, want...)
		}
	}
	if applied < 1000 || gone < 2000 || counts[impl.OK] < 5000 || counts[impl.ErrState] < 5000 || counts[impl.ErrForm] < 2000 || counts[impl.ErrRange] < 500 || counts[100+impl.ErrForm] < 200 || counts[100+impl.ErrRange] < 20 {
		t.Errorf("%d applied, %d gone, by code: %v", applied, gone, counts)
	}
}

// Rows as they are on the way of any changes: what is folded of all is what ChangesOf tells of both ends.
func TestFoldedChangesAreThoseOfBothEnds(t *testing.T) {
	next := numbers(12)
	for range 300 {
		first := anyRows(next)
		rows, list := first, []impl.Change(nil)
		for range 30 {
			c := anyFold(next)
			got := impl.ApplyChanges(rows, []impl.Change{c})
			if got.Code != impl.OK || c.Was && c.Is && c.Before == c.After {
				continue
			}
			fold := impl.FoldChange(list, c)
			if fold.Code != impl.OK {
				t.Fatalf("FoldChange(%+v, %+v) = %+v", list, c, fold)
			}
			rows, list = got.Rows, fold.Changes
			var said []impl.Change
			for _, c := range list {
				if !c.Was {
					c.Before = impl.Row{}
				}
				if !c.Is {
					c.After = impl.Row{}
				}
				said = append(said, c)
			}
			if !slices.Equal(said, expectedChanges(first, rows)) {
				t.Fatalf("from %+v to %+v: folded %+v", first, rows, list)
			}
		}
	}
}
