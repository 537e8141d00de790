package tests

import (
	"bytes"
	"math"
	"math/bits"
	"slices"
	"strconv"
	"testing"

	"loop.example/g00408/impl"
)

// basePage has unlike bytes at all places, so that a byte at a wrong place is seen.
func basePage() []byte {
	return seqCell(100, 64)
}

// turnedAt is that page with other bytes at these places, again all unlike.
func turnedAt(page []byte, places ...int) []byte {
	turned := bytes.Clone(page)
	for _, at := range places {
		turned[at] ^= 128
	}
	return turned
}

func placesOf(mask uint64) []int {
	var places []int
	for ; mask != 0; mask &= mask - 1 {
		places = append(places, bits.TrailingZeros64(mask))
	}
	return places
}

func run(at int64, data ...byte) impl.Run {
	return impl.Run{At: at, Bytes: data}
}

func runOf(at int64, length int) impl.Run {
	return impl.Run{At: at, Bytes: seqCell(7, length)}
}

func cloneRuns(runs []impl.Run) []impl.Run {
	var own []impl.Run
	for _, r := range runs {
		own = append(own, impl.Run{At: r.At, Bytes: bytes.Clone(r.Bytes)})
	}
	return own
}

func sameRuns(a []impl.Run, b []impl.Run) bool {
	return slices.EqualFunc(a, b, func(x impl.Run, y impl.Run) bool {
		return x.At == y.At && bytes.Equal(x.Bytes, y.Bytes)
	})
}

// expectedDiff goes from place to place and asks the one ahead, where the program seeks the end of each run.
func expectedDiff(a []byte, b []byte) []impl.Run {
	var runs []impl.Run
	for at := range a {
		switch {
		case a[at] == b[at]:
		case at > 0 && a[at-1] != b[at-1]:
			last := &runs[len(runs)-1]
			last.Bytes = append(last.Bytes, b[at])
		default:
			runs = append(runs, run(int64(at), b[at]))
		}
	}
	return runs
}

// expectThereAndBack asks all that is promised of what turned from a to b.
func expectThereAndBack(t *testing.T, a []byte, b []byte) {
	t.Helper()
	diff := impl.DiffBytes(a, b)
	if want := expectedDiff(a, b); diff.Code != impl.OK || !sameRuns(diff.Runs, want) {
		t.Fatalf("DiffBytes(%v, %v) = %+v, want %+v", a, b, diff, want)
	}
	if code := impl.RunsFault(diff.Runs); code != impl.OK {
		t.Fatalf("RunsFault(%+v) = %d", diff.Runs, code)
	}
	expectLongest(t, a, b, diff.Runs)
	if there := impl.ApplyRuns(a, diff.Runs); there.Code != impl.OK || !bytes.Equal(there.Bytes, b) {
		t.Fatalf("ApplyRuns(%v, %+v) = %+v, want %v", a, diff.Runs, there, b)
	}
	inverse := impl.InverseRuns(a, diff.Runs)
	if want := impl.DiffBytes(b, a); inverse.Code != impl.OK || !sameRuns(inverse.Runs, want.Runs) {
		t.Fatalf("InverseRuns(%v, %+v) = %+v, want %+v", a, diff.Runs, inverse, want)
	}
	if back := impl.ApplyRuns(b, inverse.Runs); back.Code != impl.OK || !bytes.Equal(back.Bytes, a) {
		t.Fatalf("ApplyRuns(%v, %+v) = %+v, want %v", b, inverse.Runs, back, a)
	}
}

func expectLongest(t *testing.T, a []byte, b []byte, runs []impl.Run) {
	t.Helper()
	for _, r := range runs {
		first, behind := int(r.At), int(r.At)+len(r.Bytes)
		if first > 0 && a[first-1] != b[first-1] || behind < 64 && a[behind] != b[behind] {
			t.Fatalf("run from %d to %d is not a longest one", first, behind-1)
		}
		for at := first; at < behind; at++ {
			if a[at] == b[at] {
				t.Fatalf("place %d of the run at %d did not turn", at, r.At)
			}
		}
	}
}

func TestDiffBytesAtEdges(t *testing.T) {
	a := basePage()
	all := turnedAt(a, fromTo(0, 64)...)
	piece := func(from int, behind int) impl.Run {
		return run(int64(from), all[from:behind]...)
	}
	var evens, odds []impl.Run
	var even, odd []int
	for at := 0; at < 64; at += 2 {
		evens, even = append(evens, piece(at, at+1)), append(even, at)
		odds, odd = append(odds, piece(at+1, at+2)), append(odd, at+1)
	}
	cases := []struct {
		name   string
		places []int
		runs   []impl.Run
	}{
		{"the same", nil, nil},
		{"all places", fromTo(0, 64), []impl.Run{piece(0, 64)}},
		{"all even places", even, evens},
		{"all odd places", odd, odds},
		{"the first place", []int{0}, []impl.Run{piece(0, 1)}},
		{"the second place", []int{1}, []impl.Run{piece(1, 2)}},
		{"the last place", []int{63}, []impl.Run{piece(63, 64)}},
		{"the last place but one", []int{62}, []impl.Run{piece(62, 63)}},
		{"the first and the last place", []int{0, 63}, []impl.Run{piece(0, 1), piece(63, 64)}},
		{"all but the first place", fromTo(1, 64), []impl.Run{piece(1, 64)}},
		{"all but the last place", fromTo(0, 63), []impl.Run{piece(0, 63)}},
		{"all but a place in the middle", append(fromTo(0, 31), fromTo(32, 64)...), []impl.Run{piece(0, 31), piece(32, 64)}},
		{"one place between", append(fromTo(10, 13), fromTo(14, 20)...), []impl.Run{piece(10, 13), piece(14, 20)}},
		{"none between", append(fromTo(10, 13), fromTo(13, 20)...), []impl.Run{piece(10, 20)}},
		{"two between", append(fromTo(10, 13), fromTo(15, 20)...), []impl.Run{piece(10, 13), piece(15, 20)}},
		{"a run up to the end", fromTo(60, 64), []impl.Run{piece(60, 64)}},
		{"a run up to the end behind one place", []int{61, 63}, []impl.Run{piece(61, 62), piece(63, 64)}},
		{"a run up to the place ahead of the last", fromTo(60, 63), []impl.Run{piece(60, 63)}},
	}
	for _, c := range cases {
		b := turnedAt(a, c.places...)
		if got := impl.DiffBytes(a, b); got.Code != impl.OK || !sameRuns(got.Runs, c.runs) {
			t.Errorf("%s: DiffBytes = %+v, want %+v", c.name, got, c.runs)
		}
		expectThereAndBack(t, a, b)
		expectThereAndBack(t, b, a)
	}
}

func TestWhatTurnedLeadsThereAndBack(t *testing.T) {
	a := basePage()
	expect := func(mask uint64) {
		expectThereAndBack(t, a, turnedAt(a, placesOf(mask)...))
	}
	for first := range 64 {
		for second := first; second < 64; second++ {
			pair := uint64(1)<<first | uint64(1)<<second
			span := ^uint64(0) >> (63 - second + first) << first
			for _, mask := range []uint64{pair, span} {
				expect(mask)
				expect(^mask)
			}
		}
	}
	mask := uint64(1)
	for range 5000 {
		mask = mask*6364136223846793005 + 1442695040888963407
		dense := mask | bits.Reverse64(mask)
		expect(mask)
		expect(dense)
		expect(^dense)
	}
}

// Two bytes are the same or not, whatever they are.
func TestDiffBytesOfAllPairsOfBytes(t *testing.T) {
	a, b := make([]byte, 64), make([]byte, 64)
	for x := range 256 {
		for y := range 256 {
			a[5], b[5] = byte(x), byte(y)
			got := impl.DiffBytes(a, b)
			if got.Code != impl.OK || x == y && len(got.Runs) != 0 || x != y && !sameRuns(got.Runs, []impl.Run{run(5, byte(y))}) {
				t.Fatalf("DiffBytes of %d and %d = %+v", x, y, got)
			}
		}
	}
}

// What turned in pages is told by their bytes alone: also of bytes that are no page with slots.
func TestWhatTurnedInPages(t *testing.T) {
	pages := [][]byte{
		impl.NewPage(0).Page,
		impl.NewPage(255).Page,
		pageWith(t, []byte("abc")),
		pageWith(t, []byte("abc"), nil, []byte("defgh")),
		fullDirectory(t),
		impl.CompactPage(fullDirectory(t)).Page,
		make([]byte, 64),
		bytes.Repeat([]byte{255}, 64),
		basePage(),
	}
	for _, a := range pages {
		for _, b := range pages {
			expectThereAndBack(t, a, b)
		}
	}
}

var wrongPages = map[string][]byte{
	"nil":          nil,
	"no bytes":     {},
	"one byte":     {0},
	"a byte less":  make([]byte, 63),
	"a byte more":  make([]byte, 65),
	"two pages":    make([]byte, 128),
	"256 and 64":   make([]byte, 320),
	"65536 and 64": make([]byte, 65600),
}

func TestDiffBytesOfWrongPages(t *testing.T) {
	good := basePage()
	expect := func(name string, a []byte, b []byte) {
		if got := impl.DiffBytes(a, b); got.Code != impl.ErrForm || len(got.Runs) != 0 {
			t.Errorf("%s: DiffBytes = %+v, want code %d", name, got, impl.ErrForm)
		}
	}
	for name, wrong := range wrongPages {
		expect(name+", then a page", wrong, good)
		expect("a page, then "+name, good, wrong)
		for other, second := range wrongPages {
			expect(name+", then "+other, wrong, second)
		}
	}
}

// manyRuns has that many: each of one byte, a place between, and from the end of the page on all at 0.
func manyRuns(count int) []impl.Run {
	var runs []impl.Run
	for i := range count {
		runs = append(runs, run(int64(2*i), byte(i)))
		if i >= 32 {
			runs[i].At = 0
		}
	}
	return runs
}

func TestRunsFaultAtEdges(t *testing.T) {
	far, wrong := runOf(math.MaxInt64, 1), runOf(0, 0)
	cases := []struct {
		name string
		runs []impl.Run
		code int64
	}{
		{"nil", nil, impl.OK},
		{"no runs", []impl.Run{}, impl.OK},
		{"one byte at 0", []impl.Run{runOf(0, 1)}, impl.OK},
		{"one byte at the last place", []impl.Run{runOf(63, 1)}, impl.OK},
		{"all bytes", []impl.Run{runOf(0, 64)}, impl.OK},
		{"up to the end", []impl.Run{runOf(60, 4)}, impl.OK},
		{"just over the end", []impl.Run{runOf(60, 5)}, impl.ErrRange},
		{"two bytes at the last place", []impl.Run{runOf(63, 2)}, impl.ErrRange},
		{"all bytes from 1 on", []impl.Run{runOf(1, 64)}, impl.ErrRange},
		{"more than all bytes", []impl.Run{runOf(0, 65)}, impl.ErrRange},
		{"256 bytes", []impl.Run{runOf(0, 256)}, impl.ErrRange},
		{"257 bytes", []impl.Run{runOf(0, 257)}, impl.ErrRange},
		{"no bytes at 0", []impl.Run{runOf(0, 0)}, impl.ErrRange},
		{"nil at 5", []impl.Run{{At: 5}}, impl.ErrRange},
		{"no bytes at the end", []impl.Run{runOf(64, 0)}, impl.ErrRange},
		{"At below 0", []impl.Run{runOf(-1, 1)}, impl.ErrRange},
		{"At below 0, an end in the page", []impl.Run{runOf(-1, 5)}, impl.ErrRange},
		{"At PageBytes", []impl.Run{runOf(64, 1)}, impl.ErrRange},
		{"At 256", []impl.Run{runOf(256, 1)}, impl.ErrRange},
		{"At -256", []impl.Run{runOf(-256, 1)}, impl.ErrRange},
		{"At 2^32", []impl.Run{runOf(1<<32, 1)}, impl.ErrRange},
		{"At the least", []impl.Run{runOf(math.MinInt64, 1)}, impl.ErrRange},
		{"At the least, all bytes", []impl.Run{runOf(math.MinInt64, 64)}, impl.ErrRange},
		{"At the greatest", []impl.Run{far}, impl.ErrRange},
		{"At the greatest, all bytes", []impl.Run{runOf(math.MaxInt64, 64)}, impl.ErrRange},
		{"At the greatest, no bytes", []impl.Run{runOf(math.MaxInt64, 0)}, impl.ErrRange},

		{"one place between", []impl.Run{runOf(1, 1), runOf(3, 1)}, impl.OK},
		{"one place between, at the ends", []impl.Run{runOf(0, 31), runOf(32, 32)}, impl.OK},
		{"they touch", []impl.Run{runOf(1, 1), runOf(2, 1)}, impl.ErrForm},
		{"they touch, long", []impl.Run{runOf(0, 32), runOf(32, 32)}, impl.ErrForm},
		{"they overlap", []impl.Run{runOf(5, 5), runOf(9, 5)}, impl.ErrForm},
		{"one in the other", []impl.Run{runOf(5, 20), runOf(9, 5)}, impl.ErrForm},
		{"they fall", []impl.Run{runOf(20, 1), runOf(10, 1)}, impl.ErrForm},
		{"they fall side by side", []impl.Run{runOf(11, 1), runOf(10, 1)}, impl.ErrForm},
		{"both at one place", []impl.Run{runOf(10, 1), runOf(10, 1)}, impl.ErrForm},
		{"both at 0", []impl.Run{runOf(0, 1), runOf(0, 1)}, impl.ErrForm},
		{"one behind all bytes", []impl.Run{runOf(0, 64), runOf(63, 1)}, impl.ErrForm},
		{"the third touches", []impl.Run{runOf(0, 1), runOf(2, 1), runOf(3, 1)}, impl.ErrForm},
		{"the third falls below the second alone", []impl.Run{runOf(0, 1), runOf(10, 1), runOf(5, 1)}, impl.ErrForm},

		{"touches and goes beyond", []impl.Run{runOf(0, 60), runOf(60, 5)}, impl.ErrRange},
		{"falls and has no bytes", []impl.Run{runOf(10, 1), runOf(5, 0)}, impl.ErrRange},
		{"falls below 0", []impl.Run{runOf(10, 1), runOf(-1, 1)}, impl.ErrRange},
		{"falls to the least", []impl.Run{runOf(10, 1), runOf(math.MinInt64, 1)}, impl.ErrRange},
		{"touches at the end", []impl.Run{runOf(60, 4), runOf(64, 1)}, impl.ErrRange},
		{"touches, then one beyond", []impl.Run{runOf(1, 1), runOf(2, 1), far}, impl.ErrForm},
		{"falls, then one without bytes", []impl.Run{runOf(9, 1), runOf(1, 1), wrong}, impl.ErrForm},
		{"one beyond, then they touch", []impl.Run{far, runOf(1, 1), runOf(2, 1)}, impl.ErrRange},
		{"one without bytes, then they fall", []impl.Run{wrong, runOf(9, 1), runOf(1, 1)}, impl.ErrRange},

		{"as many as there can be", manyRuns(32), impl.OK},
		{"one more than there can be", manyRuns(33), impl.ErrForm},
		{"PageBytes runs", manyRuns(64), impl.ErrForm},
		{"PageBytes runs, the first beyond", append([]impl.Run{far}, manyRuns(63)...), impl.ErrRange},
		{"more than PageBytes runs", manyRuns(65), impl.ErrMany},
		{"more than PageBytes runs, the first beyond", append([]impl.Run{far}, manyRuns(64)...), impl.ErrMany},
		{"more than PageBytes runs without bytes", make([]impl.Run, 65), impl.ErrMany},
		{"PageBytes runs without bytes", make([]impl.Run, 64), impl.ErrRange},
		{"320 runs without bytes", make([]impl.Run, 320), impl.ErrMany},
	}
	for _, c := range cases {
		if code := impl.RunsFault(c.runs); code != c.code {
			t.Errorf("%s: RunsFault = %d, want %d", c.name, code, c.code)
		}
		expectRunsCode(t, c.name, basePage(), c.runs, c.code)
		for name, wrong := range wrongPages {
			expectRunsCode(t, c.name+", page "+name, wrong, c.runs, impl.ErrForm)
		}
	}
}

func expectRunsCode(t *testing.T, name string, page []byte, runs []impl.Run, code int64) {
	t.Helper()
	apply, inverse := impl.ApplyRuns(page, runs), impl.InverseRuns(page, runs)
	if apply.Code != code || inverse.Code != code {
		t.Errorf("%s: codes %d and %d, want %d", name, apply.Code, inverse.Code, code)
	}
	if code != impl.OK && (len(apply.Bytes) != 0 || len(inverse.Runs) != 0) {
		t.Errorf("%s: %+v and %+v beside a code", name, apply, inverse)
	}
}

func TestRunsFaultOfOneRun(t *testing.T) {
	for at := int64(-3); at <= 70; at++ {
		for length := range 70 {
			want := int64(impl.ErrRange)
			if at >= 0 && at <= 63 && length >= 1 && at+int64(length) <= 64 {
				want = impl.OK
			}
			if code := impl.RunsFault([]impl.Run{runOf(at, length)}); code != want {
				t.Fatalf("RunsFault of %d bytes at %d = %d, want %d", length, at, code, want)
			}
		}
	}
}

func TestRunsFaultOfTwoRuns(t *testing.T) {
	for at := int64(0); at < 64; at++ {
		for length := int64(1); at+length <= 64; length++ {
			for next := int64(0); next < 64; next++ {
				want := int64(impl.ErrForm)
				if next >= at+length+1 {
					want = impl.OK
				}
				if code := impl.RunsFault([]impl.Run{runOf(at, int(length)), runOf(next, 1)}); code != want {
					t.Fatalf("RunsFault of %d bytes at %d and one at %d = %d, want %d", length, at, next, code, want)
				}
			}
		}
	}
}

func TestApplyAndInverseOfRuns(t *testing.T) {
	page := basePage()
	runs := []impl.Run{run(0, 1), run(2, 2, 3, 4), run(62, 5, 6)}
	want := basePage()
	want[0], want[2], want[3], want[4], want[62], want[63] = 1, 2, 3, 4, 5, 6
	if got := impl.ApplyRuns(page, runs); got.Code != impl.OK || !bytes.Equal(got.Bytes, want) {
		t.Errorf("ApplyRuns = %+v, want %v", got, want)
	}
	inverse := []impl.Run{run(0, 100), run(2, 102, 103, 104), run(62, 162, 163)}
	if got := impl.InverseRuns(page, runs); got.Code != impl.OK || !sameRuns(got.Runs, inverse) {
		t.Errorf("InverseRuns = %+v, want %+v", got, inverse)
	}
	whole := []impl.Run{run(0, want...)}
	if got := impl.ApplyRuns(page, whole); got.Code != impl.OK || !bytes.Equal(got.Bytes, want) {
		t.Errorf("ApplyRuns of all bytes = %+v, want %v", got, want)
	}
	if got := impl.InverseRuns(page, whole); got.Code != impl.OK || !sameRuns(got.Runs, []impl.Run{run(0, page...)}) {
		t.Errorf("InverseRuns of all bytes = %+v, want %v", got, page)
	}
}

func TestApplyAndInverseOfNoRuns(t *testing.T) {
	for _, runs := range [][]impl.Run{nil, {}} {
		if got := impl.ApplyRuns(basePage(), runs); got.Code != impl.OK || !bytes.Equal(got.Bytes, basePage()) {
			t.Errorf("ApplyRuns of no runs = %+v", got)
		}
		if got := impl.InverseRuns(basePage(), runs); got.Code != impl.OK || len(got.Runs) != 0 {
			t.Errorf("InverseRuns of no runs = %+v", got)
		}
	}
}

// Runs may tell bytes that the page has already: their inverse has the same places all the same.
func TestRunsThatTurnNothingStay(t *testing.T) {
	page := basePage()
	runs := []impl.Run{run(5, 105, 106, 107), run(10, 110, 1, 112), run(63, 163)}
	inverse := impl.InverseRuns(page, runs)
	want := []impl.Run{run(5, 105, 106, 107), run(10, 110, 111, 112), run(63, 163)}
	if inverse.Code != impl.OK || !sameRuns(inverse.Runs, want) {
		t.Errorf("InverseRuns = %+v, want %+v", inverse, want)
	}
	there := impl.ApplyRuns(page, runs)
	if got := impl.DiffBytes(page, there.Bytes); !sameRuns(got.Runs, []impl.Run{run(11, 1)}) {
		t.Errorf("DiffBytes = %+v, want the one place that turned", got)
	}
}

// Runs that no DiffBytes told: each length and gap in turn, at every start.
func TestAnyRunsLeadThereAndBack(t *testing.T) {
	page := basePage()
	for start := range 64 {
		for length := 1; length <= 16; length++ {
			for gap := 1; gap <= 5; gap++ {
				want, back := bytes.Clone(page), []impl.Run(nil)
				var runs []impl.Run
				for at := start; at+length <= 64; at += length + gap {
					runs = append(runs, impl.Run{At: int64(at), Bytes: seqCell(byte(at+90), length)})
					back = append(back, impl.Run{At: int64(at), Bytes: page[at : at+length]})
					copy(want[at:], runs[len(runs)-1].Bytes)
				}
				there := impl.ApplyRuns(page, runs)
				if there.Code != impl.OK || !bytes.Equal(there.Bytes, want) {
					t.Fatalf("ApplyRuns(%+v) = %+v, want %v", runs, there, want)
				}
				inverse := impl.InverseRuns(page, runs)
				if inverse.Code != impl.OK || !sameRuns(inverse.Runs, back) {
					t.Fatalf("InverseRuns(%+v) = %+v, want %+v", runs, inverse, back)
				}
				if got := impl.ApplyRuns(there.Bytes, inverse.Runs); got.Code != impl.OK || !bytes.Equal(got.Bytes, page) {
					t.Fatalf("ApplyRuns(%+v) = %+v, want %v", inverse.Runs, got, page)
				}
				if got := impl.ApplyRuns(there.Bytes, runs); !bytes.Equal(got.Bytes, want) {
					t.Fatalf("ApplyRuns(%+v) once more = %+v, want %v", runs, got, want)
				}
			}
		}
	}
}

func TestRunsAreNotChanged(t *testing.T) {
	a, b := basePage(), turnedAt(basePage(), 0, 1, 2, 20, 40, 41, 63)
	lists := [][]impl.Run{
		nil,
		{runOf(0, 64)},
		{runOf(0, 1), runOf(2, 3), runOf(60, 4)},
		{runOf(20, 1), runOf(10, 1)},
		{runOf(20, 1), runOf(60, 5)},
		make([]impl.Run, 65),
	}
	keptA, keptB := bytes.Clone(a), bytes.Clone(b)
	impl.DiffBytes(a, b)
	impl.DiffBytes(b, a)
	impl.DiffBytes(a, b[:63])
	for i, runs := range lists {
		kept := cloneRuns(runs)
		impl.RunsFault(runs)
		for _, page := range [][]byte{a, b, a[:63], nil} {
			impl.ApplyRuns(page, runs)
			impl.InverseRuns(page, runs)
		}
		if !sameRuns(runs, kept) {
			t.Errorf("list %d turned to %+v", i, runs)
		}
	}
	if !bytes.Equal(a, keptA) || !bytes.Equal(b, keptB) {
		t.Error("a page turned")
	}
}

// expectRunsApart scribbles each run's bytes in turn: no other run of the answer follows.
func expectRunsApart(t *testing.T, name string, runs []impl.Run) {
	t.Helper()
	for i := range runs {
		kept := cloneRuns(runs)
		scribble(runs[i].Bytes)
		for j := range runs {
			if j != i && !bytes.Equal(runs[j].Bytes, kept[j].Bytes) {
				t.Errorf("%s: runs %d and %d share memory", name, i, j)
			}
		}
	}
}

func TestRunAnswersAreNewMemory(t *testing.T) {
	a, b := basePage(), turnedAt(basePage(), 0, 1, 3, 5, 6, 7, 40, 62, 63)
	runs := []impl.Run{runOf(0, 2), runOf(3, 5), runOf(63, 1)}
	keptA, keptB, keptRuns := bytes.Clone(a), bytes.Clone(b), cloneRuns(runs)
	calls := map[string]func() []impl.Run{
		"DiffBytes":   func() []impl.Run { return impl.DiffBytes(a, b).Runs },
		"InverseRuns": func() []impl.Run { return impl.InverseRuns(a, runs).Runs },
		"ApplyRuns":   func() []impl.Run { return []impl.Run{{Bytes: impl.ApplyRuns(a, runs).Bytes}} },
		"ApplyRuns of none": func() []impl.Run {
			return []impl.Run{{Bytes: impl.ApplyRuns(a, nil).Bytes}}
		},
		"ApplyRuns of all": func() []impl.Run {
			return []impl.Run{{Bytes: impl.ApplyRuns(a, []impl.Run{{Bytes: b}}).Bytes}}
		},
		"InverseRuns of all": func() []impl.Run { return impl.InverseRuns(a, []impl.Run{{Bytes: b}}).Runs },
	}
	for name, call := range calls {
		first, second := call(), call()
		want := cloneRuns(second)
		if len(want) == 0 || !sameRuns(first, want) {
			t.Errorf("%s told %+v, then %+v", name, first, want)
		}
		expectRunsApart(t, name, first)
		clear(first)
		if third := call(); !sameRuns(second, want) || !sameRuns(third, want) {
			t.Errorf("%s shares memory from call to call", name)
		}
		if !bytes.Equal(a, keptA) || !bytes.Equal(b, keptB) || !sameRuns(runs, keptRuns) {
			t.Errorf("%s shares memory with what was handed in", name)
		}
	}
	expectAnswersStay(t, a, b, runs)
}

// expectAnswersStay turns all that was handed in, behind the calls.
func expectAnswersStay(t *testing.T, a []byte, b []byte, runs []impl.Run) {
	diff, apply, inverse := impl.DiffBytes(a, b), impl.ApplyRuns(a, runs), impl.InverseRuns(a, runs)
	wantDiff, wantApply, wantInverse := cloneRuns(diff.Runs), bytes.Clone(apply.Bytes), cloneRuns(inverse.Runs)
	scribble(a)
	scribble(b)
	for i := range runs {
		scribble(runs[i].Bytes)
		runs[i].At++
	}
	if !sameRuns(diff.Runs, wantDiff) || !bytes.Equal(apply.Bytes, wantApply) || !sameRuns(inverse.Runs, wantInverse) {
		t.Error("an answer turns with what was handed in")
	}
}

// What is handed in may share memory itself: runs out of the page that they are put into.
func TestRunsOutOfTheirOwnPage(t *testing.T) {
	page := basePage()
	runs := []impl.Run{{At: 1, Bytes: page[0:3]}, {At: 5, Bytes: page[1:4]}, {At: 60, Bytes: page[3:7]}}
	want := basePage()
	copy(want[1:], []byte{100, 101, 102})
	copy(want[5:], []byte{101, 102, 103})
	copy(want[60:], []byte{103, 104, 105, 106})
	if got := impl.ApplyRuns(page, runs); got.Code != impl.OK || !bytes.Equal(got.Bytes, want) {
		t.Errorf("ApplyRuns = %+v, want %v", got, want)
	}
	inverse := []impl.Run{run(1, 101, 102, 103), run(5, 105, 106, 107), run(60, 160, 161, 162, 163)}
	if got := impl.InverseRuns(page, runs); got.Code != impl.OK || !sameRuns(got.Runs, inverse) {
		t.Errorf("InverseRuns = %+v, want %+v", got, inverse)
	}
	if got := impl.DiffBytes(page, page); got.Code != impl.OK || len(got.Runs) != 0 {
		t.Errorf("DiffBytes of a page and itself = %+v", got)
	}
	if !bytes.Equal(page, basePage()) {
		t.Error("the page turned")
	}
}

// Lists end where they end, whatever memory there is behind them.
func TestRunsReadNoCapacity(t *testing.T) {
	whole := basePage()
	for length := range 64 {
		name := strconv.Itoa(length) + " bytes"
		expectRunsCode(t, name, whole[:length], nil, impl.ErrForm)
		if got := impl.DiffBytes(whole[:length], whole); got.Code != impl.ErrForm {
			t.Errorf("%s: DiffBytes = %+v", name, got)
		}
	}
	long := seqCell(1, 64)
	want := basePage()
	copy(want[10:], long[:3])
	runs := []impl.Run{{At: 10, Bytes: long[:3]}, {At: 11, Bytes: long}}[:1]
	if got := impl.ApplyRuns(whole, runs); got.Code != impl.OK || !bytes.Equal(got.Bytes, want) {
		t.Errorf("ApplyRuns = %+v, want %v", got, want)
	}
	if got := impl.InverseRuns(whole, runs); got.Code != impl.OK || !sameRuns(got.Runs, []impl.Run{run(10, 110, 111, 112)}) {
		t.Errorf("InverseRuns = %+v", got)
	}
}
