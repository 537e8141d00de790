package tests

import (
	"slices"
	"strconv"
	"testing"

	"loop.example/g00408/impl"
)

// expectCrashed asks for just that store: down, with the log of the records that were kept whole, all of them sure.
func expectCrashed(t *testing.T, name string, s impl.Store, kept int64) impl.Store {
	t.Helper()
	ahead, got := cloneStore(s), impl.CrashStore(s, kept)
	sure, _ := allRead(s.Log.Sure)
	loose, _ := allRead(s.Log.Loose)
	want := impl.Store{Log: logOf(slices.Concat(sure, wholeWithin(loose, int(kept))), nil), Next: s.Next}
	if !sameStoreResult(got, impl.StoreResult{Store: want}) {
		t.Fatalf("%s: CrashStore of %d kept = %+v, want %+v", name, kept, got, want)
	}
	if !sameStore(s, ahead) {
		t.Fatalf("%s: the store was changed", name)
	}
	expectSound(t, name, got.Store)
	return got.Store
}

func expectCrashCode(t *testing.T, name string, s impl.Store, kept int64, code int64) {
	t.Helper()
	ahead := cloneStore(s)
	if got := impl.CrashStore(s, kept); !sameStoreResult(got, impl.StoreResult{Code: code}) {
		t.Errorf("%s: CrashStore of %d kept = %+v, want code %d alone", name, kept, got, code)
	}
	if !sameStore(s, ahead) {
		t.Fatalf("%s: the store was changed", name)
	}
}

// expectAllCrashes crashes a store with each kept, and with those that are out of bounds.
func expectAllCrashes(t *testing.T, name string, s impl.Store) {
	t.Helper()
	count := int64(len(s.Log.Loose))
	for kept := range count + 1 {
		expectCrashed(t, name, s, kept)
	}
	for _, kept := range append([]int64{-1, count + 1, count + 2, count + 256, count + 1<<32, int64(len(s.Log.Sure)) + count + 1}, farNumbers...) {
		if kept < 0 || kept > count {
			expectCrashCode(t, name, s, kept, impl.ErrRange)
		}
	}
}

func TestCrashStoreWithEachKept(t *testing.T) {
	expectAllCrashes(t, "open ones", openStore(t))
	expectAllCrashes(t, "nothing", impl.NewStore(1).Store)
	expectAllCrashes(t, "empty lists", impl.Store{Up: true, Pages: [][]byte{}, Log: impl.Log{Sure: []byte{}, Loose: []byte{}}, Txs: []impl.Tx{}, Next: 7})
	s := openStore(t)
	for at := range 4 {
		list := slices.Concat(recordsTo(s.Pages), []impl.Record{begin(50)})
		s.Log = logOf(list[:at], list[at:])
		expectAllCrashes(t, strconv.Itoa(at)+" sure", s)
	}
	for next := int64(1); next <= 100; next++ {
		expectCrashed(t, "a Next", impl.Store{Up: true, Next: next}, 0)
	}
	var pages [][]byte
	for count := range 13 {
		expectAllCrashes(t, strconv.Itoa(count)+" pages", storeOf(pages, impl.Plain{Next: 1}))
		pages = append(pages, pageWith(t, rowCell(1, int64(1+count), 0, ""), movedCell(2, 2, 2, "lone")))
	}
	for _, isLoose := range []bool{false, true} {
		long := paddedTo(t, openStore(t), maxLog, isLoose)
		count := int64(len(long.Log.Loose))
		for _, kept := range []int64{0, 1, count / 2, count - 1, count} {
			if kept >= 0 && kept <= count {
				expectCrashed(t, "a log of MaxLog bytes", long, kept)
			}
		}
		expectCrashCode(t, "a log of MaxLog bytes", long, count+1, impl.ErrRange)
	}
}

// By hand: what was sure stays, a record that was cut in two does not, and Next is not taken back with a begin.
func TestCrashStoreByHand(t *testing.T) {
	s := storeAll(t, impl.NewStore(5).Store, beginOp, rowOp(impl.OpPut, 5, told(1, 8)), txOp(impl.OpCommit, 5), beginOp)
	list := impl.LoggedIn(s).Records
	if len(list) != 4 || len(s.Log.Loose) != 7 || s.Next != 7 {
		t.Fatalf("the store is %+v", s)
	}
	for kept := range int64(8) {
		got := expectCrashed(t, "by hand", s, kept)
		stay := 3
		if kept == 7 {
			stay = 4
		}
		if !sameStore(got, impl.Store{Log: logOf(list[:stay], nil), Next: 7}) {
			t.Errorf("%d kept: %+v", kept, got)
		}
	}
	expectCrashCode(t, "by hand", s, 8, impl.ErrRange)
	expectCrashCode(t, "by hand", s, -1, impl.ErrRange)
}

// Each fault is told ahead of a store that is down, and that one ahead of a kept that is out of bounds.
func TestCrashStoreOfFaults(t *testing.T) {
	keeps := []int64{-1, 0, 1, 7, 100000}
	for _, f := range slices.Concat(logFaults(t), pagesFaults(t), rowsFaults(t), plainFaultsOfTxs()) {
		s := openStore(t)
		f.make(&s)
		for _, kept := range keeps {
			expectCrashCode(t, f.name, s, kept, f.code)
		}
	}
	for name, list := range otherRecords(t) {
		s := openStore(t)
		s.Log = logOf(list, nil)
		for _, kept := range keeps {
			expectCrashCode(t, name, s, kept, impl.ErrState)
		}
	}
	for _, f := range downFaults(t) {
		s := impl.Store{Log: logOf(kindRecords(), nil), Next: 10}
		f.make(&s)
		for _, kept := range keeps {
			expectCrashCode(t, f.name+", down", s, kept, f.code)
		}
	}
	for _, list := range [][]impl.Record{nil, kindRecords(), recordsTo(openPages(t))} {
		for _, kept := range keeps {
			expectCrashCode(t, "down", impl.Store{Log: logOf(list, nil), Next: 10}, kept, impl.ErrState)
		}
	}
}

// A store that crashed is one that is down: all that ask for one that is Up say so.
func TestCrashedStoresAreDown(t *testing.T) {
	s := expectCrashed(t, "open ones", openStore(t), 0)
	expectFaultAt(t, "crashed", s, impl.OK, anyOps()...)
	expectCrashCode(t, "crashed", s, 0, impl.ErrState)
	expectTakeBackCode(t, "crashed", s, bufferOf(3), impl.ErrState)
}
