package tests

import (
	"math/rand"
	"slices"
	"testing"

	"loop.example/collabdoc/impl"
)

const rounds = 300

// badLogs returns logs that are not valid, each with one defect.
func badLogs(t *testing.T) [][]impl.Op {
	log := ops(t, "1a block - - 1", "2b text 1a - x", "3a text 1a 2b y")
	bad := [][]impl.Op{
		{{}},
		{log[1], log[0], log[2]},
		{log[0], log[2], log[1]},
		{log[0], log[0]},
		{log[0], log[1], log[1]},
		ops(t, "1a block - - 1", "2b text 1a - x", "2a text 1a - y"),
		ops(t, "1a block - - 1", "2b text 1a - x", "2b text 1a - y"),
		dropOps(2, impl.MaxOps+1, 0),
		dropOps(2, impl.MaxOps+20, 1),
	}
	for i := range log {
		broken := slices.Clone(log)
		broken[i].Text = "word"
		bad = append(bad, broken)
	}
	return bad
}

// unionOf returns the operations of both logs, those of a where IDs are equal.
func unionOf(a []impl.Op, b []impl.Op) []impl.Op {
	all := slices.Clone(a)
	for _, o := range b {
		if !hasID(a, o.ID) {
			all = append(all, o)
		}
	}
	sortOps(all)
	return all
}

func hasID(log []impl.Op, id impl.Stamp) bool {
	return slices.ContainsFunc(log, func(o impl.Op) bool { return o.ID == id })
}

func TestValidLog(t *testing.T) {
	r := rand.New(rand.NewSource(1))
	for n := range impl.MaxOps + 1 {
		if log := randomLog(r, n); !impl.ValidLog(log) {
			t.Errorf("ValidLog(%v) = false", log)
		}
	}
	for _, log := range [][]impl.Op{nil, {}, dropOps(2, impl.MaxOps, 0), ops(t, "2a drop 1a", "2b drop 1a", "2c drop 1a")} {
		if !impl.ValidLog(log) {
			t.Errorf("ValidLog(%v) = false", log)
		}
	}
	for _, log := range badLogs(t) {
		if impl.ValidLog(log) {
			t.Errorf("ValidLog(%v) = true", log)
		}
	}
}

func TestP10InsertionKeepsTheLogSorted(t *testing.T) {
	r := rand.New(rand.NewSource(10))
	for range rounds {
		all := randomLog(r, 1+r.Intn(impl.MaxOps))
		i := r.Intn(len(all))
		log := slices.Delete(slices.Clone(all), i, i+1)
		once, ok := impl.LogInsert(log, all[i])
		if !ok || !slices.Equal(once, all) {
			t.Fatalf("LogInsert(%v, %v) = %v, %v", log, all[i], once, ok)
		}
		twice, ok := impl.LogInsert(once, all[i])
		if !ok || !slices.Equal(twice, all) {
			t.Fatalf("the second insertion of %v gives %v, %v", all[i], twice, ok)
		}
	}
}

func TestP10InsertionAtEachPlace(t *testing.T) {
	log := ops(t, "2b drop 1a", "3a drop 1a", "3c drop 1a")
	for place, s := range []string{"1c text - - x", "2c text - - x", "3b text - - x", "4a text - - x"} {
		o := ops(t, s)[0]
		got, ok := impl.LogInsert(log, o)
		if !ok || !slices.Equal(got, slices.Insert(slices.Clone(log), place, o)) {
			t.Errorf("LogInsert of %q = %v, %v", s, got, ok)
		}
	}
	if got, ok := impl.LogInsert(nil, log[0]); !ok || !slices.Equal(got, log[:1]) {
		t.Errorf("LogInsert into the empty log = %v, %v", got, ok)
	}
}

func TestP10OperationsWithTheSameIDAreNotReplaced(t *testing.T) {
	log := ops(t, "2b drop 1a", "3a drop 1a", "3c drop 1a")
	for _, s := range []string{"2b text - - x", "3a text - - x", "3c text - - x"} {
		if got, ok := impl.LogInsert(log, ops(t, s)[0]); !ok || !slices.Equal(got, log) {
			t.Errorf("LogInsert of %q = %v, %v, want the log unchanged", s, got, ok)
		}
	}
}

func TestP10FullLog(t *testing.T) {
	full := dropOps(2, impl.MaxOps, 1)
	if got, ok := impl.LogInsert(full[1:], full[0]); !ok || !slices.Equal(got, full) {
		t.Errorf("the last operation that fits is refused: %v, %v", got, ok)
	}
	for _, id := range []impl.Stamp{at(1, 1), at(20, 0), at(99, 2)} {
		o := impl.Op{ID: id, Kind: impl.OpInsert, Value: 'x'}
		if got, ok := impl.LogInsert(full, o); ok || !slices.Equal(got, full) {
			t.Errorf("LogInsert of %v into the full log = %v, %v", o, got, ok)
		}
	}
	o := impl.Op{ID: full[7].ID, Kind: impl.OpInsert, Value: 'x'}
	if got, ok := impl.LogInsert(full, o); !ok || !slices.Equal(got, full) {
		t.Errorf("LogInsert of an ID that the full log has = %v, %v", got, ok)
	}
}

func TestP10InvalidInsertions(t *testing.T) {
	log := ops(t, "2b drop 1a", "3a drop 1a")
	for _, o := range []impl.Op{{}, {ID: at(4, 0)}, {ID: at(4, 0), Kind: impl.OpInsert}, {ID: at(3, 0), Kind: impl.OpDelete}, {ID: at(4, 0), Kind: impl.OpDelete, Target: at(1, 0), Value: 1}} {
		if got, ok := impl.LogInsert(log, o); ok || !slices.Equal(got, log) {
			t.Errorf("LogInsert of the invalid operation %v = %v, %v", o, got, ok)
		}
		full := dropOps(2, impl.MaxOps, 1)
		if got, ok := impl.LogInsert(full, o); ok || !slices.Equal(got, full) {
			t.Errorf("LogInsert of the invalid operation %v into the full log = %v, %v", o, got, ok)
		}
	}
	for _, bad := range badLogs(t) {
		for _, o := range []impl.Op{log[0], {}} {
			if got, ok := impl.LogInsert(bad, o); ok || len(got) != 0 {
				t.Errorf("LogInsert(%v, %v) = %v, %v, want nothing", bad, o, got, ok)
			}
		}
	}
}

func TestP11MergeIsCommutativeAndIdempotent(t *testing.T) {
	r := rand.New(rand.NewSource(11))
	for range rounds {
		all := randomLog(r, r.Intn(impl.MaxOps+1))
		a, b := someOf(r, all), someOf(r, all)
		merged, ok := impl.LogMerge(a, b)
		if !ok || !slices.Equal(merged, unionOf(a, b)) {
			t.Fatalf("LogMerge(%v, %v) = %v, %v", a, b, merged, ok)
		}
		swapped, ok := impl.LogMerge(b, a)
		if !ok || !slices.Equal(swapped, merged) {
			t.Fatalf("LogMerge(%v, %v) = %v, %v, but in the other order %v", b, a, swapped, ok, merged)
		}
		again, ok := impl.LogMerge(merged, b)
		if !ok || !slices.Equal(again, merged) {
			t.Fatalf("merging %v again changes %v to %v, %v", b, merged, again, ok)
		}
	}
}

func TestP11TheFirstLogDecides(t *testing.T) {
	a := ops(t, "2b drop 1a", "3a drop 1a", "5c drop 1a")
	b := ops(t, "2a text - - x", "2b text - - x", "3a erase 1a", "4a text - - x", "5c text - - x", "6a text - - x")
	got, ok := impl.LogMerge(a, b)
	if !ok || !slices.Equal(got, []impl.Op{b[0], a[0], a[1], b[3], a[2], b[5]}) {
		t.Errorf("LogMerge = %v, %v", got, ok)
	}
	got, ok = impl.LogMerge(b, a)
	if !ok || !slices.Equal(got, b) {
		t.Errorf("LogMerge in the other order = %v, %v", got, ok)
	}
	r := rand.New(rand.NewSource(111))
	for range rounds {
		a, b := randomLog(r, r.Intn(20)), randomLog(r, r.Intn(20))
		if got, ok := impl.LogMerge(a, b); !ok || !slices.Equal(got, unionOf(a, b)) {
			t.Fatalf("LogMerge(%v, %v) = %v, %v", a, b, got, ok)
		}
	}
}

func TestP11EmptyLogs(t *testing.T) {
	log := ops(t, "2b drop 1a", "3a drop 1a")
	for _, empty := range [][]impl.Op{nil, {}} {
		if got, ok := impl.LogMerge(log, empty); !ok || !slices.Equal(got, log) {
			t.Errorf("LogMerge with the empty log = %v, %v", got, ok)
		}
		if got, ok := impl.LogMerge(empty, log); !ok || !slices.Equal(got, log) {
			t.Errorf("LogMerge of the empty log = %v, %v", got, ok)
		}
		if got, ok := impl.LogMerge(empty, empty); !ok || len(got) != 0 {
			t.Errorf("LogMerge of empty logs = %v, %v", got, ok)
		}
	}
}

func TestP11MergeOfFullLogs(t *testing.T) {
	half, other := dropOps(2, impl.MaxOps/2, 0), dropOps(2, impl.MaxOps/2, 2)
	merged, ok := impl.LogMerge(half, other)
	if !ok || len(merged) != impl.MaxOps || !impl.ValidLog(merged) {
		t.Errorf("LogMerge to a full log = %v, %v", merged, ok)
	}
	if got, ok := impl.LogMerge(merged, half); !ok || !slices.Equal(got, merged) {
		t.Errorf("LogMerge of a full log and a part of it = %v, %v", got, ok)
	}
	one := dropOps(2, 1, 1)
	if got, ok := impl.LogMerge(merged, one); ok || !slices.Equal(got, merged) {
		t.Errorf("LogMerge to more than a full log = %v, %v", got, ok)
	}
	if got, ok := impl.LogMerge(one, merged); ok || !slices.Equal(got, one) {
		t.Errorf("LogMerge to more than a full log = %v, %v", got, ok)
	}
}

func TestP11InvalidLogsAreNotMerged(t *testing.T) {
	log := ops(t, "2b drop 1a", "3a drop 1a")
	for _, bad := range badLogs(t) {
		for _, pair := range [][2][]impl.Op{{log, bad}, {bad, log}, {bad, bad}, {nil, bad}, {bad, nil}} {
			if got, ok := impl.LogMerge(pair[0], pair[1]); ok || len(got) != 0 {
				t.Errorf("LogMerge(%v, %v) = %v, %v, want nothing", pair[0], pair[1], got, ok)
			}
		}
	}
}

func TestP12VectorCoversExactlyTheLog(t *testing.T) {
	r := rand.New(rand.NewSource(12))
	for range rounds {
		log := randomLog(r, r.Intn(impl.MaxOps+1))
		v := impl.LogVector(log)
		want := make([]int, impl.MaxAuthors)
		for _, o := range log {
			want[o.ID.Author] = max(want[o.ID.Author], o.ID.Seq)
		}
		if !slices.Equal(v, want) {
			t.Fatalf("LogVector(%v) = %v, want %v", log, v, want)
		}
		if prefix := impl.LogPrefix(log, v); !slices.Equal(prefix, log) {
			t.Fatalf("LogPrefix(%v, %v) = %v", log, v, prefix)
		}
		if missing := impl.LogMissing(log, v); len(missing) != 0 {
			t.Fatalf("LogMissing(%v, %v) = %v", log, v, missing)
		}
		zero := make([]int, impl.MaxAuthors)
		if prefix := impl.LogPrefix(log, zero); len(prefix) != 0 {
			t.Fatalf("LogPrefix(%v, %v) = %v", log, zero, prefix)
		}
		if missing := impl.LogMissing(log, zero); !slices.Equal(missing, log) {
			t.Fatalf("LogMissing(%v, %v) = %v", log, zero, missing)
		}
	}
}

func TestP12VectorsOfSmallAndInvalidLogs(t *testing.T) {
	if v := impl.LogVector(nil); !slices.Equal(v, []int{0, 0, 0}) {
		t.Errorf("LogVector of the empty log = %v", v)
	}
	if v := impl.LogVector(ops(t, "1a block - - 1", "2b text 1a - x", "3a text 1a 2b y")); !slices.Equal(v, []int{3, 2, 0}) {
		t.Errorf("LogVector = %v", v)
	}
	if v := impl.LogVector(ops(t, "98c drop 1a", "99b drop 1a")); !slices.Equal(v, []int{0, 99, 98}) {
		t.Errorf("LogVector = %v", v)
	}
	for _, bad := range badLogs(t) {
		if v := impl.LogVector(bad); v != nil {
			t.Errorf("LogVector(%v) = %v, want nil", bad, v)
		}
	}
}

func TestP13PrefixAndMissingPartitionTheLog(t *testing.T) {
	r := rand.New(rand.NewSource(13))
	for range rounds {
		log := randomLog(r, r.Intn(impl.MaxOps+1))
		v := []int{r.Intn(100), r.Intn(100), r.Intn(100)}
		prefix, missing := impl.LogPrefix(log, v), impl.LogMissing(log, v)
		var in, out []impl.Op
		for _, o := range log {
			if o.ID.Seq <= v[o.ID.Author] {
				in = append(in, o)
			} else {
				out = append(out, o)
			}
		}
		if !slices.Equal(prefix, in) || !slices.Equal(missing, out) {
			t.Fatalf("LogPrefix and LogMissing of %v at %v: %v, %v", log, v, prefix, missing)
		}
		if merged, ok := impl.LogMerge(prefix, missing); !ok || !slices.Equal(merged, log) {
			t.Fatalf("%v and %v are not merged into %v", prefix, missing, log)
		}
		for _, o := range prefix {
			if !impl.VectorContains(v, o.ID) {
				t.Fatalf("%v does not contain %v of the prefix", v, o.ID)
			}
		}
	}
}

func TestP13InvalidPrefixes(t *testing.T) {
	log := ops(t, "2b drop 1a", "3a drop 1a")
	for _, v := range badVectors() {
		if len(impl.LogPrefix(log, v)) != 0 || len(impl.LogMissing(log, v)) != 0 {
			t.Errorf("LogPrefix or LogMissing at %v is not nil", v)
		}
	}
	for _, bad := range badLogs(t) {
		for _, v := range [][]int{{0, 0, 0}, {2, 2, 2}, {99, 99, 99}, nil} {
			if len(impl.LogPrefix(bad, v)) != 0 || len(impl.LogMissing(bad, v)) != 0 {
				t.Errorf("LogPrefix or LogMissing of %v at %v is not nil", bad, v)
			}
		}
	}
}

func TestLogFunctionsReturnNewMemory(t *testing.T) {
	r := rand.New(rand.NewSource(14))
	behind := impl.Op{ID: at(98, 2), Kind: impl.OpReply, Target: at(1, 0), Text: "behind"}
	logs := append(badLogs(t), nil, dropOps(2, impl.MaxOps, 1), randomLog(r, 1), randomLog(r, 12), randomLog(r, impl.MaxOps-1))
	other := randomLog(r, 10)
	kept := slices.Clone(other)
	first := func(log []impl.Op, _ bool) []impl.Op { return log }
	for _, log := range logs {
		inserted := append(slices.Clone(log), other[0], impl.Op{}, impl.Op{ID: at(99, 2), Kind: impl.OpInsert, Value: 'x'}, impl.Op{ID: at(1, 0), Kind: impl.OpInsert, Value: 'x'})
		for _, o := range inserted {
			checkFresh(t, "LogInsert", log, behind, func(log []impl.Op) []impl.Op { return first(impl.LogInsert(log, o)) })
		}
		for _, x := range append(logs, other) {
			checkFresh(t, "LogMerge", log, behind, func(log []impl.Op) []impl.Op { return first(impl.LogMerge(log, x)) })
			checkFresh(t, "LogMerge", log, behind, func(log []impl.Op) []impl.Op { return first(impl.LogMerge(x, log)) })
		}
		for _, v := range [][]int{{0, 0, 0}, {40, 50, 60}, {99, 99, 99}, nil} {
			checkFresh(t, "LogPrefix", log, behind, func(log []impl.Op) []impl.Op { return impl.LogPrefix(log, v) })
			checkFresh(t, "LogMissing", log, behind, func(log []impl.Op) []impl.Op { return impl.LogMissing(log, v) })
		}
		checkFresh(t, "LogVector", log, behind, func(log []impl.Op) []impl.Op { impl.LogVector(log); return nil })
	}
	if !slices.Equal(other, kept) {
		t.Error("the other argument was changed")
	}
}

func TestPrefixesKeepTheVector(t *testing.T) {
	log := ops(t, "2b drop 1a", "3a drop 1a")
	checkFresh(t, "LogPrefix", []int{9, 9, 9}, 77, func(v []int) []int { impl.LogPrefix(log, v); return nil })
	checkFresh(t, "LogMissing", []int{9, 9, 9}, 77, func(v []int) []int { impl.LogMissing(log, v); return nil })
}
