package tests

import (
	"slices"
	"testing"

	"loop.example/collabdoc/impl"
)

// modelCompact returns a log without each undo or redo that a later one by the same author with the same target follows.
func modelCompact(log []impl.Op) []impl.Op {
	var kept []impl.Op
	for i, o := range log {
		needed := true
		for _, later := range log[i+1:] {
			if o.Kind == impl.OpUndo && later.Kind == impl.OpUndo && o.Target == later.Target && o.ID.Author == later.ID.Author {
				needed = false
			}
		}
		if needed {
			kept = append(kept, o)
		}
	}
	return kept
}

// checkCompact fails the test if CompactLog does not leave exactly these operations of a log. They are given by their IDs.
func checkCompact(t *testing.T, log []string, want ...string) {
	t.Helper()
	var ids []string
	compact := impl.CompactLog(ops(t, log...))
	for _, o := range compact {
		if !slices.Contains(log, impl.EncodeOp(o)) {
			t.Errorf("CompactLog(%q) changes an operation to %q", log, impl.EncodeOp(o))
		}
		ids = append(ids, impl.EncodeStamp(o.ID))
	}
	if !slices.Equal(ids, want) {
		t.Errorf("CompactLog(%q) leaves %q, want %q", log, ids, want)
	}
	checkSameDoc(t, compact, ops(t, log...))
}

func TestP53UndosByOneAuthor(t *testing.T) {
	base := []string{"1a block - - 1", "2b text 1a - x"}
	checkCompact(t, nil)
	checkCompact(t, base, "1a", "2b")
	checkCompact(t, behind(base, "3b undo 2b off"), "1a", "2b", "3b")
	checkCompact(t, behind(base, "3b undo 2b on"), "1a", "2b", "3b")
	// It does not matter whether they undo or redo.
	checkCompact(t, behind(base, "3b undo 2b off", "4b undo 2b off"), "1a", "2b", "4b")
	checkCompact(t, behind(base, "3b undo 2b off", "4b undo 2b on"), "1a", "2b", "4b")
	checkCompact(t, behind(base, "3b undo 2b on", "4b undo 2b off"), "1a", "2b", "4b")
	checkCompact(t, behind(base, "3b undo 2b on", "4b undo 2b on"), "1a", "2b", "4b")
	checkCompact(t, behind(base, "3b undo 2b off", "4b undo 2b on", "5b undo 2b off", "6b undo 2b on"), "1a", "2b", "6b")
	// Other operations in between or behind them, by the same author and with the same target.
	checkCompact(t, behind(base, "3b undo 2b off", "4b erase 2b", "5a kind 1a 2", "6b undo 2b on", "7b erase 2b", "8b text 1a 2b y"), "1a", "2b", "4b", "5a", "6b", "7b", "8b")
	checkCompact(t, behind(base, "3b undo 2b off", "4b erase 2b"), "1a", "2b", "3b", "4b")
	checkCompact(t, behind(base, "3b erase 2b", "4b undo 2b off"), "1a", "2b", "3b", "4b")
	// Another target, also one with the same Seq or the same author, or none that the log has.
	checkCompact(t, behind(base, "3b undo 2b off", "4b undo 1a off", "5b undo 1b off", "6b undo 2a off", "7b undo 2c off"), "1a", "2b", "3b", "4b", "5b", "6b", "7b")
	checkCompact(t, behind(base, "3b undo 1c off", "4b undo 1c on"), "1a", "2b", "4b")
}

func TestP53UndosByDifferentAuthors(t *testing.T) {
	base := []string{"1a block - - 1", "2b text 1a - x"}
	checkCompact(t, behind(base, "3a undo 2b off", "3b undo 2b off", "3c undo 2b off"), "1a", "2b", "3a", "3b", "3c")
	checkCompact(t, behind(base, "3b undo 2b off", "4a undo 2b on", "5c undo 2b on"), "1a", "2b", "3b", "4a", "5c")
	checkCompact(t, behind(base, "3a undo 2b off", "3b undo 2b off", "4a undo 2b on", "5c undo 2b off", "6b undo 2b off", "7c undo 2b on"), "1a", "2b", "4a", "6b", "7c")
	// Those by others have no effect, but each author's last one stays.
	checkCompact(t, behind(base, "3a undo 2b off", "4a undo 2b on", "5a undo 2b off"), "1a", "2b", "5a")
}

func TestP53UndosOfUndos(t *testing.T) {
	base := []string{"1a block - - 1", "2b text 1a - x"}
	checkCompact(t, behind(base, "3b undo 2b off", "4b undo 3b off"), "1a", "2b", "3b", "4b")
	checkCompact(t, behind(base, "3b undo 2b off", "4b undo 3b off", "5b undo 3b on"), "1a", "2b", "3b", "5b")
	// The undo 3b goes, the one of 3b stays.
	checkCompact(t, behind(base, "3b undo 2b off", "4b undo 3b off", "5b undo 2b on"), "1a", "2b", "4b", "5b")
	checkCompact(t, behind(base, "3b undo 2b off", "4b undo 3b off", "5b undo 4b off", "6b undo 3b on", "7c undo 3b off"), "1a", "2b", "3b", "5b", "6b", "7c")
}

func TestP53FullLogs(t *testing.T) {
	log := ops(t, "1a block - - 1")
	for seq := 2; seq <= impl.MaxOps; seq++ {
		log = append(log, impl.Op{ID: at(seq, 0), Kind: impl.OpUndo, Target: at(1, 0), Enable: seq%2 == 0})
	}
	if got := impl.CompactLog(log); !slices.Equal(got, []impl.Op{log[0], log[impl.MaxOps-1]}) {
		t.Errorf("CompactLog(%v) = %v", log, got)
	}
	for i := range log {
		log[i].ID.Author = i % 3
	}
	log[0] = ops(t, "1a block - - 1")[0]
	if got := impl.CompactLog(log); !slices.Equal(got, append(log[:1:1], log[impl.MaxOps-3:]...)) {
		t.Errorf("CompactLog(%v) = %v", log, got)
	}
	full := dropOps(2, impl.MaxOps, 1)
	if got := impl.CompactLog(full); !slices.Equal(got, full) {
		t.Errorf("CompactLog(%v) = %v", full, got)
	}
}

func TestP53InvalidLogsAreNotCompacted(t *testing.T) {
	for _, log := range append(badLogs(t), []impl.Op{{}, {}}, ops(t, "4a undo 1a off", "3a undo 1a on"), ops(t, "3a undo 1a off", "3a undo 1a on")) {
		if got := impl.CompactLog(log); got != nil {
			t.Errorf("CompactLog(%v) = %v, want nil", log, got)
		}
	}
}

func TestP53CompactionPreservesTheDocument(t *testing.T) {
	removed, undone := 0, 0
	check := func(log []impl.Op) {
		got := impl.CompactLog(log)
		if want := modelCompact(log); !impl.ValidLog(got) || !slices.Equal(got, want) {
			t.Fatalf("CompactLog(%v) = %v, want %v", log, got, want)
		}
		checkSameDoc(t, got, log)
		if again := impl.CompactLog(got); !slices.Equal(again, got) {
			t.Fatalf("compacting %v again gives %v", got, again)
		}
		removed += len(log) - len(got)
		for i, active := range impl.ActiveOps(got) {
			if !active && len(got) < len(log) && got[i].Kind != impl.OpUndo {
				undone++
			}
		}
	}
	someDocLogs(53, check)
	somePlaceLogs(531, check)
	if removed < rounds || undone < rounds {
		t.Errorf("in the test only %d undos are removed, and %d operations are still undone then", removed, undone)
	}
}

func TestCompactLogsShareNoMemory(t *testing.T) {
	for _, log := range append(badLogs(t), nil, ops(t, turns()...), dropOps(2, impl.MaxOps, 1)) {
		checkFresh(t, "CompactLog", log, spareOp, impl.CompactLog)
	}
	someDocLogs(532, func(log []impl.Op) {
		checkFresh(t, "CompactLog", log, spareOp, impl.CompactLog)
		checkKept(t, "CompactLog", spareOp, func() []impl.Op { return impl.CompactLog(log) })
	})
}
