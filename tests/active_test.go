package tests

import (
	"math/rand"
	"slices"
	"strings"
	"testing"

	"loop.example/collabdoc/impl"
)

// checkActive fails the test if the active operations of a log are not those with a + in want.
func checkActive(t *testing.T, want string, log ...string) {
	t.Helper()
	got := ""
	for _, active := range impl.ActiveOps(ops(t, log...)) {
		got += map[bool]string{true: "+", false: "-"}[active]
	}
	if got != want {
		t.Errorf("ActiveOps of\n\t%s\nis %s, want %s", strings.Join(log, "\n\t"), got, want)
	}
}

func TestP17TheLastUndoOrRedoDecides(t *testing.T) {
	checkActive(t, "+", "1a block - - 1")
	checkActive(t, "-+", "1a block - - 1", "2a undo 1a off")
	checkActive(t, "+++", "1a block - - 1", "2a undo 1a off", "3a undo 1a on")
	checkActive(t, "-+++", "1a block - - 1", "2a undo 1a off", "3a undo 1a on", "5a undo 1a off")
	checkActive(t, "-++", "1a block - - 1", "2a undo 1a off", "3a undo 1a off")
	checkActive(t, "++++", "1a block - - 1", "2a undo 1a off", "3a undo 1a off", "4a undo 1a on")
	checkActive(t, "++", "1a block - - 1", "2a undo 1a on")
	checkActive(t, "-++", "1a block - - 1", "2a undo 1a on", "3a undo 1a off")
}

func TestP17UndoByAnotherAuthorHasNoEffect(t *testing.T) {
	checkActive(t, "++", "1a block - - 1", "2b undo 1a off")
	checkActive(t, "++", "1a block - - 1", "1b undo 1a off")
	checkActive(t, "-++", "1b block - - 1", "2b undo 1b off", "3a undo 1b on")
	checkActive(t, "-+++", "1b block - - 1", "2a undo 1b off", "2b undo 1b off", "2c undo 1b on")
	checkActive(t, "+++++", "1c block - - 1", "2c undo 1c off", "3b undo 1c off", "3c undo 1c on", "4a undo 1c off")
	checkDoc(t, []string{"1a block - - 1", "2a text 1a - x", "3b undo 1a off", "3c undo 2a off"}, "char 2a in 1a x", "block 1a in - kind 1")
}

func TestP17UndoIsAlwaysActive(t *testing.T) {
	checkActive(t, "-++", "1a block - - 1", "2a undo 1a off", "3a undo 2a off")
	checkActive(t, "+++++", "1a block - - 1", "2a undo 1a off", "3a undo 1a on", "4a undo 3a off", "5a undo 4a off")
	checkDoc(t, []string{"1a text - - x", "2a undo 1a off", "3a undo 2a off"}, "char 1a in - x deleted")
}

func TestP17EachOperationIsUndoneByItself(t *testing.T) {
	checkActive(t, "-+-++++", "1a block - - 1", "2a block - - 1", "3a block - - 1", "4a undo 3a off", "5a undo 1a off", "6a undo 2a off", "7a undo 2a on")
	checkActive(t, "-+++-++", "1a block - - 1", "1b block - - 1", "1c block - - 1", "2a undo 1a off", "2b text - - x", "2c undo 1b off", "3b undo 2b off")
	checkActive(t, "++", "3a undo 1a off", "4b block - - 1")
	checkActive(t, "-+++", "2a block - - 1", "3a undo 2a off", "4a undo 1a on", "5a undo 3a on")
	list, _ := sampleOps()
	for _, o := range list {
		undo := impl.Op{ID: at(41, 1), Kind: impl.OpUndo, Target: o.ID}
		if active := impl.ActiveOps([]impl.Op{o, undo}); !slices.Equal(active, []bool{o.Kind == impl.OpUndo, true}) {
			t.Errorf("ActiveOps of %v and its undo = %v", o, active)
		}
	}
}

func TestP17ActiveOperationsOfManyLogs(t *testing.T) {
	undone := 0
	check := func(log []impl.Op) {
		active := impl.ActiveOps(log)
		if len(active) != len(log) {
			t.Fatalf("ActiveOps(%v) = %v", log, active)
		}
		for i, o := range log {
			if active[i] != modelActive(log, o) {
				t.Fatalf("ActiveOps(%v) = %v, but %v is active: %v", log, active, o, !active[i])
			}
			if !active[i] {
				undone++
			}
		}
	}
	someDocLogs(17, check)
	r := rand.New(rand.NewSource(17))
	for range rounds {
		check(randomLog(r, r.Intn(impl.MaxOps+1)))
	}
	if undone < rounds {
		t.Errorf("the logs of the test have only %d undone operations", undone)
	}
}

func TestP17InvalidLogsHaveNoActiveOperations(t *testing.T) {
	for _, bad := range badLogs(t) {
		if active := impl.ActiveOps(bad); active != nil {
			t.Errorf("ActiveOps(%v) = %v, want nil", bad, active)
		}
	}
}

func TestUndoneInsertionsCreateDeletedCharacters(t *testing.T) {
	checkDoc(t, []string{"1a block - - 1", "2a text 1a - x", "3a text 1a 2a y", "4b text 1a 3a z", "5b text 1a 3a w", "6a undo 3a off", "7a mark 2a 4b 1 on", "8a note 3a 3a gone"},
		"char 2a in 1a x marks 1", "char 3a in 1a y marks 1 deleted", "char 5b in 1a w marks 1", "char 4b in 1a z marks 1", "block 1a in - kind 1", `note 8a from 3a to 3a ["gone"]`)
	checkDoc(t, []string{"1a text - - x", "2a undo 1a off", "3b text - 1a y", "4a undo 1a on"}, "char 1a in - x", "char 3b in - y")
	checkDoc(t, []string{"1a text - - x", "2a undo 1a off", "3b text - 1a y", "4a undo 1a on", "5a undo 1a off"}, "char 1a in - x deleted", "char 3b in - y")
	checkDoc(t, []string{"1a text - - x", "2b erase 1a", "3a undo 1a off", "4a undo 1a on"}, "char 1a in - x deleted")
	checkDoc(t, []string{"1a text - - x", "2a undo 1a off", "3b erase 1a", "4b undo 3b off"}, "char 1a in - x deleted")
}

func TestUndoneInsertionsNeedTheirConditions(t *testing.T) {
	checkDoc(t, []string{"1a block - - 1", "2a text - - x", "3a text 1a 2a y", "4a text 2a - z", "5a block 2a - 1", "6a undo 3a off", "7a undo 4a off", "8a undo 5a off"},
		"char 2a in - x", "block 1a in - kind 1")
	checkDoc(t, []string{"1a block - - 1", "2a undo 1a off", "3a text 1a - x", "4a undo 3a off", "5a text 1a 3a y"},
		"char 3a in 1a x deleted", "char 5a in 1a y", "block 1a in - kind 1 deleted")
}

func TestUndoneBlocksAreCreatedDeleted(t *testing.T) {
	log := []string{"1a block - - 3", "2b block 1a - 4", "3b text 1a - x", "4b block - 1a 1", "5c kind 1a 2", "6c move 1a 4b -", "7a undo 1a off"}
	checkDoc(t, log, "char 3b in 1a x", "block 2b in 1a kind 4", "block 4b in - kind 1", "block 1a in - kind 2 deleted")
	checkDoc(t, behind(log, "8a undo 1a on"), "char 3b in 1a x", "block 2b in 1a kind 4", "block 4b in - kind 1", "block 1a in - kind 2")
	checkDoc(t, behind(log, "8a undo 1a on", "9a undo 1a off"), "char 3b in 1a x", "block 2b in 1a kind 4", "block 4b in - kind 1", "block 1a in - kind 2 deleted")
	checkDoc(t, behind(log, "8b drop 1a", "9a undo 1a on"), "char 3b in 1a x", "block 2b in 1a kind 4", "block 4b in - kind 1", "block 1a in - kind 2 deleted")
}

func TestOtherUndoneOperationsHaveNoEffect(t *testing.T) {
	base := behind(typed, "8a note 3a 4a why", "9a reply 8a yes")
	for _, o := range []string{"10b erase 4a", "10b mark 3a 5a 2 on", "10b move 2a - 1a", "10b move 1a 2a -", "10b kind 1a 4", "10b drop 1a", "10b note 3a 3a more", "10b reply 8a no"} {
		without, with := docLines(impl.BuildDoc(ops(t, base...))), docLines(impl.BuildDoc(ops(t, behind(base, o)...)))
		if slices.Equal(without, with) {
			t.Errorf("%s has no effect", o)
		}
		checkDoc(t, behind(base, o, "11b undo 10b off"), without...)
		checkDoc(t, behind(base, o, "11a undo 10b off", "11c undo 10b off"), with...)
		checkDoc(t, behind(base, o, "11b undo 10b off", "12b undo 10b on"), with...)
		checkDoc(t, behind(base, o, "11b undo 10b off", "12b undo 10b on", "13b undo 10b off"), without...)
	}
}

func TestUndoneMovesAndCommentsDoNotStandInTheWay(t *testing.T) {
	log := []string{"1a block - - 3", "2a block - 1a 3", "3b move 1a - 2a", "3c move 2a - 1a"}
	checkDoc(t, log, "block 1a in 2a kind 3", "block 2a in - kind 3")
	checkDoc(t, behind(log, "4b undo 3b off"), "block 2a in 1a kind 3", "block 1a in - kind 3")
	checkDoc(t, behind(log, "4b undo 3b off", "5b undo 3b on"), "block 1a in 2a kind 3", "block 2a in - kind 3")
	checkDoc(t, behind(log, "4b undo 3b off", "4c undo 3c off"), "block 1a in - kind 3", "block 2a in - kind 3")
	checkDoc(t, []string{"1a text - - x", "2b note 1a 1a a", "3a reply 2b b", "4b undo 2b off", "5a reply 2b c", "6b undo 2b on"}, "char 1a in - x", `note 2b from 1a to 1a ["a" "b" "c"]`)
}
