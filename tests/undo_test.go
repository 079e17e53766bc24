package tests

import (
	"math"
	"math/rand"
	"slices"
	"strings"
	"testing"

	"loop.example/collabdoc/impl"
)

// insert inserts an operation into a log.
func insert(t *testing.T, log []impl.Op, o impl.Op) []impl.Op {
	t.Helper()
	longer, ok := impl.LogInsert(log, o)
	if !ok || len(longer) != len(log)+1 {
		t.Fatalf("cannot insert %v into %v", o, log)
	}
	return longer
}

// undoneIn appends an undo of an operation by its author, or a redo.
func undoneIn(t *testing.T, log []impl.Op, id impl.Stamp, enable bool) []impl.Op {
	t.Helper()
	o, ok := impl.MakeUndo(log, id, enable)
	if !ok {
		t.Fatalf("MakeUndo(%v, %v, %v) fails", log, id, enable)
	}
	return insert(t, log, o)
}

// checkSameDoc fails the test if two logs do not have the same document.
func checkSameDoc(t *testing.T, got []impl.Op, want []impl.Op) {
	t.Helper()
	if g, w := docLines(impl.BuildDoc(got)), docLines(impl.BuildDoc(want)); !slices.Equal(g, w) {
		t.Fatalf("%v is\n%s\nbut %v is\n%s", got, strings.Join(g, "\n"), want, strings.Join(w, "\n"))
	}
}

// someUndoLogs calls yield with the logs of somePlaceLogs without their last operations, so that each has room for n more.
func someUndoLogs(seed int64, n int, yield func(log []impl.Op)) {
	somePlaceLogs(seed, func(log []impl.Op) { yield(log[:min(len(log), impl.MaxOps-n)]) })
}

// fewOps returns some operations of a log that are not undos.
func fewOps(r *rand.Rand, log []impl.Op) []impl.Op {
	var few []impl.Op
	for _, i := range r.Perm(len(log)) {
		if log[i].Kind != impl.OpUndo && len(few) < 6 {
			few = append(few, log[i])
		}
	}
	return few
}

// creates reports whether an operation creates a character or a block.
func creates(o impl.Op) bool {
	return o.Kind == impl.OpInsert || o.Kind == impl.OpAddBlock
}

func TestP33UndoRestoresTheHistoryWithoutTheOperation(t *testing.T) {
	r := rand.New(rand.NewSource(33))
	effective := map[int]int{}
	someUndoLogs(33, 1, func(log []impl.Op) {
		others := slices.DeleteFunc(slices.Clone(log), creates)
		for _, o := range fewOps(r, others) {
			undone, without := undoneIn(t, log, o.ID, false), impl.LogWithout(log, o.ID)
			rows, comments := rowLines(impl.Render(undone)), commentLines(impl.DocComments(undone))
			if !slices.Equal(rows, rowLines(impl.Render(without))) || !slices.Equal(comments, commentLines(impl.DocComments(without))) {
				t.Fatalf("after undoing %v in %v the rows are %q and the comments %q", o, log, rows, comments)
			}
			checkSameDoc(t, undone, without)
			if !slices.Equal(docLines(impl.BuildDoc(undone)), docLines(impl.BuildDoc(log))) {
				effective[o.Kind]++
			}
		}
	})
	for _, kind := range []int{impl.OpDelete, impl.OpFormat, impl.OpMoveBlock, impl.OpSetKind, impl.OpRemoveBlock, impl.OpComment, impl.OpReply} {
		if effective[kind] < rounds/5 {
			t.Errorf("the test undoes only %d effective operations of kind %d", effective[kind], kind)
		}
	}
}

// checkUndo fails the test if log has not the rows and comments want after the operation id is undone by its author.
func checkUndo(t *testing.T, log []string, id string, want ...string) {
	t.Helper()
	undone := undoneIn(t, ops(t, log...), stampOf(id), false)
	if got := append(rowLines(impl.Render(undone)), commentLines(impl.DocComments(undone))...); !slices.Equal(got, want) {
		t.Errorf("without %s\n\t%s\nis\n\t%s\nwant\n\t%s", id, strings.Join(log, "\n\t"), strings.Join(got, "\n\t"), strings.Join(want, "\n\t"))
	}
}

func TestP33UndoOfOperationsThatOthersReference(t *testing.T) {
	base := behind(sentence, "8a note 3a 5a why", "9b reply 8a yes", "10c reply 8a no")
	checkUndo(t, base, "8a", "1a paragraph 0 abcdef")
	checkUndo(t, base, "9b", "1a paragraph 0 abcdef", `note 8a from 3a to 5a ["why" "no"]`)
	// A reply to a reply is none, whether the first reply is undone or not.
	checkUndo(t, behind(base, "11a reply 9b more"), "9b", "1a paragraph 0 abcdef", `note 8a from 3a to 5a ["why" "no"]`)
	// The later move is possible only without the earlier one, the later undo remains.
	moves := []string{"1a block - - 3", "2a block - 1a 3", "3b move 1a - 2a", "3c move 2a - 1a"}
	checkUndo(t, moves, "3b", "1a list 0", "2a list 0")
	checkUndo(t, moves, "3c", "2a list 0", "1a list 0")
	checkUndo(t, behind(sentence, "8b erase 4a", "9c erase 3a", "10c undo 9c off", "11c undo 10c off"), "8b", "1a paragraph 0 abcdef")
	checkUndo(t, behind(sentence, "8b erase 4a", "8c erase 4a"), "8b", "1a paragraph 0 abdef")
	checkUndo(t, behind(sentence, "8b drop 1a", "9a kind 1a 2", "10c text 1a 7a g"), "8b", "1a heading 0 abcdefg")
	checkUndo(t, behind(sentence, "8b drop 1a", "9a kind 1a 2", "10c text 1a 7a g"), "9a")
}

func TestP33UndoIsByTheAuthorOfTheOperation(t *testing.T) {
	log := behind(sentence, "8b erase 4a", "9a undo 8b off", "9c undo 8b off")
	checkRows(t, log, "1a paragraph 0 abdef")
	checkUndo(t, log, "8b", "1a paragraph 0 abcdef")
	checkUndo(t, behind(log, "10b undo 8b off", "11b undo 8b on"), "8b", "1a paragraph 0 abcdef")
	checkUndo(t, behind(log, "10b undo 8b off"), "8b", "1a paragraph 0 abcdef")
}

func TestP34UndoingAnInsertionIsLikeDeleting(t *testing.T) {
	r := rand.New(rand.NewSource(34))
	visible := map[int]int{}
	someUndoLogs(34, 1, func(log []impl.Op) {
		creating := slices.DeleteFunc(slices.Clone(log), func(o impl.Op) bool { return !creates(o) })
		for _, o := range fewOps(r, creating) {
			undo, _ := impl.MakeUndo(log, o.ID, false)
			removal := impl.Op{ID: undo.ID, Kind: impl.OpDelete, Target: o.ID}
			if o.Kind == impl.OpAddBlock {
				removal.Kind = impl.OpRemoveBlock
			}
			undone, removed := insert(t, log, undo), insert(t, log, removal)
			if !slices.Equal(impl.Render(undone), impl.Render(removed)) {
				t.Fatalf("after undoing %v in %v the rows are %v, after deleting it %v", o, log, impl.Render(undone), impl.Render(removed))
			}
			checkSameDoc(t, undone, removed)
			if !slices.Equal(impl.Render(undone), impl.Render(log)) {
				visible[o.Kind]++
			}
		}
	})
	if visible[impl.OpInsert] < rounds || visible[impl.OpAddBlock] < rounds {
		t.Errorf("by kind, the undo of so few operations changes the rows: %v", visible)
	}
}

func TestP34UndoneInsertionsThatOthersReference(t *testing.T) {
	checkUndo(t, sentence, "4a", "1a paragraph 0 abdef")
	checkUndo(t, sentence, "2a", "1a paragraph 0 bcdef")
	checkUndo(t, behind(sentence, "8b text 1a 4a x", "9c mark 4a 4a 1 on"), "4a", "1a paragraph 0 abxdef")
	checkUndo(t, behind(sentence, "8b note 4a 4a why"), "4a", "1a paragraph 0 abdef", `note 8b from 4a to 4a ["why"]`)
	checkUndo(t, behind(sentence, "8b block - 1a 2", "9b block - 8b 1", "10c text 8b - h"), "1a", "8b heading 0 h", "9b paragraph 0")
	checkUndo(t, outline, "2a", "1a list 0", "6a item 1", "7a paragraph 2 z", "8a heading 0 w")
	checkUndo(t, behind(outline, "13b move 4a 8a -"), "2a", "1a list 0", "6a item 1", "7a paragraph 2 z", "8a heading 0 w", "4a list 0", "5a item 1 y")
}

func TestP35RedoInvertsUndo(t *testing.T) {
	r := rand.New(rand.NewSource(35))
	active := 0
	someUndoLogs(35, 2, func(log []impl.Op) {
		for _, o := range fewOps(r, log) {
			if modelActive(log, o) {
				checkSameDoc(t, undoneIn(t, undoneIn(t, log, o.ID, false), o.ID, true), log)
				active++
			}
		}
	})
	if active < 10*rounds {
		t.Errorf("the test undoes only %d operations", active)
	}
}

func TestP35RedoOfUndoneOperations(t *testing.T) {
	log := ops(t, behind(sentence, "8b erase 4a", "9c text 1a 4a x", "10a note 4a 9c why")...)
	want := viewLines(log)
	for _, id := range []string{"1a", "3a", "8b", "9c", "10a"} {
		undone := undoneIn(t, log, stampOf(id), false)
		twice := undoneIn(t, undone, stampOf(id), false)
		if got := viewLines(undone); slices.Equal(got, want) || !slices.Equal(got, viewLines(twice)) {
			t.Errorf("undoing %s once gives %q, twice %q", id, got, viewLines(twice))
		}
		if got := viewLines(undoneIn(t, twice, stampOf(id), true)); !slices.Equal(got, want) {
			t.Errorf("after undoing %s twice and redoing it the document is %q", id, got)
		}
		if got := viewLines(undoneIn(t, undoneIn(t, undone, stampOf(id), true), stampOf(id), false)); !slices.Equal(got, viewLines(undone)) {
			t.Errorf("after undoing, redoing and undoing %s the document is %q", id, got)
		}
	}
}

func TestP36UndoTarget(t *testing.T) {
	none := "-"
	for _, x := range []struct {
		log  []string
		want []string // by author
	}{
		{nil, []string{none, none, none}},
		{sentence, []string{"7a", none, none}},
		{gaps, []string{"13a", "10b", "15c"}},
		{behind(gaps, "16a undo 13a off"), []string{"7a", "10b", "15c"}},
		{behind(gaps, "16a undo 13a off", "17a undo 13a on"), []string{"13a", "10b", "15c"}},
		{behind(gaps, "16a undo 7a off", "17a undo 8a on"), []string{"13a", "10b", "15c"}},
		// Undo by another author has no effect, and an undo is no target.
		{behind(gaps, "16b undo 15c off", "17a undo 15c off", "18a undo 10b off"), []string{"13a", "10b", "15c"}},
		{behind(gaps, "16c undo 15c off", "17b undo 10b off"), []string{"13a", "9b", "12c"}},
		{behind(gaps, "16c undo 15c off", "17c undo 16c off", "18c undo 12c off"), []string{"13a", "10b", "11c"}},
		{[]string{"1a block - - 1", "2a undo 1a off", "3b undo 1a off"}, []string{none, none, none}},
		{[]string{"1a block - - 1", "2a undo 1a off", "3b undo 1a off", "4a undo 1a on"}, []string{"1a", none, none}},
		// Operations without an effect are active.
		{[]string{"2b erase 1a", "3c reply 1a no"}, []string{none, "2b", "3c"}},
	} {
		for who, want := range x.want {
			if got := impl.UndoTarget(ops(t, x.log...), who); got != stampOf(want) {
				t.Errorf("UndoTarget of author %d in %q = %v, want %s", who, x.log, got, want)
			}
		}
	}
	for _, who := range []int{-1, impl.MaxAuthors, impl.MaxAuthors + 1, math.MinInt, math.MaxInt} {
		if got := impl.UndoTarget(ops(t, gaps...), who); got != (impl.Stamp{}) {
			t.Errorf("UndoTarget of author %d = %v", who, got)
		}
	}
}

func TestP36UndoTargetIsTheLastActiveOperation(t *testing.T) {
	r := rand.New(rand.NewSource(36))
	passed := 0
	someUndoLogs(36, 3, func(log []impl.Op) {
		for range r.Intn(4) {
			if last := impl.UndoTarget(log, r.Intn(impl.MaxAuthors)); last != (impl.Stamp{}) {
				log = undoneIn(t, log, last, false)
			}
		}
		for who := range impl.MaxAuthors {
			var want impl.Stamp
			for _, o := range log {
				if o.ID.Author == who && o.Kind != impl.OpUndo && modelActive(log, o) {
					want = o.ID
				}
			}
			if got := impl.UndoTarget(log, who); got != want {
				t.Fatalf("UndoTarget(%v, %d) = %v, want %v", log, who, got, want)
			}
			for _, o := range log {
				if o.ID.Author == who && o.Kind != impl.OpUndo && impl.StampLess(want, o.ID) {
					passed++
				}
			}
		}
	})
	if passed < rounds {
		t.Errorf("in the logs of the test UndoTarget has to pass over only %d undone operations", passed)
	}
}

func TestP36UndoingStepByStep(t *testing.T) {
	r := rand.New(rand.NewSource(361))
	for range rounds {
		log := randomDocLog(r, 5+r.Intn(15), randomWeights(r))
		who := r.Intn(impl.MaxAuthors)
		for len(log) < impl.MaxOps && impl.UndoTarget(log, who) != (impl.Stamp{}) {
			log = undoneIn(t, log, impl.UndoTarget(log, who), false)
		}
		for i, active := range impl.ActiveOps(log) {
			if active && log[i].ID.Author == who && log[i].Kind != impl.OpUndo {
				t.Fatalf("after all has been undone, %v of %v is active", log[i], log)
			}
		}
	}
}

// checkMakeUndo fails the test if MakeUndo does not return the operation with this text form, or the zero Op for "".
func checkMakeUndo(t *testing.T, log []impl.Op, id impl.Stamp, enable bool, want string) {
	t.Helper()
	o, ok := impl.MakeUndo(log, id, enable)
	if want == "" && (ok || o != impl.Op{}) || want != "" && (!ok || o != ops(t, want)[0]) {
		t.Errorf("MakeUndo(%v, %v, %v) = %v, %v, want %q", log, id, enable, o, ok, want)
	}
}

func TestMakeUndo(t *testing.T) {
	log := ops(t, gaps...)
	checkMakeUndo(t, log, at(3, 0), false, "16a undo 3a off")
	checkMakeUndo(t, log, at(3, 0), true, "16a undo 3a on")
	checkMakeUndo(t, log, at(13, 0), false, "16a undo 13a off")
	checkMakeUndo(t, log, at(15, 2), false, "16c undo 15c off")
	// Undone already, or redone without having been undone.
	checkMakeUndo(t, log, at(8, 0), false, "16a undo 8a off")
	checkMakeUndo(t, log, at(8, 0), true, "16a undo 8a on")
	// The undo is by the author of the operation, whoever wrote the last one.
	checkMakeUndo(t, log, at(4, 1), false, "16b undo 4b off")
	checkMakeUndo(t, ops(t, behind(gaps, "40b undo 6c off")...), at(6, 2), true, "41c undo 6c on")
	checkMakeUndo(t, ops(t, "98c text - - x"), at(98, 2), false, "99c undo 98c off")
	// A full log.
	checkMakeUndo(t, dropOps(2, impl.MaxOps, 1), at(2, 1), false, "42b undo 2b off")
}

func TestMakeUndoOfNothing(t *testing.T) {
	log := ops(t, gaps...)
	for _, none := range append(badStamps(), impl.Stamp{}, at(1, 1), at(3, 1), at(16, 0), at(99, 2)) {
		for _, enable := range []bool{false, true} {
			checkMakeUndo(t, log, none, enable, "")
			checkMakeUndo(t, nil, none, enable, "")
		}
	}
	for _, enable := range []bool{false, true} {
		checkMakeUndo(t, log, at(14, 0), enable, "")
		checkMakeUndo(t, ops(t, "2b undo 1a off"), at(1, 0), enable, "")
		checkMakeUndo(t, ops(t, "2b undo 1a off"), at(2, 1), enable, "")
	}
}

func TestMakeUndoWithNoStampLeft(t *testing.T) {
	log := ops(t, "1b block - - 1", "2c undo 1b off", "99a text 1b - x")
	for _, id := range []impl.Stamp{at(1, 1), at(99, 0)} {
		for _, enable := range []bool{false, true} {
			want := impl.Op{Kind: impl.OpUndo, Target: id, Enable: enable}
			if o, ok := impl.MakeUndo(log, id, enable); ok || o != want {
				t.Errorf("MakeUndo(%v, %v) = %v, %v, want %v and false", id, enable, o, ok, want)
			}
		}
	}
	for _, none := range []impl.Stamp{{}, at(2, 2), at(1, 0), at(98, 0), at(99, 1), at(100, 0)} {
		checkMakeUndo(t, log, none, false, "")
	}
}

func TestMakeUndoOfManyOperations(t *testing.T) {
	r := rand.New(rand.NewSource(90))
	check := func(log []impl.Op) {
		last := 0
		for _, o := range log {
			last = max(last, o.ID.Seq)
		}
		for _, o := range log {
			enable := r.Intn(2) == 0
			got, ok := impl.MakeUndo(log, o.ID, enable)
			want := impl.Op{ID: at(last+1, o.ID.Author), Kind: impl.OpUndo, Target: o.ID, Enable: enable}
			if last == impl.MaxCounter {
				want.ID = impl.Stamp{}
			}
			if o.Kind == impl.OpUndo {
				want = impl.Op{}
			}
			if got != want || ok != (want.ID != impl.Stamp{}) || ok != impl.ValidOp(got) {
				t.Fatalf("MakeUndo(%v, %v, %v) = %v, %v, want %v", log, o.ID, enable, got, ok, want)
			}
		}
	}
	someDocLogs(90, check)
	for range rounds {
		check(randomLog(r, r.Intn(impl.MaxOps+1)))
	}
}

func TestP37LogWithout(t *testing.T) {
	log := []string{"1a block - - 1", "2b text 1a - x", "2c undo 2b off", "3a erase 2b", "3b undo 2b off", "4b undo 2b on", "5b undo 3b off", "6c reply 2b no"}
	for id, want := range map[string][]string{
		"1a": {"2b text 1a - x", "2c undo 2b off", "3a erase 2b", "3b undo 2b off", "4b undo 2b on", "5b undo 3b off", "6c reply 2b no"},
		// The operations that undo or redo 2b go with it, by any author; others that target it stay.
		"2b": {"1a block - - 1", "3a erase 2b", "5b undo 3b off", "6c reply 2b no"},
		"3b": {"1a block - - 1", "2b text 1a - x", "2c undo 2b off", "3a erase 2b", "4b undo 2b on", "6c reply 2b no"},
		"4b": {"1a block - - 1", "2b text 1a - x", "2c undo 2b off", "3a erase 2b", "3b undo 2b off", "5b undo 3b off", "6c reply 2b no"},
		"6c": log[:7],
		"-":  log, "1b": log, "2a": log, "7a": log, "99c": log,
	} {
		if got := impl.LogWithout(ops(t, log...), stampOf(id)); !slices.Equal(got, ops(t, want...)) {
			t.Errorf("LogWithout(%s) = %v, want %q", id, got, want)
		}
	}
	for _, none := range badStamps() {
		if got := impl.LogWithout(ops(t, log...), none); !slices.Equal(got, ops(t, log...)) {
			t.Errorf("LogWithout(%v) = %v, want the whole log", none, got)
		}
	}
	// The operations with this target are in the log, but it is not.
	orphans := ops(t, "2b undo 1a off", "3a undo 1a on", "4c erase 1a")
	if got := impl.LogWithout(orphans, at(1, 0)); !slices.Equal(got, orphans[2:]) {
		t.Errorf("LogWithout(%v, 1a) = %v", orphans, got)
	}
	if got := impl.LogWithout(nil, at(1, 0)); len(got) != 0 {
		t.Errorf("LogWithout of the empty log = %v", got)
	}
}

func TestP37LogWithoutRemovesOneOperationAndItsUndos(t *testing.T) {
	undos := 0
	somePlaceLogs(37, func(log []impl.Op) {
		for _, id := range idsOf(log) {
			got := impl.LogWithout(log, id)
			var want []impl.Op
			for _, o := range log {
				if o.ID == id {
					continue
				}
				if o.Kind == impl.OpUndo && o.Target == id {
					undos++
					continue
				}
				want = append(want, o)
			}
			if !slices.Equal(got, want) || !impl.ValidLog(got) {
				t.Fatalf("LogWithout(%v, %v) = %v, want %v", log, id, got, want)
			}
		}
	})
	if undos < rounds {
		t.Errorf("the logs of the test have only %d undos", undos)
	}
}

func TestNothingIsUndoneInInvalidLogs(t *testing.T) {
	for _, bad := range append(badLogs(t), slices.Insert(ops(t, gaps...), 0, impl.Op{})) {
		for who := -1; who <= impl.MaxAuthors; who++ {
			if got := impl.UndoTarget(bad, who); got != (impl.Stamp{}) {
				t.Errorf("UndoTarget(%v, %d) = %v", bad, who, got)
			}
		}
		for _, id := range idsOf(bad) {
			checkMakeUndo(t, bad, id, false, "")
			checkMakeUndo(t, bad, id, true, "")
			if got := impl.LogWithout(bad, id); got != nil {
				t.Errorf("LogWithout(%v, %v) = %v, want nil", bad, id, got)
			}
		}
	}
}
