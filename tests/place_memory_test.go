package tests

import (
	"slices"
	"testing"

	"loop.example/collabdoc/impl"
)

// placeCalls has the functions of the chapters 8 to 11 whose results have no operations. They are called with some ID, which may be that of anything.
var placeCalls = map[string]func(log []impl.Op, id impl.Stamp){
	"CharAt":       func(log []impl.Op, id impl.Stamp) { impl.CharAt(log, id, 0) },
	"CharIndex":    func(log []impl.Op, id impl.Stamp) { impl.CharIndex(log, id) },
	"CursorIndex":  func(log []impl.Op, id impl.Stamp) { impl.CursorIndex(log, impl.Cursor{Block: at(1, 0), After: id}) },
	"CursorAt":     func(log []impl.Op, id impl.Stamp) { impl.CursorAt(log, id, 1) },
	"DocComments":  func(log []impl.Op, id impl.Stamp) { impl.DocComments(log) },
	"CommentRange": func(log []impl.Op, id impl.Stamp) { impl.CommentRange(log, id) },
	"CommentsAt":   func(log []impl.Op, id impl.Stamp) { impl.CommentsAt(log, id, 0) },
	"UndoTarget":   func(log []impl.Op, id impl.Stamp) { impl.UndoTarget(log, id.Author) },
	"MakeUndo":     func(log []impl.Op, id impl.Stamp) { impl.MakeUndo(log, id, false) },
	"CharAuthors":  func(log []impl.Op, id impl.Stamp) { impl.CharAuthors(log, id) },
	"AuthorCounts": func(log []impl.Op, id impl.Stamp) { impl.AuthorCounts(log) },
	"RenderAt":     func(log []impl.Op, id impl.Stamp) { impl.RenderAt(log, []int{id.Seq, 9, 9}) },
}

func TestPlacesAndHistoryChangeNoArgument(t *testing.T) {
	spare := impl.Op{ID: at(98, 2), Kind: impl.OpReply, Target: at(1, 0), Text: "behind"}
	logs := append(badLogs(t), nil, ops(t, gaps...), ops(t, outline...), dropOps(2, impl.MaxOps, 1))
	n := 0
	somePlaceLogs(100, func(log []impl.Op) {
		if n++; n%40 == 0 {
			logs = append(logs, log)
		}
	})
	for _, log := range logs {
		for _, id := range idsOf(log) {
			for name, call := range placeCalls {
				checkFresh(t, name, log, spare, func(log []impl.Op) []impl.Op { call(log, id); return nil })
			}
			checkFresh(t, "LogWithout", log, spare, func(log []impl.Op) []impl.Op { return impl.LogWithout(log, id) })
		}
		for _, v := range append(badVectors(), []int{0, 0, 0}, []int{9, 9, 9}) {
			checkFresh(t, "RenderAt", v, 77, func(v []int) []int { impl.RenderAt(log, v); return nil })
		}
	}
}

func TestCommentsShareNoMemory(t *testing.T) {
	replies := 0
	somePlaceLogs(101, func(log []impl.Op) {
		want := commentLines(modelComments(log))
		comments, kept := impl.DocComments(log), impl.DocComments(log)
		for i, c := range comments {
			overwrite(c.Texts, "other")
			for _, other := range comments[i+1:] {
				if slices.Contains(other.Texts[:cap(other.Texts)], "other") {
					t.Fatalf("two comments of %v share memory", log)
				}
			}
			replies += len(c.Texts) - 1
		}
		overwrite(comments, impl.Comment{ID: at(7, 7)})
		if !slices.Equal(commentLines(kept), want) || !slices.Equal(commentLines(impl.DocComments(log)), want) {
			t.Fatalf("changing the comments changes another result for %v", log)
		}
	})
	if replies < rounds {
		t.Errorf("the comments of the test have only %d replies", replies)
	}
}

// checkKept fails the test if overwriting one result of call changes the next one.
func checkKept[E comparable](t *testing.T, name string, other E, call func() []E) {
	t.Helper()
	first, second := call(), call()
	want := slices.Clone(second)
	overwrite(first, other)
	if !slices.Equal(second, want) || !slices.Equal(call(), want) {
		t.Fatalf("changing a result of %s changes another one", name)
	}
}

func TestPlacesAndHistoryShareNoMemory(t *testing.T) {
	someDocLogs(102, func(log []impl.Op) {
		v := impl.LogVector(log)
		for _, block := range blocksOf(log) {
			checkKept(t, "CommentsAt", at(7, 7), func() []impl.Stamp { return impl.CommentsAt(log, block, 0) })
			checkKept(t, "CharAuthors", 77, func() []int { return impl.CharAuthors(log, block) })
		}
		checkKept(t, "LogWithout", impl.Op{}, func() []impl.Op { return impl.LogWithout(log, at(1, 0)) })
		checkKept(t, "AuthorCounts", 77, func() []int { return impl.AuthorCounts(log) })
		checkKept(t, "RenderAt", impl.Row{Kind: 77}, func() []impl.Row { return impl.RenderAt(log, v) })
	})
}
