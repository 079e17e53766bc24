package tests

import (
	"math"
	"slices"
	"strings"
	"testing"

	"loop.example/collabdoc/impl"
)

// checkRange fails the test if the comment 20a is not in this range of gaps and the operations more.
func checkRange(t *testing.T, block string, from int, to int, more ...string) {
	t.Helper()
	r, ok := impl.CommentRange(ops(t, behind(gaps, more...)...), at(20, 0))
	if want := (impl.Range{Block: stampOf(block), From: from, To: to}); !ok || r != want {
		t.Errorf("behind %q CommentRange = %v, %v, want %v", more, r, ok, want)
	}
}

// checkNoRange fails the test if the comment 20a has a range in gaps and the operations more.
func checkNoRange(t *testing.T, more ...string) {
	t.Helper()
	if r, ok := impl.CommentRange(ops(t, behind(gaps, more...)...), at(20, 0)); ok || r != (impl.Range{}) {
		t.Errorf("behind %q CommentRange = %v, %v, want none", more, r, ok)
	}
}

func TestP30RangesOfComments(t *testing.T) {
	checkRange(t, "1a", 0, 2, "20a note 3a 5a why")
	checkRange(t, "1a", 0, 1, "20a note 3a 3a why")
	checkRange(t, "1a", 1, 2, "20a note 5a 5a why")
	// Characters of the root and of a deleted block.
	checkRange(t, "-", 0, 2, "20a note 7a 9b why")
	checkRange(t, "-", 1, 2, "20a note 9b 9b why")
	checkRange(t, "2b", 0, 2, "20a note 10b 11c why")
	checkRange(t, "2b", 1, 2, "20a note 11c 11c why")
	// Other blocks do not count, even if their text stands between the anchors.
	checkRange(t, "1a", 0, 3, "16b text 1a - e", "20a note 16b 5a why")
	checkRange(t, "1a", 1, 3, "16b text 1a - e", "20a note 3a 5a why")
}

func TestP30RangesWithDeletedAnchors(t *testing.T) {
	checkRange(t, "1a", 1, 2, "20a note 4b 5a why")
	checkRange(t, "1a", 0, 1, "20a note 3a 4b why")
	checkRange(t, "1a", 1, 2, "20a note 4b 6c why")
	checkRange(t, "1a", 0, 2, "20a note 3a 6c why")
	checkRange(t, "-", 0, 1, "20a note 7a 8a why")
	checkRange(t, "-", 1, 2, "20a note 8a 9b why")
	checkRange(t, "1a", 0, 1, "20a note 3a 5a why", "21b erase 3a")
	checkRange(t, "1a", 0, 1, "20a note 3a 5a why", "21b erase 5a")
}

func TestP30EmptyRanges(t *testing.T) {
	checkNoRange(t, "20a note 4b 4b why")
	checkNoRange(t, "20a note 6c 6c why")
	checkNoRange(t, "20a note 8a 8a why")
	checkNoRange(t, "20a note 3a 5a why", "21b erase 3a", "22b erase 5a")
	checkRange(t, "1a", 0, 1, "20a note 3a 5a why", "21b erase 3a", "22b erase 5a", "23b undo 22b off")
	checkNoRange(t, "20a note 3a 3a why", "21a undo 3a off")
	checkRange(t, "1a", 0, 1, "20a note 3a 3a why", "21a undo 3a off", "22a undo 3a on")
}

func TestP30AnchorsOutOfOrderOrInDifferentBlocks(t *testing.T) {
	for _, backwards := range []string{"5a 3a", "4b 3a", "6c 3a", "5a 4b", "6c 4b", "6c 5a", "9b 7a", "9b 8a", "8a 7a", "11c 10b"} {
		checkNoRange(t, "20a note "+backwards+" why")
	}
	for _, divided := range []string{"3a 7a", "3a 9b", "7a 5a", "7a 3a", "3a 11c", "10b 5a", "10b 9b", "7a 11c", "4b 8a", "8a 4b", "4b 9b"} {
		checkNoRange(t, "20a note "+divided+" why")
	}
}

func TestP30RangesFollowTheText(t *testing.T) {
	checkRange(t, "1a", 0, 3, "20a note 3a 5a why", "21b text 1a 3a e")
	checkRange(t, "1a", 1, 3, "20a note 3a 5a why", "21b text 1a - e")
	checkRange(t, "1a", 0, 2, "20a note 3a 5a why", "21b text 1a 5a e")
	checkRange(t, "1a", 1, 3, "20a note 4b 5a why", "21b text 1a 4b e")
	checkRange(t, "1a", 0, 3, "20a note 3a 5a why", "21c undo 12c off")
	checkRange(t, "1a", 0, 2, "20a note 3a 5a why", "21b drop 1a", "21c kind 1a 3")
}

func TestP30WithoutACommentThereIsNoRange(t *testing.T) {
	checkNoRange(t)
	checkNoRange(t, "20a note 1a 3a why")
	checkNoRange(t, "20a note 3a 1a why")
	checkNoRange(t, "20a note 3b 3a why")
	checkNoRange(t, "19a note 3a 5a why", "20a reply 19a yes")
	checkNoRange(t, "20a text 1a - x")
	checkNoRange(t, "20a note 3a 5a why", "21a undo 20a off")
	checkNoRange(t, "20a note 3a 5a why", "21a undo 20a off", "22b undo 20a on")
	checkRange(t, "1a", 0, 2, "20a note 3a 5a why", "21b undo 20a off")
	checkRange(t, "1a", 0, 2, "20a note 3a 5a why", "21a undo 20a off", "22a undo 20a on")
	log := ops(t, behind(gaps, "20a note 3a 5a why")...)
	for _, none := range append(badStamps(), impl.Stamp{}, at(20, 1), at(3, 0), at(1, 0), at(99, 2)) {
		if r, ok := impl.CommentRange(log, none); ok || r != (impl.Range{}) {
			t.Errorf("CommentRange(%v) = %v, %v, want none", none, r, ok)
		}
	}
}

func TestP30RangesAreBoundedByTheirAnchors(t *testing.T) {
	ranges, open, none := 0, 0, 0
	somePlaceLogs(30, func(log []impl.Op) {
		d := modelDoc(log)
		for _, id := range idsOf(log) {
			r, ok := impl.CommentRange(log, id)
			if want, wantOK := modelRange(d, id); ok != wantOK || r != want {
				t.Fatalf("CommentRange(%v, %v) = %v, %v, want %v, %v", log, id, r, ok, want, wantOK)
			}
			i := slices.IndexFunc(d.Comments, func(c impl.Comment) bool { return c.ID == id })
			if !ok {
				if i >= 0 {
					none++
				}
				continue
			}
			ranges++
			if r.From < 0 || r.From >= r.To || r.To > len(modelChars(d, r.Block)) {
				t.Fatalf("CommentRange(%v, %v) = %v is not within its block", log, id, r)
			}
			first, last := d.Chars[modelPlace(d, d.Comments[i].From)], d.Chars[modelPlace(d, d.Comments[i].To)]
			if !first.Deleted && impl.CharAt(log, r.Block, r.From) != first.ID || !last.Deleted && impl.CharAt(log, r.Block, r.To-1) != last.ID {
				t.Fatalf("CommentRange(%v, %v) = %v is not from %v to %v", log, id, r, first, last)
			}
			if first.Deleted || last.Deleted {
				open++
			}
		}
	})
	if ranges < rounds || open < rounds/4 || none < rounds/2 {
		t.Errorf("the logs of the test have only %d comments with a range, %d of them with a deleted anchor, and %d without a range", ranges, open, none)
	}
}

// checkCommentsAt fails the test if the comments at the indices of a block, from 0 on, are not those in want.
func checkCommentsAt(t *testing.T, log []impl.Op, block string, want ...string) {
	t.Helper()
	for index, ids := range want {
		if got := strings.Join(stampTexts(impl.CommentsAt(log, stampOf(block), index)), " "); got != ids {
			t.Errorf("CommentsAt(%s, %d) = %q, want %q", block, index, got, ids)
		}
	}
	for _, index := range []int{-1, -2, len(want), len(want) + 1, math.MinInt, math.MaxInt} {
		if got := impl.CommentsAt(log, stampOf(block), index); len(got) != 0 {
			t.Errorf("CommentsAt(%s, %d) = %v, want none", block, index, got)
		}
	}
}

func TestP31CommentsAtIndices(t *testing.T) {
	log := ops(t, behind(gaps, "16a note 5a 5a a", "16b note 3a 5a b", "17b note 4b 4b c", "17c note 3a 4b d", "18a note 5a 3a e", "18b note 3a 9b f", "18c note 7a 11c g",
		"19a note 7a 9b h", "19b note 8a 9b i", "20c note 10b 10b j", "21c note 3a 5a k", "22c undo 21c off", "23a reply 16a x", "24a note 4b 6c l", "25b undo 24a off")...)
	checkCommentsAt(t, log, "1a", "16b 17c", "16a 16b 24a")
	checkCommentsAt(t, log, "-", "19a", "19a 19b")
	checkCommentsAt(t, log, "2b", "20c", "")
	for _, none := range noBlocks() {
		if got := impl.CommentsAt(log, none, 0); len(got) != 0 {
			t.Errorf("CommentsAt(%v, 0) = %v in a block that does not exist", none, got)
		}
	}
	checkCommentsAt(t, ops(t, gaps...), "1a")
	checkCommentsAt(t, nil, "-")
}

func TestP31CommentsAtListsTheCommentsThatCoverAnIndex(t *testing.T) {
	listed, several := 0, 0
	somePlaceLogs(31, func(log []impl.Op) {
		d := modelDoc(log)
		for _, block := range blocksOf(log) {
			for index := -1; index <= len(modelChars(d, block))+1; index++ {
				var want []impl.Stamp
				for _, o := range log {
					if r, ok := modelRange(d, o.ID); ok && r.Block == block && r.From <= index && index < r.To {
						want = append(want, o.ID)
					}
				}
				if got := impl.CommentsAt(log, block, index); !slices.Equal(got, want) {
					t.Fatalf("CommentsAt(%v, %v, %d) = %v, want %v", log, block, index, got, want)
				}
				listed += len(want)
				if len(want) > 1 {
					several++
				}
			}
		}
	})
	if listed < 2*rounds || several < rounds/2 {
		t.Errorf("the comments of the test cover only %d indices, %d times more than one of them", listed, several)
	}
}

// checkComments fails the test if gaps and the operations more do not have the comments with these lines.
func checkComments(t *testing.T, more []string, want ...string) {
	t.Helper()
	if got := commentLines(impl.DocComments(ops(t, behind(gaps, more...)...))); !slices.Equal(got, want) {
		t.Errorf("the comments behind %q are %q, want %q", more, got, want)
	}
}

func TestP32CommentsWithReplies(t *testing.T) {
	checkComments(t, nil)
	checkComments(t, []string{"16a note 3a 5a why"}, `note 16a from 3a to 5a ["why"]`)
	checkComments(t, []string{"16a note 3a 5a why", "16b note 9b 7a how", "17c reply 16b yes", "18a reply 16a no", "18b reply 16b no"},
		`note 16a from 3a to 5a ["why" "no"]`, `note 16b from 9b to 7a ["how" "yes" "no"]`)
	// Comments without a range: deleted anchors, and anchors out of order or in different blocks.
	checkComments(t, []string{"16a note 4b 4b a", "17a note 5a 3a b", "18a note 3a 9b c", "19b reply 18a d"},
		`note 16a from 4b to 4b ["a"]`, `note 17a from 5a to 3a ["b"]`, `note 18a from 3a to 9b ["c" "d"]`)
	checkComments(t, []string{"16a note 3a 1a why", "17a note 12c 3a why", "18a reply 16a no", "19a reply 3a no"})
}

func TestP32UndoneCommentsAndReplies(t *testing.T) {
	notes := []string{"16a note 3a 5a why", "17b reply 16a yes", "18c reply 16a no"}
	checkComments(t, behind(notes, "19b undo 17b off"), `note 16a from 3a to 5a ["why" "no"]`)
	checkComments(t, behind(notes, "19b undo 17b off", "20c undo 18c off"), `note 16a from 3a to 5a ["why"]`)
	checkComments(t, behind(notes, "19b undo 17b off", "20b undo 17b on"), `note 16a from 3a to 5a ["why" "yes" "no"]`)
	checkComments(t, behind(notes, "19a undo 17b off", "19c undo 17b off"), `note 16a from 3a to 5a ["why" "yes" "no"]`)
	checkComments(t, behind(notes, "19a undo 16a off"))
	checkComments(t, behind(notes, "19a undo 16a off", "20b reply 16a late", "21a undo 16a on"), `note 16a from 3a to 5a ["why" "yes" "no" "late"]`)
	checkComments(t, behind(notes, "19b undo 16a off", "20a undo 3a off"), `note 16a from 3a to 5a ["why" "yes" "no"]`)
}

func TestP32CommentsOfManyLogs(t *testing.T) {
	replies := 0
	somePlaceLogs(32, func(log []impl.Op) {
		got, want := impl.DocComments(log), modelComments(log)
		if !slices.Equal(commentLines(got), commentLines(want)) {
			t.Fatalf("DocComments(%v) = %v, want %v", log, got, want)
		}
		if !slices.Equal(commentLines(got), commentLines(impl.BuildDoc(log).Comments)) {
			t.Fatalf("DocComments(%v) = %v differs from the document", log, got)
		}
		for _, c := range got {
			replies += len(c.Texts) - 1
		}
	})
	if replies < rounds {
		t.Errorf("the comments of the test have only %d replies", replies)
	}
}

func TestInvalidLogsHaveNoComments(t *testing.T) {
	for _, bad := range append(badLogs(t), slices.Insert(ops(t, behind(gaps, "16a note 3a 5a why")...), 0, impl.Op{})) {
		if got := impl.DocComments(bad); got != nil {
			t.Errorf("DocComments(%v) = %v, want nil", bad, got)
		}
		for _, id := range append(idsOf(bad), at(16, 0)) {
			if r, ok := impl.CommentRange(bad, id); ok || r != (impl.Range{}) {
				t.Errorf("CommentRange(%v, %v) = %v, %v", bad, id, r, ok)
			}
			if got := impl.CommentsAt(bad, id, 0); len(got) != 0 {
				t.Errorf("CommentsAt(%v, %v, 0) = %v", bad, id, got)
			}
		}
	}
}
