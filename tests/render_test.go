package tests

import (
	"math"
	"math/rand"
	"slices"
	"strings"
	"testing"

	"loop.example/collabdoc/impl"
)

// checkRows fails the test if a log, given as text forms of operations, is not rendered as these lines.
func checkRows(t *testing.T, log []string, want ...string) {
	t.Helper()
	rows := impl.Render(ops(t, log...))
	if got := rowLines(rows); !slices.Equal(got, want) {
		t.Errorf("the rows of\n\t%s\nare\n\t%s\nwant\n\t%s", strings.Join(log, "\n\t"), strings.Join(got, "\n\t"), strings.Join(want, "\n\t"))
	}
	if !impl.ValidRows(rows) {
		t.Errorf("the rows %q do not satisfy the schema", rowLines(rows))
	}
}

// rowsOf returns rows with kinds and depths, given in turn.
func rowsOf(kindsAndDepths ...int) []impl.Row {
	var rows []impl.Row
	for i := 0; i < len(kindsAndDepths); i += 2 {
		rows = append(rows, impl.Row{Kind: kindsAndDepths[i], Depth: kindsAndDepths[i+1]})
	}
	return rows
}

// outline has a list with two items: the first one with a paragraph and a list with one item, the second one with a paragraph. Behind the list there is a heading.
var outline = []string{
	"1a block - - 3", "2a block 1a - 4", "3a block 2a - 1", "4a block 2a 3a 3", "5a block 4a - 4", "6a block 1a 2a 4", "7a block 6a - 1", "8a block - 1a 2",
	"9a text 3a - x", "10a text 5a - y", "11a text 7a - z", "12a text 8a - w",
}

// randomKind returns a kind of a block, or seldom one that no block has.
func randomKind(r *rand.Rand) int {
	if r.Intn(20) == 0 {
		return []int{-1, 0, impl.MaxKind + 1, impl.MaxKind + 4}[r.Intn(4)]
	}
	return 1 + r.Intn(impl.MaxKind)
}

// randomRows returns rows, in most cases only the last of which may violate the schema.
func randomRows(r *rand.Rand) []impl.Row {
	var rows []impl.Row
	for range r.Intn(12) {
		row := impl.Row{ID: at(1+r.Intn(9), 0), Kind: randomKind(r), Depth: r.Intn(6) - 1, Text: "text"}
		for range 10 {
			if modelFits(rows, row.Kind, row.Depth) {
				break
			}
			row.Kind, row.Depth = randomKind(r), r.Intn(6)-1
		}
		rows = append(rows, row)
	}
	return rows
}

// hidden reports whether a block, or one of its ancestors, is deleted.
func hidden(d impl.Doc, id impl.Stamp) bool {
	for id != (impl.Stamp{}) {
		i := slices.IndexFunc(d.Blocks, func(b impl.Block) bool { return b.ID == id })
		if d.Blocks[i].Deleted {
			return true
		}
		id = d.Blocks[i].Parent
	}
	return false
}

// treeDepth returns the number of ancestors of a block.
func treeDepth(d impl.Doc, id impl.Stamp) int {
	i := slices.IndexFunc(d.Blocks, func(b impl.Block) bool { return b.ID == id })
	if d.Blocks[i].Parent == (impl.Stamp{}) {
		return 0
	}
	return 1 + treeDepth(d, d.Blocks[i].Parent)
}

func TestLogsAreRenderedRowByRow(t *testing.T) {
	repaired, raised := 0, 0
	depths := map[int]int{}
	someViewLogs(6, func(log []impl.Op) {
		rows, want := impl.Render(log), modelRows(log)
		if !slices.Equal(rows, want) {
			t.Fatalf("the rows of %v are\n%s\nwant\n%s", log, strings.Join(rowLines(rows), "\n"), strings.Join(rowLines(want), "\n"))
		}
		d := impl.BuildDoc(log)
		for _, row := range rows {
			i := slices.IndexFunc(d.Blocks, func(b impl.Block) bool { return b.ID == row.ID })
			depths[row.Depth]++
			if d.Blocks[i].Kind != row.Kind {
				repaired++
			} else if row.Depth > 0 && row.Depth < treeDepth(d, row.ID) {
				raised++
			}
		}
	})
	if repaired < rounds || raised < rounds/10 || depths[1] < rounds || depths[2] < rounds/10 || depths[3] < 3 {
		t.Errorf("the logs of the test have too few special rows: %d repaired, %d raised, by depth %v", repaired, raised, depths)
	}
}

func TestRowsHaveTheVisibleText(t *testing.T) {
	checkRows(t, nil)
	checkRows(t, []string{"1a block - - 1"}, "1a paragraph 0")
	checkRows(t, typed, "1a paragraph 0 xyz", "2a heading 0 pq")
	checkRows(t, behind(typed, "8b erase 4a", "9b erase 6a", "10b erase 7a"), "1a paragraph 0 xz", "2a heading 0")
	checkRows(t, behind(typed, "8a undo 4a off"), "1a paragraph 0 xz", "2a heading 0 pq")
	checkRows(t, behind(typed, "8a undo 4a off", "9a undo 4a on"), "1a paragraph 0 xyz", "2a heading 0 pq")
	checkRows(t, behind(typed, "8b erase 4a", "9b undo 8b off"), "1a paragraph 0 xyz", "2a heading 0 pq")
	// The characters of both blocks alternate, and marks and comments do not matter.
	checkRows(t, behind(typed, "8a text 1a - w", "9b text 2a - o", "10c text 1a - v", "11a mark 10c 5a 1 on", "12b note 3a 4a why"), "1a paragraph 0 vwxyz", "2a heading 0 opq")
	checkRows(t, []string{"1a block - - 1", "2a text 1a - ~", "3a text 1a -  ", "4a text 1a 3a <", "5a text 1a 4a &", "6a text 1a - !"}, "1a paragraph 0 ! <&~")
}

func TestTheRootIsNoRow(t *testing.T) {
	checkRows(t, []string{"1a text - - x", "2a text - 1a y"})
	checkRows(t, []string{"1a text - - x", "2a block - - 2", "3a text 2a - y", "4a text - 1a z"}, "2a heading 0 y")
	if s := impl.RenderText(ops(t, "1a text - - x", "2a text - 1a y")); s != "" {
		t.Errorf("RenderText of characters of the root = %q", s)
	}
}

func TestRowsAreInDepthFirstOrder(t *testing.T) {
	checkRows(t, outline, "1a list 0", "2a item 1", "3a paragraph 2 x", "4a list 2", "5a item 3 y", "6a item 1", "7a paragraph 2 z", "8a heading 0 w")
}

func TestMovedBlocksAreRenderedAtTheirNewPlace(t *testing.T) {
	checkRows(t, behind(outline, "13b move 1a 8a -"), "8a heading 0 w", "1a list 0", "2a item 1", "3a paragraph 2 x", "4a list 2", "5a item 3 y", "6a item 1", "7a paragraph 2 z")
	checkRows(t, behind(outline, "13b move 2a 6a 1a"), "1a list 0", "6a item 1", "7a paragraph 2 z", "2a item 1", "3a paragraph 2 x", "4a list 2", "5a item 3 y", "8a heading 0 w")
	checkRows(t, behind(outline, "13b move 4a - -"), "4a list 0", "5a item 1 y", "1a list 0", "2a item 1", "3a paragraph 2 x", "6a item 1", "7a paragraph 2 z", "8a heading 0 w")
	checkRows(t, behind(outline, "13b move 4a 7a 6a"), "1a list 0", "2a item 1", "3a paragraph 2 x", "6a item 1", "7a paragraph 2 z", "4a list 2", "5a item 3 y", "8a heading 0 w")
	checkRows(t, behind(outline, "13b move 6a 5a 4a"), "1a list 0", "2a item 1", "3a paragraph 2 x", "4a list 2", "5a item 3 y", "6a item 3", "7a paragraph 4 z", "8a heading 0 w")
	// What is moved to a place where the schema does not allow it is repaired, and so is what stands below it.
	checkRows(t, behind(outline, "13b move 2a 8a -"), "1a list 0", "6a item 1", "7a paragraph 2 z", "8a heading 0 w", "2a paragraph 0", "3a paragraph 0 x", "4a list 0", "5a item 1 y")
	checkRows(t, behind(outline, "13b move 8a 2a 1a"), "1a list 0", "2a item 1", "3a paragraph 2 x", "4a list 2", "5a item 3 y", "8a heading 0 w", "6a paragraph 0", "7a paragraph 0 z")
	// A move into the own subtree has no effect.
	checkRows(t, behind(outline, "13b move 1a - 5a"), rowLines(impl.Render(ops(t, outline...)))...)
}

func TestBlocksThatTheSchemaAllowsNowhere(t *testing.T) {
	// An item of the root, and all kinds below it.
	checkRows(t, []string{"1a block - - 4", "2a block 1a - 1", "3a block 1a 2a 2", "4a block 1a 3a 3", "5a block 1a 4a 4", "6a text 1a - x", "7a text 5a - y"},
		"1a paragraph 0 x", "2a paragraph 0", "3a heading 0", "4a list 0", "5a item 1 y")
	checkRows(t, []string{"1a block - - 4", "2a block 1a - 4", "3a block 2a - 4"}, "1a paragraph 0", "2a paragraph 0", "3a paragraph 0")
	checkRows(t, []string{"1a block - - 4", "2a block 1a - 3", "3a block 2a - 4", "4a block 3a - 1"}, "1a paragraph 0", "2a list 0", "3a item 1", "4a paragraph 2")
	// Items of paragraphs and of headings.
	checkRows(t, []string{"1a block - - 1", "2a block 1a - 4", "3a block 2a - 1", "4a text 2a - x"}, "1a paragraph 0", "2a paragraph 0 x", "3a paragraph 0")
	checkRows(t, []string{"1a block - - 2", "2a block 1a - 4", "3a block 2a - 4", "4b block 2a 3a 3", "5b block 4b - 4"}, "1a heading 0", "2a paragraph 0", "3a paragraph 0", "4b list 0", "5b item 1")
	// A heading in an item ends the list, so that the items behind it are in no list.
	checkRows(t, []string{"1a block - - 3", "2a block 1a - 4", "3a block 2a - 2", "4a block 1a 2a 4", "5a block 4a - 1", "6a block 4a 5a 3", "7a block 6a - 4"},
		"1a list 0", "2a item 1", "3a heading 0", "4a paragraph 0", "5a paragraph 0", "6a list 0", "7a item 1")
	// The kind of the row counts, not that of the block: nothing is allowed below a repaired item.
	checkRows(t, []string{"1a block - - 3", "2a kind 1a 1", "3a block 1a - 4", "4a block 3a - 1"}, "1a paragraph 0", "3a paragraph 0", "4a paragraph 0")
	checkRows(t, []string{"1a block - - 4", "2b block - - 3", "3a move 1a - 2b"}, "2b list 0", "1a item 1")
}

func TestBlocksAreRaisedToWhereTheyAreAllowed(t *testing.T) {
	// To depth 0.
	checkRows(t, []string{"1a block - - 1", "2a block 1a - 1", "3a block 2a - 2", "4a block 3a - 3"}, "1a paragraph 0", "2a paragraph 0", "3a heading 0", "4a list 0")
	checkRows(t, []string{"1a block - - 3", "2a block 1a - 1", "3a block 1a 2a 2", "4a block 1a 3a 3"}, "1a list 0", "2a paragraph 0", "3a heading 0", "4a list 0")
	// By one level, to the largest possible depth: below the item 2a, and below the list 1a.
	checkRows(t, []string{"1a block - - 3", "2a block 1a - 4", "3a block 2a - 3", "4a block 3a - 1"}, "1a list 0", "2a item 1", "3a list 2", "4a paragraph 2")
	checkRows(t, []string{"1a block - - 3", "2a block 1a - 4", "3a block 2a - 4", "4a block 3a - 4"}, "1a list 0", "2a item 1", "3a item 1", "4a item 1")
	// By two levels, and below a row that is not the one before it.
	checkRows(t, []string{"1a block - - 3", "2a block 1a - 4", "3a block 2a - 1", "4a block 3a - 4", "5a block 4a - 1"}, "1a list 0", "2a item 1", "3a paragraph 2", "4a item 1", "5a paragraph 2")
	checkRows(t, []string{"1a block - - 3", "2a block 1a - 4", "3a block 2a - 3", "4a block 3a - 4", "5a block 4a - 1", "6a block 5a - 1", "7a block 6a - 4", "8a block 7a - 2"},
		"1a list 0", "2a item 1", "3a list 2", "4a item 3", "5a paragraph 4", "6a paragraph 4", "7a item 3", "8a heading 0")
}

func TestBlocksFarDeeperThanTheRowBeforeThem(t *testing.T) {
	// The depths in the tree are 0 to 5; the heading at depth 0 does not allow more than depth 1 behind it.
	checkRows(t, []string{"1a block - - 3", "2a block 1a - 4", "3a block 2a - 2", "4a block 3a - 3", "5a block 4a - 4", "6a block 5a - 1"},
		"1a list 0", "2a item 1", "3a heading 0", "4a list 0", "5a item 1", "6a paragraph 2")
	checkRows(t, []string{"1a block - - 2", "2a block 1a - 2", "3a block 2a - 2", "4a block 3a - 4", "5a block 4a - 1"},
		"1a heading 0", "2a heading 0", "3a heading 0", "4a paragraph 0", "5a paragraph 0")
	// A block is not deeper than in the tree, even if the schema allows it.
	checkRows(t, []string{"1a block - - 3", "2a block 1a - 4", "3a block - 1a 1", "4a block - 3a 3", "5a block 4a - 4", "6a block - 4a 3", "7a block 6a - 4"},
		"1a list 0", "2a item 1", "3a paragraph 0", "4a list 0", "5a item 1", "6a list 0", "7a item 1")
	checkRows(t, []string{"1a block - - 3", "2a block 1a - 4", "3a block - 1a 4"}, "1a list 0", "2a item 1", "3a paragraph 0")
	checkRows(t, []string{"1a block - - 3", "2a block 1a - 4", "3a block 1a 2a 1", "4a block 1a 3a 3", "5a block 4a - 4"}, "1a list 0", "2a item 1", "3a paragraph 0", "4a list 0", "5a item 1")
}

func TestTheFirstRowHasDepthZero(t *testing.T) {
	for kind, want := range map[int]string{impl.Paragraph: "paragraph", impl.Heading: "heading", impl.List: "list", impl.ListItem: "paragraph"} {
		log := ops(t, "1a block - - 1")
		log[0].Value = kind
		if got := rowLines(impl.Render(log)); !slices.Equal(got, []string{"1a " + want + " 0"}) {
			t.Errorf("a block of kind %d is rendered as %q", kind, got)
		}
	}
	checkRows(t, []string{"1a block - - 1", "2a block 1a - 3", "3b drop 1a"})
	checkRows(t, []string{"1a block - - 1", "2a block - 1a 4", "3b drop 1a", "4a block 2a - 4"}, "2a paragraph 0", "4a paragraph 0")
}

func TestP16ReplicasConverge(t *testing.T) {
	base := ops(t, "1a block - - 3", "2a block 1a - 4", "3a block 2a - 1", "4a text 3a - x", "5a text 3a 4a y")
	parts := [][]impl.Op{
		append(slices.Clone(base), ops(t, "6a text 3a 4a 1", "7a mark 4a 5a 1 on", "8a move 2a - -", "9a undo 8a off")...),
		append(slices.Clone(base), ops(t, "6b text 3a 4a 2", "7b mark 6b 5a 2 on", "8b block 1a 2a 4", "9b move 3a - 8b")...),
		append(slices.Clone(base), ops(t, "6c erase 4a", "7c text 3a 5a 3", "8c kind 1a 2", "9c note 4a 7c why")...),
	}
	for _, order := range [][]int{{0, 1, 2}, {0, 2, 1}, {1, 0, 2}, {1, 2, 0}, {2, 0, 1}, {2, 1, 0}, {2, 0, 2, 1, 0, 1}} {
		var log []impl.Op
		for _, i := range order {
			log, _ = impl.LogMerge(log, parts[i])
		}
		if got, want := rowLines(impl.Render(log)), []string{"1a heading 0", "2a paragraph 0", "8b paragraph 0", "3a paragraph 0 21y3"}; !slices.Equal(got, want) {
			t.Errorf("the rows after merging in the order %v are %q, want %q", order, got, want)
		}
		if got := impl.RunsMarkup(impl.FormatRuns(log, at(3, 0))); got != "<b><i>21y</i></b>3" {
			t.Errorf("the markup after merging in the order %v is %q", order, got)
		}
		if got := impl.RenderText(log); got != "\n\n\n21y3\n" {
			t.Errorf("the text after merging in the order %v is %q", order, got)
		}
	}
}

func TestP16TheOrderOfMergingDoesNotMatter(t *testing.T) {
	r := rand.New(rand.NewSource(16))
	someViewLogs(16, func(log []impl.Op) {
		want := viewLines(log)
		parts := [][]impl.Op{someOf(r, log), someOf(r, log), log, someOf(r, log)}
		var merged []impl.Op
		for _, i := range r.Perm(len(parts)) {
			if r.Intn(2) == 0 {
				merged, _ = impl.LogMerge(merged, parts[i])
			} else {
				merged, _ = impl.LogMerge(parts[i], merged)
			}
		}
		if got := viewLines(merged); !slices.Equal(got, want) {
			t.Fatalf("%v is, merged from parts,\n%s\nwant\n%s", log, strings.Join(got, "\n"), strings.Join(want, "\n"))
		}
	})
}

func TestP16TheOrderOfInsertionDoesNotMatter(t *testing.T) {
	r := rand.New(rand.NewSource(161))
	someViewLogs(161, func(log []impl.Op) {
		want := viewLines(log)
		var assembled []impl.Op
		for _, i := range r.Perm(len(log)) {
			assembled, _ = impl.LogInsert(assembled, log[i])
		}
		if got := viewLines(assembled); !slices.Equal(got, want) {
			t.Fatalf("%v is, assembled in another order,\n%s\nwant\n%s", log, strings.Join(got, "\n"), strings.Join(want, "\n"))
		}
	})
}

func TestP18TheRenderingSatisfiesTheSchema(t *testing.T) {
	someViewLogs(18, func(log []impl.Op) {
		rows, d := impl.Render(log), impl.BuildDoc(log)
		if !modelValidRows(rows) {
			t.Fatalf("the rows %q of %v do not satisfy the schema", rowLines(rows), log)
		}
		seen := map[impl.Stamp]bool{}
		for _, row := range rows {
			i := slices.IndexFunc(d.Blocks, func(b impl.Block) bool { return b.ID == row.ID })
			if i < 0 || d.Blocks[i].Deleted || seen[row.ID] {
				t.Fatalf("the row %v of %v is not a visible block, or there twice", row, log)
			}
			seen[row.ID] = true
			if row.Kind != d.Blocks[i].Kind && (row.Kind != impl.Paragraph || row.Depth != 0) {
				t.Fatalf("the row %v of %v has not the kind of %v", row, log, d.Blocks[i])
			}
			if row.Depth > treeDepth(d, row.ID) {
				t.Fatalf("the row %v of %v is deeper than its block", row, log)
			}
		}
	})
}

func TestP18InvalidLogsHaveNoRows(t *testing.T) {
	for _, bad := range badLogs(t) {
		if rows, text := impl.Render(bad), impl.RenderText(bad); rows != nil || text != "" {
			t.Errorf("Render(%v) = %v, and RenderText = %q, want nothing", bad, rows, text)
		}
	}
}

func TestP19TheRenderingIsComplete(t *testing.T) {
	below := 0
	someViewLogs(19, func(log []impl.Op) {
		rows, d := impl.Render(log), impl.BuildDoc(log)
		for _, b := range d.Blocks {
			rendered := slices.ContainsFunc(rows, func(row impl.Row) bool { return row.ID == b.ID })
			if rendered == hidden(d, b.ID) {
				t.Fatalf("%v of the document of %v is rendered: %v", b, log, rendered)
			}
			if !rendered && !b.Deleted {
				below++
			}
		}
	})
	if below < rounds/10 {
		t.Errorf("the logs of the test have only %d blocks that are below a deleted one", below)
	}
}

func TestP19DeletedBlocksAreSkippedWithTheirDescendants(t *testing.T) {
	checkRows(t, behind(outline, "13b drop 1a"), "8a heading 0 w")
	checkRows(t, behind(outline, "13b drop 2a"), "1a list 0", "6a item 1", "7a paragraph 2 z", "8a heading 0 w")
	checkRows(t, behind(outline, "13b drop 4a"), "1a list 0", "2a item 1", "3a paragraph 2 x", "6a item 1", "7a paragraph 2 z", "8a heading 0 w")
	checkRows(t, behind(outline, "13b drop 7a", "14b drop 8a", "15b drop 3a"), "1a list 0", "2a item 1", "4a list 2", "5a item 3 y", "6a item 1")
	checkRows(t, behind(outline, "13b drop 1a", "14b drop 8a"))
	checkRows(t, behind(outline, "13a undo 2a off"), "1a list 0", "6a item 1", "7a paragraph 2 z", "8a heading 0 w")
	checkRows(t, behind(outline, "13b drop 1a", "14b undo 13b off", "15c drop 6a"), "1a list 0", "2a item 1", "3a paragraph 2 x", "4a list 2", "5a item 3 y", "8a heading 0 w")
}

func TestP19BlocksLeaveAndEnterDeletedBlocks(t *testing.T) {
	checkRows(t, behind(outline, "13b drop 1a", "14b move 4a 8a -"), "8a heading 0 w", "4a list 0", "5a item 1 y")
	checkRows(t, behind(outline, "13b drop 2a", "14b move 5a 6a 1a"), "1a list 0", "6a item 1", "7a paragraph 2 z", "5a item 1 y", "8a heading 0 w")
	checkRows(t, behind(outline, "13b drop 2a", "14b move 8a - 5a"), "1a list 0", "6a item 1", "7a paragraph 2 z")
	checkRows(t, behind(outline, "13b drop 2a", "14b block 2a - 1", "15b text 14b - !", "16b kind 2a 1"), "1a list 0", "6a item 1", "7a paragraph 2 z", "8a heading 0 w")
}

func TestP20RowsAreCheckedAgainstTheirParentRow(t *testing.T) {
	valid := [][]impl.Row{
		nil, {}, rowsOf(1, 0), rowsOf(2, 0), rowsOf(3, 0), rowsOf(3, 0, 4, 1), rowsOf(3, 0, 4, 1, 1, 2), rowsOf(3, 0, 4, 1, 3, 2), rowsOf(1, 0, 2, 0, 3, 0, 1, 0),
		rowsOf(3, 0, 4, 1, 1, 2, 1, 2, 3, 2, 4, 3, 3, 4, 4, 5, 1, 6, 4, 5, 1, 4, 4, 3, 1, 2, 4, 1, 2, 0, 3, 0, 4, 1),
		rowsOf(3, 0, 4, 1, 3, 2, 4, 3, 1, 2), rowsOf(3, 0, 4, 1, 1, 2, 4, 1), rowsOf(3, 0, 3, 0, 4, 1),
	}
	for _, rows := range valid {
		if !impl.ValidRows(rows) {
			t.Errorf("ValidRows(%q) = false", rowLines(rows))
		}
	}
	invalid := [][]impl.Row{
		rowsOf(4, 0), rowsOf(1, 1), rowsOf(4, 1), rowsOf(3, 0, 1, 1), rowsOf(3, 0, 2, 1), rowsOf(3, 0, 3, 1), rowsOf(3, 0, 4, 0), rowsOf(3, 0, 4, 2), rowsOf(3, 0, 1, 2),
		rowsOf(3, 0, 4, 1, 2, 2), rowsOf(3, 0, 4, 1, 4, 2), rowsOf(3, 0, 4, 1, 1, 3), rowsOf(3, 0, 4, 1, 3, 3), rowsOf(1, 0, 1, 1), rowsOf(2, 0, 1, 1), rowsOf(1, 0, 4, 1), rowsOf(2, 0, 4, 1),
		rowsOf(3, 0, 4, 1, 1, 2, 1, 3), rowsOf(3, 0, 4, 1, 1, 0, 1, 2), rowsOf(3, 0, 4, 1, 1, 0, 4, 1), rowsOf(3, 0, 4, 1, 3, 0, 1, 2), rowsOf(3, 0, 4, 1, 3, 0, 1, 1),
		rowsOf(3, 0, 4, 1, 3, 2, 4, 1, 4, 3), rowsOf(4, 0, 1, 1), rowsOf(4, 0, 1, 0), rowsOf(3, 0, 4, 1, 3, 2, 1, 3),
	}
	for _, rows := range invalid {
		if impl.ValidRows(rows) {
			t.Errorf("ValidRows(%q) = true", rowLines(rows))
		}
	}
}

func TestP20DepthsAndKindsOutsideTheirRange(t *testing.T) {
	for _, depth := range []int{-1, -2, math.MinInt, math.MaxInt, math.MaxInt - 1} {
		for kind := range impl.MaxKind + 1 {
			for _, rows := range [][]impl.Row{rowsOf(kind, depth), rowsOf(3, 0, kind, depth), rowsOf(3, 0, 4, 1, kind, depth), rowsOf(3, 0, kind, depth, 3, 0)} {
				if impl.ValidRows(rows) {
					t.Errorf("ValidRows(%q) = true", rowLines(rows))
				}
			}
		}
	}
	for _, kind := range []int{0, -1, -3, impl.MaxKind + 1, math.MinInt, math.MaxInt} {
		for _, rows := range [][]impl.Row{rowsOf(kind, 0), rowsOf(3, 0, kind, 1), rowsOf(3, 0, 4, 1, kind, 2), rowsOf(3, 0, 4, 1, kind, 1), rowsOf(1, 0, kind, 0), rowsOf(kind, 0, 1, 0), rowsOf(kind, 0, 1, 1), rowsOf(kind, -1, 1, 0)} {
			if impl.ValidRows(rows) {
				t.Errorf("ValidRows(%q) = true", rowLines(rows))
			}
		}
	}
}

func TestP20OnlyKindsAndDepthsAreChecked(t *testing.T) {
	id := at(-5, 77)
	rows := []impl.Row{{ID: id, Kind: impl.List, Text: "\n\x00\xff"}, {ID: id, Kind: impl.ListItem, Depth: 1, Text: strings.Repeat("x", 100)}, {ID: id, Kind: impl.List, Depth: 2}}
	if !impl.ValidRows(rows) {
		t.Errorf("ValidRows(%q) = false", rowLines(rows))
	}
	var deep []impl.Row
	for depth := range 1000 {
		deep = append(deep, impl.Row{Kind: []int{impl.List, impl.ListItem}[depth%2], Depth: depth})
	}
	if !impl.ValidRows(deep) || impl.ValidRows(deep[1:]) {
		t.Error("ValidRows is wrong for a thousand rows")
	}
}

func TestP20PrefixesOfValidRowsAreValid(t *testing.T) {
	r := rand.New(rand.NewSource(20))
	valid, invalid := 0, 0
	for range 20 * rounds {
		rows := randomRows(r)
		got := impl.ValidRows(rows)
		if got != modelValidRows(rows) {
			t.Fatalf("ValidRows(%q) = %v", rowLines(rows), got)
		}
		if !got {
			invalid++
			continue
		}
		valid++
		for n := range rows {
			if !impl.ValidRows(rows[:n]) {
				t.Fatalf("ValidRows(%q) = true, but not for the first %d", rowLines(rows), n)
			}
		}
	}
	if valid < rounds || invalid < rounds {
		t.Errorf("of the rows of the test %d are valid and %d are not", valid, invalid)
	}
}

func TestP21Schema(t *testing.T) {
	kinds := []int{math.MinInt, -impl.List, -1, 0, 1, 2, 3, 4, 5, 6, 7, 8, impl.List + 256, math.MaxInt}
	for _, parent := range kinds {
		for _, kind := range kinds {
			if got := impl.SchemaAllows(parent, kind); got != allowed[[2]int{parent, kind}] {
				t.Errorf("SchemaAllows(%d, %d) = %v", parent, kind, got)
			}
		}
	}
	for kind := -1; kind <= impl.MaxKind+1; kind++ {
		if impl.SchemaAllows(kind, impl.ListItem) != (kind == impl.List) {
			t.Errorf("a list item below kind %d: %v", kind, kind != impl.List)
		}
		if impl.SchemaAllows(impl.Paragraph, kind) || impl.SchemaAllows(impl.Heading, kind) {
			t.Errorf("kind %d is allowed in a paragraph or a heading", kind)
		}
	}
}

func TestP21ItemsAreRenderedInListsOnly(t *testing.T) {
	items := 0
	someViewLogs(21, func(log []impl.Op) {
		rows := impl.Render(log)
		for i, row := range rows {
			parent := 0
			for k := i - 1; k >= 0 && parent == 0; k-- {
				if rows[k].Depth == row.Depth-1 {
					parent = rows[k].Kind
				}
			}
			if parent == impl.Paragraph || parent == impl.Heading || row.Kind == impl.ListItem && parent != impl.List {
				t.Fatalf("row %d of %q is below kind %d", i, rowLines(rows), parent)
			}
			if row.Kind == impl.ListItem {
				items++
			}
		}
	})
	if items < rounds {
		t.Errorf("the logs of the test have only %d items", items)
	}
}

func TestP22RenderTextConcatenatesTheRows(t *testing.T) {
	for _, x := range []struct {
		log  []string
		want string
	}{
		{nil, ""},
		{[]string{"1a block - - 1"}, "\n"},
		{typed, "xyz\npq\n"},
		{behind(typed, "8b erase 4a", "9b drop 2a"), "xz\n"},
		{behind(typed, "8b drop 1a", "9b drop 2a"), ""},
		{outline, "\n\nx\n\ny\n\nz\nw\n"},
		{[]string{"1a block - - 1", "2a text 1a -  ", "3a text 1a 2a <", "4a text - - x"}, " <\n"},
	} {
		if got := impl.RenderText(ops(t, x.log...)); got != x.want {
			t.Errorf("RenderText of %q = %q, want %q", x.log, got, x.want)
		}
	}
	someViewLogs(22, func(log []impl.Op) {
		want := ""
		for _, row := range impl.Render(log) {
			want += row.Text + "\n"
			if text := impl.RunsText(impl.FormatRuns(log, row.ID)); text != row.Text {
				t.Fatalf("the text of the row %v of %v is %q in its runs", row, log, text)
			}
		}
		if got := impl.RenderText(log); got != want {
			t.Fatalf("RenderText(%v) = %q, want %q", log, got, want)
		}
	})
}

func TestRenderingChangesNoArgument(t *testing.T) {
	spare := impl.Op{ID: at(98, 2), Kind: impl.OpReply, Target: at(1, 0), Text: "behind"}
	check := func(log []impl.Op) {
		checkFresh(t, "Render", log, spare, func(log []impl.Op) []impl.Op { impl.Render(log); return nil })
		checkFresh(t, "RenderText", log, spare, func(log []impl.Op) []impl.Op { impl.RenderText(log); return nil })
	}
	someViewLogs(60, check)
	for _, bad := range badLogs(t) {
		check(bad)
	}
	r := rand.New(rand.NewSource(60))
	for range rounds {
		checkFresh(t, "ValidRows", randomRows(r), impl.Row{Kind: 77}, func(rows []impl.Row) []impl.Row { impl.ValidRows(rows); return nil })
	}
}

func TestRowsShareNoMemory(t *testing.T) {
	someViewLogs(61, func(log []impl.Op) {
		want := rowLines(modelRows(log))
		rows, kept := impl.Render(log), impl.Render(log)
		overwrite(rows, impl.Row{Kind: 77})
		if !slices.Equal(rowLines(kept), want) || !slices.Equal(rowLines(impl.Render(log)), want) {
			t.Fatalf("changing the rows changes another result for %v", log)
		}
	})
}
