package tests

import (
	"math/rand"
	"slices"
	"strings"
	"testing"

	"loop.example/collabdoc/impl"
)

// checkDoc fails the test if a log, given as text forms of operations, does not have the document with these lines.
func checkDoc(t *testing.T, log []string, want ...string) {
	t.Helper()
	if got := docLines(impl.BuildDoc(ops(t, log...))); !slices.Equal(got, want) {
		t.Errorf("the document of\n\t%s\nis\n\t%s\nwant\n\t%s", strings.Join(log, "\n\t"), strings.Join(got, "\n\t"), strings.Join(want, "\n\t"))
	}
}

// behind returns base followed by more operations.
func behind(base []string, more ...string) []string {
	return append(slices.Clone(base), more...)
}

// typed has two blocks, the first one with the text xyz, the second one with the text pq in front of it.
var typed = []string{"1a block - - 1", "2a block - 1a 2", "3a text 1a - x", "4a text 1a 3a y", "5a text 1a 4a z", "6a text 2a - p", "7a text 2a 6a q"}

var typedBlocks = []string{"block 1a in - kind 1", "block 2a in - kind 2"}

func typedDoc(chars ...string) []string {
	return append(chars, typedBlocks...)
}

// nested has the blocks 5a and 1a, with 2a and 4a in 1a, and 3a in 2a.
var nested = []string{"1a block - - 3", "2a block 1a - 4", "3a block 2a - 1", "4a block 1a 2a 4", "5a block - - 1"}

func TestDocumentsAreBuiltStepByStep(t *testing.T) {
	kinds := map[int]int{}
	someDocLogs(5, func(log []impl.Op) {
		if !impl.ValidLog(log) {
			t.Fatalf("the test made an invalid log: %v", log)
		}
		got, want := docLines(impl.BuildDoc(log)), docLines(modelDoc(log))
		if !slices.Equal(got, want) {
			t.Fatalf("the document of %v is\n%s\nwant\n%s", log, strings.Join(got, "\n"), strings.Join(want, "\n"))
		}
		for _, o := range log {
			kinds[o.Kind]++
		}
	})
	for kind := impl.OpInsert; kind <= impl.OpUndo; kind++ {
		if kinds[kind] == 0 {
			t.Errorf("no log has an operation of kind %d", kind)
		}
	}
}

func TestDocumentsOfArbitraryLogs(t *testing.T) {
	for n := range impl.MaxOps + 1 {
		for seed := range int64(20) {
			log := randomLog(rand.New(rand.NewSource(seed)), n)
			if got, want := docLines(impl.BuildDoc(log)), docLines(modelDoc(log)); !slices.Equal(got, want) {
				t.Fatalf("the document of %v is %q, want %q", log, got, want)
			}
		}
	}
}

func TestEmptyAndFullLogs(t *testing.T) {
	checkDoc(t, nil)
	if active := impl.ActiveOps(nil); len(active) != 0 {
		t.Errorf("ActiveOps of the empty log = %v", active)
	}
	var log []impl.Op
	for i := range impl.MaxOps + 1 {
		log = append(log, impl.Op{ID: at(i+1, 2), Kind: impl.OpInsert, Value: 32 + i})
	}
	d := impl.BuildDoc(log[:impl.MaxOps])
	if len(d.Chars) != impl.MaxOps || d.Chars[0].ID != at(impl.MaxOps, 2) || d.Chars[impl.MaxOps-1].ID != at(1, 2) {
		t.Errorf("BuildDoc of a full log = %v", d)
	}
	if active := impl.ActiveOps(log[:impl.MaxOps]); len(active) != impl.MaxOps || slices.Contains(active, false) {
		t.Errorf("ActiveOps of a full log = %v", active)
	}
	if d, active := impl.BuildDoc(log), impl.ActiveOps(log); len(d.Chars) != 0 || len(active) != 0 {
		t.Errorf("a log with one operation too many has the document %v and the active operations %v", d, active)
	}
}

func TestInvalidLogsHaveNoDocument(t *testing.T) {
	for _, bad := range badLogs(t) {
		if d := impl.BuildDoc(bad); len(d.Chars) != 0 || len(d.Blocks) != 0 || len(d.Comments) != 0 {
			t.Errorf("BuildDoc(%v) = %v, want the zero Doc", bad, d)
		}
	}
}

func TestDeletedCharactersRemain(t *testing.T) {
	checkDoc(t, behind(typed, "8b erase 4a", "9c erase 4a", "10a text 1a 4a +", "11b erase 6a"), typedDoc(
		"char 6a in 2a p deleted", "char 7a in 2a q", "char 3a in 1a x", "char 4a in 1a y deleted", "char 10a in 1a +", "char 5a in 1a z")...)
}

func TestOnlyCharactersAreDeleted(t *testing.T) {
	checkDoc(t, []string{"1a block - - 1", "2a text 1a - x", "3a note 2a 2a why", "4a erase 1a", "5a erase 3a", "6a erase 1b", "7a erase 4a"},
		"char 2a in 1a x", "block 1a in - kind 1", `note 3a from 2a to 2a ["why"]`)
}

func TestFormattingMarksEverythingFromFirstToLast(t *testing.T) {
	all := func(x string, y string, z string) []string {
		return typedDoc("char 6a in 2a p", "char 7a in 2a q", "char 3a in 1a x"+x, "char 4a in 1a y"+y, "char 5a in 1a z"+z)
	}
	checkDoc(t, behind(typed, "8b mark 3a 4a 1 on"), all(" marks 1", " marks 1", "")...)
	checkDoc(t, behind(typed, "8b mark 4a 4a 2 on"), all("", " marks 2", "")...)
	checkDoc(t, behind(typed, "8b mark 3a 5a 3 on"), all(" marks 4", " marks 4", " marks 4")...)
	checkDoc(t, behind(typed, "8b mark 3a 5a 3 on", "9b mark 4a 5a 1 on", "10b mark 3a 4a 3 off", "11b mark 4a 4a 2 off"), all("", " marks 1", " marks 5")...)
	checkDoc(t, behind(typed, "8b mark 3a 5a 2 on", "9b mark 3a 5a 2 on"), all(" marks 2", " marks 2", " marks 2")...)
	checkDoc(t, behind(typed, "8b mark 3a 5a 1 off"), all("", "", "")...)
	checkDoc(t, behind(typed, "8b mark 3a 5a 1 on", "9b mark 3a 5a 2 on", "10b mark 3a 5a 3 on", "11c mark 5a 5a 2 off"), all(" marks 7", " marks 7", " marks 5")...)
}

func TestFormattingAcrossDeletedCharacters(t *testing.T) {
	checkDoc(t, behind(typed, "8b erase 4a", "9a mark 3a 5a 1 on"), typedDoc(
		"char 6a in 2a p", "char 7a in 2a q", "char 3a in 1a x marks 1", "char 4a in 1a y marks 1 deleted", "char 5a in 1a z marks 1")...)
	checkDoc(t, behind(typed, "8b erase 3a", "9b erase 5a", "10a mark 3a 5a 2 on"), typedDoc(
		"char 6a in 2a p", "char 7a in 2a q", "char 3a in 1a x marks 2 deleted", "char 4a in 1a y marks 2", "char 5a in 1a z marks 2 deleted")...)
}

func TestFormattingBackwardsHasNoEffect(t *testing.T) {
	plain := docLines(impl.BuildDoc(ops(t, typed...)))
	for _, o := range []string{"8b mark 4a 3a 1 on", "8b mark 5a 3a 1 on", "8b mark 5a 4a 1 off", "8b mark 3a 6a 1 on", "8b mark 6a 3a 1 on", "8b mark 7a 5a 1 on", "8b mark 3a 1a 1 on", "8b mark 1a 3a 1 on", "8b mark 1a 2a 1 on", "8b mark 3a 7b 1 on", "8b mark 7b 3a 1 on", "8b mark 7b 7b 1 on"} {
		checkDoc(t, behind(typed, o), plain...)
	}
}

func TestFormattingLeavesOtherBlocksAlone(t *testing.T) {
	// The text of block 2a stands between two characters of block 1a.
	log := behind(typed, "8a text 1a - w", "9a mark 8a 4a 1 on")
	checkDoc(t, log, typedDoc("char 8a in 1a w marks 1", "char 6a in 2a p", "char 7a in 2a q", "char 3a in 1a x marks 1", "char 4a in 1a y marks 1", "char 5a in 1a z")...)
	checkDoc(t, behind(log, "10a text - - r", "11a text - 10a s", "12b mark 10a 11a 3 on"), typedDoc("char 10a in - r marks 4", "char 11a in - s marks 4", "char 8a in 1a w marks 1",
		"char 6a in 2a p", "char 7a in 2a q", "char 3a in 1a x marks 1", "char 4a in 1a y marks 1", "char 5a in 1a z")...)
}

func TestBlocksAreInsertedBehindSiblings(t *testing.T) {
	checkDoc(t, nested, "block 5a in - kind 1", "block 3a in 2a kind 1", "block 2a in 1a kind 4", "block 4a in 1a kind 4", "block 1a in - kind 3")
	checkDoc(t, []string{"1a block - - 1", "2a block - - 2", "3a block - 1a 3", "4b block - 1a 4"},
		"block 2a in - kind 2", "block 1a in - kind 1", "block 4b in - kind 4", "block 3a in - kind 3")
	checkDoc(t, []string{"1a block - - 1", "2b drop 1a", "3a block - 1a 2", "4a block 1a - 3"},
		"block 4a in 1a kind 3", "block 1a in - kind 1 deleted", "block 3a in - kind 2")
}

func TestBlocksBehindNoSiblingComeFirst(t *testing.T) {
	rest := []string{"block 5a in - kind 1", "block 3a in 2a kind 1", "block 2a in 1a kind 4", "block 4a in 1a kind 4", "block 1a in - kind 3"}
	for _, after := range []string{"2a", "3a", "4a", "5b", "-"} {
		checkDoc(t, behind(nested, "6a block - "+after+" 2"), behind([]string{"block 6a in - kind 2"}, rest...)...)
	}
	for _, after := range []string{"1a", "3a", "5a", "1c", "-"} {
		checkDoc(t, behind(nested, "6a block 1a "+after+" 2"), behind([]string{"block 6a in 1a kind 2"}, rest...)...)
	}
	checkDoc(t, []string{"1a block - - 1", "2a text - - x", "3a block - 2a 2"}, "char 2a in - x", "block 3a in - kind 2", "block 1a in - kind 1")
}

func TestBlocksNeedAParent(t *testing.T) {
	checkDoc(t, []string{"1a text - - x", "2a block 1a - 1", "3a block 2a - 1", "4a block 1b - 1", "5a block - 3a 2", "6a text 2a - y"},
		"char 1a in - x", "block 5a in - kind 2")
}

func TestKindsAreSet(t *testing.T) {
	checkDoc(t, []string{"1a block - - 1", "2a block 1a - 2", "3a text 1a - x", "4b kind 1a 4", "5c kind 1a 3", "6a kind 3a 1", "7a kind 6b 1", "8a kind 4b 1"},
		"char 3a in 1a x", "block 2a in 1a kind 2", "block 1a in - kind 3")
}

func TestRemovedBlocksRemain(t *testing.T) {
	checkDoc(t, []string{"1a block - - 3", "2a block 1a - 4", "3a text 2a - x", "4b drop 1a", "5c drop 1a", "6a drop 3a", "7a drop 1b", "8a text 1a - y", "9a kind 1a 1"},
		"char 8a in 1a y", "char 3a in 2a x", "block 2a in 1a kind 4", "block 1a in - kind 1 deleted")
}

func TestCommentsAndReplies(t *testing.T) {
	doc := func(notes ...string) []string {
		return append(typedDoc("char 6a in 2a p", "char 7a in 2a q", "char 3a in 1a x", "char 4a in 1a y deleted", "char 5a in 1a z"), notes...)
	}
	base := behind(typed, "8b erase 4a")
	checkDoc(t, behind(base, "9b note 3a 5a why", "10c note 4a 4a gone", "11a reply 9b yes", "12b reply 10c no", "13c reply 9b yes"),
		doc(`note 9b from 3a to 5a ["why" "yes" "yes"]`, `note 10c from 4a to 4a ["gone" "no"]`)...)
	checkDoc(t, behind(base, "9b note 5a 3a back", "10b note 3a 6a far"), doc(`note 9b from 5a to 3a ["back"]`, `note 10b from 3a to 6a ["far"]`)...)
	checkDoc(t, behind(base, "9b note 1a 3a a", "10b note 3a 1a b", "11b note 8a 3a c", "12b note 3a 8a d", "13b reply 9b e", "14b reply 3a f", "15b reply 1a g"), doc()...)
	checkDoc(t, behind(base, "9b note 3a 3a a", "10b reply 9b b", "11b reply 10b c", "12b reply 8c d"), doc(`note 9b from 3a to 3a ["a" "b"]`)...)
	checkDoc(t, behind(base, "9b note 3a 3a a", "10c reply 9b b", "11a reply 9b c", "12c undo 10c off"), doc(`note 9b from 3a to 3a ["a" "c"]`)...)
	checkDoc(t, behind(base, "9b note 3a 3a a", "10c reply 9b b", "11b undo 9b off", "12a reply 9b c"), doc()...)
}

func TestP14LaterInsertionsStandDirectlyBehind(t *testing.T) {
	// At index 0, and behind a character at the end and in the middle of a block.
	checkDoc(t, []string{"1a text - - x", "1b text - - y", "2a text - - z"}, "char 2a in - z", "char 1b in - y", "char 1a in - x")
	checkDoc(t, []string{"1a block - - 1", "2a text 1a - x", "3a text 1a 2a a", "3b text 1a 2a b", "4a text 1a 3a c"},
		"char 2a in 1a x", "char 3b in 1a b", "char 3a in 1a a", "char 4a in 1a c", "block 1a in - kind 1")
	checkDoc(t, behind(typed, "8a text 1a 4a 1", "8b text 1a 4a 2", "8c text 1a 4a 3", "9a text 1a 8b 4"), typedDoc("char 6a in 2a p", "char 7a in 2a q",
		"char 3a in 1a x", "char 4a in 1a y", "char 8c in 1a 3", "char 8b in 1a 2", "char 9a in 1a 4", "char 8a in 1a 1", "char 5a in 1a z")...)
	checkDoc(t, behind(typed, "8a text 1a - 1", "8b text 2a - 2", "9c text 1a - 3"), typedDoc("char 9c in 1a 3", "char 8b in 2a 2", "char 8a in 1a 1",
		"char 6a in 2a p", "char 7a in 2a q", "char 3a in 1a x", "char 4a in 1a y", "char 5a in 1a z")...)
}

func TestP14CharactersNeedABlockAndANeighbourInIt(t *testing.T) {
	plain := docLines(impl.BuildDoc(ops(t, typed...)))
	for _, o := range []string{"8a text 2a 3a !", "8a text 1a 7a !", "8a text - 3a !", "8a text 1a 1a !", "8a text 1a 2a !", "8a text 1a 7b !", "8a text 3a - !", "8a text 3a 3a !", "8a text 7b - !", "8a text 7b 3a !", "8a text 1b - !"} {
		checkDoc(t, behind(typed, o), plain...)
		checkDoc(t, behind(typed, o, "9a text 1a 8a ?", "10a erase 8a", "11a undo 8a off"), plain...)
	}
	checkDoc(t, []string{"1a text - - x", "2a text - 1a y", "3a block - - 1", "4a text 3a 1a !", "5a text 3a - z", "6a text - 5a !"},
		"char 5a in 3a z", "char 1a in - x", "char 2a in - y", "block 3a in - kind 1")
}

func TestP14DeletedCharactersAndBlocksAreNeighbours(t *testing.T) {
	checkDoc(t, behind(typed, "8b erase 4a", "9b text 1a 4a 1", "10b drop 1a", "11c text 1a 4a 2", "12c text 1a - 3"), "char 12c in 1a 3", "char 6a in 2a p", "char 7a in 2a q",
		"char 3a in 1a x", "char 4a in 1a y deleted", "char 11c in 1a 2", "char 9b in 1a 1", "char 5a in 1a z", "block 1a in - kind 1 deleted", "block 2a in - kind 2")
}

func TestP14CharactersStayBehindTheirLeftNeighbour(t *testing.T) {
	someDocLogs(14, func(log []impl.Op) {
		origin := map[impl.Stamp]impl.Op{}
		for _, o := range log {
			origin[o.ID] = o
		}
		chars := impl.BuildDoc(log).Chars
		seen := map[impl.Stamp]bool{}
		for i, c := range chars {
			o := origin[c.ID]
			if seen[c.ID] || o.Kind != impl.OpInsert || c.Block != o.Target || c.Byte != o.Value {
				t.Fatalf("%v of the document of %v does not stem from an insertion", c, log)
			}
			seen[c.ID] = true
			left := slices.IndexFunc(chars[:i], func(x impl.Char) bool { return x.ID == o.After })
			if left < 0 && o.After != (impl.Stamp{}) {
				t.Fatalf("%v is not behind its left neighbour in the document of %v", c, log)
			}
			for _, x := range chars[left+1 : i] {
				if !impl.StampLess(c.ID, x.ID) || o.After != (impl.Stamp{}) && x.Block != c.Block {
					t.Fatalf("%v stands between %v and its left neighbour in the document of %v", x, c, log)
				}
			}
		}
	})
}

// checkTree fails the test if the blocks of a document do not form a tree, or do not stem from operations of the log.
func checkTree(t *testing.T, log []impl.Op, d impl.Doc) {
	t.Helper()
	parents := map[impl.Stamp]impl.Stamp{}
	for _, b := range d.Blocks {
		if _, twice := parents[b.ID]; twice {
			t.Errorf("the document of %v has block %v twice", log, b.ID)
		}
		if !slices.ContainsFunc(log, func(o impl.Op) bool { return o.ID == b.ID && o.Kind == impl.OpAddBlock }) {
			t.Errorf("block %v does not stem from an operation of %v", b.ID, log)
		}
		parents[b.ID] = b.Parent
	}
	for _, b := range d.Blocks {
		visited := map[impl.Stamp]bool{}
		for id := b.ID; id != (impl.Stamp{}); id = parents[id] {
			if _, exists := parents[id]; !exists || visited[id] {
				t.Fatalf("the chain of parents of %v does not end at the root: %v of %v", b.ID, d.Blocks, log)
			}
			visited[id] = true
		}
	}
}

func TestP15BlocksFormATree(t *testing.T) {
	moved := 0
	someDocLogs(15, func(log []impl.Op) {
		d := impl.BuildDoc(log)
		checkTree(t, log, d)
		for _, o := range log {
			i := slices.IndexFunc(d.Blocks, func(b impl.Block) bool { return b.ID == o.ID })
			if i < 0 && o.Kind == impl.OpAddBlock && o.Target == (impl.Stamp{}) {
				t.Fatalf("%v of %v has no block", o, log)
			}
			if i >= 0 && d.Blocks[i].Parent != o.Target {
				moved++
			}
		}
	})
	if moved < rounds {
		t.Errorf("the logs of the test move only %d blocks", moved)
	}
}

func TestP15MovesBelowItselfHaveNoEffect(t *testing.T) {
	plain := docLines(impl.BuildDoc(ops(t, nested...)))
	for _, o := range []string{"6a move 1a - 1a", "6a move 1a - 2a", "6a move 1a - 3a", "6a move 1a 2a 4a", "6a move 2a - 2a", "6a move 2a 3a 3a", "6a move 3a - 3a", "6a move 5a 5a 5a"} {
		checkDoc(t, behind(nested, o), plain...)
	}
	// A block that has left the subtree is no descendant any more, and one that has come is.
	checkDoc(t, behind(nested, "6a move 3a - -", "7a move 1a - 3a", "8a move 3a - 2a", "9a move 3a - 4a"),
		"block 1a in 3a kind 3", "block 3a in - kind 1", "block 5a in - kind 1", "block 2a in 1a kind 4", "block 4a in 1a kind 4")
	checkDoc(t, behind(nested, "6a drop 2a", "7a move 1a - 3a", "8b move 1a - 2a"),
		"block 5a in - kind 1", "block 3a in 2a kind 1", "block 2a in 1a kind 4 deleted", "block 4a in 1a kind 4", "block 1a in - kind 3")
}

func TestP15MovesToOtherParents(t *testing.T) {
	checkDoc(t, behind(nested, "6a move 3a - -"), "block 3a in - kind 1", "block 5a in - kind 1", "block 2a in 1a kind 4", "block 4a in 1a kind 4", "block 1a in - kind 3")
	checkDoc(t, behind(nested, "6a move 3a 1a -"), "block 5a in - kind 1", "block 2a in 1a kind 4", "block 4a in 1a kind 4", "block 1a in - kind 3", "block 3a in - kind 1")
	checkDoc(t, behind(nested, "6a move 3a 2a 1a"), "block 5a in - kind 1", "block 2a in 1a kind 4", "block 3a in 1a kind 1", "block 4a in 1a kind 4", "block 1a in - kind 3")
	checkDoc(t, behind(nested, "6a move 2a 3a 5a"), "block 2a in 5a kind 4", "block 5a in - kind 1", "block 3a in 2a kind 1", "block 4a in 1a kind 4", "block 1a in - kind 3")
	checkDoc(t, behind(nested, "6a move 1a - 5a", "7a move 1a 5a -"), "block 5a in - kind 1", "block 1a in - kind 3", "block 3a in 2a kind 1", "block 2a in 1a kind 4", "block 4a in 1a kind 4")
	checkDoc(t, behind(nested, "6a drop 5a", "7a move 4a - 5a", "8a drop 3a", "9a move 3a 1a -"),
		"block 4a in 5a kind 4", "block 5a in - kind 1 deleted", "block 2a in 1a kind 4", "block 1a in - kind 3", "block 3a in - kind 1 deleted")
}

func TestP15MovesAmongSiblings(t *testing.T) {
	flat := []string{"1a block - - 1", "2a block - 1a 2", "3a block - 2a 3"}
	checkDoc(t, behind(flat, "4a move 1a 3a -"), "block 2a in - kind 2", "block 3a in - kind 3", "block 1a in - kind 1")
	checkDoc(t, behind(flat, "4a move 1a 2a -"), "block 2a in - kind 2", "block 1a in - kind 1", "block 3a in - kind 3")
	checkDoc(t, behind(flat, "4a move 3a 1a -"), "block 1a in - kind 1", "block 3a in - kind 3", "block 2a in - kind 2")
	checkDoc(t, behind(flat, "4a move 3a 2a -"), "block 1a in - kind 1", "block 2a in - kind 2", "block 3a in - kind 3")
	checkDoc(t, behind(flat, "4a move 3a - -"), "block 3a in - kind 3", "block 1a in - kind 1", "block 2a in - kind 2")
	// The moved block has been taken out, so that it is no sibling of itself.
	checkDoc(t, behind(flat, "4a move 2a 2a -"), "block 2a in - kind 2", "block 1a in - kind 1", "block 3a in - kind 3")
}

func TestP15MovesBehindNoSibling(t *testing.T) {
	for _, after := range []string{"1a", "2a", "4a", "5a", "1b", "-"} {
		checkDoc(t, behind(nested, "6a move 4a "+after+" 2a"),
			"block 4a in 2a kind 4", "block 5a in - kind 1", "block 3a in 2a kind 1", "block 2a in 1a kind 4", "block 1a in - kind 3")
	}
}

func TestP15MovesNeedABlockAndAParent(t *testing.T) {
	log := behind(nested, "6a text 1a - x", "7a note 6a 6a why")
	plain := docLines(impl.BuildDoc(ops(t, log...)))
	for _, o := range []string{"8a move 6a - -", "8a move 7a - -", "8a move 1b - -", "8a move 6a 1a 5a", "8a move 3a - 6a", "8a move 3a - 7a", "8a move 3a 1a 1b", "8a move 1b - 1b"} {
		checkDoc(t, behind(log, o), plain...)
	}
}

func TestDocumentFunctionsChangeNoArgument(t *testing.T) {
	spare := impl.Op{ID: at(98, 2), Kind: impl.OpReply, Target: at(1, 0), Text: "behind"}
	check := func(log []impl.Op) {
		memory := append(slices.Clone(log), spare, spare, spare)
		before := slices.Clone(memory)
		impl.BuildDoc(memory[:len(log)])
		impl.ActiveOps(memory[:len(log)])
		if !slices.Equal(memory, before) {
			t.Fatalf("BuildDoc or ActiveOps changes its argument %v", log)
		}
	}
	someDocLogs(50, check)
	for _, bad := range badLogs(t) {
		check(bad)
	}
}

func TestDocumentsShareNoMemory(t *testing.T) {
	comments := 0
	someDocLogs(51, func(log []impl.Op) {
		want := docLines(modelDoc(log))
		d, active := impl.BuildDoc(log), impl.ActiveOps(log)
		kept, keptActive := impl.BuildDoc(log), impl.ActiveOps(log)
		for i, c := range d.Comments {
			texts := c.Texts[:cap(c.Texts)]
			for k := range texts {
				texts[k] = "other"
			}
			for _, other := range d.Comments[i+1:] {
				if slices.Contains(other.Texts[:cap(other.Texts)], "other") {
					t.Fatalf("two comments of the document of %v share memory", log)
				}
			}
			comments++
		}
		overwrite(d.Chars, impl.Char{ID: at(7, 7)})
		overwrite(d.Blocks, impl.Block{ID: at(7, 7)})
		overwrite(d.Comments, impl.Comment{ID: at(7, 7)})
		for i := range active {
			active[i] = !active[i]
		}
		if !slices.Equal(docLines(kept), want) || !slices.Equal(docLines(impl.BuildDoc(log)), want) || !slices.Equal(impl.ActiveOps(log), keptActive) {
			t.Fatalf("changing a result changes another result for %v", log)
		}
	})
	if comments < rounds {
		t.Errorf("the logs of the test have only %d comments", comments)
	}
}

// overwrite fills a slice and the spare capacity behind it.
func overwrite[E any](s []E, item E) {
	s = s[:cap(s)]
	for i := range s {
		s[i] = item
	}
}
