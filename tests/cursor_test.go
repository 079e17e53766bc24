package tests

import (
	"math"
	"math/rand"
	"slices"
	"testing"

	"loop.example/collabdoc/impl"
)

// gaps has the text abcd in the block 1a, of which b and d are deleted; the text xyz in the root, of which y is undone; and the text pq in the block 2b, which is deleted.
var gaps = []string{
	"1a block - - 1", "2b block - 1a 2", "3a text 1a - a", "4b text 1a 3a b", "5a text 1a 4b c", "6c text 1a 5a d",
	"7a text - - x", "8a text - 7a y", "9b text - 8a z", "10b text 2b - p", "11c text 2b 10b q",
	"12c erase 4b", "13a erase 6c", "14a undo 8a off", "15c drop 2b",
}

// noBlocks returns stamps that are not the ID of a block of gaps.
func noBlocks() []impl.Stamp {
	return append(badStamps(), at(1, 1), at(2, 0), at(3, 0), at(7, 0), at(12, 2), at(15, 2), at(16, 0), at(99, 2))
}

// noChars returns stamps that are not the ID of a character of gaps.
func noChars() []impl.Stamp {
	return append(badStamps(), at(1, 0), at(2, 1), at(3, 1), at(12, 2), at(14, 0), at(16, 0), at(99, 2))
}

func checkCharAt(t *testing.T, log []impl.Op, block string, want ...string) {
	t.Helper()
	for index, id := range want {
		if got := impl.CharAt(log, stampOf(block), index); got != stampOf(id) {
			t.Errorf("CharAt(%s, %d) = %v, want %s", block, index, got, id)
		}
	}
	for _, index := range []int{-1, -2, len(want), len(want) + 1, math.MinInt, math.MaxInt, math.MaxInt - 1} {
		if got := impl.CharAt(log, stampOf(block), index); got != (impl.Stamp{}) {
			t.Errorf("CharAt(%s, %d) = %v, want none", block, index, got)
		}
	}
}

func TestP26CharactersAtTheirIndices(t *testing.T) {
	log := ops(t, gaps...)
	checkCharAt(t, log, "1a", "3a", "5a")
	checkCharAt(t, log, "-", "7a", "9b")
	checkCharAt(t, log, "2b", "10b", "11c")
	checkCharAt(t, ops(t, behind(gaps, "16a undo 13a off", "17b text 1a 4b e")...), "1a", "3a", "17b", "5a", "6c")
	checkCharAt(t, ops(t, behind(gaps, "16a erase 3a", "17a erase 5a")...), "1a")
	// The texts of the root and of 2b stand between two characters of 1a.
	checkCharAt(t, ops(t, behind(gaps, "16b text 1a - e", "17c text 1a 16b f")...), "1a", "16b", "17c", "3a", "5a")
	checkCharAt(t, nil, "-")
	checkCharAt(t, nil, "1a")
	for _, none := range noBlocks() {
		for _, index := range []int{0, 1, -1} {
			if got := impl.CharAt(log, none, index); got != (impl.Stamp{}) {
				t.Errorf("CharAt(%v, %d) = %v in a block that does not exist", none, index, got)
			}
		}
	}
}

func TestP26CharAtAndCharIndexAreInverse(t *testing.T) {
	found, deleted := 0, 0
	somePlaceLogs(26, func(log []impl.Op) {
		d := modelDoc(log)
		for _, block := range blocksOf(log) {
			chars := modelChars(d, block)
			for index := -1; index <= len(chars)+1; index++ {
				got := impl.CharAt(log, block, index)
				if index < 0 || index >= len(chars) {
					if got != (impl.Stamp{}) {
						t.Fatalf("CharAt(%v, %v, %d) = %v, but the block has %d characters", log, block, index, got, len(chars))
					}
					continue
				}
				if got != chars[index].ID || impl.CharIndex(log, got) != index {
					t.Fatalf("CharAt(%v, %v, %d) = %v, want %v; its CharIndex is %d", log, block, index, got, chars[index].ID, impl.CharIndex(log, got))
				}
				found++
			}
		}
		for _, c := range d.Chars {
			if c.Deleted {
				deleted++
			}
		}
	})
	if found < 10*rounds || deleted < 5*rounds {
		t.Errorf("the logs of the test have only %d visible and %d deleted characters", found, deleted)
	}
}

func TestP27IndicesOfCharacters(t *testing.T) {
	log := ops(t, gaps...)
	for id, want := range map[string]int{"3a": 0, "4b": 1, "5a": 1, "6c": 2, "7a": 0, "8a": 1, "9b": 1, "10b": 0, "11c": 1} {
		if got := impl.CharIndex(log, stampOf(id)); got != want {
			t.Errorf("CharIndex(%s) = %d, want %d", id, got, want)
		}
	}
	log = ops(t, behind(gaps, "16b text 1a - e", "17a erase 3a", "17b text 2b 10b r")...)
	for id, want := range map[string]int{"16b": 0, "3a": 1, "4b": 1, "5a": 1, "6c": 2, "7a": 0, "10b": 0, "17b": 1, "11c": 2} {
		if got := impl.CharIndex(log, stampOf(id)); got != want {
			t.Errorf("behind more insertions CharIndex(%s) = %d, want %d", id, got, want)
		}
	}
}

func TestP27OnlyCharactersHaveAnIndex(t *testing.T) {
	for _, none := range append(noChars(), impl.Stamp{}) {
		for _, log := range [][]impl.Op{ops(t, gaps...), nil} {
			if got := impl.CharIndex(log, none); got != -1 {
				t.Errorf("CharIndex(%v, %v) = %d, want -1", log, none, got)
			}
		}
	}
	// This insertion has no effect, because its left neighbour is in another block.
	if got := impl.CharIndex(ops(t, behind(gaps, "16a text 1a 7a e")...), at(16, 0)); got != -1 {
		t.Errorf("CharIndex of a character that was not inserted = %d, want -1", got)
	}
}

func TestP27CharIndexIsAValidPosition(t *testing.T) {
	somePlaceLogs(27, func(log []impl.Op) {
		d := modelDoc(log)
		for _, id := range idsOf(log) {
			got, place := impl.CharIndex(log, id), modelPlace(d, id)
			if place < 0 {
				if got != -1 {
					t.Fatalf("CharIndex(%v, %v) = %d, but there is no such character", log, id, got)
				}
				continue
			}
			c := d.Chars[place]
			if got != modelCount(d, c.Block, place) || got < 0 || got > len(modelChars(d, c.Block)) {
				t.Fatalf("CharIndex(%v, %v) = %d, want %d", log, id, got, modelCount(d, c.Block, place))
			}
			if !c.Deleted && impl.CharAt(log, c.Block, got) != id {
				t.Fatalf("CharIndex(%v, %v) = %d, but there is %v", log, id, got, impl.CharAt(log, c.Block, got))
			}
		}
	})
}

func TestP28IndicesOfCursors(t *testing.T) {
	log := ops(t, gaps...)
	for _, x := range []struct {
		block string
		after string
		want  int
	}{
		{"1a", "-", 0}, {"1a", "3a", 1}, {"1a", "4b", 1}, {"1a", "5a", 2}, {"1a", "6c", 2},
		{"-", "-", 0}, {"-", "7a", 1}, {"-", "8a", 1}, {"-", "9b", 2}, {"2b", "-", 0}, {"2b", "10b", 1}, {"2b", "11c", 2},
		// Characters of other blocks.
		{"1a", "7a", -1}, {"1a", "8a", -1}, {"1a", "10b", -1}, {"-", "3a", -1}, {"-", "4b", -1}, {"-", "11c", -1}, {"2b", "3a", -1}, {"2b", "9b", -1},
		// Operations that are no characters, and blocks that do not exist.
		{"1a", "1a", -1}, {"1a", "2b", -1}, {"1a", "12c", -1}, {"-", "1a", -1}, {"1a", "99c", -1},
		{"3a", "3a", -1}, {"3a", "-", -1}, {"1b", "-", -1}, {"99c", "-", -1}, {"99c", "3a", -1}, {"12c", "4b", -1},
	} {
		if got := impl.CursorIndex(log, impl.Cursor{Block: stampOf(x.block), After: stampOf(x.after)}); got != x.want {
			t.Errorf("CursorIndex of the cursor behind %s in %s = %d, want %d", x.after, x.block, got, x.want)
		}
	}
	if got := impl.CursorIndex(nil, impl.Cursor{}); got != 0 {
		t.Errorf("CursorIndex of the start of the empty root = %d, want 0", got)
	}
	for _, none := range append(badStamps(), at(1, 0)) {
		for _, c := range []impl.Cursor{{Block: none}, {After: none}, {Block: none, After: none}} {
			if got := impl.CursorIndex(nil, c); got != -1 {
				t.Errorf("CursorIndex of %v in the empty log = %d, want -1", c, got)
			}
		}
	}
}

func TestP28CursorsAtIndices(t *testing.T) {
	log := ops(t, gaps...)
	for block, anchors := range map[string][]string{"1a": {"-", "3a", "5a"}, "-": {"-", "7a", "9b"}, "2b": {"-", "10b", "11c"}} {
		for index, after := range anchors {
			want := impl.Cursor{Block: stampOf(block), After: stampOf(after)}
			if c, ok := impl.CursorAt(log, want.Block, index); !ok || c != want {
				t.Errorf("CursorAt(%s, %d) = %v, %v, want %v", block, index, c, ok, want)
			}
		}
		for _, index := range []int{-1, -2, len(anchors), len(anchors) + 1, math.MinInt, math.MaxInt} {
			if c, ok := impl.CursorAt(log, stampOf(block), index); ok || c != (impl.Cursor{}) {
				t.Errorf("CursorAt(%s, %d) = %v, %v, want none", block, index, c, ok)
			}
		}
	}
	for _, none := range noBlocks() {
		if c, ok := impl.CursorAt(log, none, 0); ok || c != (impl.Cursor{}) {
			t.Errorf("CursorAt(%v, 0) = %v, %v in a block that does not exist", none, c, ok)
		}
	}
	for index, want := range map[int]bool{-1: false, 0: true, 1: false} {
		if c, ok := impl.CursorAt(nil, impl.Stamp{}, index); ok != want || c != (impl.Cursor{}) {
			t.Errorf("CursorAt index %d of the empty root = %v, %v", index, c, ok)
		}
	}
}

func TestP28ACursorIsWhereItWasPlaced(t *testing.T) {
	somePlaceLogs(28, func(log []impl.Op) {
		d := modelDoc(log)
		for _, block := range blocksOf(log) {
			chars := modelChars(d, block)
			for index := -1; index <= len(chars)+1; index++ {
				c, ok := impl.CursorAt(log, block, index)
				if ok != (modelHas(d, block) && index >= 0 && index <= len(chars)) || !ok && c != (impl.Cursor{}) {
					t.Fatalf("CursorAt(%v, %v, %d) = %v, %v", log, block, index, c, ok)
				}
				if !ok {
					continue
				}
				if c.Block != block || (c.After == impl.Stamp{}) != (index == 0) || index > 0 && c.After != chars[index-1].ID || impl.CursorIndex(log, c) != index {
					t.Fatalf("CursorAt(%v, %v, %d) = %v, whose index is %d", log, block, index, c, impl.CursorIndex(log, c))
				}
			}
		}
	})
}

func TestIndicesOfManyCursors(t *testing.T) {
	r := rand.New(rand.NewSource(80))
	valid := 0
	somePlaceLogs(80, func(log []impl.Op) {
		d := modelDoc(log)
		blocks, ids := blocksOf(log), idsOf(log)
		for range 30 {
			c := impl.Cursor{Block: blocks[r.Intn(len(blocks))], After: ids[r.Intn(len(ids))]}
			got := impl.CursorIndex(log, c)
			if want := modelCursorIndex(d, c); got != want {
				t.Fatalf("CursorIndex(%v, %v) = %d, want %d", log, c, got, want)
			}
			if got > 0 {
				valid++
			}
		}
	})
	if valid < rounds {
		t.Errorf("the test has only %d cursors behind characters", valid)
	}
}

func TestInvalidLogsHaveNoPositions(t *testing.T) {
	for _, bad := range append(badLogs(t), slices.Insert(ops(t, gaps...), 0, impl.Op{})) {
		for _, block := range []impl.Stamp{{}, at(1, 0), at(2, 1)} {
			for _, index := range []int{0, 1, -1} {
				if got := impl.CharAt(bad, block, index); got != (impl.Stamp{}) {
					t.Errorf("CharAt(%v, %v, %d) = %v", bad, block, index, got)
				}
				if c, ok := impl.CursorAt(bad, block, index); ok || c != (impl.Cursor{}) {
					t.Errorf("CursorAt(%v, %v, %d) = %v, %v", bad, block, index, c, ok)
				}
			}
		}
		for _, id := range append(idsOf(bad), at(3, 0)) {
			if got := impl.CharIndex(bad, id); got != -1 {
				t.Errorf("CharIndex(%v, %v) = %d", bad, id, got)
			}
			for _, c := range []impl.Cursor{{Block: id}, {After: id}, {Block: at(1, 0), After: id}} {
				if got := impl.CursorIndex(bad, c); got != -1 {
					t.Errorf("CursorIndex(%v, %v) = %d", bad, c, got)
				}
			}
		}
	}
}
