package tests

import (
	"math/rand"
	"slices"
	"testing"

	"loop.example/collabdoc/impl"
)

// subtree returns a block and its descendants.
func subtree(d impl.Doc, top impl.Stamp) []impl.Stamp {
	var ids []impl.Stamp
	for _, b := range d.Blocks {
		if isBelow(d.Blocks, b.ID, top) {
			ids = append(ids, b.ID)
		}
	}
	return ids
}

// moveOp returns an operation that moves a block to the front of a parent.
func moveOp(id impl.Stamp, block impl.Stamp, parent impl.Stamp) impl.Op {
	return impl.Op{ID: id, Kind: impl.OpMoveBlock, Target: block, NewParent: parent}
}

// mergedDoc returns the document of base with the given concurrent operations, each of which is at a replica of its own.
func mergedDoc(t *testing.T, base []impl.Op, concurrent ...impl.Op) impl.Doc {
	t.Helper()
	forward, backward := slices.Clone(base), slices.Clone(base)
	for i := range concurrent {
		var ok, okBack bool
		forward, ok = impl.LogMerge(forward, append(slices.Clone(base), concurrent[i]))
		backward, okBack = impl.LogMerge(append(slices.Clone(base), concurrent[len(concurrent)-1-i]), backward)
		if !ok || !okBack {
			t.Fatalf("%v cannot be merged with %v", concurrent, base)
		}
	}
	d := impl.BuildDoc(forward)
	if back := docLines(impl.BuildDoc(backward)); !slices.Equal(docLines(d), back) {
		t.Errorf("merging %v with %v in different orders gives %q and %q", concurrent, base, docLines(d), back)
	}
	checkTree(t, forward, d)
	return d
}

// checkOpposedMoves moves a to the parent of the first and b to that of the second operation, which lie below b and a. Each move alone takes effect, and of both the one with the smaller ID.
func checkOpposedMoves(t *testing.T, base []impl.Op, first impl.Op, second impl.Op) {
	t.Helper()
	a, b := first.Target, second.Target
	for _, o := range []impl.Op{first, second} {
		alone := mergedDoc(t, base, o)
		if !isBelow(alone.Blocks, o.Target, o.NewParent) {
			t.Errorf("%v alone has no effect behind %v", o, base)
		}
	}
	blocks := mergedDoc(t, base, first, second).Blocks
	for _, id := range []impl.Stamp{a, b} {
		if !slices.ContainsFunc(blocks, func(x impl.Block) bool { return x.ID == id }) {
			t.Errorf("block %v is lost by %v and %v behind %v", id, first, second, base)
		}
	}
	aBelow, bBelow := isBelow(blocks, a, b), isBelow(blocks, b, a)
	if aBelow == bBelow || aBelow != impl.StampLess(first.ID, second.ID) {
		t.Errorf("after %v and %v behind %v, %v is below %v: %v, and the other way round: %v", first, second, base, a, b, aBelow, bBelow)
	}
}

func TestP69TwoBlocksMovedBelowEachOther(t *testing.T) {
	bases := [][]string{
		{"1a block - - 3", "2a block - 1a 3", "3a block 1a - 4", "4a block 2a - 4"},
		{"1c block - - 3", "1a block - - 3", "2a block 1c - 3", "3a block 1a - 4", "4a block 2a - 4"},
		{"1a block - - 3", "2a block - - 3", "3a block 1a - 4", "4a block 2a - 4", "4b drop 1a", "4c drop 2a"},
		{"1b block - - 3", "2a block 1b - 4", "3a block 2a - 4", "4a block - - 4", "5a move 3a - 2a", "5b move 4a - 2a", "5c move 2a - -"},
	}
	stamps := [][2]impl.Stamp{{at(6, 0), at(6, 1)}, {at(6, 1), at(6, 0)}, {at(6, 2), at(8, 0)}, {at(9, 1), at(6, 2)}}
	for i, lines := range bases {
		slices.SortFunc(lines, compareLines)
		base := ops(t, lines...)
		a, b := at(1, 0), at(2, 0)
		if i == 3 {
			a, b = at(3, 0), at(4, 0)
		}
		d := impl.BuildDoc(base)
		for _, belowA := range subtree(d, a) {
			for _, belowB := range subtree(d, b) {
				for _, s := range stamps {
					checkOpposedMoves(t, base, moveOp(s[0], a, belowB), moveOp(s[1], b, belowA))
				}
			}
		}
	}
}

// compareLines orders text forms of operations with one-digit sequence numbers by ID.
func compareLines(a string, b string) int {
	return slices.Compare([]byte(a[:2]), []byte(b[:2]))
}

func TestP69ThreeBlocksMovedInACircle(t *testing.T) {
	base := ops(t, "1a block - - 3", "2a block - 1a 3", "3a block - 2a 3", "4a block 1a - 3", "5a block 2a - 3", "6a block 3a - 3")
	orders := [][3]int{{0, 1, 2}, {0, 2, 1}, {1, 0, 2}, {1, 2, 0}, {2, 0, 1}, {2, 1, 0}}
	for _, depth := range []int{0, 3} {
		for _, order := range orders {
			moves := make([]impl.Op, 3)
			for i, who := range order {
				// Block i moves below block i+1, or below its child.
				moves[who] = moveOp(at(7, who), at(1+i, 0), at(1+(i+1)%3+depth, 0))
			}
			blocks := mergedDoc(t, base, moves...).Blocks
			if len(blocks) != 6 {
				t.Errorf("blocks are lost by %v: %v", moves, blocks)
			}
			for who, o := range moves {
				if isBelow(blocks, o.Target, o.NewParent) != (who < 2) {
					t.Errorf("the wrong ones of %v take effect: %v", moves, blocks)
				}
			}
		}
	}
}

func TestP69MovesInRandomTrees(t *testing.T) {
	r := rand.New(rand.NewSource(69))
	tried := 0
	for range rounds * 3 {
		base := randomDocLog(r, 5+r.Intn(impl.MaxOps-6), []int{0, 0, 0, 5, 3, 1, 1, 0, 0, 1})
		d := impl.BuildDoc(base)
		if len(d.Blocks) < 2 {
			continue
		}
		a, b := d.Blocks[r.Intn(len(d.Blocks))].ID, d.Blocks[r.Intn(len(d.Blocks))].ID
		if isBelow(d.Blocks, a, b) || isBelow(d.Blocks, b, a) {
			continue
		}
		belowA, belowB := subtree(d, a), subtree(d, b)
		seq, who := base[len(base)-1].ID.Seq+1, r.Intn(impl.MaxAuthors)
		first := moveOp(at(seq, who), a, belowB[r.Intn(len(belowB))])
		second := moveOp(at(seq, (who+1)%impl.MaxAuthors), b, belowA[r.Intn(len(belowA))])
		checkOpposedMoves(t, base, first, second)
		tried++
	}
	if tried < rounds {
		t.Errorf("only %d trees have two blocks to be moved", tried)
	}
}

func TestP69HarmlessConcurrentMovesBothTakeEffect(t *testing.T) {
	base := ops(t, nested...)
	blocks := mergedDoc(t, base, moveOp(at(6, 0), at(3, 0), at(4, 0)), moveOp(at(6, 1), at(4, 0), at(5, 0)), moveOp(at(6, 2), at(2, 0), impl.Stamp{})).Blocks
	want := []impl.Block{{ID: at(2, 0), Kind: 4}, {ID: at(4, 0), Kind: 4, Parent: at(5, 0)}, {ID: at(3, 0), Kind: 1, Parent: at(4, 0)}, {ID: at(5, 0), Kind: 1}, {ID: at(1, 0), Kind: 3}}
	if !slices.Equal(blocks, want) {
		t.Errorf("Blocks = %v, want %v", blocks, want)
	}
	// Of two moves of the same block the last one decides, wherever its own subtree allows it.
	blocks = mergedDoc(t, base, moveOp(at(6, 0), at(3, 0), at(5, 0)), moveOp(at(6, 1), at(3, 0), at(4, 0)), moveOp(at(6, 2), at(4, 0), at(3, 0))).Blocks
	want = []impl.Block{{ID: at(3, 0), Kind: 1, Parent: at(4, 0)}, {ID: at(5, 0), Kind: 1}, {ID: at(2, 0), Kind: 4, Parent: at(1, 0)}, {ID: at(4, 0), Kind: 4, Parent: at(1, 0)}, {ID: at(1, 0), Kind: 3}}
	if !slices.Equal(blocks, want) {
		t.Errorf("Blocks = %v, want %v", blocks, want)
	}
}
