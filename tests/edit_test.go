package tests

import (
	"math"
	"math/rand"
	"slices"
	"strings"
	"testing"

	"loop.example/collabdoc/impl"
)

// An insertion is a call of InsertText.
type insertion struct {
	log   []impl.Op
	who   int
	block string
	index int
	text  string
}

// gives fails the test if the insertion does not have these operations.
func (x insertion) gives(t *testing.T, want ...string) {
	t.Helper()
	if got, ok := impl.InsertText(x.log, x.who, stampOf(x.block), x.index, x.text); !ok || !slices.Equal(opLines(got), want) {
		t.Errorf("InsertText(%v) = %q, %v, want %q", x, opLines(got), ok, want)
	}
}

// fails fails the test if the insertion does not fail.
func (x insertion) fails(t *testing.T) {
	t.Helper()
	if got, ok := impl.InsertText(x.log, x.who, stampOf(x.block), x.index, x.text); ok || got != nil {
		t.Errorf("InsertText(%.200v) = %v, %v, want failure", x, got, ok)
	}
}

// A selection is what DeleteText and FormatText are called with.
type selection struct {
	log   []impl.Op
	who   int
	block string
	index int
	count int
}

// deletes fails the test if the deletion of the selection does not have these operations.
func (x selection) deletes(t *testing.T, want ...string) {
	t.Helper()
	if got, ok := impl.DeleteText(x.log, x.who, stampOf(x.block), x.index, x.count); !ok || !slices.Equal(opLines(got), want) {
		t.Errorf("DeleteText(%v) = %q, %v, want %q", x, opLines(got), ok, want)
	}
}

// cannotBeDeleted fails the test if the deletion of the selection does not fail.
func (x selection) cannotBeDeleted(t *testing.T) {
	t.Helper()
	if got, ok := impl.DeleteText(x.log, x.who, stampOf(x.block), x.index, x.count); ok || got != nil {
		t.Errorf("DeleteText(%v) = %v, %v, want failure", x, got, ok)
	}
}

// formats fails the test if setting or clearing a mark of the selection does not have this operation.
func (x selection) formats(t *testing.T, mark int, enable bool, want string) {
	t.Helper()
	if got, ok := impl.FormatText(x.log, x.who, stampOf(x.block), x.index, x.count, mark, enable); !ok || impl.EncodeOp(got) != want {
		t.Errorf("FormatText(%v, %d, %v) = %v, %v, want %q", x, mark, enable, got, ok, want)
	}
}

// cannotBeFormatted fails the test if setting or clearing a mark of the selection does not fail.
func (x selection) cannotBeFormatted(t *testing.T, mark int) {
	t.Helper()
	for _, enable := range []bool{true, false} {
		if got, ok := impl.FormatText(x.log, x.who, stampOf(x.block), x.index, x.count, mark, enable); ok || got != (impl.Op{}) {
			t.Errorf("FormatText(%v, %d, %v) = %v, %v, want failure", x, mark, enable, got, ok)
		}
	}
}

// filled returns the block 1a with the text ab, followed by drops of a block that does not exist, n operations in all. The last one has the given Seq.
func filled(t *testing.T, n int, last int) []impl.Op {
	log := ops(t, "1a block - - 1", "2a text 1a - a", "3b text 1a 2a b")
	for i := len(log); i < n; i++ {
		log = append(log, impl.Op{ID: at(last-n+1+i, 2), Kind: impl.OpRemoveBlock, Target: at(1, 2)})
	}
	return log
}

func TestP61InsertedTexts(t *testing.T) {
	log := ops(t, gaps...)
	insertion{log, 1, "1a", 0, "hi!"}.gives(t, "16b text 1a - h", "17b text 1a 16b i", "18b text 1a 17b !")
	insertion{log, 0, "1a", 1, "h"}.gives(t, "16a text 1a 3a h")
	insertion{log, 2, "1a", 2, " ~"}.gives(t, "16c text 1a 5a  ", "17c text 1a 16c ~")
	// The root, and a block that is deleted.
	insertion{log, 0, "-", 0, "h"}.gives(t, "16a text - - h")
	insertion{log, 0, "-", 1, "hi"}.gives(t, "16a text - 7a h", "17a text - 16a i")
	insertion{log, 0, "-", 2, "h"}.gives(t, "16a text - 9b h")
	insertion{log, 1, "2b", 0, "h"}.gives(t, "16b text 2b - h")
	insertion{log, 1, "2b", 1, "h"}.gives(t, "16b text 2b 10b h")
	insertion{log, 1, "2b", 2, "h"}.gives(t, "16b text 2b 11c h")
	// The empty log.
	insertion{nil, 2, "-", 0, "ok"}.gives(t, "1c text - - o", "2c text - 1c k")
	// Other authors' stamps count, too.
	insertion{ops(t, "5c block - - 1"), 0, "5c", 0, "x"}.gives(t, "6a text 5c - x")
}

func TestP61EmptyTexts(t *testing.T) {
	log := ops(t, gaps...)
	for index := range 3 {
		insertion{log, 0, "1a", index, ""}.gives(t)
		insertion{log, 1, "-", index, ""}.gives(t)
		insertion{log, 2, "2b", index, ""}.gives(t)
	}
	insertion{nil, 0, "-", 0, ""}.gives(t)
	for _, index := range []int{-1, 3} {
		insertion{log, 0, "1a", index, ""}.fails(t)
	}
	insertion{log, 0, "16a", 0, ""}.fails(t)
	insertion{log, 3, "1a", 0, ""}.fails(t)
	insertion{log, -1, "1a", 0, ""}.fails(t)
}

func TestP61InvalidInsertions(t *testing.T) {
	log := ops(t, gaps...)
	for _, who := range []int{-1, impl.MaxAuthors, math.MinInt, math.MaxInt} {
		insertion{log, who, "1a", 0, "h"}.fails(t)
	}
	for _, index := range []int{-1, -2, 3, 4, math.MinInt, math.MaxInt} {
		for _, block := range []string{"1a", "-", "2b"} {
			insertion{log, 0, block, index, "h"}.fails(t)
		}
	}
	for _, none := range noBlocks() {
		for _, text := range []string{"", "h"} {
			if got, ok := impl.InsertText(log, 0, none, 0, text); ok || got != nil {
				t.Errorf("InsertText into %v, which does not exist, gives %v, %v", none, got, ok)
			}
		}
	}
	for _, b := range []byte{0, 9, 10, 31, 127, 128, 200, 255} {
		for _, text := range []string{"x", "xh", "hx", "hxi"} {
			insertion{log, 0, "1a", 0, strings.ReplaceAll(text, "x", string([]byte{b}))}.fails(t)
		}
	}
	insertion{log, 0, "1a", 0, "é"}.fails(t)
	for b := byte(32); b < 127; b++ {
		insertion{log, 0, "1a", 0, string([]byte{b})}.gives(t, "16a text 1a - "+string([]byte{b}))
	}
	for _, bad := range append(badLogs(t), slices.Concat([]impl.Op{{}}, log)) {
		for _, text := range []string{"", "h"} {
			insertion{bad, 0, "1a", 0, text}.fails(t)
			insertion{bad, 0, "-", 0, text}.fails(t)
		}
	}
}

func TestP61InsertionsFitIntoTheLog(t *testing.T) {
	for n := 3; n <= impl.MaxOps; n++ {
		log := filled(t, n, n)
		room := impl.MaxOps - n
		for size := range 45 {
			x := insertion{log, 1, "1a", 1, strings.Repeat("x", size)}
			if size > room {
				x.fails(t)
			} else if got, ok := impl.InsertText(log, 1, at(1, 0), 1, x.text); !ok || len(got) != size {
				t.Errorf("InsertText of %d characters into a log of %d operations = %v, %v", size, n, got, ok)
			}
		}
	}
	insertion{filled(t, impl.MaxOps, impl.MaxOps), 0, "1a", 2, ""}.gives(t)
	insertion{filled(t, 3, 3), 0, "1a", 2, strings.Repeat("long", 1<<18)}.fails(t)
}

func TestP61InsertionsFitIntoTheCounter(t *testing.T) {
	insertion{filled(t, 4, 98), 0, "1a", 1, "x"}.gives(t, "99a text 1a 2a x")
	insertion{filled(t, 4, 98), 0, "1a", 1, "xy"}.fails(t)
	insertion{filled(t, 4, 96), 0, "1a", 1, "xyz"}.gives(t, "97a text 1a 2a x", "98a text 1a 97a y", "99a text 1a 98a z")
	insertion{filled(t, 4, 96), 0, "1a", 1, "wxyz"}.fails(t)
	// The last stamp is that of any author.
	for _, who := range []int{0, 1, 2} {
		insertion{filled(t, 4, 99), who, "1a", 1, "x"}.fails(t)
		insertion{filled(t, 4, 99), who, "1a", 1, ""}.fails(t)
		insertion{filled(t, 4, 98), who, "1a", 1, ""}.gives(t)
	}
}

func TestP61InsertedTextAppearsAtItsIndex(t *testing.T) {
	r := rand.New(rand.NewSource(61))
	inside, full, late := 0, 0, 0
	someEditLogs(61, func(log []impl.Op) {
		for range 4 {
			block := someBlock(r, log)
			old := textIn(modelDoc(log), block)
			who, index, text := someAuthor(r), r.Intn(len(old)+1), someText(r)
			if r.Intn(8) == 0 {
				index = []int{-1, len(old) + 1}[r.Intn(2)]
			}
			got, ok := impl.InsertText(log, who, block, index, text)
			if want, wantOK := modelInsert(log, who, block, index, text); ok != wantOK || !slices.Equal(got, want) {
				t.Fatalf("InsertText(%v, %d, %v, %d, %q) = %v, %v, want %v, %v", log, who, block, index, text, got, ok, want, wantOK)
			}
			if ok {
				checkTexts(t, log, append(slices.Clone(log), got...), block, old[:index]+text+old[index:])
			}
			switch {
			case ok && text != "" && index > 0 && index < len(old):
				inside++
			case !ok && len(log)+len(text) > impl.MaxOps:
				full++
			case !ok && len(log) > 0 && log[len(log)-1].ID.Seq+max(1, len(text)) > impl.MaxCounter:
				late++
			}
		}
	})
	if inside < 2*rounds || full < rounds || late < rounds/2 {
		t.Errorf("the test has only %d insertions inside a text, %d into a log without room, and %d without stamps", inside, full, late)
	}
}

func TestP42TypedTextIsOneLine(t *testing.T) {
	log := ops(t, gaps...)
	for _, x := range []struct {
		block string
		index int
		text  string
		want  string
	}{
		{"1a", 0, "hello", "16b text 1a - hello\n"},
		{"1a", 1, "hello world", "16b text 1a 3a hello world\n"},
		{"-", 2, " ", "16b text - 9b  \n"},
		{"2b", 1, " x ", "16b text 2b 10b  x \n"},
		{"1a", 2, "", ""},
	} {
		typed, ok := impl.InsertText(log, 1, stampOf(x.block), x.index, x.text)
		if got := impl.EncodeBatch(typed); !ok || got != x.want {
			t.Errorf("the batch of %q is %q, want %q", opLines(typed), got, x.want)
		}
	}
	r := rand.New(rand.NewSource(42))
	long := 0
	someEditLogs(42, func(log []impl.Op) {
		block := someBlock(r, log)
		text := someText(r)
		typed, ok := impl.InsertText(log, r.Intn(impl.MaxAuthors), block, r.Intn(len(textIn(modelDoc(log), block))+1), text)
		if !ok || text == "" {
			return
		}
		if got, want := impl.EncodeBatch(typed), impl.EncodeOp(typed[0])+text[1:]+"\n"; got != want {
			t.Fatalf("the batch of %v is %q, want %q", typed, got, want)
		}
		if len(text) > 3 {
			long++
		}
	})
	if long < rounds/2 {
		t.Errorf("only %d texts of the test are long", long)
	}
}

// checkCursors fails the test if a cursor in some block of a log does not move with an insertion into a block as it should.
func checkCursors(t *testing.T, log []impl.Op, inserted []impl.Op, block impl.Stamp, index int) int {
	t.Helper()
	longer := append(slices.Clone(log), inserted...)
	moved := 0
	for _, other := range blocksOf(log) {
		for i := range len(textIn(modelDoc(log), other)) + 1 {
			c, ok := impl.CursorAt(log, other, i)
			if !ok {
				continue
			}
			want := i
			if other == block && i > index {
				want += len(inserted)
				moved++
			}
			if got := impl.CursorIndex(longer, c); got != want {
				t.Fatalf("after %q the cursor %v of %v has the index %d, want %d", opLines(inserted), c, log, got, want)
			}
		}
	}
	return moved
}

func TestP29CursorsFollowInsertions(t *testing.T) {
	log := ops(t, gaps...)
	for _, block := range []string{"1a", "-", "2b"} {
		for index := range 3 {
			for _, text := range []string{"", "x", "hello"} {
				inserted, ok := impl.InsertText(log, 1, stampOf(block), index, text)
				if moved := checkCursors(t, log, inserted, stampOf(block), index); !ok || moved != 2-index {
					t.Errorf("%d cursors move with an insertion at index %d of %s", moved, index, block)
				}
			}
		}
	}
	// A cursor at a deleted character is behind what is inserted in front of that character, although it has the same index.
	inserted, ok := impl.InsertText(log, 1, at(1, 0), 1, "hello")
	longer := append(slices.Clone(log), inserted...)
	for after, want := range map[string][2]int{"3a": {1, 1}, "4b": {1, 6}, "5a": {2, 7}, "6c": {2, 7}} {
		c := impl.Cursor{Block: at(1, 0), After: stampOf(after)}
		if got := [2]int{impl.CursorIndex(log, c), impl.CursorIndex(longer, c)}; !ok || got != want {
			t.Errorf("the cursor behind %s has the index %d, then %d, want %v", after, got[0], got[1], want)
		}
	}
}

func TestP29ACursorFollowsInsertionsInFrontOfIt(t *testing.T) {
	r := rand.New(rand.NewSource(29))
	moved := 0
	someEditLogs(29, func(log []impl.Op) {
		block := someBlock(r, log)
		index := r.Intn(len(textIn(modelDoc(log), block)) + 1)
		if inserted, ok := impl.InsertText(log, r.Intn(impl.MaxAuthors), block, index, someText(r)); ok && len(inserted) > 0 {
			moved += checkCursors(t, log, inserted, block, index)
		}
	})
	if moved < 2*rounds {
		t.Errorf("only %d cursors of the test move", moved)
	}
}

func TestP62DeletedTexts(t *testing.T) {
	log := ops(t, gaps...)
	selection{log, 1, "1a", 0, 1}.deletes(t, "16b erase 3a")
	selection{log, 1, "1a", 1, 1}.deletes(t, "16b erase 5a")
	// Deleted characters are in front of the range, inside it, and behind it.
	selection{log, 1, "1a", 0, 2}.deletes(t, "16b erase 3a", "17b erase 5a")
	selection{log, 2, "-", 0, 2}.deletes(t, "16c erase 7a", "17c erase 9b")
	selection{log, 2, "-", 1, 1}.deletes(t, "16c erase 9b")
	selection{log, 0, "2b", 0, 2}.deletes(t, "16a erase 10b", "17a erase 11c")
	selection{ops(t, sentence...), 0, "1a", 1, 3}.deletes(t, "8a erase 3a", "9a erase 4a", "10a erase 5a")
	selection{ops(t, sentence...), 0, "1a", 0, 6}.deletes(t, "8a erase 2a", "9a erase 3a", "10a erase 4a", "11a erase 5a", "12a erase 6a", "13a erase 7a")
	// The order is that of the text, not that of the IDs.
	selection{ops(t, behind(sentence, "8b text 1a 2a x")...), 0, "1a", 0, 3}.deletes(t, "9a erase 2a", "10a erase 8b", "11a erase 3a")
}

func TestP62EmptySelections(t *testing.T) {
	log := ops(t, gaps...)
	for index := range 3 {
		selection{log, 0, "1a", index, 0}.deletes(t)
		selection{log, 1, "-", index, 0}.deletes(t)
		selection{log, 2, "2b", index, 0}.deletes(t)
	}
	selection{nil, 0, "-", 0, 0}.deletes(t)
	selection{log, 0, "1a", 3, 0}.cannotBeDeleted(t)
	selection{log, 0, "1a", -1, 0}.cannotBeDeleted(t)
	selection{log, 0, "16a", 0, 0}.cannotBeDeleted(t)
	selection{nil, 0, "1a", 0, 0}.cannotBeDeleted(t)
	selection{log, 3, "1a", 0, 0}.cannotBeDeleted(t)
}

// badSelections returns selections that do not exist, each for one reason.
func badSelections(t *testing.T) []selection {
	log := ops(t, gaps...)
	var bad []selection
	for _, who := range []int{-1, impl.MaxAuthors, math.MinInt, math.MaxInt} {
		bad = append(bad, selection{log, who, "1a", 0, 1})
	}
	for _, block := range []string{"1a", "-", "2b"} {
		for _, x := range [][2]int{
			{-1, 1}, {-1, 2}, {-2, 3}, {math.MinInt, 1}, {0, -1}, {1, -1}, {2, -1}, {2, -2}, {0, math.MinInt}, {0, 3}, {1, 2}, {2, 1}, {3, 1}, {3, -1}, {4, -2},
			{0, math.MaxInt}, {1, math.MaxInt}, {2, math.MaxInt}, {math.MaxInt, 1}, {math.MaxInt, math.MaxInt}, {math.MaxInt, math.MinInt}, {math.MinInt, math.MaxInt}, {math.MinInt, math.MinInt},
		} {
			bad = append(bad, selection{log, 0, block, x[0], x[1]})
		}
	}
	for _, none := range []string{"1b", "2a", "3a", "7a", "12c", "15c", "16a", "99c"} {
		bad = append(bad, selection{log, 0, none, 0, 1})
	}
	for _, invalid := range append(badLogs(t), slices.Concat([]impl.Op{{}}, log)) {
		bad = append(bad, selection{invalid, 0, "1a", 0, 1}, selection{invalid, 0, "-", 0, 1})
	}
	return append(bad, selection{nil, 0, "-", 0, 1}, selection{nil, 0, "-", 1, 0}, selection{nil, 0, "1a", 0, 1})
}

func TestP62InvalidDeletions(t *testing.T) {
	for _, x := range badSelections(t) {
		x.cannotBeDeleted(t)
		if !impl.ValidLog(x.log) {
			x.count = 0
			x.cannotBeDeleted(t)
		}
	}
	for _, none := range noBlocks() {
		if got, ok := impl.DeleteText(ops(t, gaps...), 0, none, 0, 0); ok || got != nil {
			t.Errorf("DeleteText in %v, which does not exist, gives %v, %v", none, got, ok)
		}
	}
}

func TestP62DeletionsFit(t *testing.T) {
	for n, most := range map[int]int{37: 2, 38: 2, 39: 1, 40: 0} {
		for count := range 3 {
			x := selection{filled(t, n, n), 1, "1a", 0, count}
			if count > most {
				x.cannotBeDeleted(t)
			} else {
				x.deletes(t, []string{impl.EncodeStamp(at(n+1, 1)) + " erase 2a", impl.EncodeStamp(at(n+2, 1)) + " erase 3b"}[:count]...)
			}
		}
	}
	for last, most := range map[int]int{96: 2, 97: 2, 98: 1} {
		for count := range 3 {
			x := selection{filled(t, 4, last), 1, "1a", 0, count}
			if count > most {
				x.cannotBeDeleted(t)
			} else {
				x.deletes(t, []string{impl.EncodeStamp(at(last+1, 1)) + " erase 2a", impl.EncodeStamp(at(last+2, 1)) + " erase 3b"}[:count]...)
			}
		}
	}
	for count := range 3 {
		selection{filled(t, 4, 99), 1, "1a", 0, count}.cannotBeDeleted(t)
	}
}

// someSelection returns a selection of a block with a text of the given length, or now and then one that does not exist.
func someSelection(r *rand.Rand, size int) (index int, count int) {
	index = r.Intn(size + 1)
	count = r.Intn(size - index + 1)
	switch r.Intn(16) {
	case 0:
		index = -1
	case 1:
		count = -1
	case 2:
		count = size - index + 1
	case 3:
		index, count = size+1, -1
	}
	return index, count
}

func TestP62ExactlyTheSelectedCharactersAreDeleted(t *testing.T) {
	r := rand.New(rand.NewSource(62))
	inside, full, late := 0, 0, 0
	someEditLogs(62, func(log []impl.Op) {
		for range 4 {
			block := someBlock(r, log)
			old := textIn(modelDoc(log), block)
			who := someAuthor(r)
			index, count := someSelection(r, len(old))
			got, ok := impl.DeleteText(log, who, block, index, count)
			if want, wantOK := modelDelete(log, who, block, index, count); ok != wantOK || !slices.Equal(got, want) {
				t.Fatalf("DeleteText(%v, %d, %v, %d, %d) = %v, %v, want %v, %v", log, who, block, index, count, got, ok, want, wantOK)
			}
			if ok {
				checkTexts(t, log, append(slices.Clone(log), got...), block, old[:index]+old[index+count:])
			}
			switch {
			case ok && index > 0 && count > 0 && index+count < len(old):
				inside++
			case !ok && len(log)+count > impl.MaxOps:
				full++
			case !ok && len(log) > 0 && log[len(log)-1].ID.Seq+max(1, count) > impl.MaxCounter:
				late++
			}
		}
	})
	if inside < rounds || full < rounds/2 || late < rounds/2 {
		t.Errorf("the test has only %d deletions inside a text, %d from a log without room, and %d without stamps", inside, full, late)
	}
}

func TestP25FormattedTexts(t *testing.T) {
	log := ops(t, sentence...)
	selection{log, 1, "1a", 1, 3}.formats(t, 1, true, "8b mark 3a 5a 1 on")
	selection{log, 1, "1a", 0, 1}.formats(t, 2, true, "8b mark 2a 2a 2 on")
	selection{log, 1, "1a", 5, 1}.formats(t, 3, false, "8b mark 7a 7a 3 off")
	selection{log, 1, "1a", 0, 6}.formats(t, 1, false, "8b mark 2a 7a 1 off")
	log = ops(t, gaps...)
	selection{log, 2, "1a", 0, 2}.formats(t, 1, true, "16c mark 3a 5a 1 on")
	selection{log, 2, "1a", 1, 1}.formats(t, 1, true, "16c mark 5a 5a 1 on")
	selection{log, 0, "-", 0, 2}.formats(t, 3, true, "16a mark 7a 9b 3 on")
	selection{log, 0, "2b", 1, 1}.formats(t, 2, false, "16a mark 11c 11c 2 off")
	// The runs after setting a mark, and after clearing a part of it.
	marked := behind(sentence, "8b mark 3a 6a 1 on")
	selection{ops(t, marked...), 0, "1a", 2, 2}.formats(t, 1, false, "9a mark 4a 5a 1 off")
	checkRuns(t, behind(marked, "9a mark 4a 5a 1 off"), at(1, 0), `0 "a"`, `1 "b"`, `0 "cd"`, `1 "e"`, `0 "f"`)
}

func TestP25InvalidFormats(t *testing.T) {
	for _, x := range badSelections(t) {
		for mark := 1; mark <= impl.MaxMarks; mark++ {
			x.cannotBeFormatted(t, mark)
		}
	}
	log := ops(t, gaps...)
	for index := range 4 {
		selection{log, 0, "1a", index, 0}.cannotBeFormatted(t, 1)
	}
	for _, mark := range []int{0, -1, impl.MaxMarks + 1, math.MinInt, math.MaxInt} {
		selection{log, 0, "1a", 0, 1}.cannotBeFormatted(t, mark)
		selection{log, 0, "1a", 0, 2}.cannotBeFormatted(t, mark)
	}
	for _, none := range noBlocks() {
		if got, ok := impl.FormatText(log, 0, none, 0, 1, 1, true); ok || got != (impl.Op{}) {
			t.Errorf("FormatText in %v, which does not exist, gives %v, %v", none, got, ok)
		}
	}
}

func TestP25FormatsFit(t *testing.T) {
	selection{filled(t, 39, 39), 0, "1a", 0, 2}.formats(t, 1, true, "40a mark 2a 3b 1 on")
	selection{filled(t, 40, 40), 0, "1a", 0, 2}.cannotBeFormatted(t, 1)
	selection{filled(t, 40, 40), 0, "1a", 0, 0}.cannotBeFormatted(t, 1)
	selection{filled(t, 4, 98), 0, "1a", 0, 2}.formats(t, 1, true, "99a mark 2a 3b 1 on")
	selection{filled(t, 4, 99), 0, "1a", 0, 2}.cannotBeFormatted(t, 1)
	selection{filled(t, 4, 99), 2, "1a", 0, 1}.cannotBeFormatted(t, 1)
}

func TestP25FormattingChangesExactlyTheSelectedCharacters(t *testing.T) {
	r := rand.New(rand.NewSource(25))
	set, cleared, kept := 0, 0, 0
	someEditLogs(25, func(log []impl.Op) {
		for range 4 {
			block := someBlock(r, log)
			before := modelDoc(log)
			who, mark, enable := someAuthor(r), r.Intn(impl.MaxMarks+1+r.Intn(2)), r.Intn(2) == 0
			index, count := someSelection(r, len(modelChars(before, block)))
			o, ok := impl.FormatText(log, who, block, index, count, mark, enable)
			if want, wantOK := modelMark(log, who, block, index, count, mark, enable); ok != wantOK || o != want {
				t.Fatalf("FormatText(%v, %d, %v, %d, %d, %d, %v) = %v, %v, want %v, %v", log, who, block, index, count, mark, enable, o, ok, want, wantOK)
			}
			if !ok {
				continue
			}
			after := impl.BuildDoc(append(slices.Clone(log), o))
			for _, id := range blocksOf(log) {
				old, now := modelChars(before, id), modelChars(after, id)
				for i, c := range now {
					want := old[i]
					bit := []int{0, 1, 2, 4}[mark]
					selected := id == block && i >= index && i < index+count
					switch {
					case selected && enable && want.Marks&bit == 0:
						want.Marks += bit
						set++
					case selected && !enable && want.Marks&bit != 0:
						want.Marks -= bit
						cleared++
					case !selected && want.Marks&bit != 0:
						kept++
					}
					if c != want {
						t.Fatalf("after %q of %v the character %v is %v, want %v", impl.EncodeOp(o), log, old[i].ID, c, want)
					}
				}
			}
		}
	})
	if set < 3*rounds || cleared < 30 || kept < rounds {
		t.Errorf("in the test only %d marks are set and %d cleared, and %d others are kept", set, cleared, kept)
	}
}

func TestEditsShareNoMemory(t *testing.T) {
	logs := append(badLogs(t), nil, ops(t, gaps...), ops(t, sentence...), filled(t, impl.MaxOps, impl.MaxOps), filled(t, 4, 98))
	someWordLogs(63, func(log []impl.Op) { logs = append(logs, log) })
	for i, log := range logs {
		block := at(1, 0)
		if i%3 == 0 {
			block = impl.Stamp{}
		}
		calls := map[string]func(log []impl.Op) []impl.Op{
			"InsertText": func(log []impl.Op) []impl.Op { got, _ := impl.InsertText(log, 1, block, 0, "hi"); return got },
			"DeleteText": func(log []impl.Op) []impl.Op { got, _ := impl.DeleteText(log, 1, block, 0, 2); return got },
			"FormatText": func(log []impl.Op) []impl.Op { impl.FormatText(log, 1, block, 0, 1, 1, true); return nil },
			"FindAll":    func(log []impl.Op) []impl.Op { impl.FindAll(log, "b"); return nil },
			"ReplaceFirst": func(log []impl.Op) []impl.Op {
				got, _ := impl.ReplaceFirst(log, 1, "b", "ab")
				return got
			},
		}
		for name, call := range calls {
			checkFresh(t, name, log, spareOp, call)
			checkKept(t, name, spareOp, func() []impl.Op { return call(log) })
		}
		checkKept(t, "FindAll", impl.Match{Index: 77}, func() []impl.Match { return impl.FindAll(log, "a") })
	}
}
