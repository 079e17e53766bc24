package tests

import (
	"fmt"
	"math/rand"
	"slices"
	"strings"
	"testing"

	"loop.example/collabdoc/impl"
)

// changeLines returns the text of changes, a line for each. What must be zero is written if it is not.
func changeLines(list []impl.Change) []string {
	var lines []string
	for _, c := range list {
		kind := map[int]string{impl.BlockRemoved: "removed", impl.BlockAdded: "added", impl.BlockRestyled: "restyled", impl.TextChanged: "text"}[c.Kind]
		line := impl.EncodeStamp(c.ID) + " " + kind
		if c.Kind == impl.TextChanged || c.Index != 0 {
			line += fmt.Sprint(" ", c.Index)
		}
		if c.Kind == impl.TextChanged || c.Kind == impl.BlockRemoved || c.Removed != "" {
			line += fmt.Sprintf(" -%q", c.Removed)
		}
		if c.Kind == impl.TextChanged || c.Kind == impl.BlockAdded || c.Added != "" {
			line += fmt.Sprintf(" +%q", c.Added)
		}
		lines = append(lines, line)
	}
	return lines
}

// checkDiff fails the test if the diff of two versions does not have these changes.
func checkDiff(t *testing.T, log []string, a []int, b []int, want ...string) {
	t.Helper()
	changes := impl.DiffVersions(ops(t, log...), a, b)
	if got := changeLines(changes); !slices.Equal(got, want) {
		t.Errorf("DiffVersions of\n\t%s\nat %v and %v is\n\t%s\nwant\n\t%s", strings.Join(log, "\n\t"), a, b, strings.Join(got, "\n\t"), strings.Join(want, "\n\t"))
	}
	removed, added := 0, 0
	for _, c := range changes {
		removed, added = removed+len(c.Removed), added+len(c.Added)
	}
	if r, a := impl.DiffCounts(ops(t, log...), a, b); r != removed || a != added {
		t.Errorf("DiffCounts = %d, %d, want %d, %d", r, a, removed, added)
	}
}

// retyped returns a log in which author b erases the text of a paragraph and types another one, and the versions before and after that.
func retyped(old string, now string) (log []string, a []int, b []int) {
	log = written(old)
	seq := len(log)
	for i := range old {
		seq++
		log = append(log, fmt.Sprintf("%db erase %da", seq, i+2))
	}
	log = append(log, typing(fmt.Sprintf("%db", seq+1), "1a", "-", now)...)
	return log, []int{len(old) + 1, 0, 0}, []int{len(old) + 1, len(log), 0}
}

// checkTextChange fails the test if the change from one text to another one does not have these parts.
func checkTextChange(t *testing.T, old string, now string, index int, removed string, added string) {
	t.Helper()
	log, a, b := retyped(old, now)
	checkDiff(t, log, a, b, fmt.Sprintf("1a text %d -%q +%q", index, removed, added))
	checkDiff(t, log, b, a, fmt.Sprintf("1a text %d -%q +%q", index, added, removed))
}

func TestP65ChangedTexts(t *testing.T) {
	checkTextChange(t, "hello", "halo", 1, "el", "a")
	checkTextChange(t, "hello", "help", 3, "lo", "p")
	checkTextChange(t, "cold", "old", 0, "c", "")
	checkTextChange(t, "abc", "xyz", 0, "abc", "xyz")
	checkTextChange(t, "abc", "axc", 1, "b", "x")
	checkTextChange(t, "abcd", "acbd", 1, "bc", "cb")
	checkTextChange(t, "abc", "cba", 0, "abc", "cba")
	// One text begins or ends the other one, or is empty.
	checkTextChange(t, "ab", "abc", 2, "", "c")
	checkTextChange(t, "bc", "abc", 0, "", "a")
	checkTextChange(t, "b", "abc", 0, "b", "abc")
	checkTextChange(t, "", "abc", 0, "", "abc")
	checkTextChange(t, " ", "", 0, " ", "")
}

func TestP65PrefixesAndSuffixesDoNotOverlap(t *testing.T) {
	checkTextChange(t, "aa", "aaa", 2, "", "a")
	checkTextChange(t, "a", "aaaa", 1, "", "aaa")
	checkTextChange(t, "aba", "ababa", 3, "", "ba")
	checkTextChange(t, "abab", "ab", 2, "ab", "")
	checkTextChange(t, "xaay", "xay", 2, "a", "")
	checkTextChange(t, "xaby", "xababy", 3, "", "ab")
	checkTextChange(t, "abba", "aba", 2, "b", "")
	checkTextChange(t, "aXa", "aa", 1, "X", "")
	checkTextChange(t, "aXa", "a", 1, "Xa", "")
	checkTextChange(t, "aab", "ab", 1, "a", "")
}

func TestP65ChangedBlocks(t *testing.T) {
	base := []string{"1a block - - 1", "2a text 1a - x", "3a block - 1a 2"}
	a := []int{3, 0, 0}
	b := []int{3, 99, 0}
	checkDiff(t, behind(base, "4b drop 1a"), a, b, `1a removed -"x"`)
	checkDiff(t, behind(base, "4b drop 1a"), b, a, `1a added +"x"`)
	checkDiff(t, behind(base, "4b drop 3a"), a, b, `3a removed -""`)
	checkDiff(t, behind(base, "4b block - - 3"), a, b, `4b added +""`)
	checkDiff(t, behind(base, "4b block - - 3", "5b text 4b - y", "6b text 4b 5b z"), a, b, `4b added +"yz"`)
	checkDiff(t, behind(base, "4b kind 1a 2"), a, b, "1a restyled")
	checkDiff(t, behind(base, "4b kind 1a 3"), b, a, "1a restyled")
	// Restyled, and another text.
	checkDiff(t, behind(base, "4b kind 1a 2", "5b erase 2a"), a, b, "1a restyled", `1a text 0 -"x" +""`)
	checkDiff(t, behind(base, "4b text 3a - y", "5b text 1a 2a z", "6b kind 3a 1", "7b kind 1a 2"), a, b, "1a restyled", `1a text 1 -"" +"z"`, "3a restyled", `3a text 0 -"" +"y"`)
	// Restyled and back, set to the same kind, and a change that is undone.
	checkDiff(t, behind(base, "4b kind 1a 2", "5b kind 1a 1", "6b kind 3a 2"), a, b)
	checkDiff(t, behind(base, "4b kind 1a 2", "4c text 1a 2a z", "5b undo 4b off"), a, []int{99, 99, 99}, `1a text 1 -"" +"z"`)
	checkDiff(t, behind(base, "4a undo 1a off"), a, []int{4, 0, 0}, `1a removed -"x"`)
	// Added and removed in between.
	checkDiff(t, behind(base, "4b block - - 1", "5b text 4b - y", "6b drop 4b"), a, b)
}

func TestP65NestedBlocks(t *testing.T) {
	base := []string{"1a block - - 3", "2a block 1a - 4", "3a block 2a - 1", "4a text 3a - x", "5a text 2a - y", "6a block - - 1"}
	a := []int{6, 0, 0}
	b := []int{99, 99, 99}
	// Blocks below a removed one, also one that is added there.
	checkDiff(t, behind(base, "7b drop 2a"), a, b, `2a removed -"y"`, `3a removed -"x"`)
	checkDiff(t, behind(base, "7b block 3a - 1", "8c drop 1a"), a, b, `1a removed -""`, `2a removed -"y"`, `3a removed -"x"`)
	// The order is that of the IDs, not that of the rows.
	checkDiff(t, behind(base, "7b text 6a - q", "7c text 3a 4a z", "8b block - - 1", "9c drop 6a"), a, b, `3a text 1 -"" +"z"`, `6a removed -""`, `8b added +""`)
	// The depth changes, that of a moved block and that of a block whose parent is another kind.
	checkDiff(t, behind(base, "7b move 3a - -"), a, b, "3a restyled")
	checkDiff(t, behind(base, "7b kind 2a 1"), a, b, "2a restyled", "3a restyled")
	checkDiff(t, behind(base, "7b move 2a - -"), a, b, "2a restyled", "3a restyled")
	// A row can be repaired because of other blocks only.
	checkDiff(t, behind(base, "7b kind 1a 2"), a, b, "1a restyled", "2a restyled", "3a restyled")
	// The place among the siblings is not compared.
	checkDiff(t, behind(base, "7b move 6a 1a -"), a, b)
}

func TestP65WhatRowsDoNotShowIsNotCompared(t *testing.T) {
	base := []string{"1a block - - 1", "2a text 1a - x", "3a text 1a 2a y", "4a block - - 1", "5a text 4a - z", "6a drop 4a", "7a text - - r"}
	a := []int{7, 0, 0}
	for _, more := range [][]string{
		{"8b mark 2a 3a 1 on"},
		{"8b note 2a 3a why", "9b reply 8b so"},
		{"8b text - - s", "9b erase 7a"},
		{"8b text 4a 5a s", "9b erase 5a", "10b kind 4a 2"},
		{"8b text 1a 3a s", "9b erase 8b"},
	} {
		checkDiff(t, behind(base, more...), a, []int{99, 99, 99})
	}
}

func TestP65Versions(t *testing.T) {
	log := []string{"1a block - - 1", "2a text 1a - x", "2b block - 1a 2", "3a text 1a 2a y", "3b text 2b - p", "4c text 1a 3a z", "5b text 1a - w", "5c drop 2b"}
	// Equal versions: the vector is the same, or it contains the same operations, or the rows are equal.
	for _, v := range [][]int{{0, 0, 0}, {1, 0, 0}, {2, 2, 0}, {3, 3, 4}, {3, 5, 5}, {99, 99, 99}} {
		checkDiff(t, log, v, v)
	}
	checkDiff(t, log, []int{3, 4, 3}, []int{99, 3, 0})
	checkDiff(t, log, []int{0, 0, 0}, []int{0, 0, 4})
	checkDiff(t, log, []int{0, 0, 0}, []int{99, 99, 99}, `1a added +"wxyz"`)
	checkDiff(t, log, []int{99, 99, 99}, []int{0, 0, 0}, `1a removed -"wxyz"`)
	checkDiff(t, log, []int{0, 3, 0}, []int{3, 0, 0}, `1a added +"xy"`, `2b removed -"p"`)
	checkDiff(t, log, []int{3, 0, 0}, []int{2, 5, 0}, `1a text 0 -"xy" +"wx"`, `2b added +"p"`)
	checkDiff(t, log, []int{3, 0, 4}, []int{2, 5, 0}, `1a text 0 -"xyz" +"wx"`, `2b added +"p"`)
	// The z is not there without the y.
	checkDiff(t, log, []int{2, 0, 0}, []int{2, 0, 4})
	checkDiff(t, log, []int{3, 3, 4}, []int{3, 5, 5}, `1a text 0 -"" +"w"`, `2b removed -"p"`)
	checkDiff(t, nil, []int{0, 0, 0}, []int{1, 2, 3})
}

func TestP65InvalidVersions(t *testing.T) {
	log := ops(t, written("hello")...)
	good := [][]int{{0, 0, 0}, {3, 0, 0}, {99, 99, 99}}
	check := func(log []impl.Op, a []int, b []int) {
		t.Helper()
		if got := impl.DiffVersions(log, a, b); got != nil {
			t.Errorf("DiffVersions(%v, %v, %v) = %v, want nil", log, a, b, got)
		}
		if removed, added := impl.DiffCounts(log, a, b); removed != 0 || added != 0 {
			t.Errorf("DiffCounts(%v, %v, %v) = %d, %d, want 0, 0", log, a, b, removed, added)
		}
	}
	for _, bad := range badVectors() {
		for _, v := range good {
			check(log, bad, v)
			check(log, v, bad)
		}
		check(log, bad, bad)
		check(nil, bad, bad)
	}
	for _, bad := range append(badLogs(t), slices.Concat([]impl.Op{{}}, log)) {
		check(bad, []int{0, 0, 0}, []int{99, 99, 99})
		check(bad, []int{2, 0, 0}, []int{1, 99, 99})
	}
}

// modelChange returns the change of a text, trying all lengths of the common parts.
func modelChange(id impl.Stamp, old string, now string) impl.Change {
	c := impl.Change{ID: id, Kind: impl.TextChanged, Removed: old, Added: now}
	for n := range min(len(old), len(now)) + 1 {
		if strings.HasPrefix(now, old[:n]) {
			c.Index, c.Removed, c.Added = n, old[n:], now[n:]
		}
	}
	removed, added := c.Removed, c.Added
	for n := range min(len(removed), len(added)) + 1 {
		if strings.HasSuffix(added, removed[len(removed)-n:]) {
			c.Removed, c.Added = removed[:len(removed)-n], added[:len(added)-n]
		}
	}
	return c
}

// modelDiff compares two lists of rows, first by what is said of each block, and sorts that.
func modelDiff(old []impl.Row, now []impl.Row) []impl.Change {
	var changes []impl.Change
	rowIn := func(rows []impl.Row, id impl.Stamp) int {
		return slices.IndexFunc(rows, func(row impl.Row) bool { return row.ID == id })
	}
	for _, row := range old {
		i := rowIn(now, row.ID)
		if i < 0 {
			changes = append(changes, impl.Change{ID: row.ID, Kind: impl.BlockRemoved, Removed: row.Text})
			continue
		}
		if row.Kind != now[i].Kind || row.Depth != now[i].Depth {
			changes = append(changes, impl.Change{ID: row.ID, Kind: impl.BlockRestyled})
		}
		if row.Text != now[i].Text {
			changes = append(changes, modelChange(row.ID, row.Text, now[i].Text))
		}
	}
	for _, row := range now {
		if rowIn(old, row.ID) < 0 {
			changes = append(changes, impl.Change{ID: row.ID, Kind: impl.BlockAdded, Added: row.Text})
		}
	}
	key := func(c impl.Change) int { return (c.ID.Seq*impl.MaxAuthors+c.ID.Author)*5 + c.Kind }
	slices.SortFunc(changes, func(a impl.Change, b impl.Change) int { return key(a) - key(b) })
	return changes
}

// someVersions calls yield with logs and two versions of each, which may be equal or before any operation.
func someVersions(seed int64, yield func(log []impl.Op, a []int, b []int)) {
	r := rand.New(rand.NewSource(seed))
	each := func(log []impl.Op) {
		for range 3 {
			a, b := modelVector(log), modelVector(log)
			for who := range impl.MaxAuthors {
				a[who] = min(r.Intn(a[who]+2), impl.MaxCounter)
				if r.Intn(2) == 0 {
					b[who] = min(r.Intn(b[who]+2), impl.MaxCounter)
				}
			}
			if r.Intn(2) == 0 {
				a, b = b, a
			}
			yield(log, a, b)
		}
	}
	someViewLogs(seed, each)
	someWordLogs(seed, each)
}

// applied returns a text after its change in a diff, if there is one.
func applied(t *testing.T, text string, id impl.Stamp, changes []impl.Change) string {
	t.Helper()
	for _, c := range changes {
		if c.ID != id || c.Kind != impl.TextChanged {
			continue
		}
		rest, ok := strings.CutPrefix(text[min(c.Index, len(text)):], c.Removed)
		if !ok || c.Index < 0 || c.Removed == c.Added {
			t.Fatalf("the change %v does not fit %q", c, text)
		}
		return text[:c.Index] + c.Added + rest
	}
	return text
}

func TestP65ADiffTransformsOneVersionIntoTheOther(t *testing.T) {
	kinds := map[int]int{}
	both := 0
	someVersions(65, func(log []impl.Op, a []int, b []int) {
		old, now := modelRows(modelPrefix(log, a)), modelRows(modelPrefix(log, b))
		got := impl.DiffVersions(log, a, b)
		if want := modelDiff(old, now); !slices.Equal(got, want) {
			t.Fatalf("DiffVersions(%v, %v, %v) = %q, want %q", log, a, b, changeLines(got), changeLines(want))
		}
		for _, row := range old {
			i := slices.IndexFunc(now, func(other impl.Row) bool { return other.ID == row.ID })
			if i < 0 {
				continue
			}
			if text := applied(t, row.Text, row.ID, got); text != now[i].Text {
				t.Fatalf("DiffVersions(%v, %v, %v) changes %q to %q, want %q", log, a, b, row.Text, text, now[i].Text)
			}
		}
		if same := impl.DiffVersions(log, a, a); len(same) != 0 {
			t.Fatalf("DiffVersions(%v, %v, %v) = %v, want none", log, a, a, same)
		}
		for i, c := range got {
			kinds[c.Kind]++
			if c.Kind == impl.TextChanged && i > 0 && got[i-1].ID == c.ID {
				both++
			}
		}
	})
	for kind := impl.BlockRemoved; kind <= impl.TextChanged; kind++ {
		if kinds[kind] < 2*rounds {
			t.Errorf("the diffs of the test have only %d changes of kind %d", kinds[kind], kind)
		}
	}
	if both < rounds/10 {
		t.Errorf("only %d blocks of the test are restyled and have another text", both)
	}
}

func TestP65ChangesOfRandomTexts(t *testing.T) {
	r := rand.New(rand.NewSource(651))
	overlaps := 0
	for range 10 * rounds {
		old, now := randomWord(r), randomWord(r)
		lines, a, b := retyped(old, now)
		var want []impl.Change
		if old != now {
			want = append(want, modelChange(at(1, 0), old, now))
		}
		got := impl.DiffVersions(ops(t, lines...), a, b)
		if !slices.Equal(got, want) {
			t.Fatalf("the diff of %q and %q is %q, want %q", old, now, changeLines(got), changeLines(want))
		}
		if old != now && (strings.HasPrefix(old, now) || strings.HasPrefix(now, old)) && (strings.HasSuffix(old, now) || strings.HasSuffix(now, old)) {
			overlaps++
		}
	}
	if overlaps < rounds {
		t.Errorf("in only %d pairs of the test one text both begins and ends the other one", overlaps)
	}
}

// randomWord returns up to 12 letters, which are few different ones.
func randomWord(r *rand.Rand) string {
	word := make([]byte, r.Intn(1+r.Intn(12)))
	for i := range word {
		word[i] = "aaab"[r.Intn(4)]
	}
	return string(word)
}

func TestP66TheReverseDiff(t *testing.T) {
	removals, additions := 0, 0
	someVersions(66, func(log []impl.Op, a []int, b []int) {
		removed, added := impl.DiffCounts(log, a, b)
		back, forth := impl.DiffCounts(log, b, a)
		if removed != forth || added != back {
			t.Fatalf("DiffCounts(%v, %v, %v) = %d, %d, but the other way round %d, %d", log, a, b, removed, added, back, forth)
		}
		length := 0
		for _, row := range impl.RenderAt(log, b) {
			length += len(row.Text)
		}
		for _, row := range impl.RenderAt(log, a) {
			length -= len(row.Text)
		}
		if added-removed != length {
			t.Fatalf("DiffCounts(%v, %v, %v) = %d, %d, but the length differs by %d", log, a, b, removed, added, length)
		}
		diff, reverse := impl.DiffVersions(log, a, b), impl.DiffVersions(log, b, a)
		if len(diff) != len(reverse) {
			t.Fatalf("DiffVersions(%v, %v, %v) has %d entries, the other way round %d", log, a, b, len(diff), len(reverse))
		}
		wantRemoved, wantAdded := 0, 0
		for i, c := range diff {
			wantRemoved, wantAdded = wantRemoved+len(c.Removed), wantAdded+len(c.Added)
			if x := reverse[i]; x.ID != c.ID || x.Index != c.Index || x.Removed != c.Added || x.Added != c.Removed {
				t.Fatalf("DiffVersions(%v, %v, %v) has %v, the other way round %v", log, a, b, c, x)
			}
		}
		if removed != wantRemoved || added != wantAdded {
			t.Fatalf("DiffCounts(%v, %v, %v) = %d, %d, want %d, %d", log, a, b, removed, added, wantRemoved, wantAdded)
		}
		removals, additions = removals+removed, additions+added
	})
	if removals < 10*rounds || additions < 10*rounds {
		t.Errorf("in the test only %d characters are removed and %d added", removals, additions)
	}
}

func TestP66Counts(t *testing.T) {
	log := ops(t, "1a block - - 1", "2a text 1a - x", "2b block - 1a 2", "3a text 1a 2a y", "3b text 2b - p", "4c text 1a 3a z", "5b text 1a - w", "5c drop 2b")
	for _, x := range []struct {
		a, b           []int
		removed, added int
	}{
		{[]int{0, 0, 0}, []int{99, 99, 99}, 0, 4},
		{[]int{99, 99, 99}, []int{0, 0, 0}, 4, 0},
		{[]int{3, 3, 0}, []int{3, 3, 0}, 0, 0},
		{[]int{0, 3, 0}, []int{3, 0, 0}, 1, 2},
		{[]int{3, 0, 0}, []int{2, 5, 0}, 2, 3},
		{[]int{3, 3, 4}, []int{3, 5, 5}, 1, 1},
	} {
		if removed, added := impl.DiffCounts(log, x.a, x.b); removed != x.removed || added != x.added {
			t.Errorf("DiffCounts at %v and %v = %d, %d, want %d, %d", x.a, x.b, removed, added, x.removed, x.added)
		}
	}
}

func TestDiffsShareNoMemory(t *testing.T) {
	check := func(log []impl.Op, a []int, b []int) {
		t.Helper()
		diff := func(log []impl.Op, a []int, b []int) { impl.DiffVersions(log, a, b); impl.DiffCounts(log, a, b) }
		checkFresh(t, "DiffVersions", log, spareOp, func(log []impl.Op) []impl.Op { diff(log, a, b); return nil })
		checkFresh(t, "DiffVersions", a, 77, func(a []int) []int { diff(log, a, b); return nil })
		checkFresh(t, "DiffVersions", b, 77, func(b []int) []int { diff(log, a, b); return nil })
		checkKept(t, "DiffVersions", impl.Change{Index: 77}, func() []impl.Change { return impl.DiffVersions(log, a, b) })
	}
	for _, log := range append(badLogs(t), nil, ops(t, gaps...)) {
		for _, v := range append(badVectors()[:6], []int{3, 2, 0}) {
			check(log, v, []int{99, 99, 99})
			check(log, []int{0, 0, 0}, v)
		}
	}
	n := 0
	someVersions(67, func(log []impl.Op, a []int, b []int) {
		if n++; n%4 == 0 {
			check(log, a, b)
		}
	})
}
