package tests

import (
	"math/rand"
	"slices"
	"strings"
	"testing"

	"loop.example/collabdoc/impl"
)

func checkAuthors(t *testing.T, log []string, block string, want ...int) {
	t.Helper()
	if got := impl.CharAuthors(ops(t, log...), stampOf(block)); !slices.Equal(got, want) {
		t.Errorf("CharAuthors(%q, %s) = %v, want %v", log, block, got, want)
	}
}

func checkCounts(t *testing.T, log []string, want ...int) {
	t.Helper()
	if got := impl.AuthorCounts(ops(t, log...)); !slices.Equal(got, want) {
		t.Errorf("AuthorCounts(%q) = %v, want %v", log, got, want)
	}
}

func TestP38AuthorsOfCharacters(t *testing.T) {
	checkAuthors(t, gaps, "1a", 0, 0)
	checkAuthors(t, gaps, "-", 0, 1)
	checkAuthors(t, gaps, "2b", 1, 2)
	checkAuthors(t, behind(gaps, "16a undo 13a off", "16c undo 12c off"), "1a", 0, 1, 0, 2)
	checkAuthors(t, behind(gaps, "16c text 1a - e", "17b text 1a 16c f"), "1a", 2, 1, 0, 0)
	checkAuthors(t, behind(gaps, "16a erase 3a", "16b erase 5a"), "1a")
	// It does not matter who formats or restores a character, or owns the block.
	checkAuthors(t, behind(gaps, "16c mark 3a 5a 1 on", "17b undo 3a off", "18b kind 1a 2"), "1a", 0, 0)
	for _, none := range noBlocks() {
		if got := impl.CharAuthors(ops(t, gaps...), none); len(got) != 0 {
			t.Errorf("CharAuthors(%v) = %v for a block that does not exist", none, got)
		}
	}
	checkAuthors(t, nil, "-")
	checkAuthors(t, nil, "1a")
}

func TestP38CountsOfAuthors(t *testing.T) {
	checkCounts(t, nil, 0, 0, 0)
	checkCounts(t, []string{"1b block - - 1"}, 0, 0, 0)
	checkCounts(t, sentence, 6, 0, 0)
	// Two characters of the block 1a, two of the root, and two of a deleted block.
	checkCounts(t, gaps, 3, 2, 1)
	checkCounts(t, behind(gaps, "16a undo 8a on"), 4, 2, 1)
	checkCounts(t, behind(gaps, "16b erase 7a", "17b erase 11c"), 2, 2, 0)
	checkCounts(t, behind(gaps, "16a text 1a 7a e", "17b text 1a 4b f"), 3, 3, 1)
	checkCounts(t, behind(gaps, "16a drop 1a", "17b undo 9b off"), 3, 1, 1)
}

func TestP38EveryVisibleCharacterHasOneAuthor(t *testing.T) {
	mixed := 0
	somePlaceLogs(38, func(log []impl.Op) {
		d := modelDoc(log)
		total := make([]int, impl.MaxAuthors)
		for _, block := range blocksOf(log) {
			var want []int
			for _, c := range modelChars(d, block) {
				want = append(want, c.ID.Author)
				total[c.ID.Author]++
			}
			if got := impl.CharAuthors(log, block); !slices.Equal(got, want) {
				t.Fatalf("CharAuthors(%v, %v) = %v, want %v", log, block, got, want)
			}
			if len(want) > 1 && slices.Min(want) < slices.Max(want) {
				mixed++
			}
		}
		if got := impl.AuthorCounts(log); !slices.Equal(got, total) {
			t.Fatalf("AuthorCounts(%v) = %v, want %v", log, got, total)
		}
	})
	if mixed < rounds {
		t.Errorf("the logs of the test have only %d texts by several authors", mixed)
	}
}

func TestP39RenderAtVersions(t *testing.T) {
	log := ops(t, "1a block - - 1", "2a text 1a - a", "2b block - 1a 2", "3a text 1a 2a b", "3b text 1a 2a c", "4c erase 2a", "5c undo 4c off", "6a undo 3a off", "7b drop 2b")
	for _, x := range []struct {
		version []int
		want    []string
	}{
		{[]int{0, 0, 0}, nil},
		{[]int{1, 0, 0}, []string{"1a paragraph 0"}},
		{[]int{2, 0, 0}, []string{"1a paragraph 0 a"}},
		{[]int{3, 0, 0}, []string{"1a paragraph 0 ab"}},
		{[]int{3, 3, 0}, []string{"1a paragraph 0 acb", "2b heading 0"}},
		{[]int{3, 3, 4}, []string{"1a paragraph 0 cb", "2b heading 0"}},
		{[]int{3, 3, 5}, []string{"1a paragraph 0 acb", "2b heading 0"}},
		{[]int{6, 3, 5}, []string{"1a paragraph 0 ac", "2b heading 0"}},
		{[]int{6, 7, 5}, []string{"1a paragraph 0 ac"}},
		{[]int{99, 99, 99}, []string{"1a paragraph 0 ac"}},
		// Versions that lack operations that others refer to.
		{[]int{0, 99, 99}, nil},
		{[]int{0, 3, 5}, []string{"2b heading 0"}},
		{[]int{1, 3, 5}, []string{"1a paragraph 0", "2b heading 0"}},
		{[]int{6, 0, 0}, []string{"1a paragraph 0 a"}},
		{[]int{5, 0, 99}, []string{"1a paragraph 0 ab"}},
	} {
		if got := rowLines(impl.RenderAt(log, x.version)); !slices.Equal(got, x.want) {
			t.Errorf("RenderAt(%v) = %q, want %q", x.version, got, x.want)
		}
	}
	if got := impl.RenderAt(nil, []int{1, 2, 3}); len(got) != 0 {
		t.Errorf("RenderAt of the empty log = %v", got)
	}
}

func TestP39RenderAtIsTheRenderingOfAPrefix(t *testing.T) {
	r := rand.New(rand.NewSource(39))
	partial := 0
	somePlaceLogs(39, func(log []impl.Op) {
		if rows := impl.RenderAt(log, []int{0, 0, 0}); len(rows) != 0 {
			t.Fatalf("RenderAt(%v) = %v at the zero vector", log, rows)
		}
		if rows := impl.RenderAt(log, impl.LogVector(log)); !slices.Equal(rows, modelRows(log)) {
			t.Fatalf("RenderAt(%v) = %v at the vector of the log, want %v", log, rows, modelRows(log))
		}
		for range 3 {
			v := impl.LogVector(log)
			for who := range v {
				v[who] = r.Intn(v[who] + 2)
			}
			prefix := modelPrefix(log, v)
			rows, want := impl.RenderAt(log, v), modelRows(prefix)
			if !slices.Equal(rows, want) || !slices.Equal(rows, impl.Render(impl.LogPrefix(log, v))) {
				t.Fatalf("RenderAt(%v, %v) is\n%s\nwant\n%s", log, v, strings.Join(rowLines(rows), "\n"), strings.Join(rowLines(want), "\n"))
			}
			if len(rows) > 0 && !slices.Equal(rows, modelRows(log)) {
				partial++
			}
		}
	})
	if partial < rounds {
		t.Errorf("the test has only %d versions with other rows", partial)
	}
}

func TestInvalidLogsHaveNoAuthorsAndVersions(t *testing.T) {
	for _, bad := range append(badLogs(t), slices.Insert(ops(t, gaps...), 0, impl.Op{})) {
		for _, block := range append(idsOf(bad), at(1, 0)) {
			if got := impl.CharAuthors(bad, block); got != nil {
				t.Errorf("CharAuthors(%v, %v) = %v, want nil", bad, block, got)
			}
		}
		if got := impl.AuthorCounts(bad); got != nil {
			t.Errorf("AuthorCounts(%v) = %v, want nil", bad, got)
		}
		for _, v := range append(badVectors(), []int{0, 0, 0}, []int{1, 0, 0}, []int{99, 99, 99}) {
			if got := impl.RenderAt(bad, v); got != nil {
				t.Errorf("RenderAt(%v, %v) = %v, want nil", bad, v, got)
			}
		}
	}
	for _, v := range badVectors() {
		for _, log := range [][]impl.Op{ops(t, gaps...), nil} {
			if got := impl.RenderAt(log, v); got != nil {
				t.Errorf("RenderAt(%v, %v) = %v, want nil", log, v, got)
			}
		}
	}
}
