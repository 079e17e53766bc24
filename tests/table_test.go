package tests

import (
	"math"
	"math/rand"
	"slices"
	"strings"
	"testing"

	"loop.example/collabdoc/impl"
)

// grid has the rows 3c, 1a and 4a, and the columns 5b and 2b.
var grid = []string{"1a row -", "2b column -", "3c row -", "4a row 1a", "5b column -"}

// checkTable fails the test if a table does not have these rows. Empty cells are written as points.
func checkTable(t *testing.T, table []string, want ...string) {
	t.Helper()
	if got := cellLines(impl.RenderTable(tableOf(t, table...))); !slices.Equal(got, want) {
		t.Errorf("RenderTable of\n\t%s\nis %q, want %q", strings.Join(table, "\n\t"), got, want)
	}
}

// goodTableOps returns valid operations of all kinds with the ID 5b.
func goodTableOps() []impl.TableOp {
	var good []impl.TableOp
	id := at(5, 1)
	for _, ref := range []impl.Stamp{at(1, 0), at(1, 2), at(4, 2), at(5, 0)} {
		for _, kind := range []int{impl.TableAddRow, impl.TableAddColumn, impl.TableRemove} {
			good = append(good, impl.TableOp{ID: id, Kind: kind, Target: ref})
		}
		for _, text := range []string{"", "a", "z", "word", "abcdefgh"} {
			good = append(good, impl.TableOp{ID: id, Kind: impl.TableSetCell, Target: ref, Column: at(2, 1), Text: text})
			good = append(good, impl.TableOp{ID: id, Kind: impl.TableSetCell, Target: at(2, 1), Column: ref, Text: text})
			good = append(good, impl.TableOp{ID: id, Kind: impl.TableSetCell, Target: ref, Column: ref, Text: text})
		}
	}
	return append(good, impl.TableOp{ID: id, Kind: impl.TableAddRow}, impl.TableOp{ID: id, Kind: impl.TableAddColumn})
}

// badTableOps returns operations of all kinds with the ID 5b, or one that is not valid, each with one defect.
func badTableOps() []impl.TableOp {
	good := goodTableOps()
	bad := []impl.TableOp{{}}
	noRefs := append(badStamps(), at(5, 1), at(5, 2), at(6, 0), at(99, 2))
	for _, o := range good {
		changed := func(change func(o *impl.TableOp)) {
			other := o
			change(&other)
			bad = append(bad, other)
		}
		for _, kind := range []int{0, -1, 5, 99, math.MinInt, math.MaxInt} {
			changed(func(o *impl.TableOp) { o.Kind = kind })
		}
		for _, id := range append(badStamps(), impl.Stamp{}) {
			changed(func(o *impl.TableOp) { o.ID = id })
		}
		for _, ref := range noRefs {
			changed(func(o *impl.TableOp) { o.Target = ref })
			changed(func(o *impl.TableOp) { o.Column = ref })
		}
		if o.Kind != impl.TableSetCell {
			changed(func(o *impl.TableOp) { o.Column = at(1, 0) })
			changed(func(o *impl.TableOp) { o.Text = "a" })
		} else {
			changed(func(o *impl.TableOp) { o.Column = impl.Stamp{} })
			for _, text := range []string{"abcdefghi", "A", "a b", " ", "aZ", "a-", "0", "`", "{", "é", "\xff", "\n", strings.Repeat("a", 1000)} {
				changed(func(o *impl.TableOp) { o.Text = text })
			}
		}
		if o.Kind == impl.TableRemove || o.Kind == impl.TableSetCell {
			changed(func(o *impl.TableOp) { o.Target = impl.Stamp{} })
		}
	}
	return bad
}

// badTables returns tables that are not valid, each with one defect.
func badTables(t *testing.T) [][]impl.TableOp {
	bad := [][]impl.TableOp{
		{{}},
		tableOf(t, "2a row -", "1a row -"),
		tableOf(t, "1a row -", "1a row -"),
		tableOf(t, "1a row -", "1a column -"),
		tableOf(t, "1b row -", "1a column -"),
		tableOf(t, "1a row -", "3a row -", "2c column -"),
		tableOf(t, "1a row -", "2b row -", "2a column -", "3a row -"),
		tableOf(t, "1a row -", "2a column -", "2a remove 1a"),
		manyRows(1, impl.MaxOps+1, 0),
		manyRows(50, impl.MaxOps+10, 2),
		// These refer to what comes later.
		tableOf(t, "1a remove 2a", "2a row -"),
		tableOf(t, "1a row -", "2a row 3a", "3a row -"),
		tableOf(t, "1a row -", "2a set 1a 3a word", "3a column -"),
		tableOf(t, "1a column -", "2a set 3a 1a word", "3a row -"),
		tableOf(t, "1a row 1a"),
		tableOf(t, "1a column 1a"),
		tableOf(t, "1a remove 1a"),
	}
	for _, place := range []int{0, 1, 2, 3} {
		broken := tableOf(t, "1a row -", "2b column -", "3a set 1a 2b x", "4c remove 1a")
		broken[place].Text = "Word"
		bad = append(bad, broken)
	}
	for _, o := range badTableOps() {
		bad = append(bad, []impl.TableOp{o}, append(tableOf(t, "1a row -", "2b column -"), o))
	}
	return bad
}

func TestP58ValidTables(t *testing.T) {
	for _, o := range goodTableOps() {
		for _, table := range [][]impl.TableOp{{o}, append(tableOf(t, "1a row -", "2b column -"), o), append([]impl.TableOp{o}, tableOf(t, "5c row -", "99c set 1a 98c x")...)} {
			if !impl.ValidTable(table) {
				t.Errorf("ValidTable(%v) = false", table)
			}
		}
	}
	for _, table := range [][]impl.TableOp{nil, {}, tableOf(t, grid...), manyRows(1, impl.MaxOps, 0), manyRows(60, impl.MaxOps, 2), tableOf(t, "1a row -", "1b row 1a", "1c remove 1b", "99c column 98c")} {
		if !impl.ValidTable(table) {
			t.Errorf("ValidTable(%v) = false", table)
		}
	}
	for _, table := range badTables(t) {
		if impl.ValidTable(table) {
			t.Errorf("ValidTable(%v) = true", table)
		}
	}
}

func TestP58InvalidTablesHaveNoRendering(t *testing.T) {
	for _, table := range badTables(t) {
		if got := impl.RenderTable(table); got != nil {
			t.Errorf("RenderTable(%v) = %q, want nil", table, got)
		}
		if got := impl.TransposeTable(table); got != nil {
			t.Errorf("TransposeTable(%v) = %v, want nil", table, got)
		}
	}
}

func TestP58EmptyTables(t *testing.T) {
	checkTable(t, nil)
	// Columns without a row, and rows without a column.
	checkTable(t, []string{"1a column -", "2a column -"})
	checkTable(t, []string{"1a row -", "2a row -"}, "", "")
	checkTable(t, []string{"1a row -", "2a column -", "3a remove 1a"})
	checkTable(t, []string{"1a row -", "2a column -", "3a set 1a 2a x", "4a remove 2a"}, "")
	checkTable(t, []string{"2a remove 1a", "3a set 1a 2a x"})
}

func TestP58RowsAndColumnsInOrder(t *testing.T) {
	named := behind(grid, "6a set 1a 2b ab", "6b set 3c 2b cb", "6c set 4a 2b db", "7a set 1a 5b ae", "7b set 3c 5b ce", "7c set 4a 5b de")
	checkTable(t, named, "ce cb", "ae ab", "de db")
	// Two rows behind the same one: the later one is in front.
	checkTable(t, behind(named, "8a row 1a", "9a row 1a", "10b set 8a 2b first", "10c set 9a 2b second"), "ce cb", "ae ab", ". second", ". first", "de db")
	checkTable(t, behind(named, "8a column 5b", "9a column 5b", "10b set 1a 8a first", "10c set 1a 9a second"), "ce . . cb", "ae second first ab", "de . . db")
	// Behind the last one, and in front of all.
	checkTable(t, behind(named, "8a row 4a", "9a set 8a 5b last"), "ce cb", "ae ab", "de db", "last .")
	checkTable(t, behind(named, "8a row -", "9a set 8a 5b first"), "first .", "ce cb", "ae ab", "de db")
	checkTable(t, behind(named, "8a column 2b", "9a set 1a 8a last"), "ce cb .", "ae ab last", "de db .")
	checkTable(t, behind(named, "8a column -", "9a set 1a 8a first"), ". ce cb", "first ae ab", ". de db")
}

func TestP58RowsBehindWhatIsNoRow(t *testing.T) {
	named := behind(grid, "6a set 1a 2b ab", "6b set 3c 2b cb", "6c set 4a 2b db", "7a remove 3c")
	// Nothing has the ID; it is a column; it is no row or column at all.
	for _, none := range []string{"1b", "2a", "2b", "5b", "6a", "7a"} {
		checkTable(t, behind(named, "8a row "+none, "9a set 8a 2b new"), ". new", ". ab", ". db")
	}
	for _, none := range []string{"1b", "2a", "1a", "3c", "4a", "6a", "7a"} {
		checkTable(t, behind(named, "8a column "+none, "9a set 1a 8a new"), "new . ab", ". . db")
	}
	// The place of a removed row or column is known.
	checkTable(t, behind(grid, "6a remove 1a", "7a row 1a", "8a set 7a 2b new", "8b set 4a 2b old"), ". .", ". new", ". old")
	checkTable(t, behind(grid, "6a row 1a", "7a set 6a 2b new", "8a remove 1a", "8b set 4a 2b old"), ". .", ". new", ". old")
	checkTable(t, behind(grid, "6a remove 5b", "7a column 5b", "8a set 4a 7a new", "8b set 4a 2b old"), ". .", ". .", "new old")
	checkTable(t, behind(grid, "6a remove 2b", "7a column 2b", "8a set 4a 7a new", "8b set 4a 5b old"), ". .", ". .", "old new")
	// A row that comes later with the ID is another one.
	checkTable(t, []string{"1a column -", "2a row -", "3a row 1b", "4a row 3a", "5a set 2a 1a b", "6a set 3a 1a c", "7a set 4a 1a d"}, "c", "d", "b")
}

func TestP58Removals(t *testing.T) {
	named := behind(grid, "6a set 1a 2b ab", "6b set 3c 2b cb", "6c set 4a 2b db", "7a set 1a 5b ae", "7b set 3c 5b ce", "7c set 4a 5b de")
	checkTable(t, behind(named, "8a remove 1a"), "ce cb", "de db")
	checkTable(t, behind(named, "8b remove 2b"), "ce", "ae", "de")
	checkTable(t, behind(named, "8c remove 4a", "9a remove 5b"), "cb", "ab")
	checkTable(t, behind(named, "8a remove 3c", "8c remove 4a", "9a remove 1a"))
	checkTable(t, behind(named, "8a remove 2b", "8b remove 5b"), "", "", "")
	// Twice, and by another author.
	checkTable(t, behind(named, "8a remove 1a", "8c remove 1a", "9a remove 1a"), "ce cb", "de db")
	// What is not there, or is no row or column.
	checkTable(t, behind(named, "8a remove 1b", "8b remove 2a", "9a remove 6a", "10a remove 8a"), "ce cb", "ae ab", "de db")
	// The removal of a removal does not bring the row back.
	checkTable(t, behind(named, "8a remove 1a", "9a remove 8a"), "ce cb", "de db")
	// What is removed can still be set, and does not come back.
	checkTable(t, behind(named, "8a remove 1a", "9a set 1a 2b new"), "ce cb", "de db")
	// A removal may be older than the row, if that is inserted late.
	early := tableOf(t, "1a column -", "3a remove 2a", "4a row 2a")
	late, ok := impl.TableInsert(early, tableOp(t, "2a row -"))
	if got := cellLines(impl.RenderTable(late)); !ok || !slices.Equal(got, []string{"."}) {
		t.Errorf("RenderTable(%v) = %q, want the row 4a only", late, got)
	}
}

func TestP58Cells(t *testing.T) {
	checkTable(t, behind(grid, "6a set 1a 2b ab"), ". .", ". ab", ". .")
	// Set twice, by the same author and by another one, and cleared.
	checkTable(t, behind(grid, "6a set 1a 2b ab", "7a set 1a 2b new"), ". .", ". new", ". .")
	checkTable(t, behind(grid, "6c set 1a 2b ab", "7a set 1a 2b new"), ". .", ". new", ". .")
	checkTable(t, behind(grid, "6a set 1a 2b ab", "6b set 1a 2b"), ". .", ". .", ". .")
	checkTable(t, behind(grid, "6a set 1a 2b", "6b set 1a 2b ab", "6c set 1a 5b ae"), ". .", "ae ab", ". .")
	checkTable(t, behind(grid, "6a set 1a 2b", "6b set 3c 5b abcdefgh"), "abcdefgh .", ". .", ". .")
	// In a removed row or column, before and after the removal.
	checkTable(t, behind(grid, "6a set 1a 2b ab", "7a remove 1a", "8a set 1a 5b ae"), ". .", ". .")
	checkTable(t, behind(grid, "6a set 1a 2b ab", "7a remove 2b", "8a set 3c 2b cb", "9a set 3c 5b ce"), "ce", ".", ".")
	// Row and column exchanged, two rows, two columns, twice the same, and what is not there.
	for _, cell := range []string{"2b 1a", "5b 4a", "1a 3c", "1a 4a", "2b 5b", "1a 1a", "2b 2b", "1b 2b", "1a 2a", "1b 1c"} {
		checkTable(t, behind(grid, "6a set "+cell+" x"), ". .", ". .", ". .")
	}
}

func TestP58ATableIsRectangular(t *testing.T) {
	cells, texts := 0, 0
	someTables(58, func(table []impl.TableOp) {
		if !impl.ValidTable(table) {
			t.Fatalf("ValidTable(%v) = false", table)
		}
		rows, columns := modelList(table, impl.TableAddRow), modelList(table, impl.TableAddColumn)
		got := impl.RenderTable(table)
		if len(got) != len(rows) || slices.ContainsFunc(got, func(row []string) bool { return len(row) != len(columns) }) {
			t.Fatalf("RenderTable(%v) = %q, want %d rows of %d cells", table, got, len(rows), len(columns))
		}
		if want := modelCells(table); !sameCells(got, want) {
			t.Fatalf("RenderTable(%v) = %q, want %q", table, got, want)
		}
		for _, text := range slices.Concat(got...) {
			if cells++; text != "" {
				texts++
			}
		}
	})
	if cells < 20*rounds || texts < 2*rounds {
		t.Errorf("the tables of the test have only %d cells, of which %d have a text", cells, texts)
	}
}

func TestP59Transpositions(t *testing.T) {
	table := tableOf(t, "1a row -", "2b column -", "3c row 1a", "4a column 2b", "5a row 2b", "6a set 1a 2b ab", "7a set 3c 4a cd", "8a remove 3c", "9a remove 4a", "9b set 2b 1a", "9c set 1a 1a x")
	want := tableOf(t, "1a column -", "2b row -", "3c column 1a", "4a row 2b", "5a column 2b", "6a set 2b 1a ab", "7a set 4a 3c cd", "8a remove 3c", "9a remove 4a", "9b set 1a 2b", "9c set 1a 1a x")
	if got := impl.TransposeTable(table); !slices.Equal(got, want) {
		t.Errorf("TransposeTable(%v) = %v, want %v", table, got, want)
	}
	if got := impl.TransposeTable(want); !slices.Equal(got, table) {
		t.Errorf("TransposeTable(%v) = %v, want %v", want, got, table)
	}
	if got := impl.TransposeTable(nil); len(got) != 0 {
		t.Errorf("TransposeTable(nil) = %v", got)
	}
	full := manyRows(1, impl.MaxOps, 1)
	if got := impl.RenderTable(impl.TransposeTable(full)); len(impl.TransposeTable(full)) != impl.MaxOps || len(got) != 0 {
		t.Errorf("columns without rows are rendered as %q", got)
	}
}

func TestP59TranspositionIsAnInvolution(t *testing.T) {
	texts := 0
	someTables(59, func(table []impl.TableOp) {
		turned := impl.TransposeTable(table)
		if !impl.ValidTable(turned) || !slices.Equal(impl.TransposeTable(turned), table) {
			t.Fatalf("TransposeTable(%v) = %v, and back %v", table, turned, impl.TransposeTable(turned))
		}
		for i, o := range turned {
			if o.ID != table[i].ID || o.Text != table[i].Text {
				t.Fatalf("TransposeTable changes %v to %v", table[i], o)
			}
		}
		rows := impl.RenderTable(table)
		want := modelTransposed(rows, len(modelList(table, impl.TableAddColumn)))
		if got := impl.RenderTable(turned); !sameCells(got, want) {
			t.Fatalf("the table %v is %q, transposed %q, want %q", table, rows, got, want)
		}
		for _, text := range slices.Concat(rows...) {
			if text != "" {
				texts++
			}
		}
	})
	if texts < 2*rounds {
		t.Errorf("the tables of the test have only %d texts", texts)
	}
}

// checkTableInsert fails the test if the insertion of an operation does not give a table and ok.
func checkTableInsert(t *testing.T, table []impl.TableOp, o impl.TableOp, want []impl.TableOp, wantOK bool) {
	t.Helper()
	if got, ok := impl.TableInsert(table, o); ok != wantOK || !slices.Equal(got, want) {
		t.Errorf("TableInsert(%v, %v) = %v, %v, want %v, %v", table, o, got, ok, want, wantOK)
	}
}

func TestP60InsertionAtEachPlace(t *testing.T) {
	table := tableOf(t, "2b row -", "3a column -", "3c set 2b 3a x")
	for place, line := range []string{"1c row -", "2c column 1a", "3b remove 2b", "4a set 2b 3a y"} {
		o := tableOp(t, line)
		checkTableInsert(t, table, o, slices.Insert(slices.Clone(table), place, o), true)
		checkTableInsert(t, nil, o, []impl.TableOp{o}, true)
	}
	for _, o := range goodTableOps() {
		checkTableInsert(t, table, o, append(slices.Clone(table), o), true)
	}
}

func TestP60RefusedInsertions(t *testing.T) {
	table := tableOf(t, "2b row -", "3a column -", "3c set 2b 3a x")
	full := manyRows(2, impl.MaxOps, 1)
	for _, o := range badTableOps() {
		checkTableInsert(t, table, o, table, false)
		checkTableInsert(t, nil, o, nil, false)
		checkTableInsert(t, full, o, full, false)
	}
	// The ID is there, with the same or with another operation.
	for _, o := range append(table, tableOf(t, "2b column -", "2b row 1a", "3a remove 2b", "3c set 2b 3a y", "3c row -")...) {
		checkTableInsert(t, table, o, table, false)
	}
}

func TestP60FullAndInvalidTables(t *testing.T) {
	full := manyRows(2, impl.MaxOps, 1)
	for i, o := range full {
		checkTableInsert(t, slices.Delete(slices.Clone(full), i, i+1), o, full, true)
		checkTableInsert(t, full, o, full, false)
	}
	for _, line := range []string{"1b row -", "20a column -", "41c remove 2b", "99c set 2b 3b x"} {
		checkTableInsert(t, full, tableOp(t, line), full, false)
	}
	for _, table := range badTables(t) {
		for _, o := range append(goodTableOps()[:3], tableOp(t, "1b row -"), tableOp(t, "99c row -"), impl.TableOp{}) {
			checkTableInsert(t, table, o, nil, false)
		}
	}
}

func TestP60TableInsertionAddsExactlyOneOperation(t *testing.T) {
	r := rand.New(rand.NewSource(60))
	added, removed := 0, 0
	someTables(60, func(table []impl.TableOp) {
		for range min(len(table), 3) {
			i := r.Intn(len(table))
			rest := slices.Delete(slices.Clone(table), i, i+1)
			got, ok := impl.TableInsert(rest, table[i])
			if !ok || !impl.ValidTable(got) || !slices.Equal(got, table) {
				t.Fatalf("TableInsert(%v, %v) = %v, %v", rest, table[i], got, ok)
			}
			if again, ok := impl.TableInsert(got, table[i]); ok || !slices.Equal(again, table) {
				t.Fatalf("the second insertion of %v gives %v, %v", table[i], again, ok)
			}
			switch before, now := len(impl.RenderTable(rest)), len(impl.RenderTable(got)); {
			case now > before:
				added++
			case now < before:
				removed++
			}
		}
	})
	if added < rounds || removed < rounds/10 {
		t.Errorf("only %d insertions of the test add a row, and only %d remove one", added, removed)
	}
}

func TestTablesShareNoMemory(t *testing.T) {
	spare := impl.TableOp{ID: at(98, 2), Kind: impl.TableRemove, Target: at(77, 1)}
	check := func(table []impl.TableOp, o impl.TableOp) {
		t.Helper()
		checkFresh(t, "ValidTable", table, spare, func(table []impl.TableOp) []impl.TableOp { impl.ValidTable(table); return nil })
		checkFresh(t, "RenderTable", table, spare, func(table []impl.TableOp) []impl.TableOp { impl.RenderTable(table); return nil })
		checkFresh(t, "TransposeTable", table, spare, impl.TransposeTable)
		insert := func(table []impl.TableOp) []impl.TableOp { got, _ := impl.TableInsert(table, o); return got }
		checkFresh(t, "TableInsert", table, spare, insert)
		checkKept(t, "TransposeTable", spare, func() []impl.TableOp { return impl.TransposeTable(table) })
		checkKept(t, "TableInsert", spare, func() []impl.TableOp { return insert(table) })
	}
	tables := append(badTables(t)[:12], nil, tableOf(t, grid...), manyRows(2, impl.MaxOps, 1))
	for _, table := range tables {
		for _, o := range []impl.TableOp{{}, {ID: at(1, 2), Kind: impl.TableAddRow}, {ID: at(99, 2), Kind: impl.TableAddRow}, {ID: at(1, 0), Kind: impl.TableAddColumn}} {
			check(table, o)
		}
	}
	someTables(61, func(table []impl.TableOp) { check(table, impl.TableOp{ID: at(80, 0), Kind: impl.TableAddRow}) })
}

func TestRenderedRowsShareNoMemory(t *testing.T) {
	someTables(62, func(table []impl.TableOp) {
		want := modelCells(table)
		rows, kept := impl.RenderTable(table), impl.RenderTable(table)
		for i, cells := range rows {
			overwrite(cells, "other")
			for _, other := range rows[i+1:] {
				if slices.Contains(other[:cap(other)], "other") {
					t.Fatalf("two rows of %v share memory", table)
				}
			}
		}
		overwrite(rows, []string{"other"})
		if !sameCells(kept, want) || !sameCells(impl.RenderTable(table), want) {
			t.Fatalf("changing the rows of %v changes another result", table)
		}
	})
}
