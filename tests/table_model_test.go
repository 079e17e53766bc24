package tests

import (
	"math/rand"
	"slices"
	"strings"
	"testing"

	"loop.example/collabdoc/impl"
)

// tableKinds has the words for the kinds of table operations in tests.
var tableKinds = map[string]int{"row": impl.TableAddRow, "column": impl.TableAddColumn, "remove": impl.TableRemove, "set": impl.TableSetCell}

// tableOp returns a table operation, which need not be valid. It is written as "1a row -", "2b column 1a", "3c remove 1a", "4a set 1a 2b word", or "4a set 1a 2b" without a text.
func tableOp(t *testing.T, line string) impl.TableOp {
	t.Helper()
	words := append(strings.Fields(line), "-", "")
	o := impl.TableOp{ID: stampOf(words[0]), Kind: tableKinds[words[1]], Target: stampOf(words[2])}
	if o.Kind == 0 {
		t.Fatalf("%q has no kind", line)
	}
	if o.Kind == impl.TableSetCell {
		o.Column, o.Text = stampOf(words[3]), strings.TrimPrefix(words[4], "-")
	}
	return o
}

// tableOf returns table operations, one per string.
func tableOf(t *testing.T, lines ...string) []impl.TableOp {
	t.Helper()
	table := []impl.TableOp{}
	for _, line := range lines {
		table = append(table, tableOp(t, line))
	}
	return table
}

// manyRows returns n operations by author who that add rows, with the sequence numbers from first on.
func manyRows(first int, n int, who int) []impl.TableOp {
	table := []impl.TableOp{}
	for i := range n {
		table = append(table, impl.TableOp{ID: at(first+i, who), Kind: impl.TableAddRow})
	}
	return table
}

// cellLines returns the rows of a rendered table. Empty cells are written as points.
func cellLines(rows [][]string) []string {
	var lines []string
	for _, cells := range rows {
		line := []string{}
		for _, text := range cells {
			if text == "" {
				text = "."
			}
			line = append(line, text)
		}
		lines = append(lines, strings.Join(line, " "))
	}
	return lines
}

// modelList returns the IDs that the operations of a kind add and no operation removes, in order.
func modelList(table []impl.TableOp, kind int) []impl.Stamp {
	var list []impl.Stamp
	for _, o := range table {
		if o.Kind == kind {
			list = slices.Insert(list, 1+slices.Index(list, o.Target), o.ID)
		}
	}
	return slices.DeleteFunc(list, func(id impl.Stamp) bool {
		return slices.ContainsFunc(table, func(o impl.TableOp) bool { return o.Kind == impl.TableRemove && o.Target == id })
	})
}

// modelCells renders a valid table as the document says, with slices only.
func modelCells(table []impl.TableOp) [][]string {
	var rows [][]string
	for _, row := range modelList(table, impl.TableAddRow) {
		cells := []string{}
		for _, column := range modelList(table, impl.TableAddColumn) {
			text := ""
			for _, o := range table {
				if o.Kind == impl.TableSetCell && o.Target == row && o.Column == column {
					text = o.Text
				}
			}
			cells = append(cells, text)
		}
		rows = append(rows, cells)
	}
	return rows
}

// modelTransposed returns the cells of a table with the given number of columns, column by column.
func modelTransposed(rows [][]string, columns int) [][]string {
	var transposed [][]string
	for i := range columns {
		cells := []string{}
		for _, row := range rows {
			cells = append(cells, row[i])
		}
		transposed = append(transposed, cells)
	}
	return transposed
}

// sameCells reports whether two rendered tables are equal.
func sameCells(a [][]string, b [][]string) bool {
	return slices.EqualFunc(a, b, slices.Equal[[]string])
}

// someTables calls yield with tables of all lengths, most of whose operations have an effect.
func someTables(seed int64, yield func(table []impl.TableOp)) {
	r := rand.New(rand.NewSource(seed))
	for range rounds {
		for _, n := range []int{r.Intn(8), r.Intn(impl.MaxOps), impl.MaxOps} {
			yield(randomTable(r, n))
		}
	}
}

// randomTable returns a valid table of n operations.
func randomTable(r *rand.Rand, n int) []impl.TableOp {
	weights := []int{1 + r.Intn(4), 1 + r.Intn(4), r.Intn(3), r.Intn(10)}
	table := []impl.TableOp{}
	id := at(1, r.Intn(impl.MaxAuthors))
	for range n {
		table = append(table, randomTableOp(r, table, id, weighted(r, weights)))
		if step := 1 + r.Intn(impl.MaxAuthors); id.Author+step < impl.MaxAuthors {
			id.Author += step
		} else {
			id = at(id.Seq+1+r.Intn(2), r.Intn(impl.MaxAuthors))
		}
	}
	return table
}

// randomTableOp returns an operation of a kind behind those of a table, or one that adds a row if there is nothing yet to refer to.
func randomTableOp(r *rand.Rand, table []impl.TableOp, id impl.Stamp, kind int) impl.TableOp {
	line := func(kind int) impl.Stamp {
		var ids []impl.Stamp
		ofAnyKind := r.Intn(12) == 0
		for _, o := range table {
			if ofAnyKind || o.Kind == kind {
				ids = append(ids, o.ID)
			}
		}
		if len(ids) == 0 {
			return impl.Stamp{}
		}
		return ids[r.Intn(len(ids))]
	}
	o := impl.TableOp{ID: id, Kind: kind, Target: line(impl.TableAddRow)}
	column := line(impl.TableAddColumn)
	switch {
	case kind == impl.TableAddColumn || kind == impl.TableRemove && r.Intn(2) == 0:
		o.Target = column
	case kind == impl.TableSetCell:
		o.Column, o.Text = column, []string{"", "a", "bc", "def", "ghijklmn"}[r.Intn(5)]
	}
	if o.Kind <= impl.TableAddColumn && r.Intn(4) == 0 {
		o.Target = impl.Stamp{}
	}
	if kind >= impl.TableRemove && (o.Target == impl.Stamp{}) || kind == impl.TableSetCell && (o.Column == impl.Stamp{}) {
		return impl.TableOp{ID: id, Kind: impl.TableAddRow}
	}
	return o
}
