package tests

import (
	"fmt"
	"math/rand"
	"slices"
	"strings"

	"loop.example/collabdoc/impl"
)

// allowed has the pairs of a parent kind and a kind that the schema allows.
var allowed = map[[2]int]bool{
	{0, impl.Paragraph}: true, {0, impl.Heading}: true, {0, impl.List}: true,
	{impl.List, impl.ListItem}:      true,
	{impl.ListItem, impl.Paragraph}: true, {impl.ListItem, impl.List}: true,
}

// modelFits reports whether a row of a kind and a depth may come behind rows that satisfy the schema.
func modelFits(rows []impl.Row, kind int, depth int) bool {
	before := -1
	if len(rows) > 0 {
		before = rows[len(rows)-1].Depth
	}
	if depth < 0 || depth-1 > before {
		return false
	}
	parent := 0
	for i := len(rows) - 1; i >= 0 && depth > 0; i-- {
		if rows[i].Depth == depth-1 {
			parent = rows[i].Kind
			break
		}
	}
	return allowed[[2]int{parent, kind}]
}

func modelValidRows(rows []impl.Row) bool {
	for i, row := range rows {
		if !modelFits(rows[:i], row.Kind, row.Depth) {
			return false
		}
	}
	return true
}

// modelRows renders the document of a valid log as the document says, with slices only.
func modelRows(log []impl.Op) []impl.Row {
	d := modelDoc(log)
	var rows []impl.Row
	var below func(parent impl.Stamp, depth int)
	below = func(parent impl.Stamp, depth int) {
		for _, b := range d.Blocks {
			if b.Parent != parent || b.Deleted {
				continue
			}
			row := impl.Row{ID: b.ID, Kind: impl.Paragraph}
			for try := depth; try >= 0; try-- {
				if modelFits(rows, b.Kind, try) {
					row.Kind, row.Depth = b.Kind, try
					break
				}
			}
			for _, c := range modelChars(d, b.ID) {
				row.Text += string([]byte{byte(c.Byte)})
			}
			rows = append(rows, row)
			below(b.ID, depth+1)
		}
	}
	below(impl.Stamp{}, 0)
	return rows
}

// modelChars returns the characters of a block that are not deleted.
func modelChars(d impl.Doc, block impl.Stamp) []impl.Char {
	return slices.DeleteFunc(slices.Clone(d.Chars), func(c impl.Char) bool { return c.Block != block || c.Deleted })
}

// modelRuns splits the characters of a block wherever the marks of two neighbours differ.
func modelRuns(log []impl.Op, block impl.Stamp) []impl.Run {
	chars := modelChars(modelDoc(log), block)
	var runs []impl.Run
	first := 0
	for i, c := range chars {
		if i+1 < len(chars) && chars[i+1].Marks == c.Marks {
			continue
		}
		run := impl.Run{Marks: c.Marks}
		for _, x := range chars[first : i+1] {
			run.Text += string([]byte{byte(x.Byte)})
		}
		runs = append(runs, run)
		first = i + 1
	}
	return runs
}

// modelMarkup writes the tags from sets of open tags.
func modelMarkup(runs []impl.Run) string {
	text := ""
	open := map[string]bool{}
	tags := func(marks uint) {
		for _, tag := range []string{"c", "i", "b"} {
			if open[tag] && !marked(marks, tag) {
				text += "</" + tag + ">"
				open[tag] = false
			}
		}
		for _, tag := range []string{"b", "i", "c"} {
			if !open[tag] && marked(marks, tag) {
				text += "<" + tag + ">"
				open[tag] = true
			}
		}
	}
	for _, run := range runs {
		tags(uint(run.Marks))
		text += strings.ReplaceAll(strings.ReplaceAll(run.Text, "&", "&amp;"), "<", "&lt;")
	}
	tags(0)
	return text
}

// marked reports whether a bit set has the mark of a tag.
func marked(marks uint, tag string) bool {
	return marks/map[string]uint{"b": 1, "i": 2, "c": 4}[tag]%2 == 1
}

// rowLines returns the text of rows, a line for each.
func rowLines(rows []impl.Row) []string {
	var lines []string
	for _, row := range rows {
		kind := fmt.Sprint("kind ", row.Kind)
		if row.Kind >= 0 && row.Kind <= impl.MaxKind {
			kind = []string{"root", "paragraph", "heading", "list", "item"}[row.Kind]
		}
		lines = append(lines, strings.TrimRight(fmt.Sprintf("%s %s %d %s", impl.EncodeStamp(row.ID), kind, row.Depth, row.Text), " "))
	}
	return lines
}

// runLines returns the text of runs, a line for each.
func runLines(runs []impl.Run) []string {
	var lines []string
	for _, run := range runs {
		lines = append(lines, fmt.Sprintf("%d %q", run.Marks, run.Text))
	}
	return lines
}

// viewLines returns all that the functions of the package tell of the document of a log: its parts, its rows, and its formatted texts.
func viewLines(log []impl.Op) []string {
	d := impl.BuildDoc(log)
	lines := append(docLines(d), rowLines(impl.Render(log))...)
	lines = append(lines, fmt.Sprintf("text %q", impl.RenderText(log)))
	for _, b := range append([]impl.Block{{}}, d.Blocks...) {
		runs := impl.FormatRuns(log, b.ID)
		lines = append(lines, fmt.Sprintf("markup of %s: %q, runs %q", impl.EncodeStamp(b.ID), impl.RunsMarkup(runs), runLines(runs)))
	}
	return lines
}

// someViewLogs calls yield with the logs of someDocLogs, with logs that have deep rows, and with logs that have texts with many marks.
func someViewLogs(seed int64, yield func(log []impl.Op)) {
	someDocLogs(seed, yield)
	r := rand.New(rand.NewSource(seed))
	for range rounds {
		tree := randomDocLog(r, 10+r.Intn(impl.MaxOps-9), []int{2, 1, 0, 10, r.Intn(4), r.Intn(2), r.Intn(2), 0, 0, r.Intn(2)})
		fitKinds(r, tree)
		yield(tree)
		yield(randomDocLog(r, 20+r.Intn(impl.MaxOps-19), []int{16, 1 + r.Intn(3), 8, 1, 0, 0, 0, 0, 0, r.Intn(2)}))
	}
}

// fitKinds sets the kinds of most blocks to one that the schema allows below the first kind of their parent.
func fitKinds(r *rand.Rand, log []impl.Op) {
	kinds := map[impl.Stamp]int{}
	for i, o := range log {
		if o.Kind != impl.OpAddBlock {
			continue
		}
		for r.Intn(8) > 0 && !allowed[[2]int{kinds[o.Target], log[i].Value}] {
			log[i].Value = []int{impl.Paragraph, impl.Heading, impl.List, impl.List, impl.List, impl.ListItem}[r.Intn(6)]
		}
		kinds[o.ID] = log[i].Value
	}
}
