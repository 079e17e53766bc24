package tests

import (
	"fmt"
	"math/rand"
	"slices"

	"loop.example/collabdoc/impl"
)

// modelPlace returns the index of a character among all characters of a document, or -1.
func modelPlace(d impl.Doc, id impl.Stamp) int {
	return slices.IndexFunc(d.Chars, func(c impl.Char) bool { return c.ID == id })
}

// modelCount returns how many visible characters of a block are among the first n characters of a document.
func modelCount(d impl.Doc, block impl.Stamp, n int) int {
	return len(modelChars(impl.Doc{Chars: d.Chars[:n]}, block))
}

// modelHas reports whether a document has a block. The root is one.
func modelHas(d impl.Doc, block impl.Stamp) bool {
	return block == impl.Stamp{} || slices.ContainsFunc(d.Blocks, func(b impl.Block) bool { return b.ID == block })
}

func modelCursorIndex(d impl.Doc, c impl.Cursor) int {
	place := modelPlace(d, c.After)
	switch {
	case !modelHas(d, c.Block):
		return -1
	case c.After == impl.Stamp{}:
		return 0
	case place < 0 || d.Chars[place].Block != c.Block:
		return -1
	}
	return modelCount(d, c.Block, place+1)
}

// modelRange returns the range of a comment, checking what the document names one after the other.
func modelRange(d impl.Doc, id impl.Stamp) (impl.Range, bool) {
	i := slices.IndexFunc(d.Comments, func(c impl.Comment) bool { return c.ID == id })
	if i < 0 {
		return impl.Range{}, false
	}
	first, last := modelPlace(d, d.Comments[i].From), modelPlace(d, d.Comments[i].To)
	block := d.Chars[first].Block
	if d.Chars[last].Block != block || first > last {
		return impl.Range{}, false
	}
	r := impl.Range{Block: block, From: modelCount(d, block, first), To: modelCount(d, block, last+1)}
	if r.From == r.To {
		return impl.Range{}, false
	}
	return r, true
}

// modelComments returns the comments of a valid log, each with its active replies.
func modelComments(log []impl.Op) []impl.Comment {
	d := modelDoc(log)
	var comments []impl.Comment
	for _, o := range log {
		if o.Kind != impl.OpComment || !modelActive(log, o) || modelPlace(d, o.Target) < 0 || modelPlace(d, o.After) < 0 {
			continue
		}
		c := impl.Comment{ID: o.ID, From: o.Target, To: o.After, Texts: []string{o.Text}}
		for _, reply := range log {
			if reply.Kind == impl.OpReply && reply.Target == o.ID && modelActive(log, reply) {
				c.Texts = append(c.Texts, reply.Text)
			}
		}
		comments = append(comments, c)
	}
	return comments
}

// commentLines returns the text of comments, a line for each.
func commentLines(comments []impl.Comment) []string {
	return docLines(impl.Doc{Comments: comments})
}

// modelPrefix returns the operations of a log that a vector contains.
func modelPrefix(log []impl.Op, v []int) []impl.Op {
	return slices.DeleteFunc(slices.Clone(log), func(o impl.Op) bool { return o.ID.Seq > v[o.ID.Author] })
}

// blocksOf returns the IDs of the blocks of a log, the root, and IDs that no block has.
func blocksOf(log []impl.Op) []impl.Stamp {
	ids := []impl.Stamp{{}, at(99, 2), at(-1, 0), at(1, impl.MaxAuthors)}
	for _, b := range modelDoc(log).Blocks {
		ids = append(ids, b.ID)
	}
	if len(log) > 0 && !modelHas(modelDoc(log), log[len(log)-1].ID) {
		ids = append(ids, log[len(log)-1].ID)
	}
	return ids
}

// idsOf returns the IDs of a log, the zero stamp, and IDs that no operation has.
func idsOf(log []impl.Op) []impl.Stamp {
	ids := []impl.Stamp{{}, at(99, 2), at(-1, 0), at(1, impl.MaxAuthors)}
	for _, o := range log {
		ids = append(ids, o.ID)
	}
	return ids
}

// somePlaceLogs calls yield with the logs of someViewLogs, with logs that have long texts with many deletions, and with logs that have many comments and replies.
func somePlaceLogs(seed int64, yield func(log []impl.Op)) {
	someViewLogs(seed, yield)
	r := rand.New(rand.NewSource(seed))
	for range rounds {
		yield(randomDocLog(r, 10+r.Intn(impl.MaxOps-9), []int{16, 6, 0, 2, 0, 0, 1, 0, 0, r.Intn(4)}))
		yield(randomDocLog(r, 10+r.Intn(impl.MaxOps-9), []int{10, 3, 0, 1, 0, 0, 1, 8, 4, r.Intn(4)}))
	}
}

// stampOf returns the stamp with a text form.
func stampOf(text string) impl.Stamp {
	s, ok := impl.DecodeStamp(text)
	if !ok {
		panic(fmt.Sprintf("%q is no stamp", text))
	}
	return s
}

// stampTexts returns the text forms of stamps.
func stampTexts(stamps []impl.Stamp) []string {
	var texts []string
	for _, s := range stamps {
		texts = append(texts, impl.EncodeStamp(s))
	}
	return texts
}
