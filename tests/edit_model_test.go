package tests

import (
	"fmt"
	"math/rand"
	"slices"
	"strings"
	"testing"

	"loop.example/collabdoc/impl"
)

// opLines returns the text forms of operations.
func opLines(list []impl.Op) []string {
	var lines []string
	for _, o := range list {
		lines = append(lines, impl.EncodeOp(o))
	}
	return lines
}

// matchLines returns the text of matches, a line for each.
func matchLines(matches []impl.Match) []string {
	var lines []string
	for _, m := range matches {
		lines = append(lines, fmt.Sprintf("%s %d", impl.EncodeStamp(m.Block), m.Index))
	}
	return lines
}

// textIn returns the visible text of a block of a document.
func textIn(d impl.Doc, block impl.Stamp) string {
	text := ""
	for _, c := range modelChars(d, block) {
		text += string([]byte{byte(c.Byte)})
	}
	return text
}

// checkTexts fails the test if a block of a log does not have a text, or the text of another block is not as in the log before.
func checkTexts(t *testing.T, before []impl.Op, log []impl.Op, block impl.Stamp, want string) {
	t.Helper()
	if !impl.ValidLog(log) {
		t.Fatalf("the edit of %v gives the invalid log %v", before, log)
	}
	old, now := modelDoc(before), modelDoc(log)
	for _, id := range blocksOf(before) {
		expected := textIn(old, id)
		if id == block {
			expected = want
		}
		if got := textIn(now, id); got != expected {
			t.Fatalf("after the edit of %v by %q the block %v has the text %q, want %q", before, opLines(log[len(before):]), id, got, expected)
		}
	}
}

// shifted returns a log with larger sequence numbers.
func shifted(log []impl.Op, by int) []impl.Op {
	moved := slices.Clone(log)
	for i := range moved {
		for _, s := range []*impl.Stamp{&moved[i].ID, &moved[i].Target, &moved[i].After, &moved[i].NewParent} {
			if s.Seq > 0 {
				s.Seq += by
			}
		}
	}
	return moved
}

// someEditLogs calls yield with logs most of which have room for some more operations. Some of them have a counter near MaxCounter.
func someEditLogs(seed int64, yield func(log []impl.Op)) {
	r := rand.New(rand.NewSource(seed))
	somePlaceLogs(seed, func(log []impl.Op) {
		log = log[:min(len(log), impl.MaxOps-r.Intn(16))]
		if len(log) > 0 && r.Intn(6) == 0 {
			log = shifted(log, impl.MaxCounter-r.Intn(10)-log[len(log)-1].ID.Seq)
		}
		yield(log)
	})
}

// someWordLogs calls yield with logs whose texts consist of few different letters. Many of them have long texts in paragraphs.
func someWordLogs(seed int64, yield func(log []impl.Op)) {
	r := rand.New(rand.NewSource(seed))
	spelled := func(log []impl.Op) {
		log = slices.Clone(log)
		letters := 1 + r.Intn(3)
		for i := range log {
			if log[i].Kind == impl.OpInsert {
				log[i].Value = 'a' + r.Intn(letters)
			}
		}
		yield(log)
	}
	someEditLogs(seed, spelled)
	for range 3 * rounds {
		log := randomDocLog(r, 10+r.Intn(impl.MaxOps-9), []int{16, 2, 0, 2, 0, 0, 0, 0, 0, r.Intn(2)})
		inParagraphs(log)
		spelled(log)
	}
}

// inParagraphs makes all blocks of a log paragraphs below the root, the first operation one that adds a block, and puts into it what is in the root.
func inParagraphs(log []impl.Op) {
	log[0] = impl.Op{ID: log[0].ID, Kind: impl.OpAddBlock}
	for i, o := range log {
		switch {
		case o.Kind == impl.OpAddBlock:
			log[i].Target, log[i].Value = impl.Stamp{}, impl.Paragraph
		case o.Kind == impl.OpInsert && o.Target == impl.Stamp{}:
			log[i].Target = log[0].ID
		}
		if o.Kind == impl.OpInsert && o.After == log[0].ID {
			log[i].After = impl.Stamp{}
		}
	}
}

// someAuthor returns an author, or now and then a number that is none.
func someAuthor(r *rand.Rand) int {
	return []int{0, 0, 0, 0, 1, 1, 1, 1, 2, 2, 2, 2, -1, impl.MaxAuthors}[r.Intn(14)]
}

// someBlock returns the root or a block of a log, or now and then an ID that is none.
func someBlock(r *rand.Rand, log []impl.Op) impl.Stamp {
	ids := blocksOf(log)
	if d := modelDoc(log); r.Intn(10) > 0 {
		ids = slices.DeleteFunc(ids, func(id impl.Stamp) bool { return !modelHas(d, id) })
	}
	return ids[r.Intn(len(ids))]
}

// someText returns a text that can be inserted, or now and then one with another byte.
func someText(r *rand.Rand) string {
	text := make([]byte, r.Intn(2+r.Intn(12)))
	for i := range text {
		text[i] = byte(32 + r.Intn(95))
	}
	if len(text) > 0 && r.Intn(12) == 0 {
		text[r.Intn(len(text))] = []byte{0, '\n', 31, 127, 128, 255}[r.Intn(6)]
	}
	return string(text)
}

// modelStamps returns the stamps of an edit of n operations, checking what the document names one after the other.
func modelStamps(log []impl.Op, who int, n int) ([]impl.Stamp, bool) {
	last := 0
	for _, o := range log {
		last = max(last, o.ID.Seq)
	}
	if who < 0 || who >= impl.MaxAuthors || last == impl.MaxCounter || last+n > impl.MaxCounter || len(log)+n > impl.MaxOps {
		return nil, false
	}
	stamps := []impl.Stamp{}
	for i := range n {
		stamps = append(stamps, at(last+1+i, who))
	}
	return stamps, true
}

func modelInsert(log []impl.Op, who int, block impl.Stamp, index int, text string) ([]impl.Op, bool) {
	d := modelDoc(log)
	chars := modelChars(d, block)
	ids, fits := modelStamps(log, who, len(text))
	if !fits || !modelHas(d, block) || index < 0 || index > len(chars) {
		return nil, false
	}
	var list []impl.Op
	for i, id := range ids {
		o := impl.Op{ID: id, Kind: impl.OpInsert, Target: block, Value: int(text[i])}
		switch {
		case o.Value < 32 || o.Value > 126:
			return nil, false
		case i > 0:
			o.After = ids[i-1]
		case index > 0:
			o.After = chars[index-1].ID
		}
		list = append(list, o)
	}
	return list, true
}

func modelDelete(log []impl.Op, who int, block impl.Stamp, index int, count int) ([]impl.Op, bool) {
	d := modelDoc(log)
	chars := modelChars(d, block)
	if !modelHas(d, block) || index < 0 || count < 0 || index > len(chars) || count > len(chars) || index+count > len(chars) {
		return nil, false
	}
	ids, fits := modelStamps(log, who, count)
	if !fits {
		return nil, false
	}
	var list []impl.Op
	for i, id := range ids {
		list = append(list, impl.Op{ID: id, Kind: impl.OpDelete, Target: chars[index+i].ID})
	}
	return list, true
}

func modelMark(log []impl.Op, who int, block impl.Stamp, index int, count int, mark int, enable bool) (impl.Op, bool) {
	d := modelDoc(log)
	chars := modelChars(d, block)
	ids, fits := modelStamps(log, who, 1)
	if !fits || !modelHas(d, block) || index < 0 || count < 1 || index >= len(chars) || count > len(chars)-index || mark < 1 || mark > 3 {
		return impl.Op{}, false
	}
	return impl.Op{ID: ids[0], Kind: impl.OpFormat, Target: chars[index].ID, After: chars[index+count-1].ID, Value: mark, Enable: enable}, true
}

// modelFind finds a text in the rows of a valid log by cutting them apart.
func modelFind(log []impl.Op, text string) []impl.Match {
	var matches []impl.Match
	for _, row := range modelRows(log) {
		if text == "" {
			break
		}
		parts := strings.Split(row.Text, text)
		index := 0
		for _, part := range parts[:len(parts)-1] {
			index += len(part)
			matches = append(matches, impl.Match{Block: row.ID, Index: index})
			index += len(text)
		}
	}
	return matches
}

func modelReplace(log []impl.Op, who int, text string, repl string) ([]impl.Op, bool) {
	matches := modelFind(log, text)
	if len(matches) == 0 {
		return nil, false
	}
	inserted, ok := modelInsert(log, who, matches[0].Block, matches[0].Index, repl)
	if !ok {
		return nil, false
	}
	longer := append(slices.Clone(log), inserted...)
	deleted, ok := modelDelete(longer, who, matches[0].Block, matches[0].Index+len(repl), len(text))
	if !ok {
		return nil, false
	}
	return append(inserted, deleted...), true
}
