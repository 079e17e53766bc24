package tests

import (
	"fmt"
	"math/rand"
	"slices"

	"loop.example/collabdoc/impl"
)

// modelActive reports whether o is active in log, by the definition of the document.
func modelActive(log []impl.Op, o impl.Op) bool {
	active := true
	for _, u := range log {
		if u.Kind == impl.OpUndo && u.Target == o.ID && u.ID.Author == o.ID.Author {
			active = u.Enable
		}
	}
	return active || o.Kind == impl.OpUndo
}

// modelDoc builds the document of a valid log step by step as the document says, with slices only.
func modelDoc(log []impl.Op) impl.Doc {
	var m model
	for _, o := range log {
		active := modelActive(log, o)
		switch {
		case o.Kind == impl.OpInsert:
			m.insertChar(o, active)
		case o.Kind == impl.OpAddBlock:
			m.addBlock(o, active)
		case !active:
		case o.Kind == impl.OpMoveBlock:
			m.moveBlock(o)
		case o.Kind == impl.OpFormat:
			m.format(o)
		default:
			m.change(o)
		}
	}
	return impl.Doc(m)
}

type model impl.Doc

func (m *model) char(id impl.Stamp) int {
	return slices.IndexFunc(m.Chars, func(c impl.Char) bool { return c.ID == id })
}

func (m *model) block(id impl.Stamp) int {
	return slices.IndexFunc(m.Blocks, func(b impl.Block) bool { return b.ID == id })
}

func (m *model) rootOrBlock(id impl.Stamp) bool {
	return id == impl.Stamp{} || m.block(id) >= 0
}

func (m *model) insertChar(o impl.Op, active bool) {
	left := m.char(o.After)
	if !m.rootOrBlock(o.Target) || o.After != (impl.Stamp{}) && (left < 0 || m.Chars[left].Block != o.Target) {
		return
	}
	m.Chars = slices.Insert(m.Chars, left+1, impl.Char{ID: o.ID, Block: o.Target, Byte: o.Value, Deleted: !active})
}

func (m *model) addBlock(o impl.Op, active bool) {
	if m.rootOrBlock(o.Target) {
		m.placeBlock(impl.Block{ID: o.ID, Kind: o.Value, Parent: o.Target, Deleted: !active}, o.After)
	}
}

func (m *model) placeBlock(b impl.Block, after impl.Stamp) {
	left := m.block(after)
	if left >= 0 && m.Blocks[left].Parent != b.Parent {
		left = -1
	}
	m.Blocks = slices.Insert(m.Blocks, left+1, b)
}

func (m *model) moveBlock(o impl.Op) {
	i := m.block(o.Target)
	if i < 0 || !m.rootOrBlock(o.NewParent) || isBelow(m.Blocks, o.NewParent, o.Target) {
		return
	}
	b := m.Blocks[i]
	b.Parent = o.NewParent
	m.Blocks = slices.Delete(m.Blocks, i, i+1)
	m.placeBlock(b, o.After)
}

func (m *model) format(o impl.Op) {
	first, last := m.char(o.Target), m.char(o.After)
	if first < 0 || last < first || m.Chars[first].Block != m.Chars[last].Block {
		return
	}
	for i := first; i <= last; i++ {
		if m.Chars[i].Block != m.Chars[first].Block {
			continue
		}
		bit := []int{0, 1, 2, 4}[o.Value]
		m.Chars[i].Marks -= m.Chars[i].Marks & bit
		if o.Enable {
			m.Chars[i].Marks += bit
		}
	}
}

func (m *model) change(o impl.Op) {
	char, block := m.char(o.Target), m.block(o.Target)
	switch {
	case o.Kind == impl.OpDelete && char >= 0:
		m.Chars[char].Deleted = true
	case o.Kind == impl.OpSetKind && block >= 0:
		m.Blocks[block].Kind = o.Value
	case o.Kind == impl.OpRemoveBlock && block >= 0:
		m.Blocks[block].Deleted = true
	case o.Kind == impl.OpComment && char >= 0 && m.char(o.After) >= 0:
		m.Comments = append(m.Comments, impl.Comment{ID: o.ID, From: o.Target, To: o.After, Texts: []string{o.Text}})
	case o.Kind == impl.OpReply:
		for i, c := range m.Comments {
			if c.ID == o.Target {
				m.Comments[i].Texts = append(c.Texts, o.Text)
			}
		}
	}
}

// isBelow reports whether id is the block top or one of its descendants. It gives up after as many steps as there are blocks.
func isBelow(blocks []impl.Block, id impl.Stamp, top impl.Stamp) bool {
	for range len(blocks) + 1 {
		if id == top {
			return true
		}
		i := slices.IndexFunc(blocks, func(b impl.Block) bool { return b.ID == id })
		if i < 0 {
			return false
		}
		id = blocks[i].Parent
	}
	return false
}

// someDocLogs calls yield with logs of all lengths, most of whose operations have an effect.
func someDocLogs(seed int64, yield func(log []impl.Op)) {
	r := rand.New(rand.NewSource(seed))
	for range rounds {
		for _, n := range []int{r.Intn(8), r.Intn(impl.MaxOps), impl.MaxOps} {
			yield(randomDocLog(r, n, randomWeights(r)))
		}
	}
}

// randomWeights returns for each kind how frequent it is in a log.
func randomWeights(r *rand.Rand) []int {
	return []int{1 + r.Intn(8), r.Intn(3), r.Intn(3), 1 + r.Intn(4), r.Intn(8), r.Intn(2), r.Intn(2), r.Intn(2), r.Intn(2), r.Intn(4)}
}

// randomDocLog returns a log of n operations that refer to earlier ones, most of them to one of the right kind.
func randomDocLog(r *rand.Rand, n int, weights []int) []impl.Op {
	var log []impl.Op
	id := at(1, r.Intn(impl.MaxAuthors))
	for range n {
		kind := weighted(r, weights)
		if o := docOp(r, log, id, kind); impl.ValidOp(o) {
			log = append(log, o)
		} else {
			log = append(log, impl.Op{ID: id, Kind: impl.OpInsert, Value: 'a' + r.Intn(26)})
		}
		id = log[len(log)-1].ID
		if step := 1 + r.Intn(impl.MaxAuthors); id.Author+step < impl.MaxAuthors {
			id.Author += step
		} else {
			id = at(id.Seq+1, r.Intn(impl.MaxAuthors))
		}
	}
	return log
}

// weighted returns an operation kind with a probability by its weight.
func weighted(r *rand.Rand, weights []int) int {
	total := 0
	for _, w := range weights {
		total += w
	}
	n := r.Intn(total)
	for kind, w := range weights {
		if n < w {
			return kind + 1
		}
		n -= w
	}
	return impl.OpInsert
}

// docOp returns an operation of a kind behind log. It may be invalid if log has nothing to refer to.
func docOp(r *rand.Rand, log []impl.Op, id impl.Stamp, kind int) impl.Op {
	o := impl.Op{ID: id, Kind: kind}
	char, block := refTo(r, log, impl.OpInsert), refTo(r, log, impl.OpAddBlock)
	switch kind {
	case impl.OpInsert:
		o.Target, o.After, o.Value = block, char, 32+r.Intn(95)
		if i := slices.IndexFunc(log, func(x impl.Op) bool { return x.ID == char }); i >= 0 && r.Intn(8) > 0 {
			o.Target = log[i].Target
		}
		if r.Intn(6) == 0 {
			o.After = impl.Stamp{}
		}
	case impl.OpDelete:
		o.Target = char
	case impl.OpFormat:
		o.Target, o.After, o.Value, o.Enable = char, refTo(r, log, impl.OpInsert), 1+r.Intn(impl.MaxMarks), r.Intn(3) > 0
	case impl.OpAddBlock:
		o.Target, o.After, o.Value = block, refTo(r, log, impl.OpAddBlock), 1+r.Intn(impl.MaxKind)
	case impl.OpMoveBlock:
		o.Target, o.After, o.NewParent = block, refTo(r, log, impl.OpAddBlock), refTo(r, log, impl.OpAddBlock)
	case impl.OpSetKind:
		o.Target, o.Value = block, 1+r.Intn(impl.MaxKind)
	case impl.OpRemoveBlock:
		o.Target = block
	case impl.OpComment:
		o.Target, o.After, o.Text = char, refTo(r, log, impl.OpInsert), "note"
	case impl.OpReply:
		o.Target, o.Text = refTo(r, log, impl.OpComment), "reply"
	case impl.OpUndo:
		return undoOf(r, log, id)
	}
	return o
}

// undoOf returns an undo or redo of an operation of log, in most cases by its author and in many cases not the first one.
func undoOf(r *rand.Rand, log []impl.Op, id impl.Stamp) impl.Op {
	if len(log) == 0 {
		return impl.Op{}
	}
	target := log[r.Intn(len(log))]
	if target.Kind == impl.OpUndo && r.Intn(8) > 0 {
		target.ID = target.Target
	}
	if r.Intn(5) > 0 {
		id = at(id.Seq+1, target.ID.Author)
	}
	return impl.Op{ID: id, Kind: impl.OpUndo, Target: target.ID, Enable: r.Intn(2) == 0}
}

// refTo returns the ID of an operation of a kind, sometimes of any other one or the zero stamp.
func refTo(r *rand.Rand, log []impl.Op, kind int) impl.Stamp {
	var ids []impl.Stamp
	ofAnyKind := r.Intn(12) == 0
	for _, o := range log {
		if ofAnyKind || o.Kind == kind {
			ids = append(ids, o.ID)
		}
	}
	if len(ids) == 0 || r.Intn(8) == 0 {
		return impl.Stamp{}
	}
	return ids[r.Intn(len(ids))]
}

// docLines returns the text of a document, a line for each character, block and comment.
func docLines(d impl.Doc) []string {
	gone := func(deleted bool) string {
		if deleted {
			return " deleted"
		}
		return ""
	}
	var lines []string
	for _, c := range d.Chars {
		marks := ""
		if c.Marks != 0 {
			marks = fmt.Sprint(" marks ", c.Marks)
		}
		lines = append(lines, fmt.Sprintf("char %s in %s %c%s%s", impl.EncodeStamp(c.ID), impl.EncodeStamp(c.Block), c.Byte, marks, gone(c.Deleted)))
	}
	for _, b := range d.Blocks {
		lines = append(lines, fmt.Sprintf("block %s in %s kind %d%s", impl.EncodeStamp(b.ID), impl.EncodeStamp(b.Parent), b.Kind, gone(b.Deleted)))
	}
	for _, c := range d.Comments {
		lines = append(lines, fmt.Sprintf("note %s from %s to %s %q", impl.EncodeStamp(c.ID), impl.EncodeStamp(c.From), impl.EncodeStamp(c.To), c.Texts))
	}
	return lines
}
