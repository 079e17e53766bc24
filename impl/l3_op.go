package impl

import (
	"strconv"
	"strings"
)

// Operation kinds.
const (
	OpInsert      = 1
	OpDelete      = 2
	OpFormat      = 3
	OpAddBlock    = 4
	OpMoveBlock   = 5
	OpSetKind     = 6
	OpRemoveBlock = 7
	OpComment     = 8
	OpReply       = 9
	OpUndo        = 10
)

// Limits of operations.
const (
	MaxMarks = 3
	MaxKind  = 4
	MaxWord  = 8
)

// Op is an operation. Which fields are used depends on Kind; all others are zero.
type Op struct {
	ID        Stamp
	Kind      int
	Target    Stamp
	After     Stamp
	NewParent Stamp
	Value     int
	Enable    bool
	Text      string
}

// ValidOp reports whether o is a valid operation: its ID is valid, only the fields of its kind are set, and every stamp that it references sorts before its own ID.
func ValidOp(o Op) bool {
	x, ok := operationOf(o)
	return ok && ValidStamp(o.ID) && x.valid(o.ID) && opOf(o.ID, x) == o
}

// EncodeOp returns the one-line text form of o, or "" if o is invalid.
func EncodeOp(o Op) string {
	x, ok := operationOf(o)
	if !ok || !ValidOp(o) {
		return ""
	}
	words := append([]string{EncodeStamp(o.ID), keywords[o.Kind]}, x.words()...)
	return strings.Join(words, " ")
}

// DecodeOp is the inverse of EncodeOp. It returns the zero Op and false if s is not the text form of any valid operation.
func DecodeOp(s string) (Op, bool) {
	r := wordReader{rest: s}
	id := r.stamp()
	x, ok := readOperation(kindOf(r.word()), &r)
	if !ok || !r.finished() {
		return Op{}, false
	}
	o := opOf(id, x)
	if !ValidOp(o) {
		return Op{}, false
	}
	return o, true
}

// keywords has the keyword of each kind at the index of the kind.
var keywords = [...]string{
	OpInsert:      "text",
	OpDelete:      "erase",
	OpFormat:      "mark",
	OpAddBlock:    "block",
	OpMoveBlock:   "move",
	OpSetKind:     "kind",
	OpRemoveBlock: "drop",
	OpComment:     "note",
	OpReply:       "reply",
	OpUndo:        "undo",
}

// kindOf returns the kind with a keyword, or 0 if there is none.
func kindOf(keyword string) int {
	for kind := OpInsert; kind <= OpUndo; kind++ {
		if keywords[kind] == keyword {
			return kind
		}
	}
	return 0
}

// operation is an operation without its ID. Each kind has a concrete type with the fields that the kind uses.
type operation interface {
	// op returns the Op with the kind and the fields of the operation, and a zero ID.
	op() Op
	// valid reports whether the fields are allowed in an operation with the given ID.
	valid(id Stamp) bool
	// words returns the words that follow the keyword in the text form.
	words() []string
	// apply changes d as the operation with the given ID does if it is active, or not at all if its condition is not met.
	apply(d *draft, id Stamp)
}

// opOf returns the Op of x with the given ID.
func opOf(id Stamp, x operation) Op {
	o := x.op()
	o.ID = id
	return o
}

// operationOf returns the operation of o, without the fields that its kind does not use. It returns false if there is no such kind.
func operationOf(o Op) (operation, bool) {
	switch o.Kind {
	case OpInsert:
		return insertOp{block: o.Target, after: o.After, char: o.Value}, true
	case OpDelete:
		return deleteOp{char: o.Target}, true
	case OpFormat:
		return formatOp{first: o.Target, last: o.After, mark: o.Value, enable: o.Enable}, true
	case OpAddBlock:
		return addBlockOp{parent: o.Target, after: o.After, kind: o.Value}, true
	case OpMoveBlock:
		return moveBlockOp{block: o.Target, after: o.After, parent: o.NewParent}, true
	case OpSetKind:
		return setKindOp{block: o.Target, kind: o.Value}, true
	case OpRemoveBlock:
		return removeBlockOp{block: o.Target}, true
	case OpComment:
		return commentOp{first: o.Target, last: o.After, text: o.Text}, true
	case OpReply:
		return replyOp{comment: o.Target, text: o.Text}, true
	case OpUndo:
		return undoOp{target: o.Target, enable: o.Enable}, true
	}
	return nil, false
}

// readOperation reads the words that follow the keyword of a kind. It returns false if there is no such kind; the reader knows whether the words are well-formed.
func readOperation(kind int, r *wordReader) (operation, bool) {
	switch kind {
	case OpInsert:
		return insertOp{block: r.stamp(), after: r.stamp(), char: r.char()}, true
	case OpDelete:
		return deleteOp{char: r.stamp()}, true
	case OpFormat:
		return formatOp{first: r.stamp(), last: r.stamp(), mark: r.number(), enable: r.onOff()}, true
	case OpAddBlock:
		return addBlockOp{parent: r.stamp(), after: r.stamp(), kind: r.number()}, true
	case OpMoveBlock:
		return moveBlockOp{block: r.stamp(), after: r.stamp(), parent: r.stamp()}, true
	case OpSetKind:
		return setKindOp{block: r.stamp(), kind: r.number()}, true
	case OpRemoveBlock:
		return removeBlockOp{block: r.stamp()}, true
	case OpComment:
		return commentOp{first: r.stamp(), last: r.stamp(), text: r.word()}, true
	case OpReply:
		return replyOp{comment: r.stamp(), text: r.word()}, true
	case OpUndo:
		return undoOp{target: r.stamp(), enable: r.onOff()}, true
	}
	return nil, false
}

type insertOp struct {
	block Stamp
	after Stamp
	char  int
}

func (x insertOp) op() Op {
	return Op{Kind: OpInsert, Target: x.block, After: x.after, Value: x.char}
}

func (x insertOp) valid(id Stamp) bool {
	return isOptionalRef(x.block, id) && isOptionalRef(x.after, id) && isChar(x.char)
}

func (x insertOp) words() []string {
	return []string{EncodeStamp(x.block), EncodeStamp(x.after), string(rune(x.char))}
}

type deleteOp struct {
	char Stamp
}

func (x deleteOp) op() Op {
	return Op{Kind: OpDelete, Target: x.char}
}

func (x deleteOp) valid(id Stamp) bool {
	return isRef(x.char, id)
}

func (x deleteOp) words() []string {
	return []string{EncodeStamp(x.char)}
}

type formatOp struct {
	first  Stamp
	last   Stamp
	mark   int
	enable bool
}

func (x formatOp) op() Op {
	return Op{Kind: OpFormat, Target: x.first, After: x.last, Value: x.mark, Enable: x.enable}
}

func (x formatOp) valid(id Stamp) bool {
	return isRef(x.first, id) && isRef(x.last, id) && inRange(x.mark, 1, MaxMarks)
}

func (x formatOp) words() []string {
	return []string{EncodeStamp(x.first), EncodeStamp(x.last), strconv.Itoa(x.mark), onOff(x.enable)}
}

type addBlockOp struct {
	parent Stamp
	after  Stamp
	kind   int
}

func (x addBlockOp) op() Op {
	return Op{Kind: OpAddBlock, Target: x.parent, After: x.after, Value: x.kind}
}

func (x addBlockOp) valid(id Stamp) bool {
	return isOptionalRef(x.parent, id) && isOptionalRef(x.after, id) && isBlockKind(x.kind)
}

func (x addBlockOp) words() []string {
	return []string{EncodeStamp(x.parent), EncodeStamp(x.after), strconv.Itoa(x.kind)}
}

type moveBlockOp struct {
	block  Stamp
	after  Stamp
	parent Stamp
}

func (x moveBlockOp) op() Op {
	return Op{Kind: OpMoveBlock, Target: x.block, After: x.after, NewParent: x.parent}
}

func (x moveBlockOp) valid(id Stamp) bool {
	return isRef(x.block, id) && isOptionalRef(x.after, id) && isOptionalRef(x.parent, id)
}

func (x moveBlockOp) words() []string {
	return []string{EncodeStamp(x.block), EncodeStamp(x.after), EncodeStamp(x.parent)}
}

type setKindOp struct {
	block Stamp
	kind  int
}

func (x setKindOp) op() Op {
	return Op{Kind: OpSetKind, Target: x.block, Value: x.kind}
}

func (x setKindOp) valid(id Stamp) bool {
	return isRef(x.block, id) && isBlockKind(x.kind)
}

func (x setKindOp) words() []string {
	return []string{EncodeStamp(x.block), strconv.Itoa(x.kind)}
}

type removeBlockOp struct {
	block Stamp
}

func (x removeBlockOp) op() Op {
	return Op{Kind: OpRemoveBlock, Target: x.block}
}

func (x removeBlockOp) valid(id Stamp) bool {
	return isRef(x.block, id)
}

func (x removeBlockOp) words() []string {
	return []string{EncodeStamp(x.block)}
}

type commentOp struct {
	first Stamp
	last  Stamp
	text  string
}

func (x commentOp) op() Op {
	return Op{Kind: OpComment, Target: x.first, After: x.last, Text: x.text}
}

func (x commentOp) valid(id Stamp) bool {
	return isRef(x.first, id) && isRef(x.last, id) && isWord(x.text)
}

func (x commentOp) words() []string {
	return []string{EncodeStamp(x.first), EncodeStamp(x.last), x.text}
}

type replyOp struct {
	comment Stamp
	text    string
}

func (x replyOp) op() Op {
	return Op{Kind: OpReply, Target: x.comment, Text: x.text}
}

func (x replyOp) valid(id Stamp) bool {
	return isRef(x.comment, id) && isWord(x.text)
}

func (x replyOp) words() []string {
	return []string{EncodeStamp(x.comment), x.text}
}

type undoOp struct {
	target Stamp
	enable bool
}

func (x undoOp) op() Op {
	return Op{Kind: OpUndo, Target: x.target, Enable: x.enable}
}

func (x undoOp) valid(id Stamp) bool {
	return isRef(x.target, id)
}

func (x undoOp) words() []string {
	return []string{EncodeStamp(x.target), onOff(x.enable)}
}

// isRef reports whether an operation with the given ID may reference t.
func isRef(t Stamp, id Stamp) bool {
	return ValidStamp(t) && StampLess(t, id)
}

// isOptionalRef reports whether t is zero or may be referenced.
func isOptionalRef(t Stamp, id Stamp) bool {
	return t.isZero() || isRef(t, id)
}

func isBlockKind(kind int) bool {
	return inRange(kind, 1, MaxKind)
}

// isChar reports whether an OpInsert may insert the byte.
func isChar(b int) bool {
	return inRange(b, ' ', '~')
}

// isWord reports whether s is 1 to MaxWord bytes 'a' to 'z'.
func isWord(s string) bool {
	for i := 0; i < len(s); i++ {
		if s[i] < 'a' || s[i] > 'z' {
			return false
		}
	}
	return inRange(len(s), 1, MaxWord)
}

// onOff returns the word for an Enable field.
func onOff(enable bool) string {
	if enable {
		return "on"
	}
	return "off"
}

// wordReader reads words separated by single spaces. Its methods return zero values for what is malformed; finished tells afterwards.
type wordReader struct {
	rest   string
	ended  bool
	failed bool
}

// finished reports whether all words have been read and were well-formed.
func (r *wordReader) finished() bool {
	return r.ended && !r.failed
}

// word reads up to the next space, which it skips, or to the end. Behind the end it returns "", which is malformed wherever a word is read.
func (r *wordReader) word() string {
	word, rest, found := strings.Cut(r.rest, " ")
	r.rest = rest
	r.ended = !found
	return word
}

func (r *wordReader) stamp() Stamp {
	t, ok := DecodeStamp(r.word())
	r.failed = r.failed || !ok
	return t
}

func (r *wordReader) number() int {
	n, ok := parseNumber(r.word())
	r.failed = r.failed || !ok
	return n
}

// onOff reads an Enable field.
func (r *wordReader) onOff() bool {
	word := r.word()
	r.failed = r.failed || word != "on" && word != "off"
	return word == "on"
}

// char reads all that is left, which must be one byte. It may be a space, so that it cannot be read as a word.
func (r *wordReader) char() int {
	r.ended = true
	if len(r.rest) != 1 {
		r.failed = true
		return 0
	}
	return int(r.rest[0])
}
