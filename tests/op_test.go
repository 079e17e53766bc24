package tests

import (
	"math"
	"slices"
	"testing"

	"loop.example/collabdoc/impl"
)

// Which values the document's table of operations allows in a field.
const (
	unused   = iota // zero
	ref             // a valid stamp before the ID
	optional        // zero or a ref
)

// kindRow is a row of that table. An unused Value has the limits 0 and 0.
type kindRow struct {
	target, after, newParent int
	low, high                int
	enable, text             bool
}

// kindRows is the table, with the row of each kind at its index.
var kindRows = [...]kindRow{
	impl.OpInsert:      {target: optional, after: optional, low: 32, high: 126},
	impl.OpDelete:      {target: ref},
	impl.OpFormat:      {target: ref, after: ref, low: 1, high: 3, enable: true},
	impl.OpAddBlock:    {target: optional, after: optional, low: 1, high: 4},
	impl.OpMoveBlock:   {target: ref, after: optional, newParent: optional},
	impl.OpSetKind:     {target: ref, low: 1, high: 4},
	impl.OpRemoveBlock: {target: ref},
	impl.OpComment:     {target: ref, after: ref, text: true},
	impl.OpReply:       {target: ref, text: true},
	impl.OpUndo:        {target: ref, enable: true},
}

// allowedStamp reports whether a field of an operation with an ID may have the value s.
func allowedStamp(field int, s impl.Stamp, id impl.Stamp) bool {
	if s == (impl.Stamp{}) {
		return field != ref
	}
	past := s.Seq < id.Seq || s.Seq == id.Seq && s.Author < id.Author
	inLimits := s.Seq >= 1 && s.Seq <= 99 && s.Author >= 0 && s.Author <= 2
	return field != unused && past && inLimits
}

func allowedText(used bool, s string) bool {
	if !used {
		return s == ""
	}
	for _, c := range []byte(s) {
		if c < 'a' || c > 'z' {
			return false
		}
	}
	return len(s) >= 1 && len(s) <= 8
}

// allowedOp reports whether the table allows o, whose ID must be valid.
func allowedOp(o impl.Op) bool {
	if o.Kind < 1 || o.Kind >= len(kindRows) {
		return false
	}
	row := kindRows[o.Kind]
	return allowedStamp(row.target, o.Target, o.ID) && allowedStamp(row.after, o.After, o.ID) &&
		allowedStamp(row.newParent, o.NewParent, o.ID) && o.Value >= row.low && o.Value <= row.high &&
		(row.enable || !o.Enable) && allowedText(row.text, o.Text)
}

// manyOps calls yield for operations with an ID and every combination of fields with limits, and with values on both sides of them.
func manyOps(id impl.Stamp, yield func(o impl.Op)) {
	stamps := []impl.Stamp{{}, at(1, 0), at(id.Seq, id.Author-1), id, at(id.Seq, id.Author+1), at(id.Seq-1, 2), at(2, -1), at(1, 3)}
	for kind := -1; kind <= 11; kind++ {
		for _, target := range stamps {
			for _, after := range stamps {
				for _, newParent := range stamps {
					for _, value := range []int{-1, 0, 1, 3, 4, 5, 31, 32, 126, 127} {
						for _, text := range []string{"", "a", "abcdwxyz", "abcdefghi", "aBc"} {
							yield(impl.Op{ID: id, Kind: kind, Target: target, After: after, NewParent: newParent, Value: value, Enable: len(text)%2 == 1, Text: text})
							yield(impl.Op{ID: id, Kind: kind, Target: target, After: after, NewParent: newParent, Value: value, Enable: len(text)%2 == 0, Text: text})
						}
					}
				}
			}
		}
	}
}

// sampleOps returns an operation of each kind, and its text form. All references are to other stamps.
func sampleOps() ([]impl.Op, []string) {
	id := at(40, 1)
	return []impl.Op{
		{ID: id, Kind: impl.OpInsert, Target: at(1, 0), After: at(39, 2), Value: 'x'},
		{ID: id, Kind: impl.OpInsert, Value: ' '},
		{ID: id, Kind: impl.OpInsert, After: at(40, 0), Value: '~'},
		{ID: id, Kind: impl.OpDelete, Target: at(2, 1)},
		{ID: id, Kind: impl.OpFormat, Target: at(3, 0), After: at(2, 2), Value: 1, Enable: true},
		{ID: id, Kind: impl.OpFormat, Target: at(3, 0), After: at(3, 0), Value: 3},
		{ID: id, Kind: impl.OpAddBlock, Target: at(4, 0), After: at(5, 0), Value: 4},
		{ID: id, Kind: impl.OpAddBlock, Value: 1},
		{ID: id, Kind: impl.OpMoveBlock, Target: at(6, 0), After: at(7, 0), NewParent: at(8, 0)},
		{ID: id, Kind: impl.OpMoveBlock, Target: at(6, 0), NewParent: at(8, 0)},
		{ID: id, Kind: impl.OpMoveBlock, Target: at(6, 0), After: at(7, 0)},
		{ID: id, Kind: impl.OpSetKind, Target: at(9, 0), Value: 2},
		{ID: id, Kind: impl.OpRemoveBlock, Target: at(10, 2)},
		{ID: id, Kind: impl.OpComment, Target: at(11, 0), After: at(12, 0), Text: "abcdwxyz"},
		{ID: id, Kind: impl.OpReply, Target: at(13, 0), Text: "a"},
		{ID: id, Kind: impl.OpUndo, Target: at(14, 0)},
		{ID: id, Kind: impl.OpUndo, Target: at(14, 2), Enable: true},
	}, []string{
		"40b text 1a 39c x", "40b text - -  ", "40b text - 40a ~", "40b erase 2b", "40b mark 3a 2c 1 on", "40b mark 3a 3a 3 off",
		"40b block 4a 5a 4", "40b block - - 1", "40b move 6a 7a 8a", "40b move 6a - 8a", "40b move 6a 7a -", "40b kind 9a 2",
		"40b drop 10c", "40b note 11a 12a abcdwxyz", "40b reply 13a a", "40b undo 14a off", "40b undo 14c on",
	}
}

func TestP7TextFormOfEachKind(t *testing.T) {
	list, texts := sampleOps()
	for i, o := range list {
		if text := impl.EncodeOp(o); text != texts[i] {
			t.Errorf("EncodeOp(%v) = %q, want %q", o, text, texts[i])
		}
		if back, ok := impl.DecodeOp(texts[i]); !ok || back != o {
			t.Errorf("DecodeOp(%q) = %v, %v, want %v", texts[i], back, ok, o)
		}
	}
}

func TestP7EveryCharacterIsEncodedAsItself(t *testing.T) {
	for c := 32; c <= 126; c++ {
		o := impl.Op{ID: at(1, 0), Kind: impl.OpInsert, Value: c}
		text := "1a text - - " + string([]byte{byte(c)})
		if impl.EncodeOp(o) != text {
			t.Errorf("EncodeOp(%v) = %q, want %q", o, impl.EncodeOp(o), text)
		}
		if back, ok := impl.DecodeOp(text); !ok || back != o {
			t.Errorf("DecodeOp(%q) = %v, %v, want %v", text, back, ok, o)
		}
	}
}

func TestP7OperationsAreDecodedAsEncoded(t *testing.T) {
	for _, id := range []impl.Stamp{at(2, 1), at(99, 2), at(1, 1)} {
		valid := 0
		manyOps(id, func(o impl.Op) {
			text := impl.EncodeOp(o)
			if !allowedOp(o) {
				if text != "" {
					t.Errorf("EncodeOp(%v) = %q, but the operation is invalid", o, text)
				}
				return
			}
			valid++
			if back, ok := impl.DecodeOp(text); !ok || back != o {
				t.Errorf("DecodeOp(%q) = %v, %v, want %v", text, back, ok, o)
			}
		})
		if valid == 0 {
			t.Errorf("no valid operation with ID %v", id)
		}
	}
}

// checkCanonical fails the test if a text is accepted that is not the text form of what it is decoded to.
func checkCanonical(t *testing.T, text string) {
	t.Helper()
	o, ok := impl.DecodeOp(text)
	if !ok && o != (impl.Op{}) {
		t.Errorf("DecodeOp(%q) fails with %v, want the zero operation", text, o)
	}
	if ok && (!impl.ValidOp(o) || impl.EncodeOp(o) != text) {
		t.Errorf("DecodeOp(%q) = %v, which is invalid or encoded differently", text, o)
	}
}

func TestP8TextOfOperationIsCanonical(t *testing.T) {
	_, texts := sampleOps()
	for _, text := range texts {
		for i := range len(text) + 1 {
			checkCanonical(t, text[:i])
			checkCanonical(t, text[i:])
			for c := range 256 {
				b := string([]byte{byte(c)})
				checkCanonical(t, text[:i]+b+text[i:])
				if i < len(text) {
					checkCanonical(t, text[:i]+b+text[i+1:])
				}
			}
			if i < len(text) {
				checkCanonical(t, text[:i]+text[i+1:])
			}
		}
	}
}

func TestP8MalformedOperations(t *testing.T) {
	texts := []string{
		"", " ", "-", "1a", "1a ", "1a text", "1a text -", "1a text - -", "1a text - - ", "1a text - - xy", "1a text - -  x", "1a text - -   ",
		"1a text - - \x1f", "1a text - - \x7f", "1a text - - é", "1a text - - \xff", " 1a text - - x", "1a  text - - x", "1a text  - x", "1a text - - x\n",
		"- text - - x", "0a text - - x", "1d text - - x", "100a text - - x", "1 text - - x", "1a TEXT - - x", "1a insert - - x", "1a  - - x",
		"2a text 2a - x", "2a text - 2b x", "2a text 3a - x", "2a text 01a - x", "2a text - +1a x",
		"2a erase -", "2a erase 2a", "2a erase 1a ", "2a erase 1a 1b", "2a erase", "2a erase ",
		"2a mark 1a 1b 0 on", "2a mark 1a 1b 4 on", "2a mark 1a 1b 01 on", "2a mark 1a 1b +1 on", "2a mark 1a 1b 1", "2a mark 1a 1b 1 ", "2a mark 1a 1b 1 yes",
		"2a mark 1a 1b 1 On", "2a mark 1a 1b 1 on ", "2a mark 1a - 1 on", "2a mark - 1a 1 on", "2a mark 1a 1b on 1", "2a mark 1a 1b -1 on", "2a mark 1a 1b x on", "2a mark 1a 1b  on",
		"2a block - - 0", "2a block - - 5", "2a block - - -1", "2a block - - 04", "2a block - -", "2a block - - 1 1", "2a block 2a - 1", "2a block - 2c 1",
		"2a block - - 18446744073709551617", "2a block - - 1.0", "2a block - - 1_", "2a block - - 0x1",
		"2a move - - 1a", "2a move 1a -", "2a move 1a - - -", "2a move 2a - -", "2a move 1a 2a -", "2a move 1a - 2a",
		"2a kind 1a 0", "2a kind 1a 5", "2a kind - 1", "2a kind 1a", "2a kind 1a 1 ",
		"2a drop -", "2a drop 2a", "2a drop 1a x",
		"2a note 1a 1b", "2a note 1a 1b ", "2a note 1a 1b Why", "2a note 1a 1b abcdefghi", "2a note 1a 1b a b", "2a note - 1a why", "2a note 1a - why", "2a note 1a 1b why ",
		"2a reply 1a", "2a reply 1a ", "2a reply - yes", "2a reply 1a abcdefghi", "2a reply 1a yes no", "2a reply 1a y3s", "2a reply 2a yes",
		"2a undo 1a", "2a undo 1a ", "2a undo 1a 0", "2a undo 1a OFF", "2a undo - off", "2a undo 2a off", "2a undo 1a off ",
	}
	for _, text := range texts {
		if o, ok := impl.DecodeOp(text); ok || o != (impl.Op{}) {
			t.Errorf("DecodeOp(%q) = %v, %v, want failure", text, o, ok)
		}
	}
}

func TestP9OperationsAreAsInTheTable(t *testing.T) {
	for _, id := range []impl.Stamp{at(2, 1), at(2, 0), at(99, 2)} {
		manyOps(id, func(o impl.Op) {
			if impl.ValidOp(o) != allowedOp(o) {
				t.Errorf("ValidOp(%v) = %v", o, !allowedOp(o))
			}
		})
	}
}

func TestP9ReferencesSortBeforeTheID(t *testing.T) {
	refs := append(allStamps(), badStamps()...)
	list, _ := sampleOps()
	for _, o := range list {
		for _, s := range refs {
			for field := range 3 {
				x := o
				*[]*impl.Stamp{&x.Target, &x.After, &x.NewParent}[field] = s
				if impl.ValidOp(x) != allowedOp(x) {
					t.Errorf("ValidOp(%v) = %v", x, !allowedOp(x))
				}
				if impl.ValidOp(x) && !impl.StampLess(s, x.ID) {
					t.Errorf("%v is valid, but references %v", x, s)
				}
			}
		}
	}
}

func TestP9OnlyCommentsAndRepliesHaveAText(t *testing.T) {
	list, _ := sampleOps()
	for _, o := range list {
		commented := o.Kind == impl.OpComment || o.Kind == impl.OpReply
		for _, text := range []string{"a", "z", "word", "abcdefgh"} {
			o.Text = text
			if impl.ValidOp(o) != commented {
				t.Errorf("ValidOp(%v) = %v", o, !commented)
			}
		}
		for _, text := range []string{"abcdefghi", "A", "a b", " ", "a1", "`", "{", "é", "a\x00", "\xff"} {
			o.Text = text
			if impl.ValidOp(o) {
				t.Errorf("ValidOp(%v) = true", o)
			}
		}
		o.Text = ""
		if impl.ValidOp(o) == commented {
			t.Errorf("ValidOp(%v) = %v", o, commented)
		}
	}
}

func TestP9EachValueIsAsInTheTable(t *testing.T) {
	list, _ := sampleOps()
	for _, o := range list {
		for _, o.Value = range append([]int{math.MinInt, math.MaxInt, 1 << 32, 256 + 'x'}, rangeOf(-5, 200)...) {
			if impl.ValidOp(o) != allowedOp(o) {
				t.Errorf("ValidOp(%v) = %v", o, !allowedOp(o))
			}
		}
	}
}

func TestP9InvalidIDsAndKinds(t *testing.T) {
	for _, id := range append(badStamps(), impl.Stamp{}) {
		for kind := range 12 {
			o := impl.Op{ID: id, Kind: kind, Value: 1}
			if impl.ValidOp(o) || impl.EncodeOp(o) != "" {
				t.Errorf("%v is valid", o)
			}
			o.Target = at(1, 0)
			if impl.ValidOp(o) || impl.EncodeOp(o) != "" {
				t.Errorf("%v is valid", o)
			}
		}
		if o := (impl.Op{ID: id, Kind: impl.OpInsert, Value: 'x'}); impl.ValidOp(o) || impl.EncodeOp(o) != "" {
			t.Errorf("%v is valid", o)
		}
	}
	for _, kind := range []int{math.MinInt, -1, 0, 11, math.MaxInt} {
		if o := (impl.Op{ID: at(2, 0), Kind: kind, Target: at(1, 0)}); impl.ValidOp(o) || impl.EncodeOp(o) != "" {
			t.Errorf("%v is valid", o)
		}
	}
	if impl.ValidOp(impl.Op{}) || impl.EncodeOp(impl.Op{}) != "" {
		t.Error("the zero operation is valid")
	}
}

func TestP9SamplesHaveAllKinds(t *testing.T) {
	list, _ := sampleOps()
	for kind := 1; kind < len(kindRows); kind++ {
		if !slices.ContainsFunc(list, func(o impl.Op) bool { return o.Kind == kind && impl.ValidOp(o) }) {
			t.Errorf("no valid sample of kind %d", kind)
		}
	}
}

func rangeOf(low int, high int) []int {
	var all []int
	for n := low; n <= high; n++ {
		all = append(all, n)
	}
	return all
}
