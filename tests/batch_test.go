package tests

import (
	"math/rand"
	"slices"
	"strings"
	"testing"

	"loop.example/collabdoc/impl"
)

// typing returns the operations by which an author types a text into a block, each character behind the one before it.
func typing(id string, block string, after string, text string) []string {
	var lines []string
	s := stampOf(id)
	for _, c := range []byte(text) {
		id = impl.EncodeStamp(s)
		lines = append(lines, id+" text "+block+" "+after+" "+string([]byte{c}))
		after = id
		s.Seq++
	}
	return lines
}

// turns returns the operations of two authors who type one after the other, with a deletion in between.
func turns() []string {
	return slices.Concat(typing("2a", "1a", "-", "abc"), []string{"4b erase 2a"}, typing("5a", "1a", "4a", "def"), typing("8c", "1a", "7a", "ghi"), []string{"11c drop 1a"})
}

// modelContinues reports whether o continues the operation before it, respect by respect as the document lists them.
func modelContinues(o impl.Op, before impl.Op) bool {
	return o.Kind == impl.OpInsert && before.Kind == impl.OpInsert && o.ID.Author == before.ID.Author &&
		o.Target == before.Target && o.ID.Seq == before.ID.Seq+1 && o.After == before.ID
}

// modelBatch returns the batch of a valid log.
func modelBatch(log []impl.Op) string {
	batch := ""
	for i, o := range log {
		text := impl.EncodeOp(o)
		if i > 0 && modelContinues(o, log[i-1]) {
			batch = strings.TrimSuffix(batch, "\n")
			text = text[len(text)-1:]
		}
		batch += text + "\n"
	}
	return batch
}

// someBatchLogs calls yield with the logs of someDocLogs, and with logs most of whose operations almost continue the one before them.
func someBatchLogs(seed int64, yield func(log []impl.Op)) {
	someDocLogs(seed, yield)
	r := rand.New(rand.NewSource(seed))
	for range 3 * rounds {
		yield(almostTyped(r, r.Intn(impl.MaxOps+1), 1+r.Intn(60)))
	}
}

// almostTyped returns a log whose operations type on, apart from a difference now and then.
func almostTyped(r *rand.Rand, n int, first int) []impl.Op {
	log := []impl.Op{}
	o := impl.Op{ID: at(first, r.Intn(impl.MaxAuthors)), Kind: impl.OpInsert}
	for range n {
		o.Value = 32 + r.Intn(95)
		other := o
		switch r.Intn(12) {
		case 0:
			other = impl.Op{ID: o.ID, Kind: impl.OpAddBlock, Target: o.Target, After: o.After, Value: 1 + r.Intn(impl.MaxKind)}
		case 1:
			other.ID.Author = r.Intn(impl.MaxAuthors)
		case 2:
			other.Target = at(1, r.Intn(2))
		case 3:
			other.ID.Seq++
		case 4:
			other.After = at(1, r.Intn(2))
		}
		if impl.ValidOp(other) && (len(log) == 0 || impl.StampLess(log[len(log)-1].ID, other.ID)) {
			log = append(log, other)
			o.ID, o.Target, o.After = at(other.ID.Seq+1, other.ID.Author), other.Target, other.ID
		}
	}
	return log
}

// checkBatch fails the test if a log does not have this batch, or the batch does not have this log.
func checkBatch(t *testing.T, log []impl.Op, want string) {
	t.Helper()
	if got := impl.EncodeBatch(log); got != want {
		t.Errorf("EncodeBatch(%v) = %q, want %q", log, got, want)
	}
	if got, ok := impl.DecodeBatch(want); !ok || !slices.Equal(got, log) {
		t.Errorf("DecodeBatch(%q) = %v, %v, want %v", want, got, ok, log)
	}
}

// checkNoBatch fails the test if a text is decoded.
func checkNoBatch(t *testing.T, text string) {
	t.Helper()
	if got, ok := impl.DecodeBatch(text); ok || len(got) != 0 {
		t.Errorf("DecodeBatch(%q) = %v, %v, want failure", text, got, ok)
	}
}

func TestP40Batches(t *testing.T) {
	checkBatch(t, nil, "")
	checkBatch(t, ops(t, "1a block - - 1"), "1a block - - 1\n")
	checkBatch(t, ops(t, "1a text - - x"), "1a text - - x\n")
	checkBatch(t, ops(t, typing("1a", "-", "-", "hello")...), "1a text - - hello\n")
	checkBatch(t, ops(t, typing("98c", "1a", "97a", "hi")...), "98c text 1a 97a hi\n")
	// Two authors take turns, so that the operation before is one of the other author.
	checkBatch(t, ops(t, "1a text - - x", "1b text - - p", "2a text - 1a y", "2b text - 1b q"), "1a text - - x\n1b text - - p\n2a text - 1a y\n2b text - 1b q\n")
	// Typing goes on behind another operation, which ends the line.
	checkBatch(t, ops(t, turns()...), "2a text 1a - abc\n4b erase 2a\n5a text 1a 4a def\n8c text 1a 7a ghi\n11c drop 1a\n")
}

func TestP40EveryCharacterIsAddedAsItself(t *testing.T) {
	for c := byte(32); c <= 126; c++ {
		text := string([]byte{c, ' ', c, c})
		checkBatch(t, ops(t, typing("2b", "-", "1c", text)...), "2b text - 1c "+text+"\n")
	}
}

func TestP40OperationsThatAlmostContinue(t *testing.T) {
	for _, x := range [][]string{
		// The kind of the first or the second operation.
		{"2a block 1a - 1", "3a text 1a 2a y"},
		{"2a drop 1a", "3a text 1a 2a y"},
		{"2a kind 1a 1", "3a text 1a 2a y"},
		{"2a undo 1a on", "3a text 1a 2a y"},
		{"2a text 1a - x", "3a block 1a 2a 1"},
		{"2a text 1a - x", "3a move 1a 2a -"},
		{"2a text 1a - x", "3a mark 1a 2a 3 on"},
		{"2a text 1a - x", "3a note 1a 2a y"},
		{"2a text 1a - x", "3a erase 2a"},
		// The author.
		{"2a text 1a - x", "3b text 1a 2a y"},
		{"2b text 1a - x", "3a text 1a 2b y"},
		// The block.
		{"2a text 1a - x", "3a text 1b 2a y"},
		{"2a text 1a - x", "3a text - 2a y"},
		{"2a text - - x", "3a text 1a 2a y"},
		{"2a text - - x", "3a text 2a 2a y"},
		// Seq.
		{"2a text 1a - x", "4a text 1a 2a y"},
		{"2a text 1a - x", "99a text 1a 2a y"},
		{"2a text 1a - x", "2b text 1a 2a y"},
		// After.
		{"2a text 1a - x", "3a text 1a - y"},
		{"2a text 1a 1c x", "3a text 1a 1c y"},
		{"2a text 1a - x", "3a text 1a 2b y"},
		{"2a text 1a - x", "3a text 1a 1a y"},
		// The operation that it continues is not the one before it.
		{"2a text 1a - x", "2b text 1a - p", "3a text 1a 2a y"},
		{"2a text 1a - x", "2c drop 1a", "3a text 1a 2a y"},
	} {
		checkBatch(t, ops(t, x...), strings.Join(x, "\n")+"\n")
	}
}

func TestP40DecodingInvertsEncoding(t *testing.T) {
	joined := 0
	check := func(log []impl.Op) {
		batch := impl.EncodeBatch(log)
		if want := modelBatch(log); batch != want {
			t.Fatalf("EncodeBatch(%v) = %q, want %q", log, batch, want)
		}
		if got, ok := impl.DecodeBatch(batch); !ok || !slices.Equal(got, log) {
			t.Fatalf("DecodeBatch(%q) = %v, %v, want %v", batch, got, ok, log)
		}
		lines := strings.Count(batch, "\n")
		if lines > len(log) {
			t.Fatalf("the batch %q has %d lines for %d operations", batch, lines, len(log))
		}
		joined += len(log) - lines
	}
	someBatchLogs(40, check)
	r := rand.New(rand.NewSource(40))
	for range rounds {
		check(randomLog(r, r.Intn(impl.MaxOps+1)))
	}
	if joined < 10*rounds {
		t.Errorf("in the logs of the test only %d operations continue others", joined)
	}
}

func TestP40FullLogs(t *testing.T) {
	text := strings.Repeat("0123456789", impl.MaxOps/10)
	checkBatch(t, ops(t, typing("60a", "-", "-", text)...), "60a text - - "+text+"\n")
	checkNoBatch(t, "59a text - - "+text+"x\n")
	checkNoBatch(t, "59a text - - x"+text+"\n59b drop 1a\n")
	checkNoBatch(t, "58b drop 1a\n59a text - - "+text+"\n")
	full := dropOps(2, impl.MaxOps, 1)
	checkBatch(t, full, modelBatch(full))
	checkNoBatch(t, modelBatch(dropOps(2, impl.MaxOps+1, 1)))
	// More operations than there are stamps.
	checkNoBatch(t, "1a text - - "+strings.Repeat("x", 1000)+"\n")
	checkNoBatch(t, strings.Repeat("1a drop 1b\n", 1000))
}

func TestP40InvalidLogsHaveNoBatch(t *testing.T) {
	long := typing("1a", "-", "-", strings.Repeat("x", impl.MaxOps+1))
	broken := ops(t, typing("1a", "-", "-", "abc")...)
	broken[2].Value = 127
	unsorted := ops(t, typing("1a", "-", "-", "abc")...)
	slices.Reverse(unsorted)
	for _, bad := range append(badLogs(t), ops(t, long...), broken, unsorted, []impl.Op{{}, {}}) {
		if got := impl.EncodeBatch(bad); got != "" {
			t.Errorf("EncodeBatch(%v) = %q", bad, got)
		}
	}
}

// checkCanonicalBatch fails the test if a text is decoded that is not the batch of what it is decoded to.
func checkCanonicalBatch(t *testing.T, text string) bool {
	t.Helper()
	log, ok := impl.DecodeBatch(text)
	if !ok && len(log) != 0 {
		t.Errorf("DecodeBatch(%q) fails with %v", text, log)
	}
	if ok && (!impl.ValidLog(log) || modelBatch(log) != text || impl.EncodeBatch(log) != text) {
		t.Errorf("DecodeBatch(%q) = %v, which is invalid or encoded as %q", text, log, impl.EncodeBatch(log))
	}
	return ok
}

func TestP41TextOfBatchIsCanonical(t *testing.T) {
	decoded := 0
	for _, text := range []string{
		"1a block - - 1\n2a text 1a - hi\n4b text 1a 3a !\n5a mark 2a 3a 1 on\n",
		"8a text - - \n10b text - 8a   \n13b note 8a 12b why\n",
		"2c text 1a - ab\n4c text 1a 2c cd\n6c text 1a - ef\n",
		modelBatch(dropOps(95, 5, 1)),
	} {
		for i := range len(text) + 1 {
			others := []string{text[:i], text[i:], text[:i] + text + text[i:]}
			for c := range 256 {
				b := string([]byte{byte(c)})
				others = append(others, text[:i]+b+text[i:])
				if i < len(text) {
					others = append(others, text[:i]+b+text[i+1:])
				}
			}
			if i < len(text) {
				others = append(others, text[:i]+text[i+1:])
			}
			for _, other := range others {
				if checkCanonicalBatch(t, other) {
					decoded++
				}
			}
		}
	}
	if decoded < 1000 {
		t.Errorf("only %d of the changed texts are decoded", decoded)
	}
}

func TestP41MalformedBatches(t *testing.T) {
	for _, text := range []string{
		"\n", "\n\n", " \n", "-\n", "x", "\x00", "é\n",
		// A line without its newline, or with another one.
		"1a block - - 1", "1a text - - x", "1a text - - xyz", "1a block - - 1\n2a text 1a - x", "1a block - - 1\r\n", "1a text - - x\r\n", "1a block - - 1\n2a text 1a - x\r",
		// An empty line.
		"\n1a block - - 1\n", "1a block - - 1\n\n", "1a block - - 1\n\n2a text 1a - x\n", "1a text - - x\n\n",
		// A text behind the last line.
		"1a block - - 1\n ", "1a block - - 1\n-", "1a block - - 1\nx", "1a block - - 1\n1a block - - 1", "1a text - - x\ny", "1a text - - x\n2a",
		// Lines that are not the text form of an operation, or have more than that.
		"1a block - - 1 \n", " 1a block - - 1\n", "1a block - - 11\n", "1a block - - 12\n", "1a block - - 1x\n", "2a drop 1ax\n", "2a undo 1a onx\n", "2a note 1a 1b why!\n", "1a block - - 5\n", "1a text - -\n", "1a text - - \n", "1a text -  x\n",
		"1a text\n", "1a\n", "1a text - - x1a block - - 1\x00\n", "1a insert - - x\n", "1a TEXT - - xy\n", "- text - - xy\n", "0a text - - xy\n", "01a text - - xy\n", "1d text - - xy\n", "1a text 1a - xy\n", "1a text - 1b xy\n",
		// A character that a line may not have.
		"1a text - - \x1f\n", "1a text - - \x7f\n", "1a text - - x\x1f\n", "1a text - - x\x7f\n", "1a text - - xy\tz\n", "1a text - - xé\n", "1a text - - é\n", "1a text - - x\xff\n", "1a text - - x\x00\n", "1a text - - x\ry\n",
		// No stamp is left for the character.
		"99a text - - xy\n", "98c text - - xyz\n",
	} {
		checkNoBatch(t, text)
	}
}

func TestP41OperationsInTheWrongOrder(t *testing.T) {
	for _, text := range []string{
		"2a block - - 1\n1a block - - 1\n",
		"1b block - - 1\n1a block - - 1\n",
		"1a block - - 1\n1a block - - 1\n",
		"1a text - - x\n1a text - - x\n",
		"1a text - - x\n1a text - - y\n",
		// The line before adds operations that are later than the next line.
		"1a text - - xyz\n3a drop 1a\n",
		"1a text - - xyz\n2b drop 1a\n",
		"1b text - - xyz\n3a drop 1b\n",
		"1a text - - xyz\n1b text - - p\n",
		"1b text - - x\n1a text - - p\n",
	} {
		checkNoBatch(t, text)
	}
	checkBatch(t, ops(t, append(typing("1a", "-", "-", "xyz"), "3b drop 1a")...), "1a text - - xyz\n3b drop 1a\n")
}

func TestP41OtherFormsOfALog(t *testing.T) {
	for _, text := range []string{
		"1a text - - x\n2a text - 1a y\n",
		"1a text - - xy\n3a text - 2a z\n",
		"1a text - - x\n2a text - 1a yz\n",
		"1a block - - 1\n2b text 1a - x\n3b text 1a 2b y\n4c drop 1a\n",
		"1a text - - \n2a text - 1a  \n",
	} {
		checkNoBatch(t, text)
	}
	split := 0
	r := rand.New(rand.NewSource(41))
	someBatchLogs(41, func(log []impl.Op) {
		batch := modelBatch(log)
		long := ""
		for _, o := range log {
			long += impl.EncodeOp(o) + "\n"
		}
		if long != batch {
			split++
			checkNoBatch(t, long)
		}
		lines := strings.SplitAfter(batch, "\n")
		r.Shuffle(len(lines), func(i int, j int) { lines[i], lines[j] = lines[j], lines[i] })
		if shuffled := strings.Join(lines, ""); shuffled != batch {
			checkNoBatch(t, shuffled)
		}
	})
	if split < rounds {
		t.Errorf("only %d logs of the test have a longer form", split)
	}
}

func TestBatchesShareNoMemory(t *testing.T) {
	spare := impl.Op{ID: at(98, 2), Kind: impl.OpReply, Target: at(1, 0), Text: "behind"}
	for _, log := range append(badLogs(t), nil, ops(t, turns()...), dropOps(2, impl.MaxOps, 1)) {
		checkFresh(t, "EncodeBatch", log, spare, func(log []impl.Op) []impl.Op { impl.EncodeBatch(log); return nil })
	}
	someBatchLogs(42, func(log []impl.Op) {
		batch := modelBatch(log)
		checkFresh(t, "EncodeBatch", log, spare, func(log []impl.Op) []impl.Op {
			decoded, _ := impl.DecodeBatch(impl.EncodeBatch(log))
			return decoded
		})
		checkKept(t, "DecodeBatch", spare, func() []impl.Op { decoded, _ := impl.DecodeBatch(batch); return decoded })
	})
}
