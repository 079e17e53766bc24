package tests

import (
	"fmt"
	"hash/crc32"
	"math/rand"
	"slices"
	"strings"
	"testing"

	"loop.example/collabdoc/impl"
)

func TestP50Checksums(t *testing.T) {
	for text, want := range map[string]int{
		"":          0,
		"123456789": 3421780262,
		"a":         3904355907,
		"abc":       891568578,
		"The quick brown fox jumps over the lazy dog": 1095738169,
		"\x00":                         3523407757,
		"\xff":                         4278190080,
		strings.Repeat("\x00", 32):     420107693,
		strings.Repeat("\xff", 32):     4285311755,
		"\xff\xff\xff\xff":             4294967295,
		"1a block - - 1\n":             int(crc32.ChecksumIEEE([]byte("1a block - - 1\n"))),
		"\x9d\x0a\xd9\x6d":             0,
		strings.Repeat("long ", 10000): int(crc32.ChecksumIEEE([]byte(strings.Repeat("long ", 10000)))),
	} {
		if got := impl.Checksum(text); got != want {
			t.Errorf("Checksum(%.40q) = %d, want %d", text, got, want)
		}
	}
}

func TestP50ChecksumsOfRandomTexts(t *testing.T) {
	r := rand.New(rand.NewSource(50))
	for range 3 * rounds {
		text := make([]byte, r.Intn(80))
		r.Read(text)
		if got, want := impl.Checksum(string(text)), int(crc32.ChecksumIEEE(text)); got != want {
			t.Fatalf("Checksum(%q) = %d, want %d", text, got, want)
		}
	}
}

func TestP50FlippedBits(t *testing.T) {
	r := rand.New(rand.NewSource(501))
	long := make([]byte, 300)
	r.Read(long)
	for _, text := range []string{"\x00", "123456789", "5a mark 1a 2b 1 on", modelBatch(dropOps(2, 9, 1)), string(long)} {
		sum := impl.Checksum(text)
		for i := range len(text) {
			for bit := range 8 {
				other := []byte(text)
				other[i] ^= 1 << bit
				if impl.Checksum(string(other)) == sum {
					t.Errorf("Checksum(%q) = Checksum(%q)", text, other)
				}
			}
		}
	}
}

// headed returns a text as the batch of a snapshot of count operations.
func headed(count int, batch string) string {
	return fmt.Sprintf("collabdoc %d %d\n%s", count, crc32.ChecksumIEEE([]byte(batch)), batch)
}

// checkSnapshot fails the test if a log does not have this snapshot, or the snapshot does not have this log.
func checkSnapshot(t *testing.T, log []impl.Op, want string) {
	t.Helper()
	if got := impl.EncodeSnapshot(log); got != want {
		t.Errorf("EncodeSnapshot(%v) = %q, want %q", log, got, want)
	}
	if got, ok := impl.DecodeSnapshot(want); !ok || !slices.Equal(got, log) {
		t.Errorf("DecodeSnapshot(%q) = %v, %v, want %v", want, got, ok, log)
	}
}

// checkNoSnapshot fails the test if a text is decoded.
func checkNoSnapshot(t *testing.T, text string) {
	t.Helper()
	if got, ok := impl.DecodeSnapshot(text); ok || len(got) != 0 {
		t.Errorf("DecodeSnapshot(%q) = %v, %v, want failure", text, got, ok)
	}
}

func TestP51Snapshots(t *testing.T) {
	checkSnapshot(t, nil, "collabdoc 0 0\n")
	checkSnapshot(t, ops(t, "1a block - - 1"), "collabdoc 1 2949917618\n1a block - - 1\n")
	checkSnapshot(t, ops(t, turns()...), headed(11, "2a text 1a - abc\n4b erase 2a\n5a text 1a 4a def\n8c text 1a 7a ghi\n11c drop 1a\n"))
	full := dropOps(2, impl.MaxOps, 1)
	checkSnapshot(t, full, headed(40, modelBatch(full)))
	checkNoSnapshot(t, headed(41, modelBatch(dropOps(2, impl.MaxOps+1, 1))))
}

func TestP51DecodingASnapshotInvertsEncoding(t *testing.T) {
	rows := 0
	someBatchLogs(51, func(log []impl.Op) {
		s := impl.EncodeSnapshot(log)
		if want := headed(len(log), modelBatch(log)); s != want {
			t.Fatalf("EncodeSnapshot(%v) = %q, want %q", log, s, want)
		}
		got, ok := impl.DecodeSnapshot(s)
		if !ok || !slices.Equal(got, log) {
			t.Fatalf("DecodeSnapshot(%q) = %v, %v, want %v", s, got, ok, log)
		}
		shown := impl.Render(log)
		if !slices.Equal(impl.Render(got), shown) {
			t.Fatalf("after DecodeSnapshot(%q) the rows are %v, want %v", s, impl.Render(got), shown)
		}
		rows += len(shown)
	})
	if rows < rounds {
		t.Errorf("the logs of the test have only %d rows", rows)
	}
}

func TestP51InvalidLogsHaveNoSnapshot(t *testing.T) {
	for _, log := range append(badLogs(t), []impl.Op{{}, {}}) {
		if got := impl.EncodeSnapshot(log); got != "" {
			t.Errorf("EncodeSnapshot(%v) = %q", log, got)
		}
	}
}

func TestP52MalformedSnapshots(t *testing.T) {
	batch := "1a block - - 1\n2a text 1a - ha\n" // its checksum is above 1<<31
	sum := fmt.Sprint(crc32.ChecksumIEEE([]byte(batch)))
	good := "collabdoc 3 " + sum + "\n" + batch
	checkSnapshot(t, ops(t, "1a block - - 1", "2a text 1a - h", "3a text 1a 2a a"), good)
	for _, header := range []string{
		"", "\n", "collabdoc\n", "collabdoc 3\n", "collabdoc " + sum + "\n", "3 " + sum + "\n", "collabdoc 3 " + sum, "collabdoc  \n",
		// Another word, other spaces, other line ends, more words.
		"Collabdoc 3 " + sum + "\n", "collabdo 3 " + sum + "\n", "collabdocs 3 " + sum + "\n", " collabdoc 3 " + sum + "\n", "collabdoc  3 " + sum + "\n", "collabdoc 3  " + sum + "\n", "collabdoc 3 " + sum + " \n",
		"collabdoc\t3 " + sum + "\n", "collabdoc 3 " + sum + "\r\n", "collabdoc 3 " + sum + "\n\n", "\ncollabdoc 3 " + sum + "\n", "collabdoc 3 " + sum + " 0\n", "collabdoc 3 " + sum + " ", "collabdoc 3\n" + sum + "\n",
		// Another count.
		"collabdoc 0 " + sum + "\n", "collabdoc 1 " + sum + "\n", "collabdoc 2 " + sum + "\n", "collabdoc 4 " + sum + "\n", "collabdoc -3 " + sum + "\n", "collabdoc x " + sum + "\n", "collabdoc  " + sum + "\n",
		// Other forms of the numbers.
		"collabdoc 03 " + sum + "\n", "collabdoc +3 " + sum + "\n", "collabdoc 3.0 " + sum + "\n", "collabdoc 0x3 " + sum + "\n", "collabdoc 3 0" + sum + "\n", "collabdoc 3 +" + sum + "\n", "collabdoc 3 -" + sum + "\n", "collabdoc " + sum + " 3\n",
		fmt.Sprintf("collabdoc 3 %x\n", crc32.ChecksumIEEE([]byte(batch))), fmt.Sprintf("collabdoc 3 %d\n", int32(crc32.ChecksumIEEE([]byte(batch)))), fmt.Sprintf("collabdoc 3 %d\n", int(crc32.ChecksumIEEE([]byte(batch)))+1<<32),
		// Another checksum.
		"collabdoc 3 0\n", "collabdoc 3 \n", "collabdoc 3 " + sum[1:] + "\n", "collabdoc 3 " + sum + "0\n", fmt.Sprintf("collabdoc 3 %d\n", crc32.ChecksumIEEE([]byte(batch))+1), fmt.Sprintf("collabdoc 3 %d\n", crc32.ChecksumIEEE([]byte(batch[:len(batch)-1]))),
		fmt.Sprintf("collabdoc 3 %d\n", crc32.ChecksumIEEE([]byte("\n"+batch))), fmt.Sprintf("collabdoc 3 %d\n", crc32.Checksum([]byte(batch), crc32.MakeTable(crc32.Castagnoli))),
	} {
		checkNoSnapshot(t, header+batch)
	}
	for _, empty := range []string{"", "collabdoc", "collabdoc 0 0", "collabdoc 0 0 ", "collabdoc 0 0\r\n", "collabdoc 00 0\n", "collabdoc 0 00\n", "collabdoc -0 0\n", "collabdoc 0 -0\n", "collabdoc +0 0\n", "collabdoc 0 +0\n", "collabdoc 1 0\n", "collabdoc 0 1\n", "collabdoc 0\n", "collabdoc  \n", "0 0\n", "\n", "collabdoc 0 0\n\n", "collabdoc 0 0\ncollabdoc 0 0\n"} {
		checkNoSnapshot(t, empty)
	}
}

func TestP52TextBehindTheBatch(t *testing.T) {
	log := ops(t, "1a block - - 1", "2a text 1a - h", "3a text 1a 2a i")
	batch := modelBatch(log)
	for _, more := range []string{"\n", " ", "x", "\x00", "3b drop 1a", "3b drop 1a\n", "1a block - - 1\n", batch, headed(3, batch)} {
		checkNoSnapshot(t, headed(3, batch)+more)
		if more != "3b drop 1a\n" {
			checkNoSnapshot(t, headed(3, batch+more))
			checkNoSnapshot(t, headed(4, batch+more))
		}
	}
	checkSnapshot(t, append(log, ops(t, "3b drop 1a")...), headed(4, batch+"3b drop 1a\n"))
}

func TestP52BatchesThatAreNotThoseOfAValidLog(t *testing.T) {
	// The header is right each time.
	for _, batch := range []string{
		"2a block - - 1\n1a block - - 1\n", "1a block - - 1\n1a block - - 1\n", "1a block - - 1\n2a drop 2a\n",
		"2a text 1a - x\n3a text 1a 2a y\n", "1a block - - 1\n2a drop 1a", "1a block - - 1\n\n", "\n", "1a block - - 5\n2a drop 1a\n",
	} {
		for count := range 4 {
			checkNoSnapshot(t, headed(count, batch))
		}
	}
}

// changes returns the texts that are like a text but for one byte, or lack its beginning or its end.
func changes(text string) []string {
	var list []string
	for i := range len(text) + 1 {
		behind := text[min(i+1, len(text)):]
		list = append(list, text[:i], text[i:], text[:i]+behind)
		for _, c := range []byte(" \n0123456789abctx-+\x00\xff") {
			list = append(list, text[:i]+string([]byte{c})+text[i:], text[:i]+string([]byte{c})+behind)
		}
	}
	return slices.DeleteFunc(list, func(other string) bool { return other == text })
}

func TestP52ChangedSnapshots(t *testing.T) {
	r := rand.New(rand.NewSource(52))
	for _, log := range [][]impl.Op{nil, ops(t, "1a block - - 1"), ops(t, turns()...), randomDocLog(r, 12, randomWeights(r))} {
		for _, text := range changes(impl.EncodeSnapshot(log)) {
			checkNoSnapshot(t, text)
		}
	}
}

func TestP52ChangedBatches(t *testing.T) {
	decoded, refused := 0, 0
	for _, log := range [][]impl.Op{nil, ops(t, "1a block - - 1"), ops(t, turns()...)} {
		for _, batch := range changes(modelBatch(log)) {
			// The checksum is right.
			if changed, ok := impl.DecodeBatch(batch); ok {
				checkSnapshot(t, changed, headed(len(changed), batch))
				checkNoSnapshot(t, headed(len(changed)+1, batch))
				decoded++
			} else {
				checkNoSnapshot(t, headed(len(log), batch))
				refused++
			}
		}
	}
	if decoded < 100 || refused < 100 {
		t.Errorf("of the changed batches, %d are decoded and %d refused", decoded, refused)
	}
}

func TestP54ASnapshotAndATailRestoreTheDocument(t *testing.T) {
	r := rand.New(rand.NewSource(54))
	mixed := 0
	somePlaceLogs(54, func(log []impl.Op) {
		v := []int{r.Intn(40), r.Intn(40), r.Intn(40)}
		snapshot := impl.EncodeSnapshot(impl.LogPrefix(log, v))
		tail := impl.EncodeBatch(impl.LogMissing(log, v))
		first, ok := impl.DecodeSnapshot(snapshot)
		rest, ok2 := impl.DecodeBatch(tail)
		restored, ok3 := impl.LogMerge(first, rest)
		if !ok || !ok2 || !ok3 || !slices.Equal(restored, log) {
			t.Fatalf("the snapshot %q and the batch %q give %v, want %v", snapshot, tail, restored, log)
		}
		checkSameDoc(t, restored, log)
		if len(first) > 1 && len(rest) > 1 && impl.StampLess(rest[0].ID, first[len(first)-1].ID) {
			mixed++
		}
	})
	if mixed < rounds {
		t.Errorf("in the test, only %d logs are divided into operations between each other", mixed)
	}
}

func TestSnapshotsShareNoMemory(t *testing.T) {
	for _, log := range append(badLogs(t), nil, ops(t, turns()...), dropOps(2, impl.MaxOps, 1)) {
		checkFresh(t, "EncodeSnapshot", log, spareOp, func(log []impl.Op) []impl.Op { impl.EncodeSnapshot(log); return nil })
	}
	someBatchLogs(53, func(log []impl.Op) {
		s := impl.EncodeSnapshot(log)
		checkKept(t, "DecodeSnapshot", spareOp, func() []impl.Op { decoded, _ := impl.DecodeSnapshot(s); return decoded })
	})
}
