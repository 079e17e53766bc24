package tests

import (
	"fmt"
	"hash/crc32"
	"math"
	"math/rand"
	"slices"
	"strings"
	"testing"

	"loop.example/collabdoc/impl"
)

// summed returns a line with its checksum in front, as a record has it.
func summed(line string) string {
	return fmt.Sprint(crc32.ChecksumIEEE([]byte(line)), " ", line, "\n")
}

// journalOf returns the records of operations, one after the other.
func journalOf(list []impl.Op) string {
	journal := ""
	for _, o := range list {
		journal += summed(impl.EncodeOp(o))
	}
	return journal
}

// modelJournal is ReadJournal.
func modelJournal(journal string) ([]impl.Op, int) {
	log, n := []impl.Op{}, 0
	if len(journal) > 1500 {
		return log, 0
	}
	for _, line := range strings.SplitAfter(journal, "\n") {
		_, text, _ := strings.Cut(strings.TrimSuffix(line, "\n"), " ")
		o, ok := impl.DecodeOp(text)
		if !ok || line != summed(text) || hasID(log, o.ID) || len(log) == 40 {
			break
		}
		log, n = append(log, o), n+len(line)
	}
	sortOps(log)
	return log, n
}

// modelAppend is AppendJournal.
func modelAppend(journal string, o impl.Op) (string, bool) {
	log, n := modelJournal(journal)
	if n < len(journal) || !impl.ValidOp(o) || hasID(log, o.ID) || len(log) >= 40 {
		return journal, false
	}
	return journal + summed(impl.EncodeOp(o)), true
}

// someJournals calls yield with journals, most of which are damaged or too long, and operations, most of which can be appended to an undamaged journal.
func someJournals(seed int64, yield func(journal string, o impl.Op)) {
	r := rand.New(rand.NewSource(seed))
	for range 3 * rounds {
		list := randomDocLog(r, 1+r.Intn(impl.MaxOps+1), randomWeights(r))
		list = slices.DeleteFunc(list, func(o impl.Op) bool { return !impl.ValidOp(o) })
		r.Shuffle(len(list), func(i int, j int) { list[i], list[j] = list[j], list[i] })
		o := list[len(list)-1]
		journal := journalOf(list[:len(list)-1])
		switch r.Intn(12) {
		case 0, 1:
			journal = damaged(r, journal)
		case 2:
			journal += journalOf(list[:1])
		case 3:
			o = list[r.Intn(len(list))]
		case 4:
			o.Value = 200
		case 5:
			o.ID = at(1+r.Intn(impl.MaxCounter), r.Intn(impl.MaxAuthors))
		}
		yield(journal, o)
	}
}

// damaged returns a text with a change somewhere.
func damaged(r *rand.Rand, text string) string {
	i := r.Intn(len(text) + 1)
	j := i + r.Intn(len(text)-i+1)
	switch r.Intn(4) {
	case 0:
		return text[:i]
	case 1:
		return text[:i] + text[j:]
	case 2:
		return text[:i] + strings.Repeat(string([]byte{byte(r.Intn(256))}), 1+r.Intn(3)) + text[i:]
	default:
		return text[:j] + text[i:j] + text[j:]
	}
}

// checkRead fails the test if a journal is not read as this log and this number of bytes.
func checkRead(t *testing.T, journal string, want []impl.Op, wantN int) {
	t.Helper()
	if got, n := impl.ReadJournal(journal); n != wantN || !slices.Equal(got, want) {
		t.Errorf("ReadJournal(%q) = %v, %d, want %v, %d", journal, got, n, want, wantN)
	}
}

func TestP57Journals(t *testing.T) {
	checkRead(t, "", nil, 0)
	checkRead(t, "3512372869 1a block - - 1\n", ops(t, "1a block - - 1"), 26)
	checkRead(t, "3512372869 1a block - - 1\n150817177 2b text 1a - x\n", ops(t, "1a block - - 1", "2b text 1a - x"), 51)
	// The operations may be in any order, and may refer to what is not there.
	checkRead(t, "150817177 2b text 1a - x\n3512372869 1a block - - 1\n", ops(t, "1a block - - 1", "2b text 1a - x"), 51)
	checkRead(t, "150817177 2b text 1a - x\n", ops(t, "2b text 1a - x"), 25)
	// An operation of each kind.
	list, _ := sampleOps()
	for _, o := range list {
		record := journalOf([]impl.Op{o})
		checkRead(t, record, []impl.Op{o}, len(record))
	}
	// A space may be the last character of a record.
	checkRead(t, summed("2b text 1a -  ")+summed("1a block - - 1"), ops(t, "1a block - - 1", "2b text 1a -  "), len(summed("2b text 1a -  "))+26)
}

func TestP57JournalsThatEndInTheMiddleOfARecord(t *testing.T) {
	list := ops(t, "1a block - - 1", "3c text 1a - x", "2b kind 1a 2")
	journal := journalOf(list)
	for end := range len(journal) {
		whole := strings.Count(journal[:end], "\n")
		want := slices.Clone(list[:whole])
		checkRead(t, journal[:end], want, len(journalOf(list[:whole])))
	}
	checkRead(t, journal, ops(t, "1a block - - 1", "2b kind 1a 2", "3c text 1a - x"), len(journal))
}

func TestP57MalformedRecords(t *testing.T) {
	first, last := summed("1a block - - 1"), summed("9a drop 1a")
	line := "2b text 1a - x"
	sum := fmt.Sprint(crc32.ChecksumIEEE([]byte(line)))
	small := smallSum(t)
	for _, record := range []string{
		// Another checksum.
		"0 " + line + "\n", "150817176 " + line + "\n", "15081717 " + line + "\n", sum + "0 " + line + "\n", fmt.Sprint(crc32.ChecksumIEEE([]byte(line+"\n"))) + " " + line + "\n", first[:10] + " " + line + "\n",
		// Other forms of the checksum.
		" " + line + "\n", line + "\n", "0" + sum + " " + line + "\n", "+" + sum + " " + line + "\n", "-" + sum + " " + line + "\n", " " + sum + " " + line + "\n", sum + "  " + line + "\n", sum + "\t" + line + "\n", sum + line + "\n", sum + ".0 " + line + "\n",
		fmt.Sprintf("%x %s\n", crc32.ChecksumIEEE([]byte(line)), line), fmt.Sprintf("%d %s\n", int(crc32.ChecksumIEEE([]byte(line)))+1<<32, line), fmt.Sprintf("%d %s\n", int(crc32.ChecksumIEEE([]byte(line)))-1<<32, line),
		"0" + summed(small), fmt.Sprintf("%010d %s\n", crc32.ChecksumIEEE([]byte(small)), small),
		// Another line end, or none.
		sum + " " + line + "\r\n", sum + " " + line + " \n", sum + " " + line, sum + " " + line + "\x00\n", sum + " " + line + " " + sum + " " + line + "\n",
		// Not the text form of a valid operation, though the checksum is right.
		summed(""), summed(" "), summed("-"), summed("2b"), summed("2b text 1a -"), summed("2b text 1a - "), summed("2b text 1a - xy"), summed("2b  text 1a - x"), summed(" 2b text 1a - x"), summed("2b text 1a - x "), summed("02b text 1a - x"), summed("2b text 2b - x"),
		summed("2d text 1a - x"), summed("100a text 1a - x"), summed("2b block 1a - 5"), summed("2b note 1a 1a toolongword"), summed("2b drop -"), summed("- drop 1a"), summed("collabdoc 0 0"), summed(summed(line)),
		"\n", " \n", "\x00", "garbage", "garbage\n",
	} {
		checkRead(t, record, nil, 0)
		checkRead(t, first+record, ops(t, "1a block - - 1"), len(first))
		// What comes behind is not read, even if it is undamaged.
		checkRead(t, record+last, nil, 0)
		checkRead(t, last+first+record+summed(line), ops(t, "1a block - - 1", "9a drop 1a"), len(last+first))
	}
}

func TestP57RecordsWithTheSameID(t *testing.T) {
	first, second, last := summed("1a block - - 1"), summed("2b text 1a - x"), summed("9a drop 1a")
	for _, again := range []string{"1a block - - 1", "1a block - - 2", "1a text - - x", "2b text 1a - x", "2b kind 1a 1"} {
		checkRead(t, first+second+summed(again)+last, ops(t, "1a block - - 1", "2b text 1a - x"), len(first+second))
		checkRead(t, second+first+summed(again), ops(t, "1a block - - 1", "2b text 1a - x"), len(first+second))
	}
	checkRead(t, first+first, ops(t, "1a block - - 1"), len(first))
}

// smallSum returns the text form of an operation whose checksum has fewer than ten digits.
func smallSum(t *testing.T) string {
	for seq := 2; seq <= impl.MaxCounter; seq++ {
		if line := fmt.Sprintf("%da drop 1a", seq); crc32.ChecksumIEEE([]byte(line)) < 1000000000 {
			return line
		}
	}
	t.Fatal("no checksum is small enough")
	return ""
}

func TestP57FullLogs(t *testing.T) {
	list := dropOps(2, impl.MaxOps+2, 1)
	for n := impl.MaxOps - 1; n <= len(list); n++ {
		kept := min(n, impl.MaxOps)
		checkRead(t, journalOf(list[:n]), list[:kept], len(journalOf(list[:kept])))
		checkRead(t, journalOf(list[:n])+"garbage", list[:kept], len(journalOf(list[:kept])))
	}
	// The last records have the smallest IDs.
	slices.Reverse(list)
	want := slices.Clone(list[:impl.MaxOps])
	sortOps(want)
	checkRead(t, journalOf(list), want, len(journalOf(list[:impl.MaxOps])))
}

func TestP57LongJournals(t *testing.T) {
	list := dropOps(2, impl.MaxOps, 1)
	journal := journalOf(list)
	for length := 1498; length <= 1500; length++ {
		checkRead(t, journal+strings.Repeat("x", length-len(journal)), list, len(journal))
		checkRead(t, strings.Repeat("x", length), nil, 0)
	}
	for _, length := range []int{1501, 1502, 3000, 100000} {
		checkRead(t, journal+strings.Repeat("x", length-len(journal)), nil, 0)
		checkRead(t, strings.Repeat("x", length), nil, 0)
		checkRead(t, strings.Repeat("\n", length), nil, 0)
	}
	// The length counts before the records do.
	many := dropOps(2, 80, 0)
	for n := range many {
		journal := journalOf(many[:n+1])
		if kept := min(n+1, impl.MaxOps); len(journal) <= 1500 {
			checkRead(t, journal, many[:kept], len(journalOf(many[:kept])))
		} else {
			checkRead(t, journal, nil, 0)
		}
	}
}

func TestP57ReadingAJournalIsStable(t *testing.T) {
	r := rand.New(rand.NewSource(57))
	damagedOnes, whole, full := 0, 0, 0
	someJournals(57, func(journal string, o impl.Op) {
		got, n := impl.ReadJournal(journal)
		want, wantN := modelJournal(journal)
		if n != wantN || !slices.Equal(got, want) || !impl.ValidLog(got) {
			t.Fatalf("ReadJournal(%q) = %v, %d, want %v, %d", journal, got, n, want, wantN)
		}
		garbage := damaged(r, summed("1a garbage"))
		for _, again := range []string{journal[:n], journal[:n] + "\n", journal[:n] + garbage, journal[:n] + summed("- garbage") + journal[:n]} {
			if log, m := impl.ReadJournal(again); len(again) <= 1500 && (m != n || !slices.Equal(log, got)) {
				t.Fatalf("ReadJournal(%q) = %v, %d, but ReadJournal(%q) = %v, %d", journal, got, n, again, log, m)
			}
		}
		switch {
		case n < len(journal):
			damagedOnes++
		case len(got) == impl.MaxOps:
			full++
		default:
			whole++
		}
	})
	if damagedOnes < rounds/2 || whole < rounds || full < rounds/30 {
		t.Errorf("the test has %d damaged journals, %d with a full log, and %d others", damagedOnes, full, whole)
	}
}

// checkAppend fails the test if an operation cannot be appended, or not so that the journal is what is wanted.
func checkAppend(t *testing.T, journal string, o impl.Op, want string) {
	t.Helper()
	if got, ok := impl.AppendJournal(journal, o); !ok || got != want {
		t.Errorf("AppendJournal(%q, %v) = %q, %v, want %q", journal, o, got, ok, want)
	}
}

// checkNoAppend fails the test if an operation can be appended, or the journal does not stay as it is, also in a crash.
func checkNoAppend(t *testing.T, journal string, o impl.Op) {
	t.Helper()
	if got, ok := impl.AppendJournal(journal, o); ok || got != journal {
		t.Errorf("AppendJournal(%q, %v) = %q, %v, want the same journal", journal, o, got, ok)
	}
	for _, n := range []int{math.MinInt, -1, 0, 1, 5, 1000, math.MaxInt} {
		if got := impl.TornJournal(journal, o, n); got != journal {
			t.Errorf("TornJournal(%q, %v, %d) = %q, want the same journal", journal, o, n, got)
		}
	}
}

func TestP55Appends(t *testing.T) {
	checkAppend(t, "", ops(t, "1a block - - 1")[0], "3512372869 1a block - - 1\n")
	checkAppend(t, "3512372869 1a block - - 1\n", ops(t, "2b text 1a - x")[0], "3512372869 1a block - - 1\n150817177 2b text 1a - x\n")
	checkAppend(t, "150817177 2b text 1a - x\n", ops(t, "1a block - - 1")[0], "150817177 2b text 1a - x\n3512372869 1a block - - 1\n")
	list, lines := sampleOps()
	for i, o := range list {
		checkAppend(t, summed("1c text - - y"), o, summed("1c text - - y")+summed(lines[i]))
	}
	// Until the log is full, also if the IDs become smaller.
	all := dropOps(2, impl.MaxOps, 0)
	last := slices.Clone(all)
	slices.Reverse(last)
	for _, order := range [][]impl.Op{all, last} {
		for i, o := range order {
			checkAppend(t, journalOf(order[:i]), o, journalOf(order[:i+1]))
		}
		checkRead(t, journalOf(order), all, len(journalOf(order)))
	}
}

func TestP55ImpossibleAppends(t *testing.T) {
	good := ops(t, "9c text 1a - z")[0]
	journal := journalOf(ops(t, "1a block - - 1", "3b text 1a - x"))
	// Invalid operations, and those whose ID is there already.
	for _, o := range []impl.Op{{}, {ID: at(9, 2)}, {ID: at(9, 2), Kind: impl.OpInsert}, {ID: at(9, 2), Kind: impl.OpInsert, Value: 'x', Text: "word"}, {ID: at(9, 2), Kind: impl.OpDelete, Target: at(9, 2)}, {Kind: impl.OpInsert, Value: 'x'}, {ID: at(100, 0), Kind: impl.OpInsert, Value: 'x'}} {
		checkNoAppend(t, journal, o)
		checkNoAppend(t, "", o)
	}
	for _, o := range ops(t, "1a block - - 1", "1a text - - y", "3b text 1a - x", "3b drop 1a") {
		checkNoAppend(t, journal, o)
	}
	// Journals that are not read to their end.
	for _, more := range []string{"\n", " ", "x", "0", "9", "garbage\n", summed("9d text 1a - z"), journal, journal[:26], summed("9c text 1a - z")[:20], "0" + summed("9a text 1a - z"), summed("8c text 1a - z ")} {
		checkNoAppend(t, journal+more, good)
	}
	checkNoAppend(t, "garbage", good)
	checkNoAppend(t, "\n", good)
	// The log is full, or the journal has more records than the log has room for.
	full := dropOps(2, impl.MaxOps+1, 0)
	checkNoAppend(t, journalOf(full[:impl.MaxOps]), good)
	checkNoAppend(t, journalOf(full), good)
	checkNoAppend(t, journalOf(full[:impl.MaxOps-1])+"x", good)
	// The journal is as long as it may be, or longer.
	for _, length := range []int{1499, 1500, 1501, 1600} {
		checkNoAppend(t, journal+strings.Repeat("x", length-len(journal)), good)
		checkNoAppend(t, strings.Repeat("x", length), good)
	}
	checkNoAppend(t, journalOf(dropOps(2, 80, 0)), good)
}

// TestP55TheLongestJournal shows that a journal of MaxOps records is always shorter than MaxJournal.
func TestP55TheLongestJournal(t *testing.T) {
	var list []impl.Op
	for seq := impl.MaxCounter; len(list) < impl.MaxOps; seq-- {
		for who := range impl.MaxAuthors {
			o := impl.Op{ID: at(seq, who), Kind: impl.OpComment, Target: at(11, 0), After: at(12, 0), Text: longestWord(seq, who)}
			list = append(list, o)
		}
	}
	list = list[:impl.MaxOps]
	journal := ""
	for i, o := range list {
		record := journalOf(list[i : i+1])
		if len(record) != 37 {
			t.Fatalf("the record %q has %d bytes", record, len(record))
		}
		checkAppend(t, journal, o, journal+record)
		journal += record
	}
	sortOps(list)
	checkRead(t, journal, list, 1480)
}

// longestWord returns a word for a comment whose checksum has ten digits.
func longestWord(seq int, who int) string {
	for c := 'a'; ; c++ {
		word := strings.Repeat(string(c), impl.MaxWord)
		line := fmt.Sprintf("%d%c note 11a 12a %s", seq, 'a'+who, word)
		if crc32.ChecksumIEEE([]byte(line)) >= 1000000000 {
			return word
		}
	}
}

func TestP55AnAppendedRecordIsReadBack(t *testing.T) {
	appended, refused := 0, 0
	someJournals(55, func(journal string, o impl.Op) {
		got, ok := impl.AppendJournal(journal, o)
		want, wantOK := modelAppend(journal, o)
		if got != want || ok != wantOK {
			t.Fatalf("AppendJournal(%q, %v) = %q, %v, want %q, %v", journal, o, got, ok, want, wantOK)
		}
		if !ok {
			checkNoAppend(t, journal, o)
			refused++
			return
		}
		old, n := impl.ReadJournal(journal)
		log, m := impl.ReadJournal(got)
		if n != len(journal) || m != len(got) || !slices.Equal(log, unionOf(old, []impl.Op{o})) || len(log) != len(old)+1 {
			t.Fatalf("after AppendJournal(%q, %v), %d bytes are read, with %v", journal, o, m, log)
		}
		appended++
	})
	if appended < rounds || refused < rounds {
		t.Errorf("in the test, %d operations are appended and %d refused", appended, refused)
	}
}

func TestP56ATornWriteLosesOnlyTheLastRecord(t *testing.T) {
	torn := 0
	check := func(journal string, o impl.Op) {
		whole, ok := impl.AppendJournal(journal, o)
		if !ok {
			return
		}
		old, _ := impl.ReadJournal(journal)
		length := len(whole) - len(journal)
		for n := -2; n <= length+2; n++ {
			got := impl.TornJournal(journal, o, n)
			if got != journal+whole[len(journal):len(journal)+max(0, min(n, length))] {
				t.Fatalf("TornJournal(%q, %v, %d) = %q", journal, o, n, got)
			}
			want, wantN := old, len(journal)
			if n >= length {
				want, wantN = unionOf(old, []impl.Op{o}), len(whole)
			}
			if log, m := impl.ReadJournal(got); m != wantN || !slices.Equal(log, want) {
				t.Fatalf("after TornJournal(%q, %v, %d), %d bytes are read, with %v, want %d with %v", journal, o, n, m, log, wantN, want)
			}
			torn++
		}
	}
	check("", ops(t, "1a block - - 1")[0])
	i := 0
	someJournals(56, func(journal string, o impl.Op) {
		if i++; i%8 == 0 {
			check(journal, o)
		}
	})
	if torn < 5*rounds {
		t.Errorf("the test has only %d torn journals", torn)
	}
}

func TestP56TornRecords(t *testing.T) {
	o := ops(t, "1a block - - 1")[0]
	for _, journal := range []string{"", "150817177 2b text 1a - x\n"} {
		for n, want := range map[int]string{
			math.MinInt: "", -1: "", 0: "", 1: "3", 10: "3512372869", 11: "3512372869 ", 24: "3512372869 1a block - - ", 25: "3512372869 1a block - - 1",
			26: "3512372869 1a block - - 1\n", 27: "3512372869 1a block - - 1\n", 1500: "3512372869 1a block - - 1\n", math.MaxInt: "3512372869 1a block - - 1\n",
		} {
			if got := impl.TornJournal(journal, o, n); got != journal+want {
				t.Errorf("TornJournal(%q, %v, %d) = %q, want %q", journal, o, n, got, journal+want)
			}
		}
	}
}

func TestJournalsShareNoMemory(t *testing.T) {
	someJournals(58, func(journal string, o impl.Op) {
		checkKept(t, "ReadJournal", spareOp, func() []impl.Op { log, _ := impl.ReadJournal(journal); return log })
	})
}
