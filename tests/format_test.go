package tests

import (
	"math"
	"math/rand"
	"slices"
	"strings"
	"testing"

	"loop.example/collabdoc/impl"
)

// checkRuns fails the test if the runs of a block are not these lines.
func checkRuns(t *testing.T, log []string, block impl.Stamp, want ...string) {
	t.Helper()
	if got := runLines(impl.FormatRuns(ops(t, log...), block)); !slices.Equal(got, want) {
		t.Errorf("the runs of %v of\n\t%s\nare\n\t%s\nwant\n\t%s", block, strings.Join(log, "\n\t"), strings.Join(got, "\n\t"), strings.Join(want, "\n\t"))
	}
}

// sentence has the text abcdef in the block 1a; the characters are 2a to 7a.
var sentence = []string{"1a block - - 1", "2a text 1a - a", "3a text 1a 2a b", "4a text 1a 3a c", "5a text 1a 4a d", "6a text 1a 5a e", "7a text 1a 6a f"}

// runsOf returns runs with marks and texts, given in turn.
func runsOf(marksAndTexts ...any) []impl.Run {
	var runs []impl.Run
	for i := 0; i < len(marksAndTexts); i += 2 {
		runs = append(runs, impl.Run{Marks: marksAndTexts[i].(int), Text: marksAndTexts[i+1].(string)})
	}
	return runs
}

// randomRuns returns runs that FormatRuns may not return: empty ones, neighbours with equal marks, and any bits and bytes.
func randomRuns(r *rand.Rand) []impl.Run {
	var runs []impl.Run
	for range r.Intn(8) {
		run := impl.Run{Marks: r.Intn(1 << impl.MaxMarks)}
		switch r.Intn(6) {
		case 0:
			run.Marks = int(r.Uint64())
		case 1:
			run.Marks -= 1 << impl.MaxMarks * r.Intn(3)
		}
		for range r.Intn(5) {
			run.Text += []string{"a", "<", "&", ">", ";", "lt;", "</b>", "&amp;", "\xff", "\n", "é"}[r.Intn(11)]
		}
		runs = append(runs, run)
	}
	return runs
}

// untagged removes the tags from markup and puts back the characters that it writes in another way. It returns the numbers of opening and of closing tags.
func untagged(t *testing.T, markup string) (text string, opening int, closing int) {
	t.Helper()
	open := map[string]bool{}
	for markup != "" {
		tag, rest, isTag := strings.Cut(markup, ">")
		name, isClosing := strings.CutPrefix(tag, "</")
		switch {
		case markup[0] == '<' && isTag && isClosing:
			if !open[name] {
				t.Fatalf("the tag %s is closed, but not open", name)
			}
			open[name] = false
			closing++
			markup = rest
		case markup[0] == '<':
			if !isTag || open[tag[1:]] || !slices.Contains([]string{"<b", "<i", "<c"}, tag) {
				t.Fatalf("no tag can be opened at %q", markup)
			}
			open[tag[1:]] = true
			opening++
			markup = rest
		case strings.HasPrefix(markup, "&lt;"):
			text, markup = text+"<", markup[len("&lt;"):]
		case strings.HasPrefix(markup, "&amp;"):
			text, markup = text+"&", markup[len("&amp;"):]
		case markup[0] == '&':
			t.Fatalf("& is not replaced at %q", markup)
		default:
			text, markup = text+markup[:1], markup[1:]
		}
	}
	return text, opening, closing
}

func TestRunsOfBlocks(t *testing.T) {
	checkRuns(t, sentence, at(1, 0), `0 "abcdef"`)
	checkRuns(t, typed, at(1, 0), `0 "xyz"`)
	checkRuns(t, typed, at(2, 0), `0 "pq"`)
	checkRuns(t, behind(sentence, "8b mark 4a 5a 1 on"), at(1, 0), `0 "ab"`, `1 "cd"`, `0 "ef"`)
	checkRuns(t, behind(sentence, "8b mark 2a 7a 3 on"), at(1, 0), `4 "abcdef"`)
	checkRuns(t, behind(sentence, "8b mark 2a 7a 3 on", "9b mark 4a 4a 3 off"), at(1, 0), `4 "ab"`, `0 "c"`, `4 "def"`)
	checkRuns(t, behind(sentence, "8b mark 3a 5a 1 on", "9b undo 8b off"), at(1, 0), `0 "abcdef"`)
	checkRuns(t, []string{"1a block - - 1", "2a text 1a -  ", "3a text 1a 2a <", "4a text 1a 3a &", "5a text 1a 4a ~"}, at(1, 0), `0 " <&~"`)
}

func TestRunsOfOverlappingMarks(t *testing.T) {
	checkRuns(t, behind(sentence, "8b mark 2a 5a 1 on", "8c mark 4a 7a 2 on"), at(1, 0), `1 "ab"`, `3 "cd"`, `2 "ef"`)
	checkRuns(t, behind(sentence, "8b mark 2a 7a 1 on", "8c mark 4a 5a 3 on"), at(1, 0), `1 "ab"`, `5 "cd"`, `1 "ef"`)
	checkRuns(t, behind(sentence, "8a mark 2a 4a 3 on", "8b mark 3a 5a 2 on", "8c mark 4a 6a 1 on"), at(1, 0), `4 "a"`, `6 "b"`, `7 "c"`, `3 "d"`, `1 "e"`, `0 "f"`)
	// The same mark: overlapping, touching, and partly cleared.
	checkRuns(t, behind(sentence, "8b mark 2a 5a 1 on", "8c mark 4a 6a 1 on"), at(1, 0), `1 "abcde"`, `0 "f"`)
	checkRuns(t, behind(sentence, "8b mark 2a 4a 1 on", "8c mark 5a 7a 1 on"), at(1, 0), `1 "abcdef"`)
	checkRuns(t, behind(sentence, "8b mark 2a 5a 1 on", "8c mark 4a 6a 1 off"), at(1, 0), `1 "ab"`, `0 "cdef"`)
	// One mark ends where the other one begins.
	checkRuns(t, behind(sentence, "8b mark 2a 4a 1 on", "8c mark 5a 7a 2 on"), at(1, 0), `1 "abc"`, `2 "def"`)
}

func TestRunsOfDeletedCharacters(t *testing.T) {
	checkRuns(t, behind(sentence, "8b erase 4a"), at(1, 0), `0 "abdef"`)
	// A deleted character with other marks does not divide a run.
	checkRuns(t, behind(sentence, "8b mark 4a 4a 1 on", "9c erase 4a"), at(1, 0), `0 "abdef"`)
	checkRuns(t, behind(sentence, "8b mark 3a 5a 1 on", "9b mark 4a 4a 1 off", "9c erase 4a"), at(1, 0), `0 "a"`, `1 "bd"`, `0 "ef"`)
	checkRuns(t, behind(sentence, "8a undo 4a off", "9b mark 4a 4a 2 on"), at(1, 0), `0 "abdef"`)
	// A mark reaches from one deleted character to another one.
	checkRuns(t, behind(sentence, "8b mark 3a 6a 1 on", "9c erase 3a", "10c erase 6a"), at(1, 0), `0 "a"`, `1 "cd"`, `0 "f"`)
	checkRuns(t, behind(typed, "8b erase 3a", "9b erase 4a", "10b erase 5a"), at(1, 0))
}

func TestRunsOfTheRootAndOfDeletedBlocks(t *testing.T) {
	log := []string{"1a text - - x", "2a text - 1a y", "3a block - - 1", "4a text 3a - z", "5a mark 2a 2a 2 on", "6b drop 3a"}
	checkRuns(t, log, impl.Stamp{}, `0 "x"`, `2 "y"`)
	checkRuns(t, log, at(3, 0), `0 "z"`)
	checkRuns(t, sentence, impl.Stamp{})
	checkRuns(t, nil, impl.Stamp{})
	for _, none := range append(badStamps(), at(2, 0), at(1, 1), at(9, 0), at(99, 2)) {
		checkRuns(t, sentence, none)
	}
}

func TestRunsAreNotDividedByOtherBlocks(t *testing.T) {
	// The text of block 2a stands between two characters of block 1a.
	log := behind(typed, "8a text 1a - w", "9b text 2a - o", "10c text 1a - v")
	checkRuns(t, log, at(1, 0), `0 "vwxyz"`)
	checkRuns(t, log, at(2, 0), `0 "opq"`)
	log = behind(log, "11a mark 10c 3a 1 on", "11b mark 9b 7a 2 on")
	checkRuns(t, log, at(1, 0), `1 "vwx"`, `0 "yz"`)
	checkRuns(t, log, at(2, 0), `2 "opq"`)
}

func TestInvalidLogsHaveNoRuns(t *testing.T) {
	for _, bad := range badLogs(t) {
		for _, block := range []impl.Stamp{{}, at(1, 0), at(-1, 7)} {
			if runs := impl.FormatRuns(bad, block); runs != nil {
				t.Errorf("FormatRuns(%v, %v) = %v, want nil", bad, block, runs)
			}
		}
	}
}

func TestP23RunsAreMaximal(t *testing.T) {
	divided, marked := 0, 0
	someViewLogs(23, func(log []impl.Op) {
		for _, b := range append([]impl.Block{{}}, impl.BuildDoc(log).Blocks...) {
			runs, want := impl.FormatRuns(log, b.ID), modelRuns(log, b.ID)
			if !slices.Equal(runs, want) {
				t.Fatalf("the runs of %v of %v are %q, want %q", b.ID, log, runLines(runs), runLines(want))
			}
			for i, run := range runs {
				if run.Text == "" || i > 0 && runs[i-1].Marks == run.Marks {
					t.Fatalf("the runs %q of %v of %v are not maximal", runLines(runs), b.ID, log)
				}
				if run.Marks != 0 && len(run.Text) > 1 {
					marked++
				}
			}
			if len(runs) > 2 {
				divided++
			}
		}
	})
	if divided < rounds/3 || marked < rounds {
		t.Errorf("the logs of the test have only %d divided texts and %d marked runs", divided, marked)
	}
}

func TestRunsText(t *testing.T) {
	for _, x := range []struct {
		runs []impl.Run
		want string
	}{
		{nil, ""}, {[]impl.Run{}, ""}, {[]impl.Run{{}}, ""}, {[]impl.Run{{Marks: 7}, {Marks: -1}}, ""},
		{[]impl.Run{{Text: "a"}}, "a"},
		{runsOf(1, "ab", 0, "", 1, "c", 1, "d", -9, "<&>", math.MaxInt, "\xff\x00\n"), "abcd<&>\xff\x00\n"},
	} {
		if got := impl.RunsText(x.runs); got != x.want {
			t.Errorf("RunsText(%q) = %q, want %q", runLines(x.runs), got, x.want)
		}
	}
}

// markups has runs and their markup.
var markups = []struct {
	runs []impl.Run
	want string
}{
	{nil, ""}, {[]impl.Run{}, ""}, {runsOf(0, "plain"), "plain"},
	{runsOf(1, "x"), "<b>x</b>"}, {runsOf(2, "x"), "<i>x</i>"}, {runsOf(4, "x"), "<c>x</c>"},
	{runsOf(7, "x"), "<b><i><c>x</c></i></b>"}, {runsOf(5, "x"), "<b><c>x</c></b>"}, {runsOf(6, "x"), "<i><c>x</c></i>"},
	// Some marks are closed and others opened at the same place.
	{runsOf(1, "a", 2, "b"), "<b>a</b><i>b</i>"}, {runsOf(2, "a", 1, "b"), "<i>a</i><b>b</b>"},
	{runsOf(6, "a", 1, "b"), "<i><c>a</c></i><b>b</b>"}, {runsOf(1, "a", 6, "b", 1, "c"), "<b>a</b><i><c>b</c></i><b>c</b>"},
	{runsOf(3, "a", 6, "b"), "<b><i>a</b><c>b</c></i>"}, {runsOf(7, "a", 0, "b", 7, "c"), "<b><i><c>a</c></i></b>b<b><i><c>c</c></i></b>"},
	// Overlapping marks are closed where they end, not where they are nested.
	{runsOf(1, "a", 3, "b", 2, "c"), "<b>a<i>b</b>c</i>"}, {runsOf(2, "a", 3, "b", 1, "c"), "<i>a<b>b</i>c</b>"},
	{runsOf(1, "a", 3, "b", 7, "c", 6, "d", 4, "e"), "<b>a<i>b<c>c</b>d</i>e</c>"}, {runsOf(0, "a", 5, "b", 4, "c", 0, "d"), "a<b><c>b</b>c</c>d"},
	{runsOf(5, "a", 7, "b", 5, "c"), "<b><c>a<i>b</i>c</c></b>"},
	// Neighbours with equal marks, and runs without a text.
	{runsOf(1, "a", 1, "b", 0, "c", 0, "d"), "<b>ab</b>cd"}, {runsOf(1, ""), "<b></b>"}, {runsOf(0, ""), ""},
	{runsOf(1, "a", 0, "", 1, "b"), "<b>a</b><b>b</b>"}, {runsOf(1, "a", 1, "", 1, "b"), "<b>ab</b>"},
	{runsOf(1, "a", 2, "", 1, "b"), "<b>a</b><i></i><b>b</b>"}, {runsOf(7, "", 2, ""), "<b><i><c></c></b></i>"},
	// Bits beyond the marks.
	{runsOf(8, "a", 16, "b"), "ab"}, {runsOf(9, "a", 1, "b", 17, "c"), "<b>abc</b>"}, {runsOf(math.MinInt, "a"), "a"}, {runsOf(math.MaxInt, "a"), "<b><i><c>a</c></i></b>"},
	{runsOf(-1, "a"), "<b><i><c>a</c></i></b>"}, {runsOf(-8, "a"), "a"}, {runsOf(-3, "a", 5, "b"), "<b><c>ab</c></b>"}, {runsOf(-2, "a", 1, "b"), "<i><c>a</c></i><b>b</b>"},
	{runsOf(1<<32, "a", 1<<62|2, "b"), "a<i>b</i>"},
	// Characters that have a meaning in markup.
	{runsOf(0, "<"), "&lt;"}, {runsOf(0, "&"), "&amp;"}, {runsOf(1, "a<b&c>d"), "<b>a&lt;b&amp;c>d</b>"}, {runsOf(2, "&lt;"), "<i>&amp;lt;</i>"},
	{runsOf(0, "<b>", 4, "&amp;"), "&lt;b><c>&amp;amp;</c>"}, {runsOf(0, "<<&&"), "&lt;&lt;&amp;&amp;"}, {runsOf(0, "\"'>\n\x00\xffé"), "\"'>\n\x00\xffé"},
}

func TestP24Markup(t *testing.T) {
	for _, x := range markups {
		if got := impl.RunsMarkup(x.runs); got != x.want {
			t.Errorf("RunsMarkup(%q) = %q, want %q", runLines(x.runs), got, x.want)
		}
	}
}

func TestP24MarkupIsBalancedAndReversible(t *testing.T) {
	tags := 0
	check := func(runs []impl.Run) {
		markup := impl.RunsMarkup(runs)
		if want := modelMarkup(runs); markup != want {
			t.Fatalf("RunsMarkup(%q) = %q, want %q", runLines(runs), markup, want)
		}
		text, opening, closing := untagged(t, markup)
		if text != impl.RunsText(runs) || opening != closing {
			t.Fatalf("RunsMarkup(%q) = %q has the text %q, %d opening tags and %d closing tags", runLines(runs), markup, text, opening, closing)
		}
		tags += opening
	}
	for _, x := range markups {
		check(x.runs)
	}
	r := rand.New(rand.NewSource(24))
	for range 10 * rounds {
		check(randomRuns(r))
	}
	someViewLogs(24, func(log []impl.Op) {
		for _, b := range append([]impl.Block{{}}, impl.BuildDoc(log).Blocks...) {
			check(impl.FormatRuns(log, b.ID))
		}
	})
	if tags < 10*rounds {
		t.Errorf("the markup of the test has only %d tags", tags)
	}
}

func TestP24MarkupOfDocuments(t *testing.T) {
	for _, x := range []struct {
		log  []string
		want string
	}{
		{sentence, "abcdef"},
		{behind(sentence, "8b mark 2a 5a 1 on", "8c mark 4a 7a 2 on"), "<b>ab<i>cd</b>ef</i>"},
		{behind(sentence, "8b mark 2a 4a 1 on", "8c mark 5a 7a 2 on"), "<b>abc</b><i>def</i>"},
		{behind(sentence, "8b mark 2a 4a 3 on", "8c mark 5a 7a 1 on"), "<c>abc</c><b>def</b>"},
		{behind(sentence, "8b mark 3a 5a 1 on", "9b mark 4a 4a 1 off", "9c erase 4a"), "a<b>bd</b>ef"},
		{[]string{"1a block - - 1", "2a text 1a - <", "3a text 1a 2a &", "4a mark 3a 3a 2 on", "5a text 1a 3a >"}, "&lt;<i>&amp;</i>>"},
		{behind(typed, "8b drop 1a", "9b mark 3a 3a 1 on"), "<b>x</b>yz"},
	} {
		if got := impl.RunsMarkup(impl.FormatRuns(ops(t, x.log...), at(1, 0))); got != x.want {
			t.Errorf("the markup of %q is %q, want %q", x.log, got, x.want)
		}
	}
}

func TestFormattingChangesNoArgument(t *testing.T) {
	spare := impl.Op{ID: at(98, 2), Kind: impl.OpReply, Target: at(1, 0), Text: "behind"}
	check := func(log []impl.Op) {
		for _, block := range []impl.Stamp{{}, at(1, 0), at(1, 1)} {
			checkFresh(t, "FormatRuns", log, spare, func(log []impl.Op) []impl.Op { impl.FormatRuns(log, block); return nil })
		}
	}
	someViewLogs(70, check)
	for _, bad := range badLogs(t) {
		check(bad)
	}
	r := rand.New(rand.NewSource(70))
	for range rounds {
		runs := randomRuns(r)
		checkFresh(t, "RunsText", runs, impl.Run{Marks: 7}, func(runs []impl.Run) []impl.Run { impl.RunsText(runs); return nil })
		checkFresh(t, "RunsMarkup", runs, impl.Run{Marks: 7}, func(runs []impl.Run) []impl.Run { impl.RunsMarkup(runs); return nil })
	}
}

func TestRunsShareNoMemory(t *testing.T) {
	someViewLogs(71, func(log []impl.Op) {
		for _, b := range append([]impl.Block{{}}, impl.BuildDoc(log).Blocks...) {
			want := modelRuns(log, b.ID)
			runs, kept := impl.FormatRuns(log, b.ID), impl.FormatRuns(log, b.ID)
			overwrite(runs, impl.Run{Marks: 77})
			if !slices.Equal(kept, want) || !slices.Equal(impl.FormatRuns(log, b.ID), want) {
				t.Fatalf("changing the runs of %v changes another result for %v", b.ID, log)
			}
		}
	})
}
