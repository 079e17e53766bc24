package tests

import (
	"math/rand"
	"slices"
	"strings"
	"testing"

	"loop.example/collabdoc/impl"
)

// written returns a log by author a that has a paragraph for each text, one behind the other.
func written(texts ...string) []string {
	var lines []string
	before := "-"
	for _, text := range texts {
		block := impl.EncodeStamp(at(len(lines)+1, 0))
		lines = append(lines, block+" block - "+before+" 1")
		lines = append(lines, typing(impl.EncodeStamp(at(len(lines)+1, 0)), block, "-", text)...)
		before = block
	}
	return lines
}

// checkFind fails the test if a text does not have these matches, each given as a block and an index.
func checkFind(t *testing.T, log []string, text string, want ...string) {
	t.Helper()
	if got := matchLines(impl.FindAll(ops(t, log...), text)); !slices.Equal(got, want) {
		t.Errorf("FindAll of %q in\n\t%s\nis %q, want %q", text, strings.Join(log, "\n\t"), got, want)
	}
}

func TestP63MatchesInARow(t *testing.T) {
	log := written("hello")
	checkFind(t, log, "hello", "1a 0")
	checkFind(t, log, "h", "1a 0")
	checkFind(t, log, "hel", "1a 0")
	checkFind(t, log, "o", "1a 4")
	checkFind(t, log, "lo", "1a 3")
	checkFind(t, log, "l", "1a 2", "1a 3")
	checkFind(t, log, "ll", "1a 2")
	for _, text := range []string{"", "x", "H", "lol", "hello ", " hello", "hellohello", "hello\n", "\n", "o\n", "\x00", "\x7f", "\xff", "é"} {
		checkFind(t, log, text)
	}
	checkFind(t, written("a b  c"), " ", "1a 1", "1a 3", "1a 4")
	checkFind(t, written("a b  c"), "  ", "1a 3")
}

func TestP63MatchesDoNotOverlap(t *testing.T) {
	checkFind(t, written("aaaa"), "aa", "1a 0", "1a 2")
	checkFind(t, written("aaaaa"), "aa", "1a 0", "1a 2")
	checkFind(t, written("aaaaa"), "aaa", "1a 0")
	checkFind(t, written("ababa"), "aba", "1a 0")
	checkFind(t, written("abababa"), "aba", "1a 0", "1a 4")
	checkFind(t, written("abcab"), "ab", "1a 0", "1a 3")
	// A match may begin within what only looks like one.
	checkFind(t, written("aaab"), "aab", "1a 1")
	checkFind(t, written("ababac"), "abac", "1a 2")
}

func TestP63MatchesInSeveralRows(t *testing.T) {
	checkFind(t, written("ab", "cd", "", "ab"), "b", "1a 1", "8a 1")
	checkFind(t, written("aba", "aa"), "a", "1a 0", "1a 2", "5a 0", "5a 1")
	// No match begins in one row and ends in another one.
	for _, text := range []string{"bc", "abcd", "b\nc", "a", "aa"} {
		checkFind(t, written("xb", "cd"), text)
	}
	// The order is that of the rows, not that of the IDs.
	checkFind(t, []string{"1a block - - 1", "2a block - - 3", "3a block 2a - 4", "4a text 1a - x", "5a text 2a - x", "6a text 3a - x"}, "x", "2a 0", "3a 0", "1a 0")
}

func TestP63OnlyVisibleTextIsFound(t *testing.T) {
	checkFind(t, gaps, "ac", "1a 0")
	for _, text := range []string{"b", "d", "abcd", "ab", "x", "z", "xz", "p", "pq"} {
		checkFind(t, gaps, text)
	}
	checkFind(t, behind(gaps, "16b undo 14a off", "16c undo 12c off", "17c undo 15c off"), "q", "2b 1")
	checkFind(t, behind(gaps, "16c undo 12c off"), "abc", "1a 0")
	checkFind(t, behind(gaps, "16a drop 1a"), "ac")
	checkFind(t, nil, "a")
	checkFind(t, nil, "")
	for _, bad := range append(badLogs(t), slices.Insert(ops(t, gaps...), 0, impl.Op{})) {
		for _, text := range []string{"", "a", "x", "\n"} {
			if got := impl.FindAll(bad, text); len(got) != 0 {
				t.Errorf("FindAll(%v, %q) = %v", bad, text, got)
			}
		}
	}
}

// someSought returns a part of the text of a row of a log, or now and then any short text.
func someSought(r *rand.Rand, log []impl.Op) string {
	rows := modelRows(log)
	if len(rows) > 0 && r.Intn(6) > 0 {
		text := rows[r.Intn(len(rows))].Text
		first := r.Intn(len(text) + 1)
		return text[first:min(len(text), first+1+r.Intn(4))]
	}
	return "abacab"[r.Intn(6):]
}

func TestP63FindAllReturnsEveryOccurrence(t *testing.T) {
	r := rand.New(rand.NewSource(63))
	found, several := 0, 0
	someWordLogs(63, func(log []impl.Op) {
		for range 3 {
			text := someSought(r, log)
			got := impl.FindAll(log, text)
			if want := modelFind(log, text); !slices.Equal(got, want) {
				t.Fatalf("FindAll(%v, %q) = %v, want %v", log, text, got, want)
			}
			if len(got) > 0 {
				found++
			}
			if len(text) > 1 && len(got) > 1 {
				several++
			}
		}
	})
	if found < 5*rounds || several < rounds {
		t.Errorf("in the test only %d texts are found, and %d several times", found, several)
	}
}

// checkReplace fails the test if a replacement does not have these operations.
func checkReplace(t *testing.T, log []impl.Op, who int, text string, repl string, want ...string) {
	t.Helper()
	if got, ok := impl.ReplaceFirst(log, who, text, repl); !ok || !slices.Equal(opLines(got), want) {
		t.Errorf("ReplaceFirst(%v, %d, %q, %q) = %q, %v, want %q", log, who, text, repl, opLines(got), ok, want)
	}
}

// checkNoReplace fails the test if a replacement does not fail.
func checkNoReplace(t *testing.T, log []impl.Op, who int, text string, repl string) {
	t.Helper()
	if got, ok := impl.ReplaceFirst(log, who, text, repl); ok || got != nil {
		t.Errorf("ReplaceFirst(%v, %d, %q, %q) = %v, %v, want failure", log, who, text, repl, got, ok)
	}
}

// checkReplacedText fails the test if the rows of a log do not have these texts after a replacement by author b.
func checkReplacedText(t *testing.T, log []string, text string, repl string, want ...string) {
	t.Helper()
	before := ops(t, log...)
	list, ok := impl.ReplaceFirst(before, 1, text, repl)
	if got := impl.RenderText(append(before, list...)); !ok || got != strings.Join(append(want, ""), "\n") {
		t.Errorf("after replacing %q by %q the rows are %q, want %q", text, repl, got, want)
	}
}

func TestP64ReplacedTexts(t *testing.T) {
	log := ops(t, written("hello")...)
	checkReplace(t, log, 1, "ell", "al", "7b text 1a 2a a", "8b text 1a 7b l", "9b erase 3a", "10b erase 4a", "11b erase 5a")
	checkReplace(t, log, 0, "h", "H", "7a text 1a - H", "8a erase 2a")
	checkReplace(t, log, 2, "o", "!", "7c text 1a 5a !", "8c erase 6a")
	checkReplace(t, log, 2, "lo", "", "7c erase 5a", "8c erase 6a")
	checkReplace(t, log, 0, "hello", "", "7a erase 2a", "8a erase 3a", "9a erase 4a", "10a erase 5a", "11a erase 6a")
	// Behind the anchor stands a deleted character.
	checkReplace(t, ops(t, gaps...), 0, "c", "e", "16a text 1a 3a e", "17a erase 5a")
	checkReplace(t, ops(t, gaps...), 0, "ac", "e", "16a text 1a - e", "17a erase 3a", "18a erase 5a")
	checkReplacedText(t, written("hello"), "l", "L", "heLlo")
	checkReplacedText(t, written("hello"), "hello", "good bye", "good bye")
	checkReplacedText(t, written("hello", "", "hello"), "o", "", "hell", "", "hello")
	checkReplacedText(t, written("ab", "cd", "cd"), "d", " x ", "ab", "c x ", "cd")
	checkReplacedText(t, written("a", "b"), "b", "", "a", "")
}

func TestP64ReplacementsThatContainTheText(t *testing.T) {
	checkReplacedText(t, written("aa"), "a", "aa", "aaa")
	checkReplacedText(t, written("aa"), "a", "a", "aa")
	checkReplacedText(t, written("hello"), "l", "<l>", "he<l>lo")
	checkReplacedText(t, written("xaby"), "ab", "abab", "xababy")
	// The text would match earlier once the replacement is there.
	checkReplacedText(t, written("aab"), "ab", "b", "ab")
	checkReplacedText(t, written("abab"), "ab", "", "ab")
	// The same text is typed anew.
	checkReplace(t, ops(t, written("hello")...), 1, "o", "o", "7b text 1a 5a o", "8b erase 6a")
}

func TestP64InvalidReplacements(t *testing.T) {
	log := ops(t, written("hello", "world")...)
	for _, text := range []string{"", "x", "low", "o\nw", "hello\n", "ow", "HELLO"} {
		checkNoReplace(t, log, 0, text, "y")
		checkNoReplace(t, log, 0, text, "")
	}
	for _, who := range []int{-1, impl.MaxAuthors, 99} {
		checkNoReplace(t, log, who, "l", "y")
		checkNoReplace(t, log, who, "l", "")
	}
	for _, repl := range []string{"\n", "\x1f", "\x7f", "a\x80", "\xffa", "é", "a\x00b"} {
		checkNoReplace(t, log, 0, "l", repl)
	}
	checkNoReplace(t, nil, 0, "a", "b")
	checkNoReplace(t, nil, 0, "", "")
	for _, bad := range badLogs(t) {
		checkNoReplace(t, bad, 0, "x", "y")
		checkNoReplace(t, bad, 0, "", "")
	}
	// What is not in a row is not replaced.
	for _, text := range []string{"p", "x", "b"} {
		checkNoReplace(t, ops(t, gaps...), 0, text, "y")
	}
}

func TestP64ReplacementsFit(t *testing.T) {
	for repl := range 5 {
		for count := 1; count <= 2; count++ {
			text, by := "ab"[:count], strings.Repeat("x", repl)
			size := repl + count
			for room := range size + 2 {
				for _, log := range [][]impl.Op{filled(t, impl.MaxOps-room, impl.MaxOps-room), filled(t, 4, impl.MaxCounter-room)} {
					got, ok := impl.ReplaceFirst(log, 1, text, by)
					if want, _ := modelReplace(log, 1, text, by); ok != (room >= size) || !slices.Equal(got, want) || ok && len(got) != size {
						t.Errorf("ReplaceFirst(%v, 1, %q, %q) with room for %d operations = %v, %v", log, text, by, room, got, ok)
					}
				}
			}
		}
	}
	// There is room for the insertions, but not for all deletions.
	checkNoReplace(t, filled(t, 38, 38), 0, "ab", "x")
	checkNoReplace(t, filled(t, 39, 39), 0, "a", "x")
	checkNoReplace(t, filled(t, 40, 40), 0, "a", "")
	checkNoReplace(t, filled(t, 4, 98), 0, "a", "x")
	checkNoReplace(t, filled(t, 4, 99), 0, "a", "")
	// There is room for the deletions only.
	checkNoReplace(t, filled(t, 38, 38), 0, "a", "xyz")
	checkReplace(t, filled(t, 38, 38), 0, "a", "x", "39a text 1a - x", "40a erase 2a")
	checkReplace(t, filled(t, 4, 97), 0, "b", "x", "98a text 1a 2a x", "99a erase 3b")
}

func TestP64ReplaceFirstReplacesTheFirstOccurrence(t *testing.T) {
	r := rand.New(rand.NewSource(64))
	replaced, further, refused := 0, 0, 0
	someWordLogs(64, func(log []impl.Op) {
		for range 3 {
			who, text, repl := someAuthor(r), someSought(r, log), []string{"", "a", "ab", "ba", someText(r)}[r.Intn(5)]
			got, ok := impl.ReplaceFirst(log, who, text, repl)
			if want, wantOK := modelReplace(log, who, text, repl); ok != wantOK || !slices.Equal(got, want) {
				t.Fatalf("ReplaceFirst(%v, %d, %q, %q) = %v, %v, want %v, %v", log, who, text, repl, got, ok, want, wantOK)
			}
			matches := modelFind(log, text)
			if !ok {
				if len(matches) > 0 {
					refused++
				}
				continue
			}
			block := matches[0].Block
			checkTexts(t, log, append(slices.Clone(log), got...), block, strings.Replace(textIn(modelDoc(log), block), text, repl, 1))
			replaced++
			if len(matches) > 1 {
				further++
			}
		}
	})
	if replaced < 3*rounds || further < rounds || refused < rounds {
		t.Errorf("in the test only %d texts are replaced, %d of them with further occurrences, and %d do not fit", replaced, further, refused)
	}
}
