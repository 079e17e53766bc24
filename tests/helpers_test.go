package tests

import (
	"math"
	"math/rand"
	"slices"
	"testing"

	"loop.example/collabdoc/impl"
)

// at is short for a stamp literal.
func at(seq int, author int) impl.Stamp {
	return impl.Stamp{Seq: seq, Author: author}
}

// allStamps returns the valid stamps in stamp order.
func allStamps() []impl.Stamp {
	var all []impl.Stamp
	for seq := 1; seq <= impl.MaxCounter; seq++ {
		for who := range impl.MaxAuthors {
			all = append(all, at(seq, who))
		}
	}
	return all
}

// badStamps returns stamps that are neither valid nor zero.
func badStamps() []impl.Stamp {
	return []impl.Stamp{
		at(0, 1), at(0, 2), at(-1, 0), at(impl.MaxCounter+1, 0), at(impl.MaxCounter+1, 2),
		at(1, -1), at(0, -1), at(1, impl.MaxAuthors), at(impl.MaxCounter, impl.MaxAuthors),
		at(math.MaxInt, 0), at(math.MinInt, 0), at(1, math.MaxInt), at(1, math.MinInt),
		at(math.MinInt, math.MinInt), at(math.MaxInt, math.MaxInt),
	}
}

// badVectors returns vectors that are not valid.
func badVectors() [][]int {
	bad := [][]int{nil, {}, {1}, {1, 2}, {1, 2, 3, 4}, {0, 0, 0, 0}}
	for who := range impl.MaxAuthors {
		for _, seq := range []int{-1, impl.MaxCounter + 1, math.MinInt, math.MaxInt} {
			v := []int{5, 6, 7}
			v[who] = seq
			bad = append(bad, v)
		}
	}
	return bad
}

// ops decodes operations, one per string.
func ops(t *testing.T, lines ...string) []impl.Op {
	t.Helper()
	log := []impl.Op{}
	for _, s := range lines {
		o, ok := impl.DecodeOp(s)
		if !ok {
			t.Fatalf("cannot decode %q", s)
		}
		log = append(log, o)
	}
	return log
}

// dropOps returns n operations by author who with the sequence numbers from first on.
func dropOps(first int, n int, who int) []impl.Op {
	log := []impl.Op{}
	for i := range n {
		log = append(log, impl.Op{ID: at(first+i, who), Kind: impl.OpRemoveBlock, Target: at(1, 0)})
	}
	return log
}

// randomOp returns some valid operation with an ID, which must not be the first stamp of all.
func randomOp(r *rand.Rand, id impl.Stamp) impl.Op {
	past := allStamps()
	past = past[:(id.Seq-1)*impl.MaxAuthors+id.Author]
	ref := func() impl.Stamp { return past[r.Intn(len(past))] }
	maybe := func() impl.Stamp {
		if r.Intn(3) == 0 {
			return impl.Stamp{}
		}
		return ref()
	}
	word := "abcdefgh"[r.Intn(impl.MaxWord):]
	switch kind := 1 + r.Intn(impl.OpUndo); kind {
	case impl.OpInsert:
		return impl.Op{ID: id, Kind: kind, Target: maybe(), After: maybe(), Value: 32 + r.Intn(95)}
	case impl.OpFormat:
		return impl.Op{ID: id, Kind: kind, Target: ref(), After: ref(), Value: 1 + r.Intn(impl.MaxMarks), Enable: r.Intn(2) == 0}
	case impl.OpAddBlock:
		return impl.Op{ID: id, Kind: kind, Target: maybe(), After: maybe(), Value: 1 + r.Intn(impl.MaxKind)}
	case impl.OpMoveBlock:
		return impl.Op{ID: id, Kind: kind, Target: ref(), After: maybe(), NewParent: maybe()}
	case impl.OpSetKind:
		return impl.Op{ID: id, Kind: kind, Target: ref(), Value: 1 + r.Intn(impl.MaxKind)}
	case impl.OpComment:
		return impl.Op{ID: id, Kind: kind, Target: ref(), After: ref(), Text: word}
	case impl.OpReply:
		return impl.Op{ID: id, Kind: kind, Target: ref(), Text: word}
	case impl.OpUndo:
		return impl.Op{ID: id, Kind: kind, Target: ref(), Enable: r.Intn(2) == 0}
	default:
		return impl.Op{ID: id, Kind: kind, Target: ref()}
	}
}

// randomLog returns a log of n random operations.
func randomLog(r *rand.Rand, n int) []impl.Op {
	stamps := allStamps()
	log := []impl.Op{}
	for _, i := range r.Perm(len(stamps) - 1)[:n] {
		log = append(log, randomOp(r, stamps[i+1]))
	}
	sortOps(log)
	return log
}

// sortOps sorts by ID without the package under test.
func sortOps(log []impl.Op) {
	key := func(o impl.Op) int { return o.ID.Seq*impl.MaxAuthors + o.ID.Author }
	slices.SortFunc(log, func(a impl.Op, b impl.Op) int { return key(a) - key(b) })
}

// someOf returns each operation of log with a probability of one half.
func someOf(r *rand.Rand, log []impl.Op) []impl.Op {
	some := []impl.Op{}
	for _, o := range log {
		if r.Intn(2) == 0 {
			some = append(some, o)
		}
	}
	return some
}

// checkFresh fails the test if call changes its argument or anything behind its end, or if its result shares memory with that.
func checkFresh[E comparable](t *testing.T, name string, arg []E, behind E, call func(arg []E) []E) {
	t.Helper()
	memory := append(slices.Clone(arg), behind, behind, behind)
	before := slices.Clone(memory)
	result := call(memory[:len(arg)])
	if !slices.Equal(memory, before) {
		t.Errorf("%s changes its argument %v", name, arg)
	}
	result = result[:cap(result)]
	for i := range result {
		result[i] = behind
	}
	if !slices.Equal(memory, before) {
		t.Errorf("%s shares memory with its argument %v", name, arg)
	}
}
