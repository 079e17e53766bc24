package tests

import (
	"slices"
	"testing"

	"loop.example/collabdoc/impl"
)

// someVectors returns all vectors whose entries are limits or numbers between them.
func someVectors() [][]int {
	entries := []int{0, 1, 2, 50, impl.MaxCounter}
	var all [][]int
	for _, x := range entries {
		for _, y := range entries {
			for _, z := range entries {
				all = append(all, []int{x, y, z})
			}
		}
	}
	return all
}

// stampsNear returns valid stamps on both sides of the entries of someVectors.
func stampsNear() []impl.Stamp {
	var all []impl.Stamp
	for _, seq := range []int{1, 2, 3, 49, 50, 51, 98, 99} {
		for who := range impl.MaxAuthors {
			all = append(all, at(seq, who))
		}
	}
	return all
}

func TestValidVector(t *testing.T) {
	for _, v := range someVectors() {
		if !impl.ValidVector(v) {
			t.Errorf("ValidVector(%v) = false", v)
		}
	}
	for _, v := range badVectors() {
		if impl.ValidVector(v) {
			t.Errorf("ValidVector(%v) = true", v)
		}
	}
}

func TestP4VectorContains(t *testing.T) {
	for _, v := range someVectors() {
		for _, s := range allStamps() {
			if impl.VectorContains(v, s) != (s.Seq <= v[s.Author]) {
				t.Errorf("VectorContains(%v, %v) is wrong", v, s)
			}
		}
		for _, s := range append(badStamps(), impl.Stamp{}) {
			if impl.VectorContains(v, s) {
				t.Errorf("VectorContains(%v, %v) = true for an invalid stamp", v, s)
			}
		}
	}
	for _, v := range badVectors() {
		for _, s := range append(stampsNear(), badStamps()...) {
			if impl.VectorContains(v, s) {
				t.Errorf("VectorContains(%v, %v) = true for an invalid vector", v, s)
			}
		}
	}
}

func TestP4VectorsFormALattice(t *testing.T) {
	for _, a := range someVectors() {
		for _, b := range someVectors() {
			upper, lower := impl.VectorMax(a, b), impl.VectorMin(a, b)
			if !impl.ValidVector(upper) || !impl.ValidVector(lower) {
				t.Fatalf("VectorMax or VectorMin of %v and %v is invalid: %v, %v", a, b, upper, lower)
			}
			if !slices.Equal(upper, impl.VectorMax(b, a)) || !slices.Equal(lower, impl.VectorMin(b, a)) {
				t.Errorf("VectorMax or VectorMin of %v and %v is not commutative", a, b)
			}
			for _, s := range stampsNear() {
				inA, inB := impl.VectorContains(a, s), impl.VectorContains(b, s)
				if impl.VectorContains(upper, s) != (inA || inB) || impl.VectorContains(lower, s) != (inA && inB) {
					t.Errorf("VectorMax or VectorMin of %v and %v contains the wrong stamps: %v, %v", a, b, upper, lower)
				}
			}
		}
	}
}

func TestP4EntriesAreCombined(t *testing.T) {
	a, b := []int{3, 0, 99}, []int{1, 4, 99}
	if v := impl.VectorMax(a, b); !slices.Equal(v, []int{3, 4, 99}) {
		t.Errorf("VectorMax = %v", v)
	}
	if v := impl.VectorMin(a, b); !slices.Equal(v, []int{1, 0, 99}) {
		t.Errorf("VectorMin = %v", v)
	}
}

func TestP4InvalidVectorsHaveNoMaximum(t *testing.T) {
	good := []int{5, 6, 7}
	for _, bad := range badVectors() {
		for _, pair := range [][2][]int{{good, bad}, {bad, good}, {bad, bad}} {
			if impl.VectorMax(pair[0], pair[1]) != nil || impl.VectorMin(pair[0], pair[1]) != nil {
				t.Errorf("VectorMax or VectorMin of %v is not nil", pair)
			}
		}
	}
}

func TestP5VectorLessEqualIsTheOrderOfTheLattice(t *testing.T) {
	for _, a := range someVectors() {
		for _, b := range someVectors() {
			less := impl.VectorLessEqual(a, b)
			if less != (a[0] <= b[0] && a[1] <= b[1] && a[2] <= b[2]) {
				t.Errorf("VectorLessEqual(%v, %v) = %v", a, b, less)
			}
			if less != slices.Equal(impl.VectorMax(a, b), b) {
				t.Errorf("VectorLessEqual(%v, %v) does not agree with VectorMax", a, b)
			}
			if less && impl.VectorLessEqual(b, a) && !slices.Equal(a, b) {
				t.Errorf("VectorLessEqual of %v and %v is not antisymmetric", a, b)
			}
			for _, s := range stampsNear() {
				if less && impl.VectorContains(a, s) && !impl.VectorContains(b, s) {
					t.Errorf("VectorLessEqual(%v, %v), but only the first one contains %v", a, b, s)
				}
			}
		}
	}
}

func TestP5InvalidVectorsAreNotOrdered(t *testing.T) {
	for _, good := range [][]int{{0, 0, 0}, {5, 6, 7}, {99, 99, 99}} {
		for _, bad := range badVectors() {
			if impl.VectorLessEqual(good, bad) || impl.VectorLessEqual(bad, good) || impl.VectorLessEqual(bad, bad) {
				t.Errorf("VectorLessEqual holds for the invalid vector %v", bad)
			}
		}
	}
}

func TestP6NextStampIsCausallyLast(t *testing.T) {
	for _, v := range append(someVectors(), []int{98, 0, 0}, []int{0, 98, 3}, []int{3, 7, 98}) {
		for who := range impl.MaxAuthors {
			next := impl.NextStamp(v, who)
			if slices.Max(v) == impl.MaxCounter {
				if next != (impl.Stamp{}) {
					t.Errorf("NextStamp(%v, %d) = %v beyond the last stamp", v, who, next)
				}
				continue
			}
			if next != at(slices.Max(v)+1, who) || !impl.ValidStamp(next) || impl.VectorContains(v, next) {
				t.Errorf("NextStamp(%v, %d) = %v", v, who, next)
			}
			for _, s := range allStamps() {
				if impl.VectorContains(v, s) && !impl.StampLess(s, next) {
					t.Errorf("NextStamp(%v, %d) = %v does not sort after %v", v, who, next, s)
				}
			}
		}
	}
}

func TestP6NoNextStamp(t *testing.T) {
	for _, who := range []int{-1, impl.MaxAuthors, 1 << 40, -1 << 40} {
		if next := impl.NextStamp([]int{1, 2, 3}, who); next != (impl.Stamp{}) {
			t.Errorf("NextStamp of author %d = %v", who, next)
		}
	}
	for _, v := range badVectors() {
		if next := impl.NextStamp(v, 0); next != (impl.Stamp{}) {
			t.Errorf("NextStamp(%v, 0) = %v", v, next)
		}
	}
}

func TestVectorFunctionsReturnNewMemory(t *testing.T) {
	other := []int{2, 2, 2}
	for _, v := range append(someVectors(), badVectors()...) {
		checkFresh(t, "VectorMax", v, 77, func(v []int) []int { return impl.VectorMax(v, other) })
		checkFresh(t, "VectorMax", v, 77, func(v []int) []int { return impl.VectorMax(other, v) })
		checkFresh(t, "VectorMax", v, 77, func(v []int) []int { return impl.VectorMax(v, v) })
		checkFresh(t, "VectorMin", v, 77, func(v []int) []int { return impl.VectorMin(v, other) })
		checkFresh(t, "VectorMin", v, 77, func(v []int) []int { return impl.VectorMin(other, v) })
		checkFresh(t, "VectorMin", v, 77, func(v []int) []int { return impl.VectorMin(v, v) })
	}
	if !slices.Equal(other, []int{2, 2, 2}) {
		t.Errorf("the other argument was changed: %v", other)
	}
}
