package impl

import "slices"

// ValidVector reports whether v is a valid version vector: MaxAuthors entries, each in 0..MaxCounter.
func ValidVector(v []int) bool {
	_, ok := vectorOf(v)
	return ok
}

// VectorContains reports whether the operation stamped t is covered by v, that is, whether t.Seq <= v[t.Author]. It returns false if v or t is invalid.
func VectorContains(v []int, t Stamp) bool {
	x, ok := vectorOf(v)
	return ok && ValidStamp(t) && x.contains(t)
}

// VectorMax returns the entry-wise maximum of a and b (their least upper bound), or nil if either is invalid.
func VectorMax(a []int, b []int) []int {
	x, okA := vectorOf(a)
	y, okB := vectorOf(b)
	if !okA || !okB {
		return nil
	}
	return x.upper(y).entries()
}

// VectorMin returns the entry-wise minimum of a and b (their greatest lower bound), or nil if either is invalid.
func VectorMin(a []int, b []int) []int {
	x, okA := vectorOf(a)
	y, okB := vectorOf(b)
	if !okA || !okB {
		return nil
	}
	return x.lower(y).entries()
}

// VectorLessEqual reports whether every entry of a is at most the corresponding entry of b. It returns false if either is invalid.
func VectorLessEqual(a []int, b []int) bool {
	x, okA := vectorOf(a)
	y, okB := vectorOf(b)
	return okA && okB && x.upper(y) == y
}

// NextStamp returns the Lamport stamp of the next operation by author who after v: one more than the largest entry of v. It returns the zero stamp if v or who is invalid, or if the counter would exceed MaxCounter.
func NextStamp(v []int, who int) Stamp {
	x, ok := vectorOf(v)
	if !ok || !isAuthor(who) || x.largest() == MaxCounter {
		return Stamp{}
	}
	return Stamp{Seq: x.largest() + 1, Author: who}
}

// vector is a version vector as a value: an array is never shared between two vectors.
type vector [MaxAuthors]int

// vectorOf returns v as a vector, and whether v is a valid version vector.
func vectorOf(v []int) (vector, bool) {
	var x vector
	if len(v) != MaxAuthors {
		return vector{}, false
	}
	for who, seq := range v {
		if !inRange(seq, 0, MaxCounter) {
			return vector{}, false
		}
		x[who] = seq
	}
	return x, true
}

// entries returns the entries as a new slice.
func (v vector) entries() []int {
	return slices.Clone(v[:])
}

// contains reports whether v covers t, which must be a valid stamp.
func (v vector) contains(t Stamp) bool {
	return t.Seq <= v[t.Author]
}

// with returns the least vector that covers t, a valid stamp, and all that v covers.
func (v vector) with(t Stamp) vector {
	v[t.Author] = max(v[t.Author], t.Seq)
	return v
}

// upper returns the entry-wise maximum.
func (v vector) upper(w vector) vector {
	for who, seq := range w {
		v[who] = max(v[who], seq)
	}
	return v
}

// lower returns the entry-wise minimum.
func (v vector) lower(w vector) vector {
	for who, seq := range w {
		v[who] = min(v[who], seq)
	}
	return v
}

// largest returns the largest entry.
func (v vector) largest() int {
	return slices.Max(v[:])
}
