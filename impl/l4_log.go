package impl

import "slices"

// MaxOps is the maximum number of operations of a log.
const MaxOps = 40

// ValidLog reports whether log is a valid operation log: at most MaxOps valid operations in strictly ascending order of ID.
func ValidLog(log []Op) bool {
	for _, o := range log {
		if !ValidOp(o) {
			return false
		}
	}
	return len(log) <= MaxOps && opSet(log).ascending()
}

// LogInsert returns log with o inserted in stamp order. If log already contains an operation with that ID, log is returned unchanged. It returns nil and false if log is invalid; a copy of log and false if o is invalid or the log is full.
func LogInsert(log []Op, o Op) ([]Op, bool) {
	if !ValidLog(log) {
		return nil, false
	}
	if !ValidOp(o) {
		return slices.Clone(log), false
	}
	return LogMerge(log, []Op{o})
}

// LogMerge returns the union of two logs in stamp order; of two operations with the same ID the one in a is kept. It returns nil and false if either log is invalid; a copy of a and false if the union exceeds MaxOps.
func LogMerge(a []Op, b []Op) ([]Op, bool) {
	if !ValidLog(a) || !ValidLog(b) {
		return nil, false
	}
	merged := opSet(a).union(opSet(b))
	if len(merged.items) > MaxOps {
		return slices.Clone(a), false
	}
	return merged.items, true
}

// LogVector returns the version vector of log: for each author the largest sequence number. It returns nil if log is invalid.
func LogVector(log []Op) []int {
	if !ValidLog(log) {
		return nil
	}
	var v vector
	for _, o := range log {
		v = v.with(o.ID)
	}
	return v.entries()
}

// LogPrefix returns the operations of log that v contains, in order. It returns nil if log or v is invalid.
func LogPrefix(log []Op, v []int) []Op {
	x, ok := vectorOf(v)
	if !ok || !ValidLog(log) {
		return nil
	}
	return opSet(log).filter(func(o Op) bool { return x.contains(o.ID) }).items
}

// LogMissing returns the operations of log that v does not contain, in order. It returns nil if log or v is invalid.
func LogMissing(log []Op, v []int) []Op {
	x, ok := vectorOf(v)
	if !ok || !ValidLog(log) {
		return nil
	}
	return opSet(log).filter(func(o Op) bool { return !x.contains(o.ID) }).items
}

// opSet returns log as a set that is ordered by ID.
func opSet(log []Op) orderedSet[Op] {
	return orderedSet[Op]{items: log, compare: compareOps}
}

func compareOps(a Op, b Op) int {
	return a.ID.compare(b.ID)
}

// orderedSet is a set whose items are in ascending order of compare. No method changes the items or returns a part of their memory, so that a set may be made of an argument.
type orderedSet[E any] struct {
	items   []E
	compare func(a E, b E) int
}

// ascending reports whether the items are in ascending order, each once. The other methods require it.
func (s orderedSet[E]) ascending() bool {
	for i := 1; i < len(s.items); i++ {
		if s.compare(s.items[i-1], s.items[i]) >= 0 {
			return false
		}
	}
	return true
}

// union returns the set of the items of s and t; of two equal items it has the one of s.
func (s orderedSet[E]) union(t orderedSet[E]) orderedSet[E] {
	all := make([]E, 0, len(s.items)+len(t.items))
	next := 0
	for _, e := range t.items {
		for next < len(s.items) && s.compare(s.items[next], e) < 0 {
			all = append(all, s.items[next])
			next++
		}
		if next == len(s.items) || s.compare(s.items[next], e) > 0 {
			all = append(all, e)
		}
	}
	all = append(all, s.items[next:]...)
	return orderedSet[E]{items: all, compare: s.compare}
}

// filter returns the set of the items for which keep returns true.
func (s orderedSet[E]) filter(keep func(e E) bool) orderedSet[E] {
	var kept []E
	for _, e := range s.items {
		if keep(e) {
			kept = append(kept, e)
		}
	}
	return orderedSet[E]{items: kept, compare: s.compare}
}
