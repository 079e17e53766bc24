package impl

import (
	"cmp"
	"strconv"
)

// Limits of stamps.
const (
	MaxCounter = 99
	MaxAuthors = 3
)

// Stamp is a Lamport timestamp that identifies an operation: a sequence number and its author. The zero Stamp means "none".
type Stamp struct {
	Seq    int
	Author int
}

// ValidStamp reports whether t is a valid stamp: Seq is in 1..MaxCounter and Author is in 0..MaxAuthors-1.
func ValidStamp(t Stamp) bool {
	return inRange(t.Seq, 1, MaxCounter) && isAuthor(t.Author)
}

// StampLess reports whether a sorts before b: by Seq, then by Author. It is defined for all stamps, valid or not.
func StampLess(a Stamp, b Stamp) bool {
	return a.compare(b) < 0
}

// EncodeStamp returns the text form of t: Seq in decimal followed by the author letter ('a' for author 0), or "-" for the zero stamp. It returns "" if t is neither valid nor zero.
func EncodeStamp(t Stamp) string {
	if t.isZero() {
		return "-"
	}
	if !ValidStamp(t) {
		return ""
	}
	return strconv.Itoa(t.Seq) + string(rune('a'+t.Author))
}

// DecodeStamp is the inverse of EncodeStamp. It returns the zero stamp and false if s is not the text form of any stamp.
func DecodeStamp(s string) (Stamp, bool) {
	if s == "-" {
		return Stamp{}, true
	}
	if s == "" {
		return Stamp{}, false
	}
	last := len(s) - 1
	seq, ok := parseNumber(s[:last])
	t := Stamp{Seq: seq, Author: int(s[last]) - 'a'}
	if !ok || !ValidStamp(t) {
		return Stamp{}, false
	}
	return t, true
}

// compare orders stamps by Seq, then by Author. Stamp.compare fits slices.SortFunc.
func (t Stamp) compare(u Stamp) int {
	if t.Seq != u.Seq {
		return cmp.Compare(t.Seq, u.Seq)
	}
	return cmp.Compare(t.Author, u.Author)
}

func (t Stamp) isZero() bool {
	return t == Stamp{}
}

func isAuthor(who int) bool {
	return inRange(who, 0, MaxAuthors-1)
}

func inRange(n int, low int, high int) bool {
	return low <= n && n <= high
}

// parseNumber is the inverse of strconv.Itoa. Atoi alone also accepts a plus sign and leading zeros.
func parseNumber(s string) (int, bool) {
	n, err := strconv.Atoi(s)
	if err != nil || strconv.Itoa(n) != s {
		return 0, false
	}
	return n, true
}
