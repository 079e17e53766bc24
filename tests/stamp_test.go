package tests

import (
	"fmt"
	"math"
	"testing"

	"loop.example/collabdoc/impl"
)

func TestValidStampLimits(t *testing.T) {
	for _, s := range allStamps() {
		if !impl.ValidStamp(s) {
			t.Errorf("ValidStamp(%v) = false", s)
		}
	}
	for _, s := range append(badStamps(), impl.Stamp{}) {
		if impl.ValidStamp(s) {
			t.Errorf("ValidStamp(%v) = true", s)
		}
	}
}

func TestP1StampsAreDecodedAsEncoded(t *testing.T) {
	for _, s := range append(allStamps(), impl.Stamp{}) {
		want := fmt.Sprintf("%d%c", s.Seq, 'a'+s.Author)
		if s == (impl.Stamp{}) {
			want = "-"
		}
		text := impl.EncodeStamp(s)
		if text != want {
			t.Errorf("EncodeStamp(%v) = %q, want %q", s, text, want)
		}
		if back, ok := impl.DecodeStamp(text); !ok || back != s {
			t.Errorf("DecodeStamp(%q) = %v, %v, want %v", text, back, ok, s)
		}
	}
}

func TestP1InvalidStampsHaveNoText(t *testing.T) {
	for _, s := range badStamps() {
		if text := impl.EncodeStamp(s); text != "" {
			t.Errorf("EncodeStamp(%v) = %q, want nothing", s, text)
		}
	}
}

func TestP2TextOfStampIsCanonical(t *testing.T) {
	const bytes = "01289abcdABC-+_. \n\x00\xff"
	texts := []string{""}
	for first := 0; len(texts[first]) < 4; first++ {
		for i := range len(bytes) {
			texts = append(texts, texts[first]+bytes[i:i+1])
		}
	}
	accepted := map[string]bool{}
	for _, text := range texts {
		s, ok := impl.DecodeStamp(text)
		if !ok {
			if s != (impl.Stamp{}) {
				t.Errorf("DecodeStamp(%q) fails with %v, want the zero stamp", text, s)
			}
			continue
		}
		accepted[text] = true
		if impl.EncodeStamp(s) != text {
			t.Errorf("DecodeStamp(%q) = %v, which is encoded differently", text, s)
		}
	}
	// The zero stamp, and three authors with the numbers of the digits 0, 1, 2, 8 and 9 that are at most 99 and do not begin with 0.
	if want := 1 + 3*(4+4*5); len(accepted) != want {
		t.Errorf("%d texts are accepted, want %d: %v", len(accepted), want, accepted)
	}
}

func TestP2MalformedStamps(t *testing.T) {
	for _, text := range []string{"", "a", "1", "0a", "00a", "01a", "012b", "100a", "99d", "1A", "-a", "-1a", "+1a", "1 a", " 1a", "1a ", "1aa", "--", "- ", "1_0a", "0x1a", "1.a", "1á", "99999999999999999999a", "18446744073709551617a", "1a\n", "1`"} {
		if s, ok := impl.DecodeStamp(text); ok || s != (impl.Stamp{}) {
			t.Errorf("DecodeStamp(%q) = %v, %v, want failure", text, s, ok)
		}
	}
}

func TestP3StampsAreTotallyOrdered(t *testing.T) {
	stamps := append(badStamps(), impl.Stamp{}, at(1, 0), at(1, 1), at(1, 2), at(2, 0), at(2, 2), at(99, 0), at(99, 2), at(math.MaxInt, math.MinInt), at(math.MinInt, math.MaxInt))
	for _, a := range stamps {
		if impl.StampLess(a, a) {
			t.Errorf("%v sorts before itself", a)
		}
		for _, b := range stamps {
			if a != b && impl.StampLess(a, b) == impl.StampLess(b, a) {
				t.Errorf("%v and %v are not ordered", a, b)
			}
			for _, c := range stamps {
				if impl.StampLess(a, b) && impl.StampLess(b, c) && !impl.StampLess(a, c) {
					t.Errorf("%v, %v and %v are not ordered transitively", a, b, c)
				}
			}
		}
	}
}

func TestP3SeqIsComparedBeforeAuthor(t *testing.T) {
	stamps := allStamps()
	for i, a := range stamps {
		for k, b := range stamps {
			if impl.StampLess(a, b) != (i < k) {
				t.Errorf("StampLess(%v, %v) = %v", a, b, i >= k)
			}
		}
	}
	inOrder := []impl.Stamp{at(math.MinInt, 5), at(-1, 9), at(0, -1), {}, at(0, 1), at(1, math.MinInt), at(1, -1), at(1, 3), at(2, -7), at(math.MaxInt, math.MinInt), at(math.MaxInt, math.MaxInt)}
	for i, a := range inOrder {
		for k, b := range inOrder {
			if impl.StampLess(a, b) != (i < k) {
				t.Errorf("StampLess(%v, %v) = %v", a, b, i >= k)
			}
		}
	}
}
