package adopt_test

import (
	"strings"
	"testing"
)

// listed makes a bench with these open, and a list of some of them in an order of its own.
func listed(t *testing.T, open string, list string) bench {
	t.Helper()
	b := newBench(t)
	ids := b.open(open)
	words := strings.Fields(open)
	for _, word := range strings.Fields(list) {
		if word == "|" {
			gives(t, "Mark", b.l.Mark(), ok)
			continue
		}
		id := none
		for i, other := range words {
			if other == word {
				id = ids[i]
			}
		}
		if id == none {
			id = b.elem(word)
		}
		b.enter(id, tag(word))
	}
	return b
}

// seven are special elements for which seven rounds more are needed. They move M's entry no further, so that it is still
// there at the end.
const seven = " div1 div2 div3 div4 div5 div6 div7"

// marks asks for the list behind a run with these open above body, of which p is B.
func marks(t *testing.T, open string, list string, want string) {
	t.Helper()
	b := listed(t, "body "+open+seven, list)
	b.closes("b", 8)
	b.entered(want)
	b.tree(b.tell(0))
	if t.Failed() {
		t.Fatalf("%s open, the list %s", open, list)
	}
}

// P15.1, steps 2.4, 2.8: with nothing made anew M's entry is where F's was.
func TestMarkAtF(t *testing.T) {
	for _, c := range []struct{ open, list, want string }{
		{"b p", "b", "b'"},
		{"b p", "u b i", "u b' i"},
		{"b p", "b u i", "b' u i"},
		{"b p", "u i b", "u i b'"},
		{"b p", "u | i b s em", "u | i b' s em"},
		{"b span x p", "b u", "b' u"},
		{"b span x p", "u b", "u b'"},
		{"u b p", "u b", "u b'"},
		{"u b p", "b u", "b' u"},
	} {
		marks(t, c.open, c.list, c.want)
	}
}

// P15.1, step 2.5: when L is B the mark is behind N's entry, wherever that is, and F's is one less if it was ahead.
func TestMarkBehindN(t *testing.T) {
	for _, c := range []struct{ open, list, want string }{
		{"b i p", "b i", "i' b'"},
		{"b i p", "i b", "i' b'"},
		{"b i p", "b s i u", "s i' b' u"},
		{"b i p", "i s b u", "i' b' s u"},
		{"b i p", "s i b u", "s i' b' u"},
		{"b i p", "s b i u", "s i' b' u"},
		{"b span i x p", "b s i u", "s i' b' u"},
		{"b i x y p", "b s i u", "s i' b' u"},
	} {
		marks(t, c.open, c.list, c.want)
	}
}

// P15.1, step 2.5: when L is no longer B the mark stays: it is behind the entry of the N that is nearest to B.
func TestMarkBehindTheFirstN(t *testing.T) {
	for _, c := range []struct{ open, list, want string }{
		{"b i u p", "b i u", "i' u' b'"},
		{"b i u p", "b u i", "u' b' i'"},
		{"b i u p", "i b u", "i' u' b'"},
		{"b i u p", "i u b", "i' u' b'"},
		{"b i u p", "u b i", "u' b' i'"},
		{"b i u p", "u i b", "u' b' i'"},
		{"b i em u p", "s u x i tt b em q", "s u' b' x i' tt em' q"},
		{"b i em u p", "s em x b tt u i q", "s em' x tt u' b' i' q"},
	} {
		marks(t, c.open, c.list, c.want)
	}
}

// P15.1, step 2.5: an entry that goes, as the count is above three, ahead of the mark and behind it.
func TestMarkAndAnEntryThatGoes(t *testing.T) {
	for _, c := range []struct{ open, list, want string }{
		{"b i u em a p", "b i u em a", "u' em' a' b'"},
		{"b i u em a p", "b a i u em", "a' b' u' em'"},
		{"b i u em a p", "a b i s u em", "a' b' s u' em'"},
		{"b i u em a p", "i a b u em", "a' b' u' em'"},
		{"b i u em a p", "i s a u b em", "s a' b' u' em'"},
		{"b i u em a p", "s a i u b em", "s a' b' u' em'"},
		{"b i s u em a p", "s i b u em a q", "u' em' a' b' q"},
		{"b i s u em a p", "s a b u em i q", "a' b' u' em' q"},
		{"b i s u em a p", "a s b u em i q", "a' b' u' em' q"},
	} {
		marks(t, c.open, c.list, c.want)
	}
}

// P15.1, step 2.5: the same, if the mark is still that of F's entry, as none was made anew.
func TestMarkAtFAndAnEntryThatGoes(t *testing.T) {
	for _, c := range []struct{ open, list, want string }{
		{"b i x y z p", "i b u", "b' u"},
		{"b i x y z p", "b i u", "b' u"},
		{"b i x y z p", "q i s b u", "q s b' u"},
		{"b i x y z p", "q b s i u", "q b' s u"},
		{"b i s x y z p", "q i s b u", "q b' u"},
		{"b i s x y z p", "i b s u", "b' u"},
		{"b i s x y z p", "b q s i", "b' q"},
	} {
		marks(t, c.open, c.list, c.want)
	}
}

// P15.1, steps 2.1, 2.5: a marker in the list: F is behind it, N may be ahead of it, and then M is too: another one in
// the next round, as there is none of the name.
func TestMarker(t *testing.T) {
	b := listed(t, "body b i p", "u i s | q b")
	b.runs("b", false, true, 1, ok)
	b.entered("u i' b' s | q")
	b.opened("body i' p b'")
	b.tree("body(b(i) i'(p(b')))")

	b = listed(t, "body b1 b2 i p", "u i s | b1 b2")
	b.runs("b", false, true, 2, ok)
	b.entered("u i' b1' b2' s |")
	b.opened("body i' p b1' b2'")
	b.tree("body(b1(b2(i) i') i'(p(b1'(b2'))))")
}

// P15.1, step 2.1: the second round takes another one of the name, if M's entry is ahead of that one's.
func TestAnotherOfTheNameInTheSecondRound(t *testing.T) {
	b := listed(t, "body b1 b2 i p", "i b1 b2")
	b.closes("b", 2)
	b.entered("i' b1'")
	b.opened("body i' p b1'")
	b.tree("body(b1(b2(i) i') i'(p(b1'(b2'))))")
}
