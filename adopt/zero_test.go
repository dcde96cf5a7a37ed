package adopt_test

import (
	"testing"

	"hornbeam/active"
	"hornbeam/adopt"
	"hornbeam/node"
	"hornbeam/stack"
)

// P15.2: an arena, a stack or a list that is nil or that no call made, each of them alone and together.
func TestZero(t *testing.T) {
	b := newBench(t)
	b.open("body b* i* p")
	was := b.state()
	var copied *node.Arena
	noStack, _ := stack.New(nil)
	noList, _ := active.New(nil)
	for i, a := range []*node.Arena{b.a, nil, {}, new(node.Arena), copied.Copy()} {
		for j, s := range []*stack.Stack{b.s, nil, {}, new(stack.Stack), noStack} {
			for k, l := range []*active.List{b.l, nil, {}, new(active.List), noList} {
				if i+j+k == 0 {
					continue
				}
				for _, name := range []string{"b", "p", ""} {
					zero(t, a, s, l, name)
				}
			}
		}
	}
	b.unchanged("nil and such", was)
}

func zero(t *testing.T, a *node.Arena, s *stack.Stack, l *active.List, name string) {
	t.Helper()
	for _, foster := range []bool{false, true} {
		if another, n, e := adopt.Run(a, s, l, name, foster); another || n != 0 || e != errZero {
			t.Errorf("Run(%q): %v, %d, %d", name, another, n, e)
		}
	}
}

// P15.2: ErrZero is named ahead of ErrFull.
func TestZeroAndFull(t *testing.T) {
	b := newBench(t)
	b.fill(maxNodes)
	b.runs("b", false, false, 0, errFull)
	zero(t, b.a, nil, b.l, "b")
	zero(t, b.a, b.s, nil, "b")
	zero(t, b.a, &stack.Stack{}, &active.List{}, "b")
}

// P15.2: copies of what was made are made.
func TestCopies(t *testing.T) {
	b := newBench(t)
	b.open("body b* p")
	a, s, l := *b.a, *b.s, *b.l
	if another, n, e := adopt.Run(&a, &s, &l, "b", false); another || n != 1 || e != ok {
		t.Errorf("Run: %v, %d, %d", another, n, e)
	}
	b.opened("body p")
	b.entered("")
	b.tree("body(b p(b'))")
}

// P1: a stack and a list of other arenas: it ends, and what is in them are elements of theirs.
func TestOtherArenas(t *testing.T) {
	words := []string{"body b* i* p", "html body b* i* span p div em", "b* u p", "b", ""}
	for _, x := range words {
		for _, y := range words {
			for _, z := range words {
				p, q, r := newBench(t), newBench(t), newBench(t)
				p.open(x)
				q.open(y)
				r.open(z)
				for _, name := range []string{"b", "i", "p"} {
					for _, foster := range []bool{false, true} {
						adopt.Run(p.a, q.s, r.l, name, foster)
						adopt.Run(p.a, p.s, r.l, name, foster)
						adopt.Run(p.a, q.s, p.l, name, foster)
					}
				}
				for _, b := range []bench{p, q, r} {
					b.stillElements()
				}
			}
		}
	}
}

// P1, P2: the same, with a token of which no element can be made. M has the number of each of the others once, and is
// refused where that one stands already: what was refused is not undone.
func TestOtherArenasAndATokenAboveALimit(t *testing.T) {
	for n := 1; n < 12; n++ {
		b, other := newBench(t), newBench(t)
		ids := b.open("body b1* q b2* p u* em*")
		gives(t, "Put", b.l.Put(1, ids[2], refused()[0]), ok)
		other.fill(n)
		if n == ids[3] {
			// M has F's own number, and is closed as the top.
			continue
		}
		was := b.state()
		if another, errors, e := adopt.Run(other.a, b.s, b.l, "b", false); another || errors != 0 || e != errLong {
			t.Errorf("%d nodes: %v, %d, %d", n, another, errors, e)
		}
		b.unchanged("refused", was)
	}
}
