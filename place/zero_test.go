package place_test

import (
	"testing"

	"hornbeam/api"
	"hornbeam/node"
	"hornbeam/place"
	"hornbeam/stack"
)

// numbers are nodes and such that are none.
var numbers = []int{0, 1, 2, none, -2, maxNodes, minInt, maxInt}

// P14.3: no arena, and arenas that no call made, with every call.
func TestZeroArena(t *testing.T) {
	b := newBench(t)
	b.open("html", "table")
	var copied *node.Arena
	for _, a := range []*node.Arena{nil, {}, new(node.Arena), copied.Copy()} {
		for _, n := range numbers {
			for _, s := range []*stack.Stack{b.s, nil, {}} {
				zeroSpot(t, a, s, n)
			}
			for _, m := range numbers {
				at := api.Spot{Parent: n, Before: m}
				gives(t, "Put", place.Put(a, at, n), errZero)
				gives(t, "Put", place.Put(a, at, 1), errZero)
				gives(t, "Chars", place.Chars(a, at, []rune("x")), errZero)
				gives(t, "Chars", place.Chars(a, at, nil), errZero)
			}
		}
	}
}

// P14.3: no stack, and stacks that no call made.
func TestZeroStack(t *testing.T) {
	b := newBench(t)
	b.open("html", "table", "tr")
	was := b.state()
	refused, _ := stack.New(nil)
	for _, s := range []*stack.Stack{nil, {}, new(stack.Stack), refused} {
		for range 2 {
			for _, n := range append(numbers, 3) {
				zeroSpot(t, b.a, s, n)
			}
		}
	}
	b.unchanged("Spot", was)
}

func zeroSpot(t *testing.T, a *node.Arena, s *stack.Stack, target int) {
	t.Helper()
	for _, foster := range []bool{false, true} {
		if at, e := place.Spot(a, s, target, foster); at != (api.Spot{}) || e != errZero {
			t.Errorf("Spot(%d, %v): %v, %d", target, foster, at, e)
		}
	}
}
