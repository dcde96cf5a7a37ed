package show_test

import (
	"math/rand"
	"testing"

	"hornbeam/api"
	"hornbeam/node"
	"hornbeam/show"
)

// P3.2 and P3.4, of Sound. Layer 1 leads to no arena that is not sound: links_test.go asks of links that it would not make.

func checkSound(t *testing.T, what string, a *node.Arena) {
	t.Helper()
	if !show.Sound(a) {
		t.Errorf("%s: not sound: %+v", what, all(a))
	}
}

func TestSoundOfArenas(t *testing.T) {
	checkSound(t, "new", node.New())
	m := newMaker(t)
	m.make(rich())
	was := all(m.Arena)
	checkSound(t, "a page", m.Arena)
	checkSound(t, "its copy", m.Copy())
	checkSame(t, m.Arena, was)
	n := newMaker(t)
	n.back(rich())
	checkSound(t, "made in another order", n.Arena)
}

func TestSoundBehindEachCall(t *testing.T) {
	for seed := range int64(60) {
		r := rand.New(rand.NewSource(seed))
		m := newMaker(t)
		for range 300 {
			id := func() int { return r.Intn(m.Len()+2) - 1 }
			switch r.Intn(8) {
			case 0:
				if m.Len() < 25 {
					m.one([]thing{elem("p"), template(nil), fragment(), text("t"), comment("c"), doctype("d", "", ""), elem("template").in(api.SVG)}[r.Intn(7)])
				}
			case 1, 2:
				m.Unlink(id())
			case 3:
				m.SetAttr(id(), api.Attr{Name: "a"})
			default:
				before := none
				if r.Intn(2) == 0 {
					before = id()
				}
				m.Link(id(), id(), before)
			}
			if !show.Sound(m.Arena) {
				t.Fatalf("seed %d: not sound: %+v", seed, all(m.Arena))
			}
		}
	}
}

func TestSoundOfDeepTrees(t *testing.T) {
	m, n := newMaker(t), newMaker(t)
	for up := 0; m.Len() < maxNodes; up = m.Len() - 1 {
		m.link(up, m.one(elem("p")), none)
	}
	for in := 0; n.Len() < maxNodes-1; in = n.Len() - 1 {
		n.link(in, n.one(template(nil)), none)
	}
	checkSound(t, "deep", m.Arena)
	checkSound(t, "deep templates", n.Arena)
	m.Unlink(maxNodes / 2)
	checkSound(t, "cut in two", m.Arena)
}

func TestSoundOfWideTrees(t *testing.T) {
	m := newMaker(t)
	for m.Len() < maxNodes {
		m.link(0, m.one(text("")), none)
	}
	checkSound(t, "wide", m.Arena)
	m.Unlink(maxNodes / 2)
	checkSound(t, "one less", m.Arena)
}

func TestSoundOfLooseNodes(t *testing.T) {
	m := newMaker(t)
	for m.Len() < maxNodes {
		m.one(text(""))
	}
	checkSound(t, "full of loose nodes", m.Arena)
}
