package class_test

import (
	"math/rand"
	"strconv"
	"strings"
	"testing"

	"hornbeam/api"
)

// P19.3: random documents of the class come back; with a few faults they are told from those of the class.

func randomText(r *rand.Rand) string {
	s := pick(r, "a", " ", "&", "<", "\n", "é")
	for range r.Intn(6) {
		s += pick(r, "a", "b", " ", "\n", "&", "<", ">", `"`, "'", "-", "!", ";", "#", "x", "é", "\u00a0", "😀", "\x01", "\ufeff", "&amp", "&lt;", "</p>", "]]>", "=", "/", "\u0085")
	}
	return s
}

func randomAttrs(r *rand.Rand, x thing) thing {
	for _, name := range []string{"id", "a", "a-1", "class", "z9"} {
		if r.Intn(6) == 0 {
			x.attrs = append(x.attrs, api.Attr{Name: name, Value: strings.TrimPrefix(randomText(r), pick(r, "", "a"))})
		}
	}
	r.Shuffle(len(x.attrs), func(i, j int) { x.attrs[i], x.attrs[j] = x.attrs[j], x.attrs[i] })
	return x
}

// randomKid is a thing of the class, but that a text may stand behind another one.
func randomKid(r *rand.Rand, depth int, block bool) thing {
	n := 6
	if block {
		n = 12
	}
	if depth == 0 {
		n = 4
	}
	switch k := r.Intn(n); {
	case k < 3:
		return text(randomText(r))
	case k == 3:
		s := strings.Trim(strings.ReplaceAll(randomText(r), "--", ""), "->")
		return comment(strings.ReplaceAll(s, "--", ""))
	case k < 6:
		return randomAttrs(r, elem("span", randomKids(r, depth-1, false)...))
	case k < 8:
		return randomAttrs(r, elem("p", randomKids(r, depth-1, false)...))
	}
	return randomAttrs(r, elem(holders[r.Intn(len(holders))], randomKids(r, depth-1, true)...))
}

func randomKids(r *rand.Rand, depth int, block bool) []thing {
	var l []thing
	for range r.Intn(6) {
		x := randomKid(r, depth, block)
		if n := len(l); n == 0 || x.kind != api.KText || l[n-1].kind != api.KText {
			l = append(l, x)
		}
	}
	return l
}

func randomPage(r *rand.Rand) thing {
	head := elem("head")
	if r.Intn(2) == 0 {
		head = elem("head", elem("title"))
		if r.Intn(3) > 0 {
			head = elem("head", elem("title", text(randomText(r))))
		}
	}
	return document(elem("html", head, randomAttrs(r, elem("body", randomKids(r, 1+r.Intn(5), true)...))))
}

func TestRandomPages(t *testing.T) {
	r := rand.New(rand.NewSource(19))
	for i := range 1500 {
		checkClass(t, strconv.Itoa(i), randomPage(r), true)
	}
}

// spoil changes one thing somewhere in a tree, which may be a fault or not.
func spoil(r *rand.Rand, x thing) thing {
	if n := len(x.kids); n > 0 && r.Intn(4) > 0 {
		kids := append([]thing(nil), x.kids...)
		i := r.Intn(n)
		kids[i] = spoil(r, kids[i])
		x.kids = kids
		return x
	}
	switch r.Intn(8) {
	case 0:
		if x.kind == api.KElement {
			x.name = pick(r, "p", "span", "div", "ul", "body", "html", "head", "title", "DIV", "main", "aside", "mains")
		}
	case 1:
		if x.kind == api.KElement && x.name != "template" {
			x.space = r.Intn(3)
		}
	case 2:
		if x.kind == api.KElement {
			x = x.and(api.Attr{Space: pickInt(r, 0, 0, 0, 3, 4, 5), Prefix: pick(r, "", "", "x"), Name: pick(r, "id", "a", "b", "c-1", "1", "A", ""), Value: pick(r, "", "a", "\x00", "\r", "\xff", "\n")})
		}
	case 3:
		if x.kind == api.KText || x.kind == api.KComment {
			x.data = pick(r, "", "a", "-", "--", ">", "->", "a-", "a->", "\x00", "\r", "\xc2", "\n", "é")
		}
	case 4, 5:
		if x.kind == api.KElement || x.kind == api.KDocument {
			kid := []thing{text("a"), text(""), comment("a"), comment("--"), doctype("html"), elem("p"), elem("span"), elem("div"), elem("b"), elem("title"), elem("body")}[r.Intn(11)]
			i := r.Intn(len(x.kids) + 1)
			x.kids = append(append(append([]thing(nil), x.kids[:i]...), kid), x.kids[i:]...)
		}
	case 6:
		if n := len(x.kids); n > 0 {
			i := r.Intn(n)
			x.kids = append(append([]thing(nil), x.kids[:i]...), x.kids[i+1:]...)
		}
	}
	return x
}

func pickInt(r *rand.Rand, l ...int) int { return l[r.Intn(len(l))] }

func TestRandomFaults(t *testing.T) {
	r := rand.New(rand.NewSource(191))
	in, out := 0, 0
	for i := range 6000 {
		x := randomPage(r)
		for range 1 + r.Intn(3) {
			x = spoil(r, x)
		}
		checkPlainly(t, strconv.Itoa(i), x)
		if x.isClass() {
			in++
		} else {
			out++
		}
	}
	if in < 500 || out < 500 {
		t.Errorf("%d in the class, %d not", in, out)
	}
}
