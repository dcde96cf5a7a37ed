package builder_test

import (
	"testing"

	"hornbeam/api"
)

// P16.2: what leaves the frameset flag as it is: a frameset takes the body's place.
func TestFramesetFlagStays(t *testing.T) {
	for _, s := range []string{"<p>", "<div>", "<h1>", "<b>", "<a>", "<nobr>", "<span>", "<x>", "<p> \t\n\f\r", "<p>\x00", "<p><!--x-->", "<p><!DOCTYPE x>",
		"<form></form>", "<ruby><rt>", "<option>", "<optgroup>", "<input type=hidden>", "<input type=HiDDeN>", "<input type=hidden type=x>", "<p><param>",
		"<source>", "<p><track>", "<noembed>a</noembed>", "<noscript>", "<svg></svg>", "<svg> </svg>", "<svg>\x00</svg>", "<svg><g/></svg>", "<math><mi> </math>",
		"<p><link><meta><script>a</script><style>a</style><title>a</title>", "<p><html a=1>", "</p>", "<p><caption><td>", "<p></div></x>", "<p></body>", "</head><p> </html> "} {
		w := newBench(t)
		w.feed("<!DOCTYPE html>" + s + "<frameset>")
		if w.b.Mode() != 19 || w.opened() != "html frameset" || len(w.a.Kids(w.b.Open()[0])) != 2 {
			t.Errorf("%q: the mode is %d, the tree %s", s, w.b.Mode(), w.tell(0))
		}
	}
}

// P16.2: what takes the frameset flag: a frameset behind it is left out.
func TestFramesetFlagGoes(t *testing.T) {
	for _, s := range []string{"<body>", "a", "<p>a", "<p> a", "<p><body>", "<pre></pre>", "<listing>", "<li>", "<dd>", "<dt>", "<button>", "<applet>", "<marquee>", "<object>",
		"<table></table>", "<area>", "<br>", "<embed>", "<img>", "<keygen>", "<wbr>", "<image>", "<input>", "<input type=x>", "<input type=x type=hidden>", "<input a=hidden>",
		"<hr>", "<textarea></textarea>", "<xmp></xmp>", "<iframe></iframe>", "<select></select>", "</br>", "<svg>a</svg>", "<math><mi>a</mi></math>", "<math>a</math>",
		"<template></template><p>", "<p><template></template>", "<p>\x00a"} {
		w := newBench(t)
		w.feed("<!DOCTYPE html>" + s)
		n := w.b.Errors()
		w.feed("<frameset>")
		if w.b.Mode() != inBody || len(w.b.Open()) < 2 || w.word(w.b.Open()[1]) != "body" {
			t.Errorf("%q: the mode is %d, the tree %s", s, w.b.Mode(), w.tell(0))
		}
		w.has(n + 1)
	}
}

// P16.2: a frameset has all but the first element from the stack, and the body from its parent, wherever a script put it.
func TestFramesetBehindAScript(t *testing.T) {
	w := newBench(t)
	w.feed("<!DOCTYPE html><p><b><i>")
	body := w.b.Open()[1]
	gives(t, "Unlink", w.a.Unlink(body), ok)
	w.feed("<frameset>")
	w.tree("<!html> html(head frameset)")
	if w.opened() != "html frameset" || w.entered() != "b i" || w.node(body).Parent != none {
		t.Errorf("the stack is %s, the list %s", w.opened(), w.entered())
	}
}

// P16.2: a character 10 is left out behind pre, listing and textarea, if it is the next token, and once.
func TestNewlineIsLeftOut(t *testing.T) {
	for _, name := range []string{"pre", "listing", "textarea"} {
		for _, c := range []struct {
			l    []api.Token
			want string
		}{
			{[]api.Token{char('\n')}, ""},
			{[]api.Token{char('\n'), char('\n')}, `"\n"`},
			{[]api.Token{char('a'), char('\n')}, `"a\n"`},
			{[]api.Token{char('\r'), char('\n')}, `"\r\n"`},
			{[]api.Token{char(' '), char('\n')}, `" \n"`},
		} {
			w := newBench(t)
			w.feed("<!DOCTYPE html>")
			w.take(opens(name))
			w.take(c.l...)
			want := name
			if c.want != "" {
				want += "(" + c.want + ")"
			}
			w.tree("<!html> html(head body(" + want + "))")
			w.has(0)
		}
	}
}

// P16.2, P2: a token that is refused is not the next one.
func TestNewlineBehindARefusal(t *testing.T) {
	w := newBench(t)
	w.feed("<!DOCTYPE html><pre>")
	w.refuses(api.Token{Kind: 9}, errArg)
	w.take(char('\n'), char('\n'))
	w.tree(`<!html> html(head body(pre("\n")))`)
}

// P16.2: a self-closing tag that is not taken is an error, behind those of its rules.
func TestSelfClosing(t *testing.T) {
	for _, c := range []struct {
		in     string
		errors int
	}{
		{"<br/>", 0}, {"<img/>", 0}, {"<input/>", 0}, {"<hr/>", 0}, {"<param/>", 0}, {"<image/>", 1}, {"<link/>", 0}, {"<meta/>", 0},
		{"<svg/>", 0}, {"<math/>", 0}, {"<svg><g/>", 0}, {"<svg><desc/>", 0}, {"<math><mi/>", 0}, {"<math><annotation-xml/>", 0},
		{"<svg><p/>", 2}, {"<svg><br/>", 1}, {"<svg><desc><g/>", 1}, {"<svg><desc><br/>", 0},
		{"<p/>", 1}, {"<div/>", 1}, {"<b/>", 1}, {"<a/>", 1}, {"<x/>", 1}, {"<select/>", 1}, {"<textarea/>", 1}, {"<template/>", 1}, {"<table/>", 1},
		{"<table><col/>", 0}, {"<table><tr/>", 1}, {"<table><td/>", 2}, {"<table><input type=hidden />", 1}, {"<table><input/>", 1}, {"<table><form/>", 2},
		{"<select><input/>", 1}, {"<select><hr/>", 0}, {"<select><option/>", 1}, {"<select><select/>", 2}, {"<select><br/>", 2},
		{"<html/>", 2}, {"<body/>", 2}, {"<head/>", 2}, {"<frame/>", 2}, {"<caption/>", 2},
		{"</br/>", 1}, {"<p></p/>", 0},
	} {
		w := newBench(t)
		w.feed("<!DOCTYPE html><body>" + c.in)
		if got := w.b.Errors(); got != c.errors {
			t.Errorf("%s: %d errors; want %d", c.in, got, c.errors)
		}
	}
}

// P16.2: other tokens that say that they are self-closing.
func TestSelfClosingOfOtherTokens(t *testing.T) {
	w := newBench(t)
	w.feed("<!DOCTYPE html><p>")
	for _, kind := range []int{character, comment, eof} {
		w.take(api.Token{Kind: kind, Char: 'a', Self: true})
	}
	w.has(0)
}

// P16.2: the form element: one at most, but in templates.
func TestFormElement(t *testing.T) {
	for _, c := range []struct {
		in     string
		errors int
		tree   string
	}{
		{"<form><form>", 1, "form"},
		{"<form></form><form>", 0, "form form"},
		{"<form><div></form><form>", 1, "form(div(form))"},
		{"<form></div><form>", 2, "form"},
		{"<table><form></table><form>", 2, "table(form)"},
		{"<table><form></table></form><form>", 2, "table(form) form"},
		{"<table><form></form><form></form>", 6, "table(form form)"},
		{"<form><table><form>", 1, "form(table)"},
		{"<template><form></form></template><form>", 0, "template[form] form"},
		{"<template><table><form></table></template>", 1, "template[table]"},
		{"<form><template><form></form></template></form>", 0, "form(template[form])"},
		{"</form><form>", 1, "form"},
	} {
		w := newBench(t)
		w.feed("<!DOCTYPE html><body>" + c.in)
		w.tree("<!html> html(head body(" + c.tree + "))")
		if got := w.b.Errors(); got != c.errors {
			t.Errorf("%s: %d errors; want %d", c.in, got, c.errors)
		}
	}
}
