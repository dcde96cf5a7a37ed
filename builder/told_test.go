package builder_test

import (
	"testing"

	"hornbeam/api"
)

// wants asks for a state of the lexer, which is told once.
func (w bench) wants(what string, state int) {
	w.t.Helper()
	if got := w.b.Want(); got != state {
		w.t.Errorf("%s: Want: %d; want %d", what, got, state)
	}
	if got := w.b.Want(); got != -1 {
		w.t.Errorf("%s: Want once more: %d", what, got)
	}
}

// P16.3: which states are wanted, each told once.
func TestWant(t *testing.T) {
	for _, c := range []struct {
		name    string
		scripts bool
		state   int
	}{
		{"title", false, rcdata}, {"textarea", false, rcdata}, {"style", false, rawtext}, {"xmp", false, rawtext}, {"iframe", false, rawtext},
		{"noembed", false, rawtext}, {"noframes", false, rawtext}, {"noscript", false, -1}, {"noscript", true, rawtext}, {"script", false, script},
		{"script", true, script}, {"plaintext", false, plaintext}, {"p", false, -1}, {"svg", false, -1}, {"pre", false, -1}, {"select", false, -1}, {"template", true, -1},
	} {
		for _, head := range []string{"<!DOCTYPE html>", "<!DOCTYPE html><body>", "<table><td>"} {
			w := benchOf(t, c.scripts, "")
			w.wants("at first", -1)
			w.feed(head)
			w.wants(head, -1)
			w.take(opens(c.name))
			w.wants(c.name, c.state)
			w.take(char('a'), closes(c.name))
			w.wants("</"+c.name+">", -1)
		}
	}
}

// P16.3: what is wanted stays so until it is asked for; the last one holds.
func TestWantLate(t *testing.T) {
	w := newBench(t)
	w.take(opens("body"), opens("textarea"), closes("textarea"), opens("p"), char('a'))
	w.wants("textarea", rcdata)
	w.take(opens("textarea"), closes("textarea"), opens("script"), closes("script"))
	w.wants("script", script)
	w.take(opens("plaintext"), api.Token{Kind: eof})
	w.wants("behind the end", plaintext)
}

// P16.2, P16.3: no state is wanted where a tag is left out or is foreign.
func TestWantNothing(t *testing.T) {
	for _, s := range []string{"<select>", "<frameset>", "<svg>", "<math><x>", "<template><col>"} {
		for _, name := range []string{"title", "textarea", "xmp", "plaintext", "iframe"} {
			if s == "<select>" && name == "textarea" || s == "<template><col>" && name == "title" {
				continue
			}
			w := newBench(t)
			w.feed(s)
			w.take(opens(name))
			w.wants(s+" "+name, -1)
		}
	}
}

// P16.1: what is wanted for a fragment.
func TestWantOfFragments(t *testing.T) {
	for _, c := range []struct {
		name    string
		scripts bool
		state   int
	}{
		{"title", false, rcdata}, {"textarea", true, rcdata}, {"style", false, rawtext}, {"xmp", false, rawtext}, {"iframe", true, rawtext}, {"noembed", false, rawtext},
		{"noframes", false, rawtext}, {"noscript", false, -1}, {"noscript", true, rawtext}, {"script", false, script}, {"script", true, script}, {"plaintext", false, plaintext},
		{"div", false, -1}, {"pre", false, -1}, {"template", false, -1}, {"html", false, -1}, {"TITLE", false, -1}, {"svg", false, -1}, {"tr", true, -1},
	} {
		w := newBench(t)
		w.b = fragment(t, w.a, c.scripts, c.name)
		w.wants("Fragment of "+c.name, c.state)
	}
}

// isReady asks for a script, which is told once.
func (w bench) isReady(what string, id int) {
	w.t.Helper()
	if got := w.b.Script(); got != id {
		w.t.Errorf("%s: Script: %d; want %d", what, got, id)
	}
	if got := w.b.Script(); got != none {
		w.t.Errorf("%s: Script once more: %d", what, got)
	}
}

// P16.3: a script is ready at its end tag, and told once, with the scripting flag and without.
func TestScript(t *testing.T) {
	for _, scripts := range []bool{false, true} {
		for _, s := range []string{"", "<!DOCTYPE html>", "<body>", "<p>", "<head></head>", "<table>", "<table><td>", "<select>", "<template>", "<svg><desc>"} {
			w := benchOf(t, scripts, "")
			w.isReady("at first", none)
			w.feed(s + "<script>")
			id := w.b.Open()[len(w.b.Open())-1]
			w.isReady("<script>", none)
			w.feed("a")
			w.isReady("a", none)
			w.feed("</script>")
			w.isReady(s+"</script>", id)
			w.feed("<!--x-->")
			w.isReady("<!--x-->", none)
		}
	}
}

// P16.3: a script that was not asked for makes way for the next one.
func TestScriptLate(t *testing.T) {
	w := newBench(t)
	w.feed("<body><script></script>")
	first := w.a.Len() - 1
	w.feed("a<p>b")
	w.isReady("late", first)
	w.feed("<script></script><script>")
	second, third := w.a.Len()-2, w.a.Len()-1
	w.feed("</script>")
	w.isReady("two", third)
	if w.word(second) != "script" || w.word(third) != "script" {
		t.Errorf("%d is %s, %d is %s", second, w.word(second), third, w.word(third))
	}
	w.feed("<script></script>")
	w.feedEnd()
	w.isReady("behind the end", third+1)
}

// P16.2: what ends a text otherwise makes no script ready.
func TestNoScript(t *testing.T) {
	for _, x := range []api.Token{closes("style"), closes("x"), opens("script"), opens("p"), {Kind: comment}, {Kind: doctype}, {Kind: eof}} {
		w := newBench(t)
		w.feed("<!DOCTYPE html><body><script>a")
		w.take(x)
		w.isReady("another token", none)
		w.tree(`<!html> html(head body(script("a")))`)
		if x.Kind != eof && (w.opened() != "html body" || w.b.Mode() != inBody) {
			t.Errorf("kind %d: the stack is %s, the mode %d", x.Kind, w.opened(), w.b.Mode())
		}
	}
	for _, s := range []string{"<body><style></style>", "<body><textarea></textarea>", "<svg><script></script>", "<body></script>", "<table></script>", "<select></script>"} {
		w := newBench(t)
		w.feed(s)
		w.isReady(s, none)
	}
	w := benchOf(t, true, "script")
	w.feed("a</script>")
	w.isReady("a fragment's end tag", none)
}

// P16.2: the current node is what an end tag script makes ready.
func TestScriptEndsAnotherText(t *testing.T) {
	w := newBench(t)
	w.take(opens("body"), opens("textarea"))
	id := w.b.Open()[2]
	w.take(closes("script"))
	w.isReady("</script>", id)
}

// P16.3: Foreign by the adjusted node, be it a text point or not.
func TestForeignIsTold(t *testing.T) {
	for _, c := range []struct {
		in   string
		want bool
	}{
		{"", false}, {"<!DOCTYPE html>", false}, {"<p>", false}, {"<svg>", true}, {"<math>", true}, {"<svg><g>", true}, {"<svg><desc>", true}, {"<svg><desc><p>", false},
		{"<math><mi>", true}, {"<math><mi><b>", false}, {"<svg></svg>", false}, {"<svg/>", false}, {"<svg><desc><svg>", true}, {"<table><svg>", true}, {"<svg><p>", false},
	} {
		for _, context := range []string{"", "div", "svg", "math"} {
			w := benchOf(t, false, context)
			w.feed(c.in)
			if got := w.b.Foreign(); got != c.want {
				t.Errorf("%q in %q: Foreign: %v", c.in, context, got)
			}
			w.feedEnd()
			w.isOver()
		}
	}
}

// P16.2, P16.3: the document's mode, by its doctype or for want of one.
func TestQuirk(t *testing.T) {
	for _, c := range []struct {
		in   string
		want int
	}{
		{"", noQuirks}, {" <!--x-->", noQuirks}, {"<!DOCTYPE html>", noQuirks}, {"<!DOCTYPE html><p>", noQuirks}, {"<p>", quirks}, {"a", quirks}, {"</p>", quirks},
		{"<!DOCTYPE x>", quirks}, {"<!DOCTYPE>", quirks}, {`<!DOCTYPE html PUBLIC "html">`, quirks}, {`<!DOCTYPE html PUBLIC "-//W3C//DTD HTML 4.01//EN">`, noQuirks},
		{`<!DOCTYPE html PUBLIC "-//W3C//DTD HTML 4.01 Frameset//">`, quirks}, {`<!DOCTYPE html PUBLIC "-//W3C//DTD HTML 4.01 Frameset//" "x">`, limited},
		{`<!DOCTYPE html PUBLIC "-//W3C//DTD XHTML 1.0 Transitional//">`, limited}, {"<!DOCTYPE html><!DOCTYPE x>", noQuirks}, {"<p><!DOCTYPE html>", quirks},
	} {
		w := newBench(t)
		w.feed(c.in)
		if got := w.b.Quirk(); got != c.want {
			t.Errorf("%q: Quirk: %d; want %d", c.in, got, c.want)
		}
	}
	w := newBench(t)
	w.feedEnd()
	if w.b.Quirk() != quirks {
		t.Errorf("an empty page: Quirk: %d", w.b.Quirk())
	}
	if w := benchOf(t, false, "div"); w.b.Quirk() != noQuirks {
		t.Errorf("a fragment: Quirk: %d", w.b.Quirk())
	}
}
