package script_test

import (
	"strings"
	"testing"

	"hornbeam/script"
)

const doctype = "<!DOCTYPE html>"

// page is the lines of a whole page, run to its end.
func page(s string) string { return joined(chunk(s), "end", "run 0", "run 0") }

// TestPlay is the chapter's example, and a page with a doctype.
func TestPlay(t *testing.T) {
	hinted(t, "", joined("bytes =61", "end", "run 0", "run 0"),
		"ran 0", "ran 0", "| <html>", "|   <head>", "|   <body>", `|     "a"`, "mode 2", "errors 1")
	plays(t, page(doctype+"<title>t</title><p id=x>1"),
		"ran 0", "ran 0", "| <!DOCTYPE html>", "| <html>", "|   <head>", "|     <title>", `|       "t"`, "|   <body>", "|     <p>",
		`|       id="x"`, `|       "1"`, "mode 0", "errors 0")
}

// TestPlayNothing: scripts that do nothing tell an empty document.
func TestPlayNothing(t *testing.T) {
	for _, s := range []string{"", "\n", "\n\n\n", "#", "# x", "#\n", "\n#", "##\n#\n\n", "#\x00\xff\t\r", "#act", "# bytes =61\n#end",
		"script", "script\n", "script\nscript", "task", "end", "bytes =", "bytes =61", "script\n" + shortAct, "task\n" + shortAct} {
		plays(t, s, "mode 0", "errors 0")
	}
}

// TestPlayNone: a run without a task says so, ahead of any and behind all of them.
func TestPlayNone(t *testing.T) {
	plays(t, "run 0", "none", "mode 0", "errors 0")
	plays(t, "run 0\nrun 1\nrun 99999\n", "none", "none", "none", "mode 0", "errors 0")
	plays(t, "run 0\ntask\nrun 0\nrun 0\ntask\nrun 1\nrun 1", "none", "ran 0", "none", "ran 0", "none", "mode 0", "errors 0")
}

// TestPlayMode has each mode, and how many errors there are.
func TestPlayMode(t *testing.T) {
	tree := []string{"| <html>", "|   <head>", "|   <body>"}
	with := func(first string, behind ...string) []string {
		return append(append([]string{"ran 0", "ran 0", first}, tree...), behind...)
	}
	plays(t, page(doctype), with("| <!DOCTYPE html>", "mode 0", "errors 0")...)
	plays(t, page(`<!DOCTYPE html PUBLIC "-//W3C//DTD XHTML 1.0 Transitional//EN" "x">`),
		with(`| <!DOCTYPE html "-//W3C//DTD XHTML 1.0 Transitional//EN" "x">`, "mode 1", "errors 1")...)
	plays(t, page("<!DOCTYPE x>"), with("| <!DOCTYPE x>", "mode 2", "errors 1")...)
	plays(t, page("<!DOCTYPE html></b></i></a>"), with("| <!DOCTYPE html>", "mode 0", "errors 3")...)
}

// TestPlayBytes: bytes of any value, cut anywhere, come to the page in order.
func TestPlayBytes(t *testing.T) {
	const s = doctype + "<p>a\r\n<b title='é\u2003'>\x00\xc3<i>x</b>y<!--c--><table>z"
	whole := takes(t, page(s))
	whole = strings.TrimPrefix(whole, "ran 0\nran 0\n")
	for i := range len(s) + 1 {
		got := takes(t, joined(chunk(s[:i]), "run 0", chunk(s[i:]), "end", "run 3", "run 99999"))
		if got != "ran 0\nran 0\nran 0\n"+whole {
			t.Fatalf("cut at %d: %s; want %s", i, got, whole)
		}
	}
	var cut []string
	for i := range len(s) {
		cut = append(cut, chunk(s[i:i+1]), "bytes =", "run 0", "run 0")
	}
	got := takes(t, joined(append(cut, "end", "run 0")...))
	if got != strings.Repeat("ran 0\n", 2*len(s)+1)+whole {
		t.Errorf("byte by byte: %s", got)
	}
}

// TestPlayHint: a label of the page's encoding, and what is none.
func TestPlayHint(t *testing.T) {
	body := func(s string) []string {
		return []string{"ran 0", "ran 0", "| <!DOCTYPE html>", "| <html>", "|   <head>", "|   <body>", `|     "` + s + `"`, "mode 0", "errors 0"}
	}
	s := page(doctype + "\xc3\xa4\xa4")
	hinted(t, "utf-8", s, body("ä\ufffd")...)
	hinted(t, "latin1", s, body("Ã¤¤")...)
	hinted(t, "iso-8859-15", s, body("Ã€€")...)
	hinted(t, " L9\n", s, body("Ã€€")...)
	hinted(t, "iso-8859-5", s, body("УЄЄ")...)
	for _, hint := range []string{"", " ", "nonsense", "utf", "\xff\x00", "utf-8\x00", "é", "bytes =61", strings.Repeat("utf-8", 20000), strings.Repeat(" ", 100000) + "x"} {
		hinted(t, hint, s, body("Ã¤¤")...)
	}
	hinted(t, "latin1", page("\xef\xbb\xbf"+doctype+"ä"), body("ä")...)
}

// TestPlayTask: acts that stand for themselves, each one's error in its order.
func TestPlayTask(t *testing.T) {
	begin := page(doctype + "<p>a<p>b") // 1 the doctype, 2 html, 3 head, 4 body, 5 p with 6, 7 p with 8
	head := []string{"ran 0", "ran 0"}
	tree := []string{"| <!DOCTYPE html>", "| <html>", "|   <head>", "|   <body>"}
	for _, x := range []struct {
		act, ran string
		body     []string
	}{
		{act("append", "6 7 -", "", ""), "ran 0 0", []string{"<p>", "<p>", `  "b"`, `  "a"`}},
		{act("append", "5 5 0", "", ""), "ran 0 20", []string{"<p>", `  "a"`, "<p>", `  "b"`}},
		{act("before", "7 4 5", "", ""), "ran 0 0", []string{"<p>", `  "b"`, "<p>", `  "a"`}},
		{act("before", "7 4 6", "", ""), "ran 0 21", []string{"<p>", `  "a"`, "<p>", `  "b"`}},
		{act("before", "7 4 -", "", ""), "ran 0 0", []string{"<p>", `  "a"`, "<p>", `  "b"`}},
		{act("remove", "5 - -", "", ""), "ran 0 0", []string{"<p>", `  "b"`}},
		{act("remove", "- 5 5", "", ""), "ran 0 6", []string{"<p>", `  "a"`, "<p>", `  "b"`}},
		{act("remove", "99999 - -", "", ""), "ran 0 6", []string{"<p>", `  "a"`, "<p>", `  "b"`}},
		{act("text", "- 5 -", "\xffé\x00", "x"), "ran 0 0", []string{"<p>", `  "a"`, "  \"\xffé\x00\"", "<p>", `  "b"`}},
		{act("elem", "- 7 -", "I", "x"), "ran 0 0", []string{"<p>", `  "a"`, "<p>", `  "b"`, "  <i>"}},
		{act("elem", "- 7 -", "", "i"), "ran 0 22", []string{"<p>", `  "a"`, "<p>", `  "b"`}},
		{act("attr", "5 - -", "k", "v\n"), "ran 0 0", []string{"<p>", "  k=\"v\n\"", `  "a"`, "<p>", `  "b"`}},
		{act("unattr", "5 - -", "k", ""), "ran 0 1", []string{"<p>", `  "a"`, "<p>", `  "b"`}},
		{act("data", "6 - -", "", ""), "ran 0 0", []string{"<p>", `  ""`, "<p>", `  "b"`}},
		{act("data", "8 - -", "c", "d"), "ran 0 0", []string{"<p>", `  "a"`, "<p>", `  "c"`}},
		{act("write", "- - -", "c", ""), "ran 0 5", []string{"<p>", `  "a"`, "<p>", `  "b"`}},
		{act("close", "- - -", "", ""), "ran 0 5", []string{"<p>", `  "a"`, "<p>", `  "b"`}},
		{act("abort", "- - -", "", ""), "ran 0 5", []string{"<p>", `  "a"`, "<p>", `  "b"`}},
	} {
		want := append(append([]string{}, head...), x.ran)
		want = append(want, tree...)
		for _, l := range x.body {
			want = append(want, "|     "+l)
		}
		plays(t, joined(begin, "task", x.act, "run 0"), append(want, "mode 0", "errors 0")...)
	}
	plays(t, joined(begin, "task", act("open", "- - -", "", ""), "run 0"), append(head, "ran 0 0", "mode 0", "errors 0")...)
	plays(t, joined(begin, "task", act("unattr", "2 - -", "k", ""), act("attr", "2 - -", "k", "1"), act("unattr", "2 - -", "k", ""), act("remove", "4 - -", "", ""), act("remove", "0 - -", "", ""), "run 0"),
		append(head, "ran 0 1 0 0 0 21", "| <!DOCTYPE html>", "| <html>", "|   <head>", "mode 0", "errors 0")...)
}

// TestPlayTasks: each task has the acts that follow it, and no others.
func TestPlayTasks(t *testing.T) {
	one := act("elem", "- 0 -", "x", "")
	bad := act("remove", "5 - -", "", "")
	plays(t, joined("task", one, one, one, "run 0"), "ran 0 0 20 20", "| <x>", "mode 0", "errors 0")
	plays(t, joined("task", "task", bad, "task", bad, bad, "task", "run 0", "run 0", "run 0", "run 0", "run 0"),
		"ran 0", "ran 0 6", "ran 0 6 6", "ran 0", "none", "mode 0", "errors 0")
	plays(t, joined("task", bad, "run 0", "task", bad, bad, "run 0"), "ran 0 6", "ran 0 6 6", "mode 0", "errors 0")
	plays(t, joined("task", bad, "script", bad, bad, "task", bad, bad, bad, "run 0", "run 0", "run 0"), "ran 0 6", "ran 0 6 6 6", "none", "mode 0", "errors 0")
}

// TestPlayScripts: the lists of acts go to the parser's scripts in their order, wherever in the text they stand.
func TestPlayScripts(t *testing.T) {
	three := chunk(doctype + "<body><script></script>1<script></script>2<script></script>3")
	mark := func(s string) string { return act("text", "- 4 -", s, "") }
	behind := func(lines ...string) []string {
		return append([]string{"| <!DOCTYPE html>", "| <html>", "|   <head>", "|   <body>"}, append(lines, "mode 0", "errors 0")...)
	}
	want := append([]string{"ran 0", "ran 3 0 0 0"}, behind(
		"|     <script>", `|     "a1"`, "|     <script>", `|     "b"`, `|     "c2"`, "|     <script>", `|     "3"`)...)
	plays(t, joined(three, "end", "script", mark("a"), "script", mark("b"), mark("c"), "run 0", "run 0", "script"), want...)
	plays(t, joined("script", mark("a"), three, "script", mark("b"), mark("c"), "end", "run 0", "run 0"), want...)
	plays(t, joined(three, "end", "run 0", "run 0", "script", mark("a"), "script", mark("b"), mark("c")), want...)
	plays(t, joined("script", mark("a"), "script", mark("b"), mark("c"), "script", "script", mark("x"), three, "end", "run 0", "run 0"), want...)
	// Lists without an act count.
	plays(t, joined("script", "script", mark("b"), "script", three, "end", "run 0", "run 0"), append([]string{"ran 0", "ran 3 0"}, behind(
		"|     <script>", `|     "1"`, "|     <script>", `|     "b2"`, "|     <script>", `|     "3"`)...)...)
	// And a page has as many scripts as it has.
	plays(t, joined(three, "end", "run 0", "run 0"), append([]string{"ran 0", "ran 3"}, behind(
		"|     <script>", `|     "1"`, "|     <script>", `|     "2"`, "|     <script>", `|     "3"`)...)...)
}

// TestPlayWrite is the document's tenth example, and scripts within scripts.
func TestPlayWrite(t *testing.T) {
	plays(t, joined("script", write("<b>"), chunk("<body><script></script>a"), "end", "run 0", "run 0"),
		"ran 0", "ran 1 0", "| <html>", "|   <head>", "|   <body>", "|     <script>", "|     <b>", `|       "a"`, "mode 2", "errors 2")
	plays(t, joined("script", write("<i><script></script>2"), act("remove", "9999 - -", "", ""), "script", write("<u>"), act("open", "- - -", "", ""), chunk(doctype+"<body><script></script>1"), "end", "run 0", "run 0"),
		"ran 0", "ran 2 0 5 0 6", "| <!DOCTYPE html>", "| <html>", "|   <head>", "|   <body>", "|     <script>", "|     <i>", "|       <script>", "|       <u>", `|         "21"`, "mode 0", "errors 1")
}

// TestPlayOpen: a document that a task opens, writes and closes.
func TestPlayOpen(t *testing.T) {
	open, shut := act("open", "- - -", "", ""), act("close", "- - -", "", "")
	plays(t, joined(page("a"), "task", open, write(doctype), write("<p>"), shut, shut, "run 0"),
		"ran 0", "ran 0", "ran 0 0 0 0 0 5", "| <!DOCTYPE html>", "| <html>", "|   <head>", "|   <body>", "|     <p>", "mode 0", "errors 1")
	plays(t, joined("task", act("abort", "7 8 9", "x", "y"), open, write("<p>b"), shut, chunk("c"), "end", "run 1", "run 0", "run 0"),
		"ran 0 0 0 0 0", "ran 0", "ran 0", "| <html>", "|   <head>", "|   <body>", "|     <p>", `|       "b"`, "mode 2", "errors 1")
}

// TestPlayPick: a pick chooses between what comes to the parser and what scripts do, however great it is.
func TestPlayPick(t *testing.T) {
	two := joined("bytes =", "task", act("remove", "5 - -", "", ""))
	for _, x := range []struct{ pick, first, second string }{
		{"0", "ran 0", "ran 0 6"}, {"1", "ran 0 6", "ran 0"}, {"2", "ran 0", "ran 0 6"}, {"3", "ran 0 6", "ran 0"},
		{"10", "ran 0", "ran 0 6"}, {"4097", "ran 0 6", "ran 0"}, {"65536", "ran 0", "ran 0 6"}, {"99998", "ran 0", "ran 0 6"}, {"99999", "ran 0 6", "ran 0"},
	} {
		plays(t, joined(two, "run "+x.pick, "run "+x.pick, "run "+x.pick), x.first, x.second, "none", "mode 0", "errors 0")
	}
}

// TestPlayRemarks: remarks and empty lines change nothing, wherever they stand.
func TestPlayRemarks(t *testing.T) {
	lines := []string{"script", write("<b>"), act("text", "- 4 -", "x", ""), chunk(doctype + "<body><script></script>a"), "end", "run 1", "task", act("remove", "3 - -", "", ""), act("remove", "3 - -", "", ""), "run 1", "run 0", "run 0"}
	want := takes(t, joined(lines...))
	for _, more := range []string{"", "\n\n", "#", "# act", "#" + shortAct, "# x\n\n#", "#\r", "#\xff\x00"} {
		for i := range len(lines) + 1 {
			with := append(append(append([]string{}, lines[:i]...), more), lines[i:]...)
			if got := takes(t, joined(with...)); got != want {
				t.Errorf("with %q at %d: %s; want %s", more, i, got, want)
			}
		}
		if got := takes(t, joined(append([]string{""}, lines...)...)+"\n"+more+"\n"); got != want {
			t.Errorf("with %q at the ends: %s; want %s", more, got, want)
		}
		if got := takes(t, strings.Join(lines, "\n"+more+"\n")); got != want {
			t.Errorf("with %q between all: %s; want %s", more, got, want)
		}
	}
}

// TestPlayLastByte: a script may end with a byte 10, or without.
func TestPlayLastByte(t *testing.T) {
	for _, s := range []string{page("a"), "run 0", "task\n" + shortAct + "\nrun 0", "script", "#", "end"} {
		if takes(t, s) != takes(t, s+"\n") || takes(t, s) != takes(t, "\n"+s) {
			t.Errorf("%q has other answers with a byte 10", s)
		}
	}
}

// TestPlayOneAnswer: nothing is kept from a script to another one (P22.3).
func TestPlayOneAnswer(t *testing.T) {
	all := []string{page("a"), page(doctype + "<p>x"), "run 0", "", joined("script", write("<b>"), page("<script></script>")), joined("task", act("elem", "- 0 -", "x", ""), "run 0"), "task", "bytes =61"}
	var first []string
	for _, s := range all {
		first = append(first, takes(t, s))
	}
	for range 3 {
		for i := range all {
			refuses(t, all[i]+"\nx", errForm)
			if got := takes(t, all[i]); got != first[i] {
				t.Errorf("%q: %s; at first %s", all[i], got, first[i])
			}
		}
	}
	s := page("a")
	if x, _ := script.Play("latin1", s); x != takes(t, s) {
		t.Error("a hint makes a difference to ASCII")
	}
}
