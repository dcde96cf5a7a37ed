package loop_test

import (
	"testing"

	"hornbeam/api"
	"hornbeam/loop"
)

// lists are so many scripts without acts, but for the last one, which has n.
func lists(scripts, n int) [][]api.Act {
	l := make([][]api.Act, scripts)
	if scripts > 0 {
		l[scripts-1] = make([]api.Act, n)
	}
	return l
}

// P21.1: 1000 scripts and one more, MaxTasks acts in all and one more.
func TestLimitsOfNew(t *testing.T) {
	spread := make([][]api.Act, 1000)
	for k := range spread {
		spread[k] = make([]api.Act, 4)
	}
	spread[0] = make([]api.Act, 100)
	for _, c := range []struct {
		what    string
		scripts [][]api.Act
		want    int
	}{
		{"nil", nil, ok},
		{"none", [][]api.Act{}, ok},
		{"1", lists(1, 0), ok},
		{"999", lists(999, 0), ok},
		{"1000", lists(1000, 0), ok},
		{"1001", lists(1001, 0), errLong},
		{"5000", lists(5000, 0), errLong},
		{"most acts", lists(1, maxTasks), ok},
		{"one more", lists(1, maxTasks+1), errLong},
		{"many more", lists(1, 2*maxTasks), errLong},
		{"most acts in the last of 1000", lists(1000, maxTasks), ok},
		{"one more there", lists(1000, maxTasks+1), errLong},
		{"most acts in two", append(lists(1, 4000), lists(2, 96)...), ok},
		{"one more in two", append(lists(1, 4000), lists(2, 97)...), errLong},
		{"4096 in 1000", spread, ok},
		{"4097 in 1000", append(append([][]api.Act{}, spread[:999]...), make([]api.Act, 5)), errLong},
		{"both", lists(1001, maxTasks+1), errLong},
	} {
		l, e := loop.New("", c.scripts)
		gives(t, c.what, e, c.want)
		if (l == nil) != (e != ok) {
			t.Errorf("%s: %v beside %d", c.what, l, e)
		}
	}
}

// P21.1: a loop's parser waits for bytes.
func TestNewLoop(t *testing.T) {
	for _, hint := range []string{"", "utf-8", "l9", "none such", "\xff"} {
		w := hinted(t, hint, acts(write("x")))
		w.tree("")
		w.is(true, 0, 0)
		w.result(utf8, noQuirks, "")
		if w.l.Tree().Len() != 1 || w.l.Tree() != w.l.Tree() {
			t.Errorf("%q: %d nodes", hint, w.l.Tree().Len())
		}
	}
}

// P21.1: the k-th script that is ready has the k-th list, wherever it stands. There may be fewer lists, or more.
func TestListsOfScripts(t *testing.T) {
	page := doctype + "<body><script></script>1<script></script>2<script></script>3"
	w := newBench(t)
	w.page(page, "3")
	w.is(false, 3, 0)
	w.tree(`doctype:html html(head body(script "1" script "2" script "3"))`)

	w = newBench(t, acts(write("a")), nil, acts(write("b")), acts(write("c")), acts(write("d")))
	w.page(page, "3 0 0")
	w.is(false, 3, 0)
	w.tree(`doctype:html html(head body(script "a1" script "2" script "b3"))`)
	w.script("1 0 0 0 0", open, write("<body><script></script>x"), close)
	w.tree(`html(head body(script "cx"))`)
	w.script("3 0 0 0 0", open, write(page), close)
	w.tree(`doctype:html html(head body(script "d1" script "2" script "3"))`)
	w.is(false, 7, 0)

	w = newBench(t, acts(write("a")), acts(write("b")))
	w.begin(doctype+"<body><script></script>1<script></scr", "1 0")
	w.is(true, 1, 0)
	w.bytes("ipt>2<script>3</script>", "2 0")
	w.is(true, 3, 0)
	w.bytes("4", "0")
	w.end("0")
	w.tree(`doctype:html html(head body(script "a1" script "b2" script("3") "4"))`)
}

// P21.1: 1000 scripts, each with acts, and one more in the page.
func TestManyScripts(t *testing.T) {
	l := make([][]api.Act, maxScripts)
	for k := range l {
		l[k] = acts(write(letter(k%26)), abort, open, write("not done"))[:1]
	}
	w := newBench(t, l...)
	w.begin(doctype+"<body>", "0")
	want := ""
	for k := range maxScripts {
		w.bytes("<script></script>", "1 0")
		want += `script "` + letter(k%26) + `" `
	}
	w.bytes("<script></script>.", "1")
	w.end("0")
	w.tree("doctype:html html(head body(" + want + `script "."))`)
	w.is(false, maxScripts+1, 0)
}
