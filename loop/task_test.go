package loop_test

import (
	"strings"
	"testing"

	"hornbeam/api"
	"hornbeam/loop"
)

// P21.1: tasks of no known number.
func TestPostOfNone(t *testing.T) {
	w := newBench(t)
	before := w.state()
	for _, what := range []int{-1, 3, 4, 5, 255, 256, 1 << 31, 1 << 32, 1<<32 + 1, -1 << 31, minInt, maxInt, minInt + 2} {
		gives(t, "Post", w.l.Post(api.Task{What: what, Bytes: []byte("a"), Acts: acts(abort)}), errArg)
	}
	same(t, "behind it", w.state(), before)
	if step, is := w.l.Run(0); is || told(step) != "0" {
		t.Errorf("Run: %v, %v", step, is)
	}
}

// P21.2: nothing waits: false, and a zero step, under each pick.
func TestRunOfNothing(t *testing.T) {
	w := newBench(t)
	before := w.state()
	for _, pick := range []int{0, 1, -1, 2, minInt, maxInt} {
		if step, is := w.l.Run(pick); is || told(step) != "0" || step.Errs != nil {
			t.Errorf("Run(%d): %v, %v", pick, step, is)
		}
	}
	same(t, "behind it", w.state(), before)
	w.page("a", "0")
	if step, is := w.l.Run(0); is || told(step) != "0" {
		t.Errorf("Run: %v, %v", step, is)
	}
}

// P21.1: a source has room for MaxTasks tasks; the bytes and the end are of one source, the acts of another.
func TestPostToAFullSource(t *testing.T) {
	l, _ := loop.New("utf-8", nil)
	w := bench{t, l}
	post := func(want int, x api.Task) {
		t.Helper()
		gives(t, "Post", l.Post(x), want)
	}
	bytes, end, script := api.Task{What: taskBytes, Bytes: []byte(" ")}, api.Task{What: taskEnd}, api.Task{What: taskScript, Acts: acts(open)}
	post(ok, api.Task{What: taskBytes, Bytes: []byte(padding + doctype)})
	for range maxTasks - 1 {
		post(ok, bytes)
	}
	w.is(true, 0, maxTasks)
	post(errFull, bytes)
	post(errFull, end)
	w.is(true, 0, maxTasks)
	for range maxTasks {
		post(ok, script)
	}
	w.is(true, 0, 2*maxTasks)
	post(errFull, script)
	post(errFull, bytes)
	post(errArg, api.Task{What: 3})
	w.is(true, 0, 2*maxTasks)
	w.runs(0, "0")
	post(errFull, script)
	post(ok, end)
	post(errFull, end)
	w.runs(1, "0 5")
	post(errFull, bytes)
	post(ok, script)
	post(errFull, script)
	w.is(true, 0, 2*maxTasks)
	for range maxTasks {
		w.runs(0, "0")
	}
	w.is(false, 0, maxTasks)
	w.runs(0, "0 0")
	w.runs(0, "0 5")
	w.is(true, 0, maxTasks-2)
}

// P21.2: tasks come as they are picked: the bytes and the end in their order, and the acts in theirs.
func TestPicks(t *testing.T) {
	for _, c := range []struct {
		picks []int
		steps string
		tree  string
	}{
		{[]int{0, 0, 0, 0, 0, 0}, "0|1 0|0|0 0 5|0 0 5|0 5", `doctype:html html(head body(script "sa" "1" "2"))`},
		{[]int{1, 1, 1, 0, 0, 0}, "0 6 5|0 6 5|0 5|0|1 0|0", `doctype:html html(head body(script "sa"))`},
		{[]int{-1, 2, 3, 2, 1, -1}, "0 6 5|0|0 0 5|1 0|0 5|0", `doctype:html html(head body("2" script "sa"))`},
		{[]int{0, 1, 1, 1, 0, 0}, "0|0 0 5|0 0 5|0 5|1 0|0", `doctype:html html(head body("1" "2" script "sa"))`},
		{[]int{-2, -1, maxInt, minInt, -5, 7}, "0|0 0 5|0 0 5|1 0|0 5|0", `doctype:html html(head body("1" "2" script "sa"))`},
	} {
		w := newBench(t, acts(write("s")))
		for _, x := range []api.Task{
			{What: taskBytes, Bytes: []byte(padding + doctype + "<body>")},
			{What: taskScript, Acts: acts(text("1", 4), write("x"))},
			{What: taskScript, Acts: acts(text("2", 4), write("y"))},
			{What: taskBytes, Bytes: []byte("<script></script>a")},
			{What: taskEnd},
			{What: taskScript, Acts: acts(close)},
		} {
			gives(t, "Post", w.l.Post(x), ok)
		}
		var got []string
		for i, pick := range c.picks {
			step, is := w.l.Run(pick)
			if got = append(got, told(step)); !is || w.l.Waiting() != len(c.picks)-i-1 {
				t.Errorf("%v: Run %d: %v, %d wait", c.picks, i, is, w.l.Waiting())
			}
		}
		if strings.Join(got, "|") != c.steps {
			t.Errorf("%v: %s; want %s", c.picks, strings.Join(got, "|"), c.steps)
		}
		w.tree(c.tree)
		w.is(false, 1, 0)
	}
}

// P21.2: a task without acts, and one of bytes without bytes, are done and lead to nothing. What a task has beside what
// it is makes no difference.
func TestEmptyTasks(t *testing.T) {
	w := newBench(t)
	before := w.state()
	w.script("0")
	w.bytes("", "0")
	w.does(api.Task{What: taskScript, Bytes: []byte(padding)}, "0")
	w.does(api.Task{What: taskBytes, Acts: acts(abort)}, "0")
	same(t, "behind them", w.state(), before)
	w.begin("a", "0")
	w.does(api.Task{What: taskEnd, Bytes: []byte("b"), Acts: acts(open)}, "0")
	w.tree(`html(head body("a"))`)
}

// P21.2: the steps, the tree and what a loop tells of itself behind each of a page's tasks.
func TestTaskByTask(t *testing.T) {
	w := hinted(t, "", acts(write("<i>"), text("x", 5)), acts(abort))
	for _, c := range []struct {
		bytes   string
		step    string
		tree    string
		scripts int
		faults  string
	}{
		{"<meta charset=iso-8859-5><p>\xd0", "0", "", 0, ""},
		{padding, "0", `html(head(meta{charset=iso-8859-5}) body(p("а` + padding + `")))`, 0, "tree"},
		{"</p><scr", "0", `html(head(meta{charset=iso-8859-5}) body(p("а` + padding + `")))`, 0, "tree"},
		{"ipt></script>\xd1", "1 0 0", `html(head(meta{charset=iso-8859-5}) body(p("а` + padding + `" "x") script i("б")))`, 1, "tree"},
		{"</b><", "0", `html(head(meta{charset=iso-8859-5}) body(p("а` + padding + `" "x") script i("б")))`, 1, "tree tree"},
		{"script>1</script>2", "1 0", `html(head(meta{charset=iso-8859-5}) body(p("а` + padding + `" "x") script i("б" script("1"))))`, 2, "tree tree"},
	} {
		w.bytes(c.bytes, c.step)
		w.tree(c.tree)
		w.is(c.scripts < 2, c.scripts, 0)
		encoding, mode := cyr, quirks
		if c.tree == "" {
			encoding, mode = utf8, noQuirks
		}
		w.result(encoding, mode, c.faults)
	}
}
