package loop_test

import (
	"testing"

	"hornbeam/api"
	"hornbeam/loop"
)

// P4: bytes and acts that are changed behind Post, and a task's own fields.
func TestTasksAreCopied(t *testing.T) {
	w := newBench(t)
	b := []byte(padding + doctype + "<p>a")
	l := acts(open, write("b"), close)
	first, last := api.Task{What: taskBytes, Bytes: b}, api.Task{What: taskScript, Acts: l}
	gives(t, "Post", w.l.Post(first), ok)
	gives(t, "Post", w.l.Post(api.Task{What: taskEnd}), ok)
	gives(t, "Post", w.l.Post(last), ok)
	for i := range b {
		b[i] = 'x'
	}
	for i := range l {
		l[i] = abort
	}
	first.Bytes, first.What, last.Acts, last.What = nil, taskEnd, nil, taskBytes
	w.runs(0, "0")
	w.runs(0, "0")
	w.tree(`doctype:html html(head body(p("a")))`)
	w.runs(0, "0 0 0 0")
	w.tree(`html(head body("b"))`)
}

// P4: bytes that wait for an encoding are the loop's own, and bytes that are handed in stay as they are.
func TestBytesAreCopied(t *testing.T) {
	w := newBench(t)
	b := []byte("<p>a")
	for range 3 {
		w.does(api.Task{What: taskBytes, Bytes: b}, "0")
		if string(b) != "<p>a" {
			t.Errorf("the bytes are %q", b)
		}
		copy(b, "!!!!")
		w.bytes("", "0")
		copy(b, "<p>a")
	}
	w.end("0")
	w.tree(`html(head body(p("a") p("a") p("a")))`)
}

// P4: lists of scripts that are changed behind New, and between two scripts; they stay as they were.
func TestScriptsAreCopied(t *testing.T) {
	scripts := [][]api.Act{acts(write("1"), write("2")), acts(write("3")), acts(write("4"))}
	w := newBench(t, scripts...)
	scripts[0][0] = abort
	scripts[1] = acts(abort)
	scripts[2] = nil
	w.begin("<body><script></script>a", "1 0 0")
	scripts[1], scripts[2] = acts(abort), acts(abort)
	w.bytes("<script></script>b<script></script>c", "2 0 0")
	w.tree(`html(head body(script "12a" script "3b" script "4c"))`)
	if len(scripts) != 3 || scripts[0][0] != abort || scripts[0][1] != write("2") || len(scripts[1]) != 1 {
		t.Errorf("the lists were changed: %v", scripts)
	}

	one := acts(write("x"))
	w = newBench(t, one, one, one)
	w.page("<body><script></script><script></script><script></script>", "3 0 0 0")
	w.tree(`html(head body(script "x" script "x" script "x"))`)
	if one[0] != write("x") {
		t.Errorf("the list was changed: %v", one)
	}
}

// P4: what is answered is new memory.
func TestAnswersAreNew(t *testing.T) {
	w := newBench(t, acts(remove(99), remove(0)))
	gives(t, "Post", w.l.Post(api.Task{What: taskBytes, Bytes: []byte(padding + "</b><script></script></i>")}), ok)
	step, _ := w.l.Run(0)
	r := w.l.Result()
	if told(step) != "1 6 21" || len(r.Errors) != 3 {
		t.Fatalf("%s, %v", told(step), r.Errors)
	}
	kept := append([]api.Errno{}, step.Errs...)
	w.script("0 1 1 1", api.Act{What: -1}, api.Act{What: -1}, api.Act{What: -1})
	for i, e := range step.Errs {
		if e != kept[i] {
			t.Errorf("a step changes with the next one: %v", step.Errs)
		}
	}
	for i := range step.Errs {
		step.Errs[i] = 77
	}
	r.Errors[0] = "x"
	_ = append(r.Errors[:1], "y", "z")
	_ = append(step.Errs[:1], 78, 79)
	w.script("0 1", api.Act{What: -1})
	w.result(utf8, quirks, "tree tree tree")
	w.script("0 0 0", abort, open)
	r = w.l.Result()
	_ = append(r.Errors[:0], "x", "y", "z")
	w.result(utf8, noQuirks, "tree tree tree")
}

// P5: two loops beside each other, task by task, are as if each were alone.
func TestTwoLoops(t *testing.T) {
	scripts := [][]api.Act{acts(write("1<script></script>2")), acts(write("3"), abort, open)}
	one, two := newBench(t, scripts...), hinted(t, "l9", scripts...)
	one.begin(doctype+"<p>a", "0")
	two.begin("<p>\xa4", "0")
	one.bytes("<script></script>b", "2 0 0 0 0")
	one.tree("")
	two.tree(`html(head body(p("€")))`)
	two.is(true, 0, 0)
	one.script("0 0", write("x"))
	two.script("0 5", write("x"))
	two.bytes("<b><script>", "0")
	one.script("0 0", close)
	two.bytes("</script>", "2 0 0 0 0")
	one.tree(`html(head body("x"))`)
	two.tree("")
	one.result(utf8, quirks, "tree")
	two.result(utf8, noQuirks, "tree")
	one.is(false, 2, 0)
	two.is(true, 2, 0)
	if one.l.Tree() == two.l.Tree() {
		t.Error("one arena")
	}
}

// P1: a loop that was copied as a value stays the same loop.
func TestCopiedLoop(t *testing.T) {
	w := newBench(t, acts(write("1")))
	other := *w.l
	w.begin("<body><script></script>", "1 0")
	x := bench{t, &other}
	x.bytes("a", "0")
	same(t, "the copy", x.state(), w.state())
	w.end("0")
	same(t, "the copy", x.state(), w.state())
	x.tree(`html(head body(script "1a"))`)
}

// P21.4: the arena is the loop's: what is changed there between two tasks stays changed.
func TestTreeIsLive(t *testing.T) {
	w := newBench(t)
	a := w.l.Tree()
	w.begin("<div><p>a", "0")
	p, div := w.named("p"), w.named("div")
	gives(t, "Unlink", a.Unlink(p), ok)
	w.bytes("b</p>c", "0")
	w.script("0 0", insert(p, div))
	w.end("0")
	w.tree(`html(head body(div("c" p("ab"))))`)
	if w.l.Tree() != a {
		t.Error("another arena")
	}
}

// P21.4: of a nil loop, and of one that no call made: each call, again and again.
func TestNoLoop(t *testing.T) {
	for _, l := range []*loop.Loop{nil, {}, new(loop.Loop)} {
		for range 2 {
			for what := -1; what <= 3; what++ {
				gives(t, "Post", l.Post(api.Task{What: what, Bytes: []byte("a"), Acts: acts(open)}), errZero)
			}
			for _, pick := range []int{0, -1, minInt, maxInt} {
				if step, is := l.Run(pick); is || step.Ran != 0 || step.Errs != nil {
					t.Errorf("Run: %v, %v", step, is)
				}
			}
			if l.Tree() != nil || l.Parsing() || l.Scripts() != 0 || l.Waiting() != 0 {
				t.Errorf("%v, %v, %d, %d", l.Tree(), l.Parsing(), l.Scripts(), l.Waiting())
			}
			if r := l.Result(); r.Encoding != 0 || r.Mode != 0 || r.Errors != nil {
				t.Errorf("Result: %v", r)
			}
		}
	}
}
