package loop_test

import (
	"math/rand"
	"strconv"
	"testing"

	"hornbeam/api"
	"hornbeam/show"
)

var pieces = []string{
	"<script></script>", "<script></script>", "<script></script>", "<script>", "</script>", "<scr", "ipt></scr", "ipt>", "</script", ">",
	doctype, "<p>", "</p>", "<b>", "</b>", "<a>", "<i x=y>", "<table>", "<tr>", "<td>", "</table>", "<select>", "<option>", "</select>",
	"<div>", "</div>", "<template>", "</template>", "<svg>", "</svg>", "<desc>", "<title>", "</title>", "<style>", "</style>", "<!--", "-->",
	"<html q=1>", "<body>", "</body>", "</html>", "<frameset>", "<form>", "</form>", "<pre>", "\r", "\n", "\r\n", " ", "x", "yz", "&am", "&amp", "p;",
	"\xc3", "\xa9", "\x00", "\xff", "<", "/", "<![CDATA[", "]]>", "<plaintext>", "<meta charset=l9>", "é€😀",
}

func somePieces(r *rand.Rand, n int) string {
	s := ""
	for range r.Intn(n) {
		s += pieces[r.Intn(len(pieces))]
	}
	return s
}

// someAct is an act that may be: mostly a write, else a change at some of the first nodes, or what brings a parser or ends it.
func someAct(r *rand.Rand) api.Act {
	names := []string{"q", "w", "x"}
	x := api.Act{What: r.Intn(13) - r.Intn(20)/19*13, A: r.Intn(20) - 1, B: r.Intn(12) - 1, C: r.Intn(12) - 1, Text: names[r.Intn(3)], More: strconv.Itoa(r.Intn(9))}
	if x.What > 9 && r.Intn(2) == 0 || r.Intn(4) == 0 {
		x.What = 8
	}
	if x.What == 8 {
		x.Text = somePieces(r, 6)
	}
	return x
}

func someActs(r *rand.Rand) []api.Act {
	var l []api.Act
	if r.Intn(6) == 0 {
		l = acts(abort, open)[r.Intn(2):]
	}
	for range r.Intn(6) {
		l = append(l, someAct(r))
	}
	if r.Intn(6) == 0 {
		l = append(l, close)
	}
	return l
}

// someTasks are a page's bytes, cut somewhere, its end, if it has one, and acts.
func someTasks(r *rand.Rand) []api.Task {
	page := somePieces(r, 40)
	if r.Intn(2) == 0 {
		page = doctype + "<body><p q=1>a<!--b--><i w=x>c</i>" + page
	}
	if r.Intn(4) > 0 {
		page = padding[r.Intn(maxSniff):] + page
	}
	var l []api.Task
	for page != "" {
		cut := 1 + r.Intn(min(len(page), 400))
		l = append(l, api.Task{What: taskBytes, Bytes: []byte(page[:cut])})
		page = page[cut:]
	}
	if r.Intn(4) > 0 {
		l = append(l, api.Task{What: taskEnd})
	}
	for range r.Intn(7) {
		l = append(l, api.Task{What: taskScript, Acts: someActs(r)})
	}
	if r.Intn(9) == 0 {
		l = append(l, api.Task{What: taskBytes, Bytes: []byte(somePieces(r, 9))})
	}
	return l
}

// P21.1 to P21.5: random pages, scripts, tasks and picks, task by task, are as by the chapter's words, and the tree is sound.
func TestRandom(t *testing.T) {
	r := rand.New(rand.NewSource(2121))
	hints := []string{"", "utf-8", "l9"}
	seen := map[[2]int]int{}
	for range 8000 {
		scripts := make([][]api.Act, r.Intn(30))
		for k := range scripts {
			scripts[k] = someActs(r)
		}
		hint := hints[r.Intn(len(hints))]
		w, plain := hinted(t, hint, scripts...), newPlain(hint, scripts)
		plain.seen = seen
		for _, x := range someTasks(r) {
			gives(t, "Post", w.l.Post(x), ok)
			plain.post(x)
			for r.Intn(3) == 0 {
				runBoth(t, w, plain, r.Int()-r.Int())
			}
		}
		for w.l.Waiting() > 0 {
			runBoth(t, w, plain, r.Int()-r.Int())
		}
	}
	for what := range 12 {
		if refused := map[bool]int{true: errState, false: errNone}[what > 7]; seen[[2]int{what, ok}] < 20 || seen[[2]int{what, refused}] < 100 {
			t.Errorf("act %d was done %d times, and refused %d times", what, seen[[2]int{what, ok}], seen[[2]int{what, refused}])
		}
	}
}

func runBoth(t *testing.T, w bench, plain *plainLoop, pick int) {
	t.Helper()
	got, is := w.l.Run(pick)
	want, was := plain.run(pick)
	if told(got) != told(want) || is != was {
		t.Fatalf("Run(%d): %s, %v; want %s, %v", pick, told(got), is, told(want), was)
	}
	same(t, "Run", w.state(), plain.state())
	if !show.Sound(w.l.Tree()) {
		t.Fatal("the tree is not sound")
	}
}
