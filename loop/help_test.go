package loop_test

import (
	"math"
	"reflect"
	"strconv"
	"strings"
	"testing"

	"hornbeam/api"
	"hornbeam/loop"
	"hornbeam/node"
	"hornbeam/show"
)

// Errors, limits and kinds by the document's numbers: a test leans on no constant that the program reads.
const (
	ok           = 0
	errArg       = 1
	errLong      = 2
	errState     = 5
	errNone      = 6
	errZero      = 7
	errFull      = 9
	errKind      = 10
	errHierarchy = 20
	errNotFound  = 21
	errName      = 22

	none       = -1
	maxNodes   = 32768
	maxText    = 1048576
	maxInput   = 1048576
	maxTasks   = 4096
	maxScripts = 1000
	maxNest    = 20
	maxSniff   = 1024
	minInt     = math.MinInt
	maxInt     = math.MaxInt

	noQuirks = 0
	quirks   = 2

	utf8    = 0
	utf16BE = 2
	windows = 3
	latin9  = 4
	cyr     = 5

	taskBytes  = 0
	taskEnd    = 1
	taskScript = 2
)

const doctype = "<!DOCTYPE html>"

// padding is blanks ahead of a page's first word, which lead to no token's doing: with them the encoding is sure.
var padding = strings.Repeat(" ", maxSniff)

// The acts, by the document's numbers.

func insert(a, b int) api.Act         { return api.Act{What: 0, A: a, B: b, C: none} }
func before(a, b, c int) api.Act      { return api.Act{What: 1, A: a, B: b, C: c} }
func remove(a int) api.Act            { return api.Act{What: 2, A: a} }
func text(s string, b int) api.Act    { return api.Act{What: 3, B: b, Text: s} }
func elem(s string, b int) api.Act    { return api.Act{What: 4, B: b, Text: s} }
func attr(a int, s, x string) api.Act { return api.Act{What: 5, A: a, Text: s, More: x} }
func unattr(a int, s string) api.Act  { return api.Act{What: 6, A: a, Text: s} }
func data(a int, s string) api.Act    { return api.Act{What: 7, A: a, Text: s} }
func write(s string) api.Act          { return api.Act{What: 8, Text: s} }

var (
	open  = api.Act{What: 9}
	close = api.Act{What: 10}
	abort = api.Act{What: 11}
)

// acts are a script.
func acts(l ...api.Act) []api.Act { return l }

// bench is a loop, and the tasks that it is given one by one.
type bench struct {
	t *testing.T
	l *loop.Loop
}

// newBench is a loop of a page in UTF-8.
func newBench(t *testing.T, scripts ...[]api.Act) bench {
	t.Helper()
	return hinted(t, "utf-8", scripts...)
}

func hinted(t *testing.T, hint string, scripts ...[]api.Act) bench {
	t.Helper()
	l, e := loop.New(hint, scripts)
	if e != ok || l == nil {
		t.Fatalf("New: %d", e)
	}
	return bench{t, l}
}

// does posts a task, runs it, and holds the step against what is wanted: how many scripts ran, and each act's error.
func (w bench) does(x api.Task, want string) {
	w.t.Helper()
	if e := w.l.Post(x); e != ok {
		w.t.Fatalf("Post: %d", e)
	}
	w.runs(0, want)
}

func (w bench) runs(pick int, want string) {
	w.t.Helper()
	step, is := w.l.Run(pick)
	if got := told(step); !is || got != want {
		w.t.Errorf("Run: %s, %v; want %s", got, is, want)
	}
	if !show.Sound(w.l.Tree()) {
		w.t.Error("the tree is not sound")
	}
}

// told is a step: how many scripts ran, and the errors.
func told(x api.Step) string {
	s := strconv.Itoa(x.Ran)
	for _, e := range x.Errs {
		s += " " + strconv.Itoa(int(e))
	}
	return s
}

// begin gives a page's first bytes, with which its encoding is sure.
func (w bench) begin(s, want string) {
	w.t.Helper()
	w.bytes(padding+s, want)
}

func (w bench) bytes(s, want string) {
	w.t.Helper()
	w.does(api.Task{What: taskBytes, Bytes: []byte(s)}, want)
}

func (w bench) end(want string) {
	w.t.Helper()
	w.does(api.Task{What: taskEnd}, want)
}

func (w bench) script(want string, l ...api.Act) {
	w.t.Helper()
	w.does(api.Task{What: taskScript, Acts: l}, want)
}

// page gives a whole page and its end.
func (w bench) page(s, want string) {
	w.t.Helper()
	w.begin(s, want)
	w.end("0")
}

// tree holds the document against what is wanted.
func (w bench) tree(want string) {
	w.t.Helper()
	if got := tell(w.l.Tree(), 0); got != want {
		w.t.Errorf("the tree is %s; want %s", short(got), short(want))
	}
}

// is holds what a loop tells of itself against what is wanted.
func (w bench) is(parsing bool, scripts, waiting int) {
	w.t.Helper()
	if w.l.Parsing() != parsing || w.l.Scripts() != scripts || w.l.Waiting() != waiting {
		w.t.Errorf("Parsing %v, Scripts %d, Waiting %d; want %v, %d, %d", w.l.Parsing(), w.l.Scripts(), w.l.Waiting(), parsing, scripts, waiting)
	}
}

// result holds what parsing has led to against what is wanted; faults are errors by their names, parted by blanks.
func (w bench) result(encoding, mode int, faults string) {
	w.t.Helper()
	r := w.l.Result()
	if got := strings.Join(r.Errors, " "); r.Encoding != encoding || r.Mode != mode || got != faults {
		w.t.Errorf("Result: %d, %d, %s; want %d, %d, %s", r.Encoding, r.Mode, short(got), encoding, mode, faults)
	}
}

// state is all that there is to say of a loop: every node of its arena, and what it tells of itself.
type state struct {
	nodes            []api.Node
	result           api.Result
	parsing          bool
	scripts, waiting int
}

func (w bench) state() state {
	r := w.l.Result()
	r.Errors = append([]string{}, r.Errors...)
	return state{nodesOf(w.l.Tree()), r, w.l.Parsing(), w.l.Scripts(), w.l.Waiting()}
}

func nodesOf(a *node.Arena) []api.Node {
	var l []api.Node
	for id := range a.Len() {
		x, _ := a.Node(id)
		l = append(l, x)
	}
	return l
}

// same holds what came against what should, and tells where they part.
func same(t *testing.T, what string, got, want state) {
	t.Helper()
	if reflect.DeepEqual(got, want) {
		return
	}
	for i := range min(len(got.nodes), len(want.nodes)) {
		if !reflect.DeepEqual(got.nodes[i], want.nodes[i]) {
			t.Errorf("%s: node %d is %s; want %s", what, i, short(got.nodes[i]), short(want.nodes[i]))
			break
		}
	}
	t.Fatalf("%s: %d nodes, %s; want %d, %s", what, len(got.nodes), short(got.rest()), len(want.nodes), short(want.rest()))
}

func (x state) rest() string {
	return short(x.result) + ", " + strconv.FormatBool(x.parsing) + ", " + strconv.Itoa(x.scripts) + ", " + strconv.Itoa(x.waiting)
}

// named is the first node of that name.
func (w bench) named(name string) int {
	w.t.Helper()
	for id, x := range nodesOf(w.l.Tree()) {
		if x.Kind == 1 && x.Name == name {
			return id
		}
	}
	w.t.Fatalf("there is no %s", name)
	return none
}

// gives asks for the error of a call.
func gives(t *testing.T, what string, got api.Errno, want int) {
	t.Helper()
	if int(got) != want {
		t.Errorf("%s: error %d, not %d", what, got, want)
	}
}
