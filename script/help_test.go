package script_test

import (
	"encoding/hex"
	"fmt"
	"math"
	"reflect"
	"strings"
	"testing"

	"hornbeam/api"
	"hornbeam/script"
)

// Errors, limits and kinds by the document's numbers: a test leans on no constant that the program reads.
const (
	ok      = 0
	errLong = 2
	errForm = 4

	none       = -1
	maxScript  = 65536
	maxTasks   = 4096
	maxScripts = 1000
	maxNumber  = 99999
	minInt     = math.MinInt
	maxInt     = math.MaxInt

	taskBytes  = 0
	taskEnd    = 1
	taskScript = 2
)

// actNames are the names of acts by their numbers.
var actNames = []string{
	"append", "before", "remove", "text", "elem", "attr", "unattr", "data", "write", "open", "close", "abort",
}

// shortAct is a line of the least bytes that an act can have.
const shortAct = "act open - - - = ="

// chunk is the line of a task of bytes.
func chunk(page string) string { return "bytes " + textOf(page) }

// act is the line of an act with texts; places are A, B and C as they stand.
func act(name, places, text, more string) string {
	return "act " + name + " " + places + " " + textOf(text) + " " + textOf(more)
}

func write(s string) string { return act("write", "- - -", s, "") }

func textOf(s string) string { return "=" + hex.EncodeToString([]byte(s)) }

// joined are lines, without a byte 10 behind the last one.
func joined(lines ...string) string { return strings.Join(lines, "\n") }

// times is a line as often as that, each with a byte 10 behind.
func times(n int, line string) string { return strings.Repeat(line+"\n", n) }

// plays holds what Play tells of a script against the lines that are wanted.
func plays(t *testing.T, s string, want ...string) {
	t.Helper()
	hinted(t, "utf-8", s, want...)
}

func hinted(t *testing.T, hint, s string, want ...string) {
	t.Helper()
	got, e := script.Play(hint, s)
	if e != ok || got != strings.Join(want, "\n")+"\n" {
		t.Errorf("Play(%q, %s), error %d:\n%s\nwant\n%s", hint, short(s), e, short(got), short(strings.Join(want, "\n")))
	}
}

// refuses asks for Play's error.
func refuses(t *testing.T, s string, want int) {
	t.Helper()
	if got, e := script.Play("utf-8", s); int(e) != want || got != "" {
		t.Errorf("Play(%s): %s, error %d; want error %d", short(s), short(got), e, want)
	}
}

// takes asks that a script can stand, whatever it leads to.
func takes(t *testing.T, s string) string {
	t.Helper()
	got, e := script.Play("utf-8", s)
	if e != ok || !strings.HasSuffix(got, "\n") {
		t.Errorf("Play(%s): %s, error %d", short(s), short(got), e)
	}
	return got
}

// told is what Line tells.
type told struct {
	word string
	task api.Task
	n    int
	e    int
}

func line(s string) told {
	word, x, n, e := script.Line(s)
	return told{word, x, n, int(e)}
}

// lineIs holds what Line tells against what is wanted.
func lineIs(t *testing.T, s string, want told) {
	t.Helper()
	if got := line(s); !likeTold(got, want) {
		t.Errorf("Line(%s): %s; want %s", short(s), short(fmt.Sprint(got)), short(fmt.Sprint(want)))
	}
}

// likeTold holds lists that are nil and empty for the same.
func likeTold(x, y told) bool {
	x.task.Bytes, y.task.Bytes = filled(x.task.Bytes), filled(y.task.Bytes)
	x.task.Acts, y.task.Acts = filled(x.task.Acts), filled(y.task.Acts)
	return reflect.DeepEqual(x, y)
}

func filled[T any](l []T) []T { return append([]T{}, l...) }

// noLine asks that neither Line nor Act takes a line, nor Play a script of it.
func noLine(t *testing.T, s string) {
	t.Helper()
	lineIs(t, s, told{e: errForm})
	actIs(t, s, api.Act{}, errForm)
}

func actIs(t *testing.T, s string, want api.Act, e int) {
	t.Helper()
	if got, is := script.Act(s); got != want || int(is) != e {
		t.Errorf("Act(%s): %s, error %d; want %s, %d", short(s), short(fmt.Sprint(got)), is, short(fmt.Sprint(want)), e)
	}
}

func printIs(t *testing.T, x api.Act, want string, e int) {
	t.Helper()
	if got, is := script.Print(x); got != want || int(is) != e {
		t.Errorf("Print(%s): %s, error %d; want %s, %d", short(fmt.Sprint(x)), short(got), is, short(want), e)
	}
}

// short is a text, cut where it is too long to be read.
func short(s string) string {
	if len(s) > 600 {
		return fmt.Sprintf("%q .. (%d bytes)", s[:600], len(s))
	}
	return s
}
