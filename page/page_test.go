package page_test

import (
	"strings"
	"testing"

	"hornbeam/api"
	"hornbeam/builder"
	"hornbeam/node"
	"hornbeam/page"
	"hornbeam/show"
)

const (
	utf8    = 0
	windows = 3
	latin9  = 4
)

// codes holds code points against what is wanted.
func codes(t *testing.T, what string, got []rune, want string) {
	t.Helper()
	if string(got) != want {
		t.Errorf("%s: %q; want %q", what, string(got), want)
	}
}

// Bytes wait until the encoding is sure, and all of them come then.
func TestBytesWait(t *testing.T) {
	blanks := strings.Repeat(" ", 1024)
	for _, c := range []struct {
		hint, bytes, want string
		encoding          int
	}{{"", "a\xa4", "a\u00a4", windows}, {"l9", "a\xa4", "a€", latin9}, {"l9", "\xef\xbb\xbfa", "a", utf8}} {
		b := page.NewBytes(c.hint)
		codes(t, "the first", b.Feed([]byte(c.bytes)), "")
		if b.Encoding() != utf8 || b.Ended() {
			t.Errorf("%s: the encoding is %d, ended %v", c.hint, b.Encoding(), b.Ended())
		}
		codes(t, "1024 of them", b.Feed([]byte(blanks)), c.want+blanks)
		codes(t, "more", b.Feed([]byte("x")), "x")
		codes(t, "the end", b.End(), "")
		if b.Encoding() != c.encoding || !b.Ended() {
			t.Errorf("%s: the encoding is %d, ended %v", c.hint, b.Encoding(), b.Ended())
		}

		b = page.NewBytes(c.hint)
		b.Feed([]byte(c.bytes))
		codes(t, "the end alone", b.End(), c.want)
		if b.Encoding() != c.encoding || !b.Ended() {
			t.Errorf("%s: the encoding is %d, ended %v", c.hint, b.Encoding(), b.Ended())
		}
	}
}

// What is left at the end comes with it: a code point that is cut.
func TestBytesThatAreCut(t *testing.T) {
	b := page.NewBytes("utf-8")
	b.Feed([]byte("a\xe2\x82"))
	codes(t, "the end", b.End(), "a\ufffd")
	b = page.NewBytes("utf-8")
	codes(t, "sure", b.Feed([]byte(strings.Repeat(" ", 1024)+"\xe2\x82")), strings.Repeat(" ", 1024))
	codes(t, "the end", b.End(), "\ufffd")
}

// Bytes that wait and code points that wait count.
func TestRoom(t *testing.T) {
	const most = 1048576 - 8
	b := page.NewBytes("")
	if !b.HasRoom(make([]byte, most), 0) || b.HasRoom(make([]byte, most+1), 0) || !b.HasRoom(make([]byte, most-7), 7) || b.HasRoom(make([]byte, most-6), 7) || b.HasRoom(nil, most+1) {
		t.Error("without bytes that wait")
	}
	b.Feed(make([]byte, 1000))
	if !b.HasRoom(make([]byte, most-1005), 5) || b.HasRoom(make([]byte, most-1004), 5) {
		t.Error("with bytes that wait")
	}
	b.Feed(make([]byte, 24))
	if !b.HasRoom(make([]byte, most), 0) {
		t.Error("behind them")
	}
}

// newTree is a tree of a page, with its arena.
func newTree(last string) (*node.Arena, *page.Tree) {
	a := node.New()
	b, _ := builder.New(a, true)
	return a, page.NewTree(b, last)
}

func put(x *page.Tree, s string) {
	for _, r := range s {
		x.Put(r)
	}
}

// Code points lead to a tree, a mode, errors in order; a script is told once.
func TestTree(t *testing.T) {
	a, x := newTree("")
	put(x, "<p>a</p b><script>c</script>")
	if !x.Script() || x.Script() || x.Over() || x.Mode() != 2 {
		t.Errorf("Over %v, Mode %d", x.Over(), x.Mode())
	}
	put(x, "<title>\x00</title>d")
	if x.Script() {
		t.Error("a script")
	}
	x.Put(-1)
	if s, _ := show.Show(a, 0); !x.Over() || s != "| <html>\n|   <head>\n|   <body>\n|     <p>\n|       \"a\"\n|     <script>\n|       \"c\"\n|     <title>\n|       \"\ufffd\"\n|     \"d\"\n" {
		t.Errorf("%v, %s", x.Over(), s)
	}
	faults := x.Errors()
	if strings.Join(faults, " ") != "tree end-tag-with-attributes unexpected-null-character" {
		t.Errorf("the errors are %q", faults)
	}
	faults[0] = "x"
	if x.Errors()[0] != "tree" {
		t.Error("the errors are not new memory")
	}
}

// The state that a builder wants from its beginning on, and the last start tag's name.
func TestTreeOfAFragment(t *testing.T) {
	a := node.New()
	b, e := builder.Fragment(a, true, "title")
	x := page.NewTree(b, "title")
	put(x, "<b></x></title><b>")
	if s, _ := show.Show(a, 0); e != api.OK || s != "| <html>\n|   \"<b></x>\"\n|   <b>\n" {
		t.Errorf("%d, %s", e, s)
	}
}

// It is over where it is stopped, and stays so; and where an arena has no room.
func TestOver(t *testing.T) {
	_, x := newTree("")
	put(x, "<p>")
	x.Stop()
	if !x.Over() {
		t.Error("not stopped")
	}
	x.Put('a')
	if !x.Over() {
		t.Error("it goes on")
	}
	a, x := newTree("")
	for a.Len() <= 32768-64 {
		a.Comment("")
	}
	x.Put('<')
	if x.Over() {
		t.Error("over ahead of a token")
	}
	put(x, "p>")
	if l := x.Errors(); !x.Over() || strings.Join(l, " ") != "full" {
		t.Errorf("%v, %q", x.Over(), l)
	}
}
