package label_test

import (
	"strings"
	"testing"

	"hornbeam/api"
	"hornbeam/label"
)

// noEncoding are numbers of no encoding.
var noEncoding = []int{-1, -2, -7, 7, 8, 39, 40, 255, 256, 257, 1 << 16, 1<<32 - 1, 1 << 32, 1<<32 + 3, -1 << 32, minInt,
	minInt + 1, minInt + 3, maxInt, maxInt - 1}

// P4.1: Name.

func TestNameOfEachEncoding(t *testing.T) {
	for enc, x := range table {
		if name, e := label.Name(enc); name != x.name || e != 0 {
			t.Errorf("Name(%d): %q, %d; want %q", enc, name, e, x.name)
		}
	}
}

func TestNameOfTheConstants(t *testing.T) {
	for name, enc := range map[string]int{"UTF-8": api.EncUTF8, "UTF-16LE": api.EncUTF16LE, "UTF-16BE": api.EncUTF16BE,
		"windows-1252": api.EncWindows, "ISO-8859-15": api.EncLatin9, "ISO-8859-5": api.EncCyr, "x-user-defined": api.EncUser} {
		if got, e := label.Name(enc); got != name || e != api.OK {
			t.Errorf("Name(%d): %q, %d; want %q", enc, got, e, name)
		}
	}
}

func TestNameOfNoEncoding(t *testing.T) {
	for _, enc := range noEncoding {
		if name, e := label.Name(enc); name != "" || e != 1 {
			t.Errorf("Name(%d): %q, %d; want error 1", enc, name, e)
		}
	}
	for enc := -1000; enc <= 1000; enc++ {
		name, e := label.Name(enc)
		if known := enc >= 0 && enc <= 6; known != (e == 0) || known != (name != "") {
			t.Errorf("Name(%d): %q, %d", enc, name, e)
		}
	}
}

// P4.1: Meta.

func TestMetaOfEachEncoding(t *testing.T) {
	for enc, want := range []int{0, 0, 0, 3, 4, 5, 3} {
		if got := label.Meta(enc); got != want {
			t.Errorf("Meta(%d): %d; want %d", enc, got, want)
		}
	}
	if label.Meta(api.EncUTF16LE) != api.EncUTF8 || label.Meta(api.EncUTF16BE) != api.EncUTF8 || label.Meta(api.EncUser) != api.EncWindows {
		t.Error("Meta by the constants")
	}
}

func TestMetaOfNoEncoding(t *testing.T) {
	for _, enc := range noEncoding {
		if got := label.Meta(enc); got != enc {
			t.Errorf("Meta(%d): %d", enc, got)
		}
	}
}

func TestMetaOfWhatAPageMeans(t *testing.T) {
	for enc := range table {
		if once := label.Meta(enc); label.Meta(once) != once {
			t.Errorf("Meta(Meta(%d)): %d; want %d", enc, label.Meta(once), once)
		}
	}
}

// P4.2: a name is a label of its own encoding.

func TestNameIsALabel(t *testing.T) {
	for enc := range table {
		name, e := label.Name(enc)
		if e != api.OK {
			t.Errorf("Name(%d): %d", enc, e)
		}
		for _, s := range []string{name, strings.ToLower(name), strings.ToUpper(name), " " + name, name + "\n", "\t\f" + name + "\r "} {
			hasLabel(t, s, enc)
		}
	}
}

// P5: an answer hangs on the arguments alone.

func TestAnswersAreTheSameAgain(t *testing.T) {
	for range 3 {
		for enc, x := range table {
			isNoLabel(t, "x")
			for _, s := range x.labels {
				hasLabel(t, s, enc)
			}
			if name, e := label.Name(enc); name != x.name || e != api.OK {
				t.Errorf("Name(%d): %q, %d", enc, name, e)
			}
			if name, e := label.Name(-enc - 1); name != "" || e != api.ErrArg {
				t.Errorf("Name(%d): %q, %d", -enc-1, name, e)
			}
		}
	}
}
