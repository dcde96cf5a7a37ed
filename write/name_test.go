package write_test

import (
	"slices"
	"strings"
	"testing"

	"hornbeam/write"
)

// P17.1

func TestVoidNames(t *testing.T) {
	for _, name := range voids {
		if !write.Void(name) {
			t.Errorf("Void(%q): false", name)
		}
	}
	for _, name := range slices.Concat(plain, others, []string{"", "noscript"}) {
		if write.Void(name) {
			t.Errorf("Void(%q): true", name)
		}
	}
}

func TestPlainNames(t *testing.T) {
	for _, scripts := range []bool{false, true} {
		for _, name := range plain {
			if !write.Plain(name, scripts) {
				t.Errorf("Plain(%q, %v): false", name, scripts)
			}
		}
		for _, name := range slices.Concat(voids, others, []string{""}) {
			if write.Plain(name, scripts) {
				t.Errorf("Plain(%q, %v): true", name, scripts)
			}
		}
		if write.Plain("noscript", scripts) != scripts {
			t.Errorf("Plain(noscript, %v): %v", scripts, !scripts)
		}
	}
}

// nearly are texts that are a name but for one place: a byte more, less, or another.
func nearly(name string) []string {
	var l []string
	for i := range len(name) + 1 {
		for c := range 256 {
			l = append(l, name[:i]+string([]byte{byte(c)})+name[i:])
			if i < len(name) {
				l = append(l, name[:i]+string([]byte{byte(c)})+name[i+1:])
			}
		}
		if i < len(name) {
			l = append(l, name[:i]+name[i+1:])
		}
	}
	return append(l, strings.ToUpper(name), name+name, " "+name+" ", "html:"+name, name+strings.Repeat("x", 100))
}

func TestNearlyNames(t *testing.T) {
	for _, name := range slices.Concat(voids, plain, []string{"noscript"}) {
		for _, s := range nearly(name) {
			if write.Void(s) != slices.Contains(voids, s) {
				t.Errorf("Void(%q): %v", s, write.Void(s))
			}
			if write.Plain(s, false) != slices.Contains(plain, s) {
				t.Errorf("Plain(%q, false): %v", s, write.Plain(s, false))
			}
			if write.Plain(s, true) != (slices.Contains(plain, s) || s == "noscript") {
				t.Errorf("Plain(%q, true): %v", s, write.Plain(s, true))
			}
		}
	}
}

func TestLongNames(t *testing.T) {
	long := strings.Repeat("br", maxText)
	if write.Void(long) || write.Plain(long, true) || write.Void(long[:maxText]) {
		t.Error("a long name")
	}
}
