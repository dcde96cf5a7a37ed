package script_test

import (
	"strconv"
	"strings"
	"testing"

	"hornbeam/api"
)

// numbers are words that are numbers.
var numbers = []struct {
	word string
	n    int
}{{"0", 0}, {"1", 1}, {"9", 9}, {"10", 10}, {"90", 90}, {"99", 99}, {"100", 100}, {"5077", 5077}, {"9999", 9999},
	{"10000", 10000}, {"99998", 99998}, {"99999", 99999}}

// noNumbers are words that stand where a number should, and are none.
var noNumbers = []string{
	"", "-1", "-0", "--", "+", "+0", "+1", "00", "01", "07", "000", "000000", "010", "099999", "0-", "-9", "1-", "100000",
	"100001", "999999", "1000000", "4294967296", "9223372036854775807", "9223372036854775808",
	"-9223372036854775808", "18446744073709551616", "99999999999999999999999999", "1.", "1.0", ".5", "1e3", "0x1", "0b1", "0o7",
	"1_000", "1,000", "a", "A", "f", "one", "None", "=", "=31", "#", "#1", "1\r", "\r1", "1\t", "\t", "\t1", "1\n", "\n1",
	"1\x00", "\x00", "\x00" + "1", "1\xff", "\xff", "\xc3", "é", "١", "１", "²", "\u00a0", "1\u00a0", "−", "−1", "–",
	strings.Repeat("0", 70000), strings.Repeat("9", 70000), "1" + strings.Repeat("0", 4096),
}

// texts are words that are texts.
var texts = []struct{ word, bytes string }{
	{"=", ""}, {"=00", "\x00"}, {"=61", "a"}, {"=0a", "\n"}, {"=0d0a", "\r\n"}, {"=20", " "}, {"=ff", "\xff"}, {"=c3a9", "é"},
	{"=c3", "\xc3"}, {"=0f", "\x0f"}, {"=f0", "\xf0"}, {"=9a", "\x9a"}, {"=a9", "\xa9"}, {"=3d3d", "=="}, {"=666f6f", "foo"},
	{"=00000000", "\x00\x00\x00\x00"}, {"=0123456789abcdef", "\x01\x23\x45\x67\x89\xab\xcd\xef"},
	{"=23", "#"}, {"=2d", "-"}, {"=" + strings.Repeat("6a", 30000), strings.Repeat("j", 30000)},
}

// noTexts are words that stand where a text should, and are none.
var noTexts = []string{
	"", "61", "0", "-", "a", "=6", "=616", "=0", "=f", "=a", "=00000", "=A", "=AA", "=6A", "=A6", "=FF", "=aF", "=0A0a", "=6g",
	"=g6", "=gg", "=/0", "=0:", "=0`", "=0@", "=@0", "=zz", "==", "==61", "=61=", "=61=61", "=-1", "=+1", "=0x61", "=x6",
	"=\t61", "=61\t", "=61\r", "\r=61", "=61\n", "=\n", "\n=61", "=6\n1", "=\x00\x00", "=61\x00", "\x00=61", "=\xff\xff", "=61\xff",
	"=é", "=61é", "\xef\xbb\xbf=61", "\"=61\"", "'61'", "#61", "=61#", "=#", "=６１", "=" + strings.Repeat("6", 30001), "=" + strings.Repeat("6A", 9),
	"\\x61", "%61",
}

// TestLine asks for each kind of line (P22.1).
func TestLine(t *testing.T) {
	lineIs(t, "bytes =61", told{word: "bytes", task: api.Task{What: taskBytes, Bytes: []byte("a")}})
	lineIs(t, "bytes =", told{word: "bytes", task: api.Task{What: taskBytes}})
	lineIs(t, "end", told{word: "end", task: api.Task{What: taskEnd}})
	lineIs(t, "task", told{word: "task", task: api.Task{What: taskScript}})
	lineIs(t, "script", told{word: "script"})
	lineIs(t, "run 7", told{word: "run", n: 7})
}

func TestLineBytes(t *testing.T) {
	for _, x := range texts {
		lineIs(t, "bytes "+x.word, told{word: "bytes", task: api.Task{What: taskBytes, Bytes: []byte(x.bytes)}})
	}
	for _, s := range noTexts {
		noLine(t, "bytes "+s)
	}
}

// TestLineEveryByte asks for each byte by its two digits, and that no other signs tell one.
func TestLineEveryByte(t *testing.T) {
	const digits = "0123456789abcdef"
	for x := range 256 {
		for y := range 256 {
			s := "bytes =" + string([]byte{byte(x), byte(y)})
			high, low := strings.IndexByte(digits, byte(x)), strings.IndexByte(digits, byte(y))
			if high < 0 || low < 0 {
				noLine(t, s)
				continue
			}
			lineIs(t, s, told{word: "bytes", task: api.Task{What: taskBytes, Bytes: []byte{byte(16*high + low)}}})
		}
	}
}

func TestLineRun(t *testing.T) {
	for _, x := range numbers {
		lineIs(t, "run "+x.word, told{word: "run", n: x.n})
	}
	for _, s := range noNumbers {
		noLine(t, "run "+s)
	}
	noLine(t, "run -") // None is not a number of a run
	noLine(t, "run")
}

// TestLineEveryNumber asks for all numbers that a run may have, with and without a 0 ahead, and for some above.
func TestLineEveryNumber(t *testing.T) {
	for n := range maxNumber + 1 {
		s := strconv.Itoa(n)
		lineIs(t, "run "+s, told{word: "run", n: n})
		if n%7 == 0 {
			noLine(t, "run 0"+s)
		}
	}
	for n := maxNumber + 1; n < maxNumber+1000; n++ {
		noLine(t, "run "+strconv.Itoa(n))
	}
}

// TestLineRemark: remarks and empty lines are no lines for Line, nor are acts.
func TestLineRemark(t *testing.T) {
	for _, s := range []string{"", "#", "# x", "#end", "# end", "#bytes =61", "##", "#\x00\xff"} {
		noLine(t, s)
	}
	for _, name := range actNames {
		lineIs(t, act(name, "- 0 1", "a", "b"), told{e: errForm})
	}
}

// TestLineBlanks: one blank stands between two words, and none elsewhere.
func TestLineBlanks(t *testing.T) {
	for _, s := range []string{"bytes =61", "end", "task", "script", "run 7", shortAct, "act attr 1 2 3 =61 =62"} {
		for i := range len(s) + 1 {
			for _, more := range []string{" ", "  ", "\t", "\r", "\n", "\v", "\f", "\u00a0", "\u2003", "\x00", "\ufeff"} {
				noLine(t, s[:i]+more+s[i:])
			}
			if i < len(s) {
				if s[i] == ' ' {
					for _, other := range []string{"", "\t", "\n", "\r", "\x00", "_", "\u00a0", ","} {
						noLine(t, s[:i]+other+s[i+1:])
					}
				}
			}
		}
	}
}

// TestLineWords: a line has just its words, and in their order.
func TestLineWords(t *testing.T) {
	for _, s := range []string{
		"bytes", "bytes =61 =62", "bytes =61 end", "bytes 1", "bytes -", "=61 bytes", "=61", "=", "bytes bytes", "bytes end",
		"end end", "end =", "end =61", "end 0", "end -", "end 1", "task 1", "task task", "task =", "task act", "task " + shortAct,
		"script 0", "script 1", "script =", "script script", "script " + shortAct, "run run", "run =", "run =30", "run 1 2", "run 0 0", "run 1 =",
		"run - -", "0", "7", "-", "7 run", "0 run", "none", "ran 0", "act", "act open", "mode 2", "errors 1",
	} {
		noLine(t, s)
	}
}

// TestLineFirstWord: only the six words begin a line, with each letter as it is.
func TestLineFirstWord(t *testing.T) {
	behind := map[string]string{"bytes": " =61", "end": "", "task": "", "script": "", "run": " 7", "act": " open - - - = ="}
	for word, rest := range behind {
		for i := range word {
			noLine(t, word[:i]+strings.ToUpper(word[i:i+1])+word[i+1:]+rest)
			noLine(t, word[:i]+word[i+1:]+rest)
			noLine(t, word[:i]+word[i:i+1]+word[i:]+rest)
			noLine(t, word[:i]+string(rune(word[i]+1))+word[i+1:]+rest)
		}
		noLine(t, word+"s"+rest)
		noLine(t, "x"+word+rest)
		noLine(t, "#"+word+rest)
		noLine(t, "="+word+rest)
		noLine(t, "-"+word+rest)
		for other, more := range behind {
			if more != rest {
				noLine(t, other+rest)
			}
		}
	}
	for _, word := range []string{"", "byte", "chunk", "feed", "start", "stop", "acts", "open", "write", "text", "post", "step", "#", "\xff", "\x00", "é", "tasks", "ends", "scripts", "runs", "DoOpen"} {
		for _, rest := range behind {
			if word+rest != "" {
				noLine(t, word+rest)
			}
		}
	}
}

// TestLineLong: a line may have as many bytes as a script.
func TestLineLong(t *testing.T) {
	// bytes and the blank are 6 bytes, = is one: with an even number of digits a line has an odd number of bytes.
	bytes := strings.Repeat("\x5a", (maxScript-8)/2)
	s := chunk(bytes)
	if len(s) != maxScript-1 {
		t.Fatalf("the line has %d bytes", len(s))
	}
	lineIs(t, s, told{word: "bytes", task: api.Task{What: taskBytes, Bytes: []byte(bytes)}})
	noLine(t, s+"5")
	noLine(t, strings.Repeat(" ", maxScript))
	noLine(t, strings.Repeat("end ", maxScript/4))
	noLine(t, strings.Repeat("=", maxScript))
	noLine(t, strings.Repeat("\xff", maxScript))
	noLine(t, "act"+strings.Repeat(" -", 1<<20))
	noLine(t, "run "+strings.Repeat("1", 1<<20))
	noLine(t, strings.Repeat("a", 1<<22))
}

// TestLineNewBytes: what Line answers is its own; what is done to it makes no difference to another answer.
func TestLineNewBytes(t *testing.T) {
	s := "bytes =6162"
	first := line(s)
	first.task.Bytes[0] = 'x'
	_ = append(first.task.Bytes, "more"...)
	lineIs(t, s, told{word: "bytes", task: api.Task{What: taskBytes, Bytes: []byte("ab")}})
	if s != "bytes =6162" {
		t.Error("the line has changed")
	}
}
