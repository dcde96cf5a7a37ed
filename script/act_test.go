package script_test

import (
	"math/rand"
	"strings"
	"testing"

	"hornbeam/api"
	"hornbeam/script"
)

// TestAct asks for the act of a line, and for the line of an act (P22.1).
func TestAct(t *testing.T) {
	for what, name := range actNames {
		s := "act " + name + " 5 0 - =61 =ff"
		x := api.Act{What: what, A: 5, B: 0, C: none, Text: "a", More: "\xff"}
		actIs(t, s, x, ok)
		printIs(t, x, s, ok)
		s = "act " + name + " - 99999 7 = =0a20"
		x = api.Act{What: what, A: none, B: maxNumber, C: 7, More: "\n "}
		actIs(t, s, x, ok)
		printIs(t, x, s, ok)
	}
	actIs(t, shortAct, api.Act{What: 9, A: none, B: none, C: none}, ok)
	printIs(t, api.Act{}, "act append 0 0 0 = =", ok)
}

// TestActNumbers has each number, and each word that is none, in each of the three places.
func TestActNumbers(t *testing.T) {
	for place := range 3 {
		with := func(s string) string {
			words := []string{"1", "2", "3"}
			words[place] = s
			return "act before " + strings.Join(words, " ") + " =61 ="
		}
		of := func(n int) api.Act {
			places := [3]int{1, 2, 3}
			places[place] = n
			return api.Act{What: 1, A: places[0], B: places[1], C: places[2], Text: "a"}
		}
		for _, x := range numbers {
			actIs(t, with(x.word), of(x.n), ok)
			printIs(t, of(x.n), with(x.word), ok)
		}
		actIs(t, with("-"), of(none), ok)
		printIs(t, of(none), with("-"), ok)
		for _, s := range noNumbers {
			noLine(t, with(s))
		}
		for _, n := range []int{-2, -3, -10, -99999, maxNumber + 1, maxNumber + 2, 1 << 20, 1<<31 - 1, 1 << 31, 1 << 32, 1<<32 + 5, -1 << 31, -1 << 32, minInt, minInt + 1, maxInt, maxInt - 1} {
			printIs(t, of(n), "", errForm)
		}
	}
}

func TestActTexts(t *testing.T) {
	for _, x := range texts {
		actIs(t, "act attr 1 - - "+x.word+" =6d", api.Act{What: 5, A: 1, B: none, C: none, Text: x.bytes, More: "m"}, ok)
		actIs(t, "act attr 1 - - =6d "+x.word, api.Act{What: 5, A: 1, B: none, C: none, Text: "m", More: x.bytes}, ok)
		printIs(t, api.Act{What: 5, A: 1, B: none, C: none, Text: x.bytes, More: "m"}, "act attr 1 - - "+x.word+" =6d", ok)
		printIs(t, api.Act{What: 5, A: 1, B: none, C: none, Text: "m", More: x.bytes}, "act attr 1 - - =6d "+x.word, ok)
	}
	for _, s := range noTexts {
		noLine(t, "act attr 1 - - "+s+" =6d")
		noLine(t, "act attr 1 - - =6d "+s)
	}
}

// TestActWords: an act has just its seven words, and in their order.
func TestActWords(t *testing.T) {
	words := strings.Split("act attr 1 2 3 =61 =62", " ")
	for i := range words {
		less := append(append([]string{}, words[:i]...), words[i+1:]...)
		noLine(t, strings.Join(less, " "))
		for _, more := range []string{"1", "-", "=", "=61", "attr", "act", "#", ""} {
			noLine(t, strings.Join(words[:i], " ")+" "+more+" "+strings.Join(words[i:], " "))
		}
		for j := range i {
			turned := append([]string{}, words...)
			turned[i], turned[j] = turned[j], turned[i]
			if i >= 5 && j >= 5 || i <= 4 && j >= 2 {
				continue // of one kind
			}
			noLine(t, strings.Join(turned, " "))
		}
	}
	for _, more := range []string{" ", " =", " 1", " -", " x", " # x", " =61 =62", " - - - = =", "\n", "\nend", "#"} {
		noLine(t, strings.Join(words, " ")+more)
	}
	for n := range words {
		noLine(t, strings.Join(words[:n], " "))
	}
}

// TestActNames: twelve names, each letter as it is.
func TestActNames(t *testing.T) {
	const rest = " 1 2 3 =61 =62"
	for _, name := range actNames {
		noLine(t, name+rest)
		noLine(t, "act  "+name+rest)
		noLine(t, "act Do"+name+rest)
		for i := range name {
			noLine(t, "act "+name[:i]+strings.ToUpper(name[i:i+1])+name[i+1:]+rest)
			noLine(t, "act "+name[:i]+name[i:i+1]+name[i:]+rest)
			if !known(name[:i]) {
				noLine(t, "act "+name[:i]+rest)
			}
			if !known(name[i+1:]) {
				noLine(t, "act "+name[i+1:]+rest)
			}
		}
	}
	for _, name := range []string{"", "0", "9", "-", "=", "=61", "act", "task", "run", "end", "bytes", "script", "insert", "delete", "element", "attribute", "none", "#", "\x00", "\xff", "appe\x00nd", "opén", "write\r"} {
		noLine(t, "act "+name+rest)
	}
	for what := -3; what < 0; what++ {
		printIs(t, api.Act{What: what}, "", errForm)
	}
	for _, what := range []int{12, 13, 24, 255, 256, 1 << 31, 1 << 32, 1<<32 + 9, maxInt, minInt, minInt + 9} {
		printIs(t, api.Act{What: what}, "", errForm)
	}
}

func known(name string) bool {
	for _, x := range actNames {
		if x == name {
			return true
		}
	}
	return false
}

// TestActOfOthers: Act takes no line but that of an act.
func TestActOfOthers(t *testing.T) {
	for _, s := range []string{"", "# x", "bytes =61", "end", "task", "script", "run 7"} {
		actIs(t, s, api.Act{}, errForm)
	}
}

// TestPrintLong: a line has at most MaxScript bytes, however its texts share them.
func TestPrintLong(t *testing.T) {
	const most = (maxScript - len(shortAct)) / 2 // both numbers are even
	for _, n := range []int{0, 1, 2, most / 2, most - 1, most} {
		x := api.Act{What: 9, A: none, B: none, C: none, Text: strings.Repeat("\x00", n), More: strings.Repeat("z", most-n)}
		s, e := script.Print(x)
		if e != ok || len(s) != maxScript {
			t.Fatalf("Print: %d bytes, error %d", len(s), e)
		}
		actIs(t, s, x, ok)
		x.More += "z"
		printIs(t, x, "", errLong)
		x.More = x.More[1:]
		x.Text += "z"
		printIs(t, x, "", errLong)
	}
	// A number of two digits makes the line a byte longer: at first one byte less than may be, and then one more.
	x := api.Act{What: 9, A: 10, B: none, C: none, Text: strings.Repeat("a", most-1)}
	s, e := script.Print(x)
	if e != ok || len(s) != maxScript-1 {
		t.Fatalf("Print: %d bytes, error %d", len(s), e)
	}
	x.Text += "a"
	printIs(t, x, "", errLong)
	x.A = 9
	if s, e = script.Print(x); e != ok || len(s) != maxScript {
		t.Fatalf("Print: %d bytes, error %d", len(s), e)
	}
	// Each name and number of digits at both sides of the limit.
	for what, name := range actNames {
		for _, n := range []int{none, 0, 10, 999, 1000, maxNumber} {
			x := api.Act{What: what, A: n, B: n, C: n}
			s, _ := script.Print(x)
			x.Text = strings.Repeat("q", (maxScript-len(s))/2)
			if s, e := script.Print(x); e != ok || len(s) > maxScript || len(s) < maxScript-1 {
				t.Errorf("Print of %s: %d bytes, error %d", name, len(s), e)
			}
			x.More = "q"
			printIs(t, x, "", errLong)
		}
	}
}

// TestPrintMuchTooLong: texts of many bytes, and what can't be told at all, which comes first.
func TestPrintMuchTooLong(t *testing.T) {
	long := strings.Repeat("a", 1<<20)
	printIs(t, api.Act{Text: long}, "", errLong)
	printIs(t, api.Act{More: long}, "", errLong)
	printIs(t, api.Act{Text: long, More: long}, "", errLong)
	printIs(t, api.Act{What: 12, Text: long}, "", errForm)
	printIs(t, api.Act{What: -1, More: long}, "", errForm)
	printIs(t, api.Act{A: -2, Text: long}, "", errForm)
	printIs(t, api.Act{B: minInt, Text: long}, "", errForm)
	printIs(t, api.Act{C: maxInt, More: long}, "", errForm)
}

// TestActUndoesPrint holds random acts, and what is printed of them, against one another (P22.3).
func TestActUndoesPrint(t *testing.T) {
	r := rand.New(rand.NewSource(221))
	for range 20000 {
		x := randomAct(r)
		s, e := script.Print(x)
		if e != ok {
			t.Fatalf("Print(%v): error %d", x, e)
		}
		actIs(t, s, x, ok)
		y, is := plainAct(s)
		if !is || y != x {
			t.Fatalf("Print(%v): %s", x, s)
		}
		lineIs(t, s, told{e: errForm})
	}
}

func randomAct(r *rand.Rand) api.Act {
	return api.Act{
		What: r.Intn(12),
		A:    randomNumber(r),
		B:    randomNumber(r),
		C:    randomNumber(r),
		Text: randomText(r),
		More: randomText(r),
	}
}

func randomNumber(r *rand.Rand) int {
	switch r.Intn(4) {
	case 0:
		return none
	case 1:
		return r.Intn(12)
	case 2:
		return maxNumber - r.Intn(3)
	}
	return r.Intn([]int{10, 100, 1000, 10000, maxNumber + 1}[r.Intn(5)])
}

func randomText(r *rand.Rand) string {
	b := make([]byte, r.Intn(6))
	for i := range b {
		b[i] = byte(r.Intn(256))
	}
	return string(b)
}
