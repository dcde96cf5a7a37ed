package script_test

import (
	"math/rand"
	"strconv"
	"strings"
	"testing"

	"hornbeam/script"
)

// asPlain holds Line and Act against the plain reading, and Print too, where there is an act.
func asPlain(t *testing.T, s string) {
	t.Helper()
	lineIs(t, s, plainLine(s))
	x, is := plainAct(s)
	if !is {
		actIs(t, s, x, errForm)
		return
	}
	actIs(t, s, x, ok)
	if plainPrint(x) != s {
		t.Fatalf("the plain reading prints %s for %s", plainPrint(x), s)
	}
	printIs(t, x, s, ok)
}

// playedAsPlain holds Play against the plain reading; it tells the error.
func playedAsPlain(t *testing.T, hint, s string) int {
	t.Helper()
	got, e := script.Play(hint, s)
	want, is := plainPlay(hint, s)
	if got != want || int(e) != is {
		t.Fatalf("Play(%q, %s): error %d,\n%s\nwant error %d,\n%s", hint, s, e, short(got), is, short(want))
	}
	return is
}

// TestEachShortWord has all words of up to four signs, in each place of a line.
func TestEachShortWord(t *testing.T) {
	var all func(s string, more int, ask func(s string))
	all = func(s string, more int, ask func(s string)) {
		ask(s)
		if more > 0 {
			for _, c := range "0129a-=# \n" {
				all(s+string(c), more-1, ask)
			}
		}
	}
	all("", 4, func(s string) {
		asPlain(t, s)
		asPlain(t, "run "+s)
		asPlain(t, "bytes "+s)
		asPlain(t, "end"+s)
		asPlain(t, "act open "+s+" - 0 = =")
		asPlain(t, "act open 0 "+s+" 1 = =")
		asPlain(t, "act open 1 - "+s+" = =")
		asPlain(t, "act open - - - "+s+" =")
		asPlain(t, "act open - - - = "+s)
	})
}

// TestEachShortScript has all scripts of up to four lines out of the kinds that there are.
func TestEachShortScript(t *testing.T) {
	kinds := []string{chunk("<script></script>a"), "end", "task", "script", act("elem", "- 0 -", "x", ""), "run 1", "", "#", "act", "run 07"}
	var all func(lines []string, more int)
	all = func(lines []string, more int) {
		playedAsPlain(t, "", joined(lines...))
		if more > 0 {
			for _, l := range kinds {
				all(append(lines[:len(lines):len(lines)], l), more-1)
			}
		}
	}
	all(nil, 4)
}

// TestRandomLines has lines that can stand, and such ones with a few signs changed.
func TestRandomLines(t *testing.T) {
	r := rand.New(rand.NewSource(222))
	taken := 0
	for range 60000 {
		s := spoilt(r, randomLine(r), r.Intn(3))
		asPlain(t, s)
		if _, is := plainAct(s); is || plainLine(s).e == ok {
			taken++
		}
	}
	if taken < 20000 || taken > 50000 {
		t.Errorf("%d of 60000 lines can stand: that holds little against the plain reading", taken)
	}
}

// TestRandomScripts has scripts of random lines, which mostly can stand.
func TestRandomScripts(t *testing.T) {
	r := rand.New(rand.NewSource(223))
	seen := map[int]int{}
	for range 4000 {
		s := randomScript(r)
		if r.Intn(5) == 0 {
			s = spoilt(r, s, 1)
		}
		hint := []string{"", "utf-8", "latin1", "x", "iso-8859-5"}[r.Intn(5)]
		seen[playedAsPlain(t, hint, s)]++
	}
	if seen[ok] < 2000 || seen[errForm] < 200 {
		t.Errorf("errors of 4000 scripts: %v", seen)
	}
}

// spoilt is a text with as many changes, of one sign each.
func spoilt(r *rand.Rand, s string, changes int) string {
	signs := []string{"", " ", "  ", "\n", "-", "=", "0", "1", "9", "a", "f", "g", "A", "#", "\t", "\r", "\x00", "\xff", "é", " =", "\nact ", "end", "\ntask\n", "\nend\n"}
	for range changes {
		i := r.Intn(len(s) + 1)
		behind := s[i:]
		if behind != "" && r.Intn(2) == 0 {
			behind = behind[1:]
		}
		s = s[:i] + signs[r.Intn(len(signs))] + behind
	}
	return s
}

func randomLine(r *rand.Rand) string {
	switch r.Intn(8) {
	case 0:
		return []string{"end", "task", "script", "", "#", "# x", "#" + shortAct}[r.Intn(7)]
	case 1, 2:
		return "run " + strings.Replace(strconv.Itoa(randomNumber(r)), "-1", "5", 1)
	case 3:
		return chunk(randomText(r))
	}
	return plainPrint(randomAct(r))
}

// randomScript is a page in chunks, with scripts, tasks and runs between.
func randomScript(r *rand.Rand) string {
	var lines []string
	for range r.Intn(4) {
		lines = append(append(lines, "script"), randomActs(r)...)
	}
	for range r.Intn(24) {
		switch r.Intn(12) {
		case 0, 1, 2:
			lines = append(lines, chunk(randomPage(r)))
		case 3:
			lines = append(lines, "end")
		case 4, 5:
			lines = append(append(lines, "task"), randomActs(r)...)
		case 6:
			lines = append(append(lines, "script"), randomActs(r)...)
		case 7:
			lines = append(lines, []string{"", "#", "# x", "\n"}[r.Intn(4)])
		default:
			lines = append(lines, "run "+strconv.Itoa(r.Intn(3)*r.Intn(50000)+r.Intn(2)))
		}
	}
	for range r.Intn(9) {
		lines = append(lines, "run "+strconv.Itoa(r.Intn(9)))
	}
	return joined(lines...) + strings.Repeat("\n", r.Intn(2))
}

func randomPage(r *rand.Rand) string {
	pieces := []string{doctype, "<script></script>", "<script>x</script>", "<body>", "<p>", "<b>", "</b>", "<table>", "<td>", "a", "é", "\xa4", "\r", "\n", "<!--c-->", "<i x=1>", "</p>", "<template>", "<svg>", "&amp", "<title>", "</title>"}
	var s string
	for range r.Intn(7) {
		s += pieces[r.Intn(len(pieces))]
	}
	return s
}

// randomActs are acts that mostly can be done, with remarks between.
func randomActs(r *rand.Rand) []string {
	var lines []string
	place := func() string { return strings.Replace(strconv.Itoa(r.Intn(14)-1), "-1", "-", 1) }
	for range r.Intn(4) {
		name := actNames[r.Intn(len(actNames))]
		text := []string{"", "a", "b", "p", "<b>", "<p>x", "<script></script>", "k", "\xff"}[r.Intn(9)]
		lines = append(lines, act(name, place()+" "+place()+" "+place(), text, "v"))
		if r.Intn(6) == 0 {
			lines = append(lines, []string{"", "#", "# act"}[r.Intn(3)])
		}
	}
	return lines
}
