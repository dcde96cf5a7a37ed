package script_test

import (
	"encoding/hex"
	"fmt"
	"regexp"
	"slices"
	"strconv"
	"strings"

	"hornbeam/api"
	"hornbeam/loop"
	"hornbeam/show"
)

// A plain reading of the chapter: lines are told by patterns, and a script is played by the loop's own calls.

var (
	bytesForm = regexp.MustCompile(`^bytes =((?:[0-9a-f][0-9a-f])*)$`)
	runForm   = regexp.MustCompile(`^run (0|[1-9][0-9]{0,4})$`)
	actForm   = regexp.MustCompile(`^act ([a-z]+) (-|0|[1-9][0-9]{0,4}) (-|0|[1-9][0-9]{0,4}) (-|0|[1-9][0-9]{0,4}) =((?:[0-9a-f][0-9a-f])*) =((?:[0-9a-f][0-9a-f])*)$`)
)

func plainLine(s string) told {
	switch s {
	case "end":
		return told{word: s, task: api.Task{What: taskEnd}}
	case "task":
		return told{word: s, task: api.Task{What: taskScript}}
	case "script":
		return told{word: s}
	}
	if parts := bytesForm.FindStringSubmatch(s); parts != nil {
		return told{word: "bytes", task: api.Task{What: taskBytes, Bytes: []byte(plainText(parts[1]))}}
	}
	if parts := runForm.FindStringSubmatch(s); parts != nil {
		return told{word: "run", n: plainNumber(parts[1])}
	}
	return told{e: errForm}
}

func plainAct(s string) (api.Act, bool) {
	parts := actForm.FindStringSubmatch(s)
	if parts == nil || !slices.Contains(actNames, parts[1]) {
		return api.Act{}, false
	}
	return api.Act{
		What: slices.Index(actNames, parts[1]),
		A:    plainNumber(parts[2]),
		B:    plainNumber(parts[3]),
		C:    plainNumber(parts[4]),
		Text: plainText(parts[5]),
		More: plainText(parts[6]),
	}, true
}

func plainText(s string) string {
	b, err := hex.DecodeString(s)
	if err != nil {
		panic(err)
	}
	return string(b)
}

func plainNumber(s string) int {
	if s == "-" {
		return none
	}
	n, err := strconv.Atoi(s)
	if err != nil {
		panic(err)
	}
	return n
}

// plainPrint is what stands for an act that has a line.
func plainPrint(x api.Act) string {
	place := func(n int) string { return strings.Replace(strconv.Itoa(n), "-1", "-", 1) }
	return fmt.Sprintf("act %s %s %s %s =%x =%x", actNames[x.What], place(x.A), place(x.B), place(x.C), x.Text, x.More)
}

// plainPlay is Play's answer, and its error.
func plainPlay(hint, s string) (string, int) {
	if len(s) > maxScript {
		return "", errLong
	}
	said := slices.DeleteFunc(strings.Split(s, "\n"), func(l string) bool { return l == "" || l[0] == '#' })
	var lists [][]api.Act
	for i, l := range said {
		_, isAct := plainAct(l)
		if !isAct && plainLine(l).e != ok {
			return "", errForm
		}
		if isAct && (i == 0 || !strings.HasPrefix(said[i-1], "act ") && said[i-1] != "task" && said[i-1] != "script") {
			return "", errForm
		}
		if l == "script" {
			lists = append(lists, plainActs(said[i+1:]))
		}
	}
	l, e := loop.New(hint, lists)
	if e != ok {
		return "", int(e)
	}
	var out strings.Builder
	for i, s := range said {
		x := plainLine(s)
		switch x.word {
		case "task":
			x.task.Acts = plainActs(said[i+1:])
			l.Post(x.task)
		case "bytes", "end":
			l.Post(x.task)
		case "run":
			out.WriteString(plainRun(l, x.n))
		}
	}
	tree, _ := show.Show(l.Tree(), 0)
	fmt.Fprintf(&out, "%smode %d\nerrors %d\n", tree, l.Result().Mode, len(l.Result().Errors))
	return out.String(), ok
}

// plainActs are the acts at a beginning.
func plainActs(said []string) []api.Act {
	var acts []api.Act
	for _, s := range said {
		x, is := plainAct(s)
		if !is {
			break
		}
		acts = append(acts, x)
	}
	return acts
}

func plainRun(l *loop.Loop, pick int) string {
	step, is := l.Run(pick)
	if !is {
		return "none\n"
	}
	s := "ran " + strconv.Itoa(step.Ran)
	for _, e := range step.Errs {
		s += " " + strconv.Itoa(int(e))
	}
	return s + "\n"
}
