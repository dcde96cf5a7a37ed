package script

import (
	"strconv"
	"strings"

	"hornbeam/api"
	"hornbeam/loop"
	"hornbeam/show"
)

// document is the number of every arena's document.
const document = 0

// order is a line that is no act, with the acts that follow it.
type order struct {
	word string
	task api.Task
	pick int
	acts []api.Act
}

// orders are those of a script; false: it can't stand.
func orders(s string) ([]order, bool) {
	var all []order
	for _, l := range lines(s) {
		if isRemark(l) {
			continue
		}
		var ok bool
		if all, ok = put(all, l); !ok {
			return nil, false
		}
	}
	return all, true
}

// isRemark is true of lines that say nothing. They part no act from what it follows.
func isRemark(l string) bool {
	return l == "" || strings.HasPrefix(l, "#")
}

// put puts what a line says behind the orders that there are.
func put(all []order, l string) ([]order, bool) {
	if x, e := Act(l); e == api.OK {
		return all, follow(all, x)
	}
	first, t, pick, e := Line(l)
	return append(all, order{word: first, task: t, pick: pick}), e == api.OK
}

// follow gives an act to the last order, if that one has acts.
func follow(all []order, x api.Act) bool {
	if len(all) == 0 {
		return false
	}
	last := &all[len(all)-1]
	if last.word != taskWord && last.word != scriptWord {
		return false
	}
	last.acts = append(last.acts, x)
	return true
}

// scripts are the lists of acts of the parser's scripts, wherever in the text they stand.
func scripts(all []order) [][]api.Act {
	var lists [][]api.Act
	for _, o := range all {
		if o.word == scriptWord {
			lists = append(lists, o.acts)
		}
	}
	return lists
}

// played has a loop do the orders, and tells what that has led to.
func played(l *loop.Loop, all []order) string {
	var runs []byte
	for _, o := range all {
		switch o.word {
		case bytesWord, endWord, taskWord:
			o.task.Acts = o.acts
			l.Post(o.task) // a task that its source has no room for is left out: a script has no error of that
		case runWord:
			runs = tellRun(runs, l, o.pick)
		}
	}
	r := l.Result()
	tree, _ := show.Show(l.Tree(), document)
	return string(runs) + tree + "mode " + strconv.Itoa(r.Mode) + "\nerrors " + strconv.Itoa(len(r.Errors)) + "\n"
}

// tellRun runs a task, and puts its line behind those that there are.
func tellRun(runs []byte, l *loop.Loop, pick int) []byte {
	step, ok := l.Run(pick)
	if !ok {
		return append(runs, "none\n"...)
	}
	runs = append(runs, "ran "...)
	runs = strconv.AppendInt(runs, int64(step.Ran), 10)
	for _, e := range step.Errs {
		runs = append(runs, ' ')
		runs = strconv.AppendInt(runs, int64(e), 10)
	}
	return append(runs, '\n')
}
