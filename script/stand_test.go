package script_test

import (
	"slices"
	"strings"
	"testing"
)

// TestPlayBadLine: a script with one line that can't stand can't, wherever it is; nothing is told of it.
func TestPlayBadLine(t *testing.T) {
	good := []string{"script", shortAct, "bytes =61", "# x", "", "end", "task", shortAct, "run 0", "run 0"}
	bad := []string{
		"x", " ", "  ", "\t", "\r", "\x00", "\xff", "é", "-", "0", "=", "=61", " end", "end ", "end\r", "end\x00", "\x00end", "end\xff", "END", "ends",
		" #", " # x", "\t#", "\ufeff#", "bytes", "bytes ", "bytes =6", "bytes =6A", "bytes 61", "bytes  =61", "bytes =61 ", "bytes =61\r", "bytes =61 =62",
		"task ", "task 1", "script ", "script 0", "run", "run ", "run -", "run -1", "run 00", "run 07", "run 100000", "run  0", "run 0 ", "run 0 0", "run 0\r",
		"run 0\t", "run x", "run =", "act", "act open", "act open - - -", "act open - - - =", "act open - - - = = =", "act open - - = =", "act open - - - - = =",
		"act open -- - - = =", "act open 01 - - = =", "act open 100000 - - = =", "act open - - - = =6", "act open - - - = =F0", "act open - - - = 61",
		"act  open - - - = =", "act open - - - = = ", " act open - - - = =", "act Open - - - = =", "act insert - - - = =", "open - - - = =",
	}
	for _, l := range bad {
		refuses(t, l, errForm)
		refuses(t, l+"\n", errForm)
		refuses(t, "\n"+l, errForm)
		for i := range len(good) + 1 {
			with := append(append(append([]string{}, good[:i]...), l), good[i:]...)
			refuses(t, joined(with...), errForm)
		}
	}
}

// TestPlayActBehind: an act follows a task, a script or another act of one, and nothing else.
func TestPlayActBehind(t *testing.T) {
	for _, ahead := range []string{"", "# x", "\n\n", "bytes =61", "bytes =", "end", "run 0", "run 99999"} {
		refuses(t, joined(ahead, shortAct), errForm)
		refuses(t, joined(ahead, shortAct, "task"), errForm)
		refuses(t, joined(ahead, shortAct, "script", shortAct), errForm)
		refuses(t, joined(ahead, "# x", "", shortAct), errForm)
		refuses(t, joined("", ahead, "", shortAct), errForm)
		for _, first := range []string{"task", "script"} {
			takes(t, joined(ahead, first, shortAct))
			takes(t, joined(ahead, first, "", shortAct, "# x", shortAct, ahead))
			if strings.Trim(ahead, "\n# x") != "" {
				refuses(t, joined(first, ahead, shortAct), errForm)
				refuses(t, joined(first, shortAct, ahead, shortAct), errForm)
				refuses(t, joined(first, shortAct, ahead, "# x", shortAct), errForm)
				refuses(t, joined(first, shortAct, ahead, "", shortAct, first), errForm)
			}
		}
	}
	refuses(t, shortAct, errForm)
	refuses(t, shortAct+"\n"+shortAct, errForm)
	takes(t, joined("task", shortAct, shortAct, "script", shortAct, "task", "script", shortAct))
}

// TestPlayLong: a script has at most MaxScript bytes, and one that has more is too long whatever it says.
func TestPlayLong(t *testing.T) {
	empty := []string{"mode 0", "errors 0"}
	plays(t, "#"+strings.Repeat("x", maxScript-1), empty...)
	refuses(t, "#"+strings.Repeat("x", maxScript), errLong)
	plays(t, strings.Repeat("\n", maxScript-1), empty...)
	plays(t, strings.Repeat("\n", maxScript), empty...)
	refuses(t, strings.Repeat("\n", maxScript+1), errLong)
	plays(t, times(maxScript/2, "#"), empty...)
	refuses(t, times(maxScript/2, "#")+"#", errLong)

	bytes := "bytes =" + strings.Repeat("20", (maxScript-8)/2) // the blanks of a page that has not begun
	plays(t, bytes, empty...)
	plays(t, bytes+"\n", empty...)
	refuses(t, bytes+"\n\n", errLong)
	refuses(t, bytes+"00", errLong)
	refuses(t, bytes+"0", errForm)

	long := "act open - - - =" + strings.Repeat("61", (maxScript-len(shortAct)-len("task\n"))/2) + " ="
	plays(t, "task\n"+long, empty...)
	plays(t, "task\n"+long+"\n", empty...)
	refuses(t, "task\n\n"+long+"\n", errLong)

	for _, s := range []string{"\xff", "\x00", "x", " ", shortAct + "\n", "end ", times(9, "script"), "run -\n"} {
		n := maxScript/len(s) + 1
		refuses(t, strings.Repeat(s, n), errLong)
		refuses(t, strings.Repeat(s, n)[:maxScript], errForm)
	}
	refuses(t, strings.Repeat("end\n", 1<<20), errLong)
}

// TestPlayManyScripts: 1000 lists of the parser's scripts, and one more; what can't stand comes first.
func TestPlayManyScripts(t *testing.T) {
	takes(t, times(maxScripts-1, "script"))
	plays(t, times(maxScripts, "script"), "mode 0", "errors 0")
	refuses(t, times(maxScripts+1, "script"), errLong)
	takes(t, times(maxScripts, "script\n"+shortAct))
	refuses(t, times(maxScripts+1, "script\n"+shortAct), errLong)
	refuses(t, times(maxScripts, "script")+"run 0\nend\n# x\nscript", errLong)
	takes(t, times(maxScripts, "script")+"task\ntask\n#script\nrun 0")
	refuses(t, times(maxScripts+1, "script")+"x", errForm)
	refuses(t, "run -\n"+times(maxScripts+1, "script"), errForm)
	refuses(t, shortAct+"\n"+times(maxScripts+1, "script"), errForm)
	refuses(t, times(maxScripts+1, "script")+"end\n"+shortAct, errForm)
	refuses(t, times(maxScripts+1, "script")+"#"+strings.Repeat("x", maxScript), errLong)
}

// TestPlayManyActs: as many acts as a script's bytes have room for, which are fewer than a loop may have.
func TestPlayManyActs(t *testing.T) {
	const room = (maxScript - len("script\n")) / (len(shortAct) + 1)
	if room >= maxTasks {
		t.Fatal("a script could have more acts than a loop")
	}
	takes(t, "script\n"+times(room, shortAct))
	takes(t, "task\n"+times(room, shortAct))
	refuses(t, "script\n"+times(maxTasks, shortAct), errLong)
	refuses(t, "script\n"+times(maxTasks+1, shortAct), errLong)
	got := takes(t, "task\n"+times(room-1, shortAct)+"run 0")
	if want := "ran 0" + strings.Repeat(" 5", room-1) + "\nmode 0\nerrors 0\n"; got != want {
		t.Errorf("%d acts: %s", room-1, short(got))
	}
}

// TestPlayFull: a source has room for MaxTasks tasks; what comes beyond that is left out, and the script goes on.
func TestPlayFull(t *testing.T) {
	for _, l := range []string{"end", "task", "bytes ="} {
		for _, more := range []int{0, 1, 2, 5} {
			got := takes(t, times(maxTasks+more, l)+times(maxTasks+1, "run 7"))
			if n := strings.Count(got, "ran 0\n"); n != maxTasks || strings.Count(got, "none\n") != 1 {
				t.Errorf("%d lines %s: %d tasks ran", maxTasks+more, l, n)
			}
		}
	}
	// The task that is left out is the one that found no room: its acts are not done. One behind a run finds room again.
	left := joined("task", act("elem", "- 0 -", "x", ""))
	none, empty := []string{"none"}, []string{"mode 0", "errors 0"}
	ran := slices.Repeat([]string{"ran 0"}, maxTasks)
	plays(t, times(maxTasks, "task")+left+"\n"+times(maxTasks+1, "run 0"), slices.Concat(ran, none, empty)...)
	plays(t, times(maxTasks, "task")+"run 0\n"+left+"\n"+times(maxTasks, "run 0"), slices.Concat(ran, []string{"ran 0 0", "| <x>"}, empty)...)
	// Each source has room of its own.
	plays(t, times(maxTasks, "end")+left+"\nend\nrun 1\nrun 1", "ran 0 0", "ran 0", "| <x>", "| <html>", "|   <head>", "|   <body>", "mode 2", "errors 1")
	plays(t, times(maxTasks, "task")+"bytes =61\nend\ntask\nrun 0\nrun 0", "ran 0", "ran 0", "| <html>", "|   <head>", "|   <body>", `|     "a"`, "mode 2", "errors 1")
}
