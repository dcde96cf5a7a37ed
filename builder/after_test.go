package builder_test

import (
	"testing"
)

// P16.2: the mode AfterBody.
func TestAfterBody(t *testing.T) {
	leads(t, place{begin: "<!DOCTYPE html><body></body>", shell: "<!html> %"}, []row{
		{"", "html(head body)", "html body", "", 18, 0, 0},
		{" \t\n\f\r", `html(head body(" \t\n\f\r"))`, "html body", "", 18, 0, 0},
		{"<html a=1>", "html{a=1}(head body)", "html body", "", 18, 1, 0},
		{"<!--x-->", "html(head body <!--x-->)", "html body", "", 18, 0, 0},
		{"<!DOCTYPE html>", "html(head body)", "html body", "", 18, 1, 0},
		{"</html>", "html(head body)", "html body", "", 21, 0, 0},
		{"a", `html(head body("a"))`, "html body", "", 6, 1, 0},
		{"<p>", "html(head body(p))", "html body p", "", 6, 1, 0},
		{"</p>", "html(head body(p))", "html body", "", 6, 2, 0},
		{"</body>", "html(head body)", "html body", "", 18, 1, 0},
		{"<body a=1>", "html(head body{a=1})", "html body", "", 6, 2, 0},
		{"<frameset>", "html(head body)", "html body", "", 6, 2, 0},
	})
}

// P16.2: AfterBody with elements that are open still.
func TestAfterBodyOpen(t *testing.T) {
	leads(t, place{begin: "<!DOCTYPE html><body><div><b>", shell: "<!html> html(head body(%))"}, []row{
		{"</body>a", `div(b("a"))`, "html body div b", "b", 6, 2, 1},
		{"</body> ", `div(b(" "))`, "html body div b", "b", 18, 1, 0},
		{"</body></div>", "div(b)", "html body", "b", 6, 3, 0},
	})
}

// P16.2: the mode InFrameset.
func TestInFrameset(t *testing.T) {
	leads(t, place{begin: "<!DOCTYPE html><frameset>", shell: "<!html> html(head frameset(%))"}, []row{
		{"", "", "html frameset", "", 19, 0, 1},
		{" \t\n\f\r", `" \t\n\f\r"`, "html frameset", "", 19, 0, 1},
		{"a", "", "html frameset", "", 19, 1, 1},
		{" a b", `"  "`, "html frameset", "", 19, 2, 1},
		{"\x00", "", "html frameset", "", 19, 1, 1},
		{"<!--x-->", "<!--x-->", "html frameset", "", 19, 0, 1},
		{"<!DOCTYPE html>", "", "html frameset", "", 19, 1, 1},
		{"<html>", "", "html frameset", "", 19, 1, 1},
		{"<frameset>", "frameset", "html frameset frameset", "", 19, 0, 1},
		{"<frameset a=1><frame></frameset>", "frameset{a=1}(frame)", "html frameset", "", 19, 0, 1},
		{"</frameset>", "", "html", "", 20, 0, 0},
		{"<frameset></frameset></frameset>", "frameset", "html", "", 20, 0, 0},
		{"<frame>", "frame", "html frameset", "", 19, 0, 1},
		{"<frame a=1 />", "frame{a=1}", "html frameset", "", 19, 0, 1},
		{"<noframes>a<b></noframes>", `noframes("a<b>")`, "html frameset", "", 19, 0, 1},
		{"<p>", "", "html frameset", "", 19, 1, 1},
		{"<body>", "", "html frameset", "", 19, 1, 1},
		{"</p></html></body>", "", "html frameset", "", 19, 3, 1},
		{"<frameset/>", "frameset", "html frameset frameset", "", 19, 1, 1},
		{"<script>", "", "html frameset", "", 19, 1, 1},
	})
}

// P16.2: the mode AfterFrameset.
func TestAfterFrameset(t *testing.T) {
	leads(t, place{begin: "<!DOCTYPE html><frameset></frameset>", shell: "<!html> html(head frameset%)"}, []row{
		{"", "", "html", "", 20, 0, 0},
		{" \t\n\f\r", ` " \t\n\f\r"`, "html", "", 20, 0, 0},
		{" a b", ` "  "`, "html", "", 20, 2, 0},
		{"\x00", "", "html", "", 20, 1, 0},
		{"<!--x-->", " <!--x-->", "html", "", 20, 0, 0},
		{"<!DOCTYPE html>", "", "html", "", 20, 1, 0},
		{"<html>", "", "html", "", 20, 1, 0},
		{"<noframes>a</noframes>", ` noframes("a")`, "html", "", 20, 0, 0},
		{"</html>", "", "html", "", 22, 0, 0},
		{"<p>", "", "html", "", 20, 1, 0},
		{"<frameset>", "", "html", "", 20, 1, 0},
		{"</frameset>", "", "html", "", 20, 1, 0},
		{"</body>", "", "html", "", 20, 1, 0},
	})
}

// P16.2: the mode AfterBody2.
func TestAfterAfterBody(t *testing.T) {
	leads(t, place{begin: "<!DOCTYPE html><body></body></html>", shell: "<!html> %"}, []row{
		{"", "html(head body)", "html body", "", 21, 0, 0},
		{"<!--x-->", "html(head body) <!--x-->", "html body", "", 21, 0, 0},
		{"<!DOCTYPE html>", "html(head body)", "html body", "", 21, 1, 0},
		{" \t\n\f\r", `html(head body(" \t\n\f\r"))`, "html body", "", 21, 0, 0},
		{"<html a=1>", "html{a=1}(head body)", "html body", "", 21, 1, 0},
		{"a", `html(head body("a"))`, "html body", "", 6, 1, 0},
		{"<p>", "html(head body(p))", "html body p", "", 6, 1, 0},
		{"</p>", "html(head body(p))", "html body", "", 6, 2, 0},
		{"</html>", "html(head body)", "html body", "", 21, 1, 0},
		{"</body>", "html(head body)", "html body", "", 18, 1, 0},
		{"<noframes>a", `html(head body(noframes("a")))`, "html body noframes", "", 7, 1, 1},
	})
}

// P16.2: the mode AfterFrameset2.
func TestAfterAfterFrameset(t *testing.T) {
	leads(t, place{begin: "<!DOCTYPE html><frameset></frameset></html>", shell: "<!html> %"}, []row{
		{"", "html(head frameset)", "html", "", 22, 0, 0},
		{"<!--x-->", "html(head frameset) <!--x-->", "html", "", 22, 0, 0},
		{"<!DOCTYPE html>", "html(head frameset)", "html", "", 22, 1, 0},
		{" \t\n\f\r", `html(head frameset " \t\n\f\r")`, "html", "", 22, 0, 0},
		{"<html a=1>", "html{a=1}(head frameset)", "html", "", 22, 1, 0},
		{"<noframes>a</noframes>", `html(head frameset noframes("a"))`, "html", "", 22, 0, 0},
		{"a", "html(head frameset)", "html", "", 22, 1, 0},
		{"<p>", "html(head frameset)", "html", "", 22, 1, 0},
		{"</html>", "html(head frameset)", "html", "", 22, 1, 0},
		{"<frameset>", "html(head frameset)", "html", "", 22, 1, 0},
	})
}

// P16.2: a frameset in InBody.
func TestFrameset(t *testing.T) {
	leads(t, place{begin: "<!DOCTYPE html><body>", shell: "<!html> html(%)"}, []row{
		{"<frameset>", "head body", "html body", "", 6, 1, 0},
	})
}

// P16.2: a frameset behind a body that was opened without a tag.
func TestLateFrameset(t *testing.T) {
	leads(t, place{begin: "<!DOCTYPE html><head></head>", shell: "<!html> html(%)"}, []row{
		{"<p><frameset a=1>", "head frameset{a=1}", "html frameset", "", 19, 1, 1},
		{"<p><span><frameset><frame>", "head frameset(frame)", "html frameset", "", 19, 1, 1},
		{"<p> <frameset>", "head frameset", "html frameset", "", 19, 1, 1},
		{"<p>a<frameset>", `head body(p("a"))`, "html body p", "", 6, 1, 0},
		{"</br><frameset>", "head body(br)", "html body", "", 6, 2, 0},
		{"<p></body><frameset>", "head frameset", "html frameset", "", 19, 2, 1},
		{"<p></html><frameset>", "head frameset", "html frameset", "", 19, 2, 1},
		{"<svg> <desc></desc></svg><frameset>", "head frameset", "html frameset", "", 19, 1, 1},
	})
}
