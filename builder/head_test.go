package builder_test

import (
	"testing"
)

// P16.2: the mode Initial.
func TestInitial(t *testing.T) {
	leads(t, place{begin: "", shell: "%"}, []row{
		{"", "", "", "", 0, 0, 1},
		{" \t\n\f\r", "", "", "", 0, 0, 1},
		{"<!--x-->", "<!--x-->", "", "", 0, 0, 1},
		{"<!--x--><!--y-->", "<!--x--> <!--y-->", "", "", 0, 0, 1},
		{"<!DOCTYPE html>", "<!html>", "", "", 1, 0, 0},
		{`<!DOCTYPE html SYSTEM "about:legacy-compat">`, `<!html "" "about:legacy-compat">`, "", "", 1, 0, 0},
		{"<!DOCTYPE x>", "<!x>", "", "", 1, 1, 0},
		{"<!DOCTYPE>", "<!>", "", "", 1, 1, 0},
		{`<!DOCTYPE html PUBLIC "-//W3C//DTD HTML 4.01//EN" "x">`, `<!html "-//W3C//DTD HTML 4.01//EN" "x">`, "", "", 1, 1, 0},
		{" <!--x--> <!DOCTYPE html>", "<!--x--> <!html>", "", "", 1, 0, 0},
		{"x", `html(head body("x"))`, "html body", "", 6, 1, 0},
		{"\x00", "html(head body)", "html body", "", 6, 2, 0},
		{"<p>", "html(head body(p))", "html body p", "", 6, 1, 0},
		{"<html>", "html", "html", "", 2, 1, 0},
		{"<html a=1>", "html{a=1}", "html", "", 2, 1, 0},
		{"<head>", "html(head)", "html head", "", 3, 1, 0},
		{"<body>", "html(head body)", "html body", "", 6, 1, 0},
		{"</p>", "", "", "", 1, 2, 0},
		{"</head>", "html(head)", "html", "", 5, 1, 0},
		{"</br>", "html(head body(br))", "html body", "", 6, 2, 0},
	})
}

// P16.2: the mode BeforeHTML.
func TestBeforeHTML(t *testing.T) {
	leads(t, place{begin: "<!DOCTYPE html>", shell: "%"}, []row{
		{"", "<!html>", "", "", 1, 0, 0},
		{"<!DOCTYPE html>", "<!html>", "", "", 1, 1, 0},
		{"<!--x-->", "<!html> <!--x-->", "", "", 1, 0, 0},
		{" \t\n\f\r", "<!html>", "", "", 1, 0, 0},
		{"<html>", "<!html> html", "html", "", 2, 0, 0},
		{"<html a=1 b=2>", "<!html> html{a=1 b=2}", "html", "", 2, 0, 0},
		{"<html/>", "<!html> html", "html", "", 2, 1, 0},
		{"</p>", "<!html>", "", "", 1, 1, 0},
		{"</x></table></template></frameset>", "<!html>", "", "", 1, 4, 0},
		{"</head>", "<!html> html(head)", "html", "", 5, 0, 0},
		{"</body>", "<!html> html(head body)", "html body", "", 18, 0, 0},
		{"</html>", "<!html> html(head body)", "html body", "", 21, 0, 0},
		{"</br>", "<!html> html(head body(br))", "html body", "", 6, 1, 0},
		{"x", `<!html> html(head body("x"))`, "html body", "", 6, 0, 0},
		{"<p>", "<!html> html(head body(p))", "html body p", "", 6, 0, 0},
		{"<head>", "<!html> html(head)", "html head", "", 3, 0, 0},
		{"<title>", "<!html> html(head(title))", "html head title", "", 7, 0, 1},
		{"<frameset>", "<!html> html(head frameset)", "html frameset", "", 19, 0, 1},
	})
}

// P16.2: the mode BeforeHead.
func TestBeforeHead(t *testing.T) {
	leads(t, place{begin: "<!DOCTYPE html><html>", shell: "<!html> %"}, []row{
		{"", "html", "html", "", 2, 0, 0},
		{" \t\n\f\r", "html", "html", "", 2, 0, 0},
		{"<!--x-->", "html(<!--x-->)", "html", "", 2, 0, 0},
		{"<!DOCTYPE html>", "html", "html", "", 2, 1, 0},
		{"<html a=1>", "html{a=1}", "html", "", 2, 1, 0},
		{"<html a=1><html a=2 b=3>", "html{a=1 b=3}", "html", "", 2, 2, 0},
		{"<head>", "html(head)", "html head", "", 3, 0, 0},
		{"<head a=1>", "html(head{a=1})", "html head", "", 3, 0, 0},
		{"<head/>", "html(head)", "html head", "", 3, 1, 0},
		{"</p>", "html", "html", "", 2, 1, 0},
		{"</x></table></template>", "html", "html", "", 2, 3, 0},
		{"</head>", "html(head)", "html", "", 5, 0, 0},
		{"</body>", "html(head body)", "html body", "", 18, 0, 0},
		{"</html>", "html(head body)", "html body", "", 21, 0, 0},
		{"</br>", "html(head body(br))", "html body", "", 6, 1, 0},
		{"x", `html(head body("x"))`, "html body", "", 6, 0, 0},
		{"<p>", "html(head body(p))", "html body p", "", 6, 0, 0},
		{"<title>", "html(head(title))", "html head title", "", 7, 0, 1},
	})
}

// P16.2: the mode InHead.
func TestInHead(t *testing.T) {
	leads(t, place{begin: "<!DOCTYPE html><head>", shell: "<!html> %"}, []row{
		{"", "html(head)", "html head", "", 3, 0, 0},
		{" \t\n\f\r", `html(head(" \t\n\f\r"))`, "html head", "", 3, 0, 0},
		{"<!--x-->", "html(head(<!--x-->))", "html head", "", 3, 0, 0},
		{"<!DOCTYPE html>", "html(head)", "html head", "", 3, 1, 0},
		{"<html a=1>", "html{a=1}(head)", "html head", "", 3, 1, 0},
		{"<base>", "html(head(base))", "html head", "", 3, 0, 0},
		{"<basefont a=1>", "html(head(basefont{a=1}))", "html head", "", 3, 0, 0},
		{"<bgsound/>", "html(head(bgsound))", "html head", "", 3, 0, 0},
		{"<link a=1 /><meta>", "html(head(link{a=1} meta))", "html head", "", 3, 0, 0},
		{"<title>", "html(head(title))", "html head title", "", 7, 0, 1},
		{"<title>a<b></title>", `html(head(title("a<b>")))`, "html head", "", 3, 0, 0},
		{"<title/>", "html(head(title))", "html head title", "", 7, 1, 1},
		{"<noframes>", "html(head(noframes))", "html head noframes", "", 7, 0, 1},
		{"<noframes>a<b></noframes>", `html(head(noframes("a<b>")))`, "html head", "", 3, 0, 0},
		{"<style>", "html(head(style))", "html head style", "", 7, 0, 1},
		{"<style>a<b></style> ", `html(head(style("a<b>") " "))`, "html head", "", 3, 0, 0},
		{"<noscript>", "html(head(noscript))", "html head noscript", "", 4, 0, 1},
		{"<script>", "html(head(script))", "html head script", "", 7, 0, 1},
		{"<script>a<b></script>", `html(head(script("a<b>")))`, "html head", "", 3, 0, 0},
		{"</head>", "html(head)", "html", "", 5, 0, 0},
		{"</head> ", `html(head " ")`, "html", "", 5, 0, 0},
		{"<template>", "html(head(template))", "html head template", "|", 17, 0, 1},
		{"<template a=1></template>", "html(head(template{a=1}))", "html head", "", 3, 0, 0},
		{"<template><p></template>", "html(head(template[p]))", "html head", "", 3, 0, 0},
		{"<template><td></template>", "html(head(template[td]))", "html head", "|", 3, 0, 0},
		{"</template>", "html(head)", "html head", "", 3, 1, 0},
		{"<head>", "html(head)", "html head", "", 3, 1, 0},
		{"<head a=1>", "html(head)", "html head", "", 3, 1, 0},
		{"</p>", "html(head)", "html head", "", 3, 1, 0},
		{"</title></x></noscript></table>", "html(head)", "html head", "", 3, 4, 0},
		{"</body>", "html(head body)", "html body", "", 18, 0, 0},
		{"</html>", "html(head body)", "html body", "", 21, 0, 0},
		{"</br>", "html(head body(br))", "html body", "", 6, 1, 0},
		{"x", `html(head body("x"))`, "html body", "", 6, 0, 0},
		{"<p>", "html(head body(p))", "html body p", "", 6, 0, 0},
		{"<body>", "html(head body)", "html body", "", 6, 0, 0},
		{"<frameset>", "html(head frameset)", "html frameset", "", 19, 0, 1},
	})
}

// P16.2: noscript in a head with the scripting flag.
func TestInHeadWithScripts(t *testing.T) {
	leads(t, place{begin: "<!DOCTYPE html><head>", shell: "<!html> %", scripts: true}, []row{
		{"<noscript>", "html(head(noscript))", "html head noscript", "", 7, 0, 1},
		{"<noscript><link></noscript> ", `html(head(noscript("<link>") " "))`, "html head", "", 3, 0, 0},
		{"<noscript/>", "html(head(noscript))", "html head noscript", "", 7, 1, 1},
		{"<noframes>a<b></noframes>", `html(head(noframes("a<b>")))`, "html head", "", 3, 0, 0},
	})
}

// P16.2: the mode Noscript.
func TestNoscript(t *testing.T) {
	leads(t, place{begin: "<!DOCTYPE html><head><noscript>", shell: "<!html> %"}, []row{
		{"", "html(head(noscript))", "html head noscript", "", 4, 0, 1},
		{"<!DOCTYPE html>", "html(head(noscript))", "html head noscript", "", 4, 1, 1},
		{"<html a=1>", "html{a=1}(head(noscript))", "html head noscript", "", 4, 1, 1},
		{"</noscript>", "html(head(noscript))", "html head", "", 3, 0, 0},
		{" \t\n\f\r", `html(head(noscript(" \t\n\f\r")))`, "html head noscript", "", 4, 0, 1},
		{"<!--x-->", "html(head(noscript(<!--x-->)))", "html head noscript", "", 4, 0, 1},
		{"<basefont>", "html(head(noscript(basefont)))", "html head noscript", "", 4, 0, 1},
		{"<bgsound><link/><meta a=1>", "html(head(noscript(bgsound link meta{a=1})))", "html head noscript", "", 4, 0, 1},
		{"<noframes>", "html(head(noscript(noframes)))", "html head noscript noframes", "", 7, 0, 2},
		{"<noframes>a<b></noframes><link>", `html(head(noscript(noframes("a<b>") link)))`, "html head noscript", "", 4, 0, 1},
		{"<style>", "html(head(noscript(style)))", "html head noscript style", "", 7, 0, 2},
		{"<style></style> ", `html(head(noscript(style " ")))`, "html head noscript", "", 4, 0, 1},
		{"<head>", "html(head(noscript))", "html head noscript", "", 4, 1, 1},
		{"<noscript>", "html(head(noscript))", "html head noscript", "", 4, 1, 1},
		{"</p>", "html(head(noscript))", "html head noscript", "", 4, 1, 1},
		{"</head></body></html></x>", "html(head(noscript))", "html head noscript", "", 4, 4, 1},
		{"</br>", "html(head(noscript) body(br))", "html body", "", 6, 2, 0},
		{"x", `html(head(noscript) body("x"))`, "html body", "", 6, 1, 0},
		{"<p>", "html(head(noscript) body(p))", "html body p", "", 6, 1, 0},
		{"<title>", "html(head(noscript title))", "html head title", "", 7, 1, 1},
		{"<base>", "html(head(noscript base))", "html head", "", 3, 1, 0},
		{"<script>", "html(head(noscript script))", "html head script", "", 7, 1, 1},
	})
}

// P16.2: the mode AfterHead.
func TestAfterHead(t *testing.T) {
	leads(t, place{begin: "<!DOCTYPE html><head></head>", shell: "<!html> %"}, []row{
		{"", "html(head)", "html", "", 5, 0, 0},
		{" \t\n\f\r", `html(head " \t\n\f\r")`, "html", "", 5, 0, 0},
		{"<!--x-->", "html(head <!--x-->)", "html", "", 5, 0, 0},
		{"<!DOCTYPE html>", "html(head)", "html", "", 5, 1, 0},
		{"<html a=1>", "html{a=1}(head)", "html", "", 5, 1, 0},
		{"<body>", "html(head body)", "html body", "", 6, 0, 0},
		{"<body a=1>", "html(head body{a=1})", "html body", "", 6, 0, 0},
		{"<body/>", "html(head body)", "html body", "", 6, 1, 0},
		{"<frameset>", "html(head frameset)", "html frameset", "", 19, 0, 1},
		{"<frameset a=1>", "html(head frameset{a=1})", "html frameset", "", 19, 0, 1},
		{"<base>", "html(head(base))", "html", "", 5, 1, 0},
		{"<basefont><bgsound/><link a=1><meta>", "html(head(basefont bgsound link{a=1} meta))", "html", "", 5, 4, 0},
		{"<noframes>", "html(head(noframes))", "html noframes", "", 7, 1, 1},
		{"<noframes>a</noframes> ", `html(head(noframes("a")) " ")`, "html", "", 5, 1, 0},
		{"<script>", "html(head(script))", "html script", "", 7, 1, 1},
		{"<script>a</script>", `html(head(script("a")))`, "html", "", 5, 1, 0},
		{"<style>a</style>", `html(head(style("a")))`, "html", "", 5, 1, 0},
		{"<title>a</title>", `html(head(title("a")))`, "html", "", 5, 1, 0},
		{"<template>", "html(head(template))", "html template", "|", 17, 1, 1},
		{"<template><p>", "html(head(template[p]))", "html template p", "|", 6, 1, 1},
		{"<template></template>", "html(head(template))", "html", "", 5, 1, 0},
		{"</template>", "html(head)", "html", "", 5, 1, 0},
		{"<head>", "html(head)", "html", "", 5, 1, 0},
		{"</p>", "html(head)", "html", "", 5, 1, 0},
		{"</head></x></table>", "html(head)", "html", "", 5, 3, 0},
		{"</body>", "html(head body)", "html body", "", 18, 0, 0},
		{"</html>", "html(head body)", "html body", "", 21, 0, 0},
		{"</br>", "html(head body(br))", "html body", "", 6, 1, 0},
		{"x", `html(head body("x"))`, "html body", "", 6, 0, 0},
		{"<p>", "html(head body(p))", "html body p", "", 6, 0, 0},
		{"<noscript>", "html(head body(noscript))", "html body noscript", "", 6, 0, 1},
	})
}
