package builder_test

import (
	"testing"
)

// P16.1, P16.2: in an element that tells no mode.
func TestFragmentOfABlock(t *testing.T) {
	leads(t, place{begin: "", shell: "html(%)", context: "div"}, []row{
		{"", "", "html", "", 6, 0, 0},
		{"a<p>b<p>c", `"a" p("b") p("c")`, "html p", "", 6, 0, 0},
		{"</div>", "", "html", "", 6, 1, 0},
		{"</p>", "p", "html", "", 6, 1, 0},
		{"<html>", "", "html", "", 6, 1, 0},
		{"<body a=1>", "", "html", "", 6, 1, 0},
		{"<head>", "", "html", "", 6, 1, 0},
		{"<frameset>", "", "html", "", 6, 1, 0},
		{"</body>", "", "html", "", 6, 1, 0},
		{"</html>", "", "html", "", 6, 1, 0},
		{"<table><tr><td>a", `table(tbody(tr(td("a"))))`, "html table tbody tr td", "|", 14, 0, 1},
		{"<td>a", `"a"`, "html", "", 6, 1, 0},
		{"<svg><g></x>a", `svg:svg(svg:g("a"))`, "html svg:svg svg:g", "", 6, 1, 1},
		{"<svg><p>a", `svg:svg p("a")`, "html p", "", 6, 1, 0},
		{"<svg></p>", "svg:svg p", "html", "", 6, 2, 0},
		{"<svg>\x00", `svg:svg("�")`, "html svg:svg", "", 6, 1, 1},
		{"<template><td>a</template>b", `template[td("a")] "b"`, "html", "|", 6, 0, 0},
		{"<!DOCTYPE html>", "", "html", "", 6, 1, 0},
		{"<!--x-->", "<!--x-->", "html", "", 6, 0, 0},
		{"<b><p></b>a", `b p(b "a")`, "html p", "", 6, 1, 0},
	})
}

// P16.1, P16.2: in html.
func TestFragmentOfHTML(t *testing.T) {
	leads(t, place{begin: "", shell: "html(%)", context: "html"}, []row{
		{"", "", "html", "", 2, 0, 0},
		{" a", `head body("a")`, "html body", "", 6, 0, 0},
		{"<head>", "head", "html head", "", 3, 0, 0},
		{"<head></head><body>a", `head body("a")`, "html body", "", 6, 0, 0},
		{"<title>a</title>b", `head(title("a")) body("b")`, "html body", "", 6, 0, 0},
		{"<!--x-->", "<!--x-->", "html", "", 2, 0, 0},
		{"<frameset>", "head frameset", "html frameset", "", 19, 0, 1},
		{"<frameset></frameset>", "head frameset", "html", "", 19, 0, 0},
		{"<frameset></frameset></frameset><frame>", "head frameset frame", "html", "", 19, 1, 0},
		{"<head></head><frameset><frame>", "head frameset(frame)", "html frameset", "", 19, 0, 1},
		{"<body></body></html>a", `head body("a")`, "html body", "", 6, 2, 0},
		{"<body></body><!--x-->", "head body <!--x-->", "html body", "", 18, 0, 0},
		{"<body><frameset>", "head body", "html body", "", 6, 1, 0},
		{"<p><frameset>", "head frameset", "html frameset", "", 19, 1, 1},
		{"<template></template>", "head(template)", "html head", "", 3, 0, 0},
	})
}

// P16.1, P16.2: in a head.
func TestFragmentOfAHead(t *testing.T) {
	leads(t, place{begin: "", shell: "html(%)", context: "head"}, []row{
		{"", "", "html", "", 6, 0, 0},
		{"a", `"a"`, "html", "", 6, 0, 0},
		{"<title>a</title>", `title("a")`, "html", "", 6, 0, 0},
		{"<p>a", `p("a")`, "html p", "", 6, 0, 0},
		{"</head>", "", "html", "", 6, 1, 0},
		{"<body>", "", "html", "", 6, 1, 0},
	})
}

// P16.1, P16.2: in a body.
func TestFragmentOfABody(t *testing.T) {
	leads(t, place{begin: "", shell: "html(%)", context: "body"}, []row{
		{"", "", "html", "", 6, 0, 0},
		{"a<p>b", `"a" p("b")`, "html p", "", 6, 0, 0},
		{"</body>", "", "html", "", 6, 1, 0},
		{"</html>", "", "html", "", 6, 1, 0},
		{"<body a=1>", "", "html", "", 6, 1, 0},
		{"<frameset>", "", "html", "", 6, 1, 0},
		{"<html>", "", "html", "", 6, 1, 0},
		{"<div><frameset>", "div", "html div", "", 6, 1, 1},
	})
}

// P16.1, P16.2: in a table.
func TestFragmentOfATable(t *testing.T) {
	leads(t, place{begin: "", shell: "html(%)", context: "table"}, []row{
		{"", "", "html", "", 8, 0, 0},
		{"a<p>b", `"a" p("b")`, "html p", "", 8, 3, 0},
		{" <tr>", `" " tbody(tr)`, "html tbody tr", "", 13, 1, 0},
		{"<tr><td>a", `tbody(tr(td("a")))`, "html tbody tr td", "|", 14, 0, 0},
		{"<td>a", `tbody(tr(td("a")))`, "html tbody tr td", "|", 14, 1, 0},
		{"<caption>a</caption>b", `caption("a") "b"`, "html", "", 8, 1, 0},
		{"<col>", "colgroup(col)", "html colgroup", "", 11, 0, 1},
		{"</table>", "", "html", "", 8, 1, 0},
		{"<table>", "", "html", "", 8, 1, 0},
		{"</caption></tbody></tr>", "", "html", "", 8, 3, 0},
		{"<input type=hidden>", "input{type=hidden}", "html", "", 8, 1, 0},
		{"<form><form>", "form", "html", "", 8, 2, 0},
		{"<b><tr>", "b tbody(tr)", "html tbody tr", "b", 13, 1, 0},
		{"<select><tr>", "select tbody(tr)", "html tbody tr", "", 13, 2, 0},
	})
}

// P16.1, P16.2: in a caption.
func TestFragmentOfACaption(t *testing.T) {
	leads(t, place{begin: "", shell: "html(%)", context: "caption"}, []row{
		{"", "", "html", "", 10, 0, 0},
		{"a", `"a"`, "html", "", 10, 0, 0},
		{"</caption>", "", "html", "", 10, 1, 0},
		{"</table>", "", "html", "", 10, 1, 0},
		{"<tr>", "", "html", "", 10, 1, 0},
		{"<caption>", "", "html", "", 10, 1, 0},
		{"<table><tr>", "table(tbody(tr))", "html table tbody tr", "", 13, 0, 1},
		{"<p>a", `p("a")`, "html p", "", 10, 0, 0},
	})
}

// P16.1, P16.2: in a colgroup.
func TestFragmentOfAColgroup(t *testing.T) {
	leads(t, place{begin: "", shell: "html(%)", context: "colgroup"}, []row{
		{"", "", "html", "", 11, 0, 0},
		{" a b", `"  "`, "html", "", 11, 2, 0},
		{"<col>", "col", "html", "", 11, 0, 0},
		{"<col/>", "col", "html", "", 11, 0, 0},
		{"</colgroup>", "", "html", "", 11, 1, 0},
		{"</col>", "", "html", "", 11, 1, 0},
		{"<p>a", "", "html", "", 11, 2, 0},
		{"<tr>", "", "html", "", 11, 1, 0},
		{"</table>", "", "html", "", 11, 1, 0},
		{"<!--x-->", "<!--x-->", "html", "", 11, 0, 0},
		{"<template></template>", "template", "html", "", 11, 0, 0},
		{"<template><p>a", `template[p("a")]`, "html template p", "|", 6, 0, 1},
		{"<html>", "", "html", "", 11, 1, 0},
	})
}

// P16.1, P16.2: in the parts of a table that have rows.
func TestFragmentOfATbody(t *testing.T) {
	leads(t, place{begin: "", shell: "html(%)", context: "tbody"}, []row{
		{"", "", "html", "", 12, 0, 0},
		{"<tr><td>a", `tr(td("a"))`, "html tr td", "|", 14, 0, 0},
		{"<td>a", `tr(td("a"))`, "html tr td", "|", 14, 1, 0},
		{"</tbody>", "", "html", "", 12, 1, 0},
		{"</table>", "", "html", "", 12, 1, 0},
		{"<tbody>", "", "html", "", 12, 1, 0},
		{"<caption>", "", "html", "", 12, 1, 0},
		{"a", `"a"`, "html", "", 12, 1, 0},
		{"<b><tr>", "b tr", "html tr", "b", 13, 1, 0},
	})
}

// P16.1, P16.2: as in a tbody.
func TestFragmentOfAThead(t *testing.T) {
	leads(t, place{begin: "", shell: "html(%)", context: "thead"}, []row{
		{"", "", "html", "", 12, 0, 0},
		{"<tr>", "tr", "html tr", "", 13, 0, 0},
		{"</thead>", "", "html", "", 12, 1, 0},
	})
}

// P16.1, P16.2: as in a tbody.
func TestFragmentOfATfoot(t *testing.T) {
	leads(t, place{begin: "", shell: "html(%)", context: "tfoot"}, []row{
		{"", "", "html", "", 12, 0, 0},
		{"<td>", "tr(td)", "html tr td", "|", 14, 1, 0},
		{"</tfoot>", "", "html", "", 12, 1, 0},
	})
}

// P16.1, P16.2: in a tr.
func TestFragmentOfARow(t *testing.T) {
	leads(t, place{begin: "", shell: "html(%)", context: "tr"}, []row{
		{"", "", "html", "", 13, 0, 0},
		{"<td>a", `td("a")`, "html td", "|", 14, 0, 0},
		{"<th>a</th><td>b", `th("a") td("b")`, "html td", "|", 14, 0, 0},
		{"<td>a<tr>b", `td("a") "b"`, "html", "", 13, 2, 0},
		{"<tr>", "", "html", "", 13, 1, 0},
		{"</tr>", "", "html", "", 13, 1, 0},
		{"</tbody>", "", "html", "", 13, 1, 0},
		{"</table>", "", "html", "", 13, 1, 0},
		{"<tbody>", "", "html", "", 13, 1, 0},
		{"a<td>", `"a" td`, "html td", "|", 14, 1, 0},
		{" <td>", `" " td`, "html td", "|", 14, 1, 0},
		{"<b><td>", "b td", "html td", "b |", 14, 1, 0},
	})
}

// P16.1, P16.2: in a td, which tells no mode.
func TestFragmentOfACell(t *testing.T) {
	leads(t, place{begin: "", shell: "html(%)", context: "td"}, []row{
		{"", "", "html", "", 6, 0, 0},
		{"a<p>b", `"a" p("b")`, "html p", "", 6, 0, 0},
		{"</td>", "", "html", "", 6, 1, 0},
		{"<td>", "", "html", "", 6, 1, 0},
		{"<tr>", "", "html", "", 6, 1, 0},
		{"</table>", "", "html", "", 6, 1, 0},
		{"<table><td>a</td>", `table(tbody(tr(td("a"))))`, "html table tbody tr", "", 13, 1, 1},
	})
}

// P16.1, P16.2: in a th.
func TestFragmentOfATh(t *testing.T) {
	leads(t, place{begin: "", shell: "html(%)", context: "th"}, []row{
		{"", "", "html", "", 6, 0, 0},
		{"</th>a", `"a"`, "html", "", 6, 1, 0},
	})
}

// P16.1, P16.2: in a select.
func TestFragmentOfASelect(t *testing.T) {
	leads(t, place{begin: "", shell: "html(%)", context: "select"}, []row{
		{"", "", "html", "", 15, 0, 0},
		{"a<option>b<optgroup>c<hr>d", `"a" option("b") optgroup("c") hr "d"`, "html", "", 15, 0, 0},
		{"</select>", "", "html", "", 15, 1, 0},
		{"<select>", "", "html", "", 15, 1, 0},
		{"<input>", "", "html", "", 15, 1, 0},
		{"<textarea>", "", "html", "", 15, 1, 0},
		{"<tr>", "", "html", "", 15, 1, 0},
		{"</option>", "", "html", "", 15, 1, 0},
		{"<p>a", `"a"`, "html", "", 15, 1, 0},
		{"<template><p></template>", "template[p]", "html", "", 15, 0, 0},
	})
}

// P16.1, P16.2: in a template.
func TestFragmentOfATemplate(t *testing.T) {
	leads(t, place{begin: "", shell: "html(%)", context: "template"}, []row{
		{"", "", "html", "", 17, 0, 0},
		{"a", `"a"`, "html", "", 17, 0, 0},
		{"<tr><td>a", `tr(td("a"))`, "html tr td", "|", 14, 0, 0},
		{"<td>a</td>b", `td("a") "b"`, "html", "", 13, 1, 0},
		{"<col><p>", "col", "html", "", 11, 1, 0},
		{"<p>a<tr>b", `p("ab")`, "html p", "", 6, 1, 0},
		{"</template>", "", "html", "", 17, 1, 0},
		{"<template><tr></template><td>", "template[tr] td", "html td", "|", 14, 0, 0},
		{"<caption>a", `caption("a")`, "html caption", "|", 10, 0, 0},
		{"<html>", "", "html", "", 6, 1, 0},
		{"<body a=1>", "", "html", "", 6, 1, 0},
	})
}

// P16.1, P16.2: in a form.
func TestFragmentOfAForm(t *testing.T) {
	leads(t, place{begin: "", shell: "html(%)", context: "form"}, []row{
		{"", "", "html", "", 6, 0, 0},
		{"<form>a", `"a"`, "html", "", 6, 1, 0},
		{"</form>a", `"a"`, "html", "", 6, 1, 0},
		{"</form><form>b", `form("b")`, "html form", "", 6, 1, 1},
		{"<table><form>", "table", "html table", "", 8, 1, 1},
		{"<template><form></template>", "template[form]", "html", "", 6, 1, 0},
	})
}

// P16.1, P16.2: in a frameset.
func TestFragmentOfAFrameset(t *testing.T) {
	leads(t, place{begin: "", shell: "html(%)", context: "frameset"}, []row{
		{"", "", "html", "", 19, 0, 0},
		{"<frame> a", `frame " "`, "html", "", 19, 1, 0},
		{"<frameset><frame></frameset>", "frameset(frame)", "html", "", 19, 0, 0},
		{"</frameset>", "", "html", "", 19, 1, 0},
		{"<frameset></frameset></frameset>", "frameset", "html", "", 19, 1, 0},
		{"<noframes>a</noframes>", `noframes("a")`, "html", "", 19, 0, 0},
		{"<p>", "", "html", "", 19, 1, 0},
		{"<html>", "", "html", "", 19, 1, 0},
	})
}

// P16.1, P16.2: in a title.
func TestFragmentOfATitle(t *testing.T) {
	leads(t, place{begin: "", shell: "html(%)", context: "title"}, []row{
		{"", "", "html", "", 6, 0, 0},
		{"a<b>c", `"a<b>c"`, "html", "", 6, 0, 0},
		{"</title>a", `"a"`, "html", "", 6, 1, 0},
	})
}

// P16.1, P16.2: in a textarea.
func TestFragmentOfATextarea(t *testing.T) {
	leads(t, place{begin: "", shell: "html(%)", context: "textarea"}, []row{
		{"a<b>c", `"a<b>c"`, "html", "", 6, 0, 0},
		{"\na", `"\na"`, "html", "", 6, 0, 0},
	})
}

// P16.1, P16.2: in a style.
func TestFragmentOfAStyle(t *testing.T) {
	leads(t, place{begin: "", shell: "html(%)", context: "style"}, []row{
		{"a<b>c", `"a<b>c"`, "html", "", 6, 0, 0},
	})
}

// P16.1, P16.2: in an xmp.
func TestFragmentOfAnXmp(t *testing.T) {
	leads(t, place{begin: "", shell: "html(%)", context: "xmp"}, []row{
		{"a<b>c", `"a<b>c"`, "html", "", 6, 0, 0},
	})
}

// P16.1, P16.2: in an iframe.
func TestFragmentOfAnIframe(t *testing.T) {
	leads(t, place{begin: "", shell: "html(%)", context: "iframe"}, []row{
		{"a<b>c", `"a<b>c"`, "html", "", 6, 0, 0},
	})
}

// P16.1, P16.2: in a noembed.
func TestFragmentOfANoembed(t *testing.T) {
	leads(t, place{begin: "", shell: "html(%)", context: "noembed"}, []row{
		{"a<b>c", `"a<b>c"`, "html", "", 6, 0, 0},
	})
}

// P16.1, P16.2: in a noframes.
func TestFragmentOfANoframes(t *testing.T) {
	leads(t, place{begin: "", shell: "html(%)", context: "noframes"}, []row{
		{"a<b>c", `"a<b>c"`, "html", "", 6, 0, 0},
	})
}

// P16.1, P16.2: in a noscript without the scripting flag.
func TestFragmentOfANoscript(t *testing.T) {
	leads(t, place{begin: "", shell: "html(%)", context: "noscript"}, []row{
		{"", "", "html", "", 6, 0, 0},
		{"a<b>c", `"a" b("c")`, "html b", "b", 6, 0, 1},
	})
}

// P16.1, P16.2: in a noscript with the scripting flag.
func TestFragmentOfANoscriptWithScripts(t *testing.T) {
	leads(t, place{begin: "", shell: "html(%)", scripts: true, context: "noscript"}, []row{
		{"", "", "html", "", 6, 0, 0},
		{"a<b>c", `"a<b>c"`, "html", "", 6, 0, 0},
	})
}

// P16.1, P16.2: in a script.
func TestFragmentOfAScript(t *testing.T) {
	leads(t, place{begin: "", shell: "html(%)", context: "script"}, []row{
		{"", "", "html", "", 6, 0, 0},
		{"a<b>c", `"a<b>c"`, "html", "", 6, 0, 0},
		{"a</script>b", `"ab"`, "html", "", 6, 1, 0},
	})
}

// P16.1, P16.2: in a plaintext.
func TestFragmentOfAPlaintext(t *testing.T) {
	leads(t, place{begin: "", shell: "html(%)", context: "plaintext"}, []row{
		{"a<b></plaintext>c", `"a<b></plaintext>c"`, "html", "", 6, 0, 0},
	})
}

// P16.1, P16.2: in an element of HTML that is named svg, as if it were any other one.
func TestFragmentOfASvg(t *testing.T) {
	leads(t, place{begin: "", shell: "html(%)", context: "svg"}, []row{
		{"", "", "html", "", 6, 0, 0},
		{"<g>\x00<p>a", `g(p("a"))`, "html g p", "", 6, 1, 1},
		{"<svg><g>", "svg:svg(svg:g)", "html svg:svg svg:g", "", 6, 0, 1},
	})
}

// P16.1, P16.2: what would leave a tbody that is not there.
func TestFragmentOfATbodyLeft(t *testing.T) {
	leads(t, place{begin: "", shell: "html(%)", context: "tbody"}, []row{
		{"<col>", "", "html", "", 12, 1, 0},
		{"<colgroup>", "", "html", "", 12, 1, 0},
		{"<tfoot>", "", "html", "", 12, 1, 0},
		{"<thead>", "", "html", "", 12, 1, 0},
		{"</tfoot>", "", "html", "", 12, 1, 0},
		{"</thead>", "", "html", "", 12, 1, 0},
	})
}

// P16.1, P16.2: a table's parts that are open at the end.
func TestFragmentOfATableWithParts(t *testing.T) {
	leads(t, place{begin: "", shell: "html(%)", context: "table"}, []row{
		{"<tfoot><tr><th>", "tfoot(tr(th))", "html tfoot tr th", "|", 14, 0, 0},
		{"<thead><tr><td>", "thead(tr(td))", "html thead tr td", "|", 14, 0, 0},
		{"<tbody>", "tbody", "html tbody", "", 12, 0, 0},
		{"<thead>", "thead", "html thead", "", 12, 0, 0},
		{"<caption>", "caption", "html caption", "|", 10, 0, 1},
		{"<colgroup>", "colgroup", "html colgroup", "", 11, 0, 1},
	})
}
