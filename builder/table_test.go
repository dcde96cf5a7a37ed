package builder_test

import (
	"testing"
)

// P16.2: a table in InBody.
func TestInBodyTable(t *testing.T) {
	leads(t, place{begin: "<!DOCTYPE html><body>", shell: "<!html> html(head body(%))"}, []row{
		{"<table>", "table", "html body table", "", 8, 0, 1},
		{"<table a=1>", "table{a=1}", "html body table", "", 8, 0, 1},
		{"<p>a<table>", `p("a") table`, "html body table", "", 8, 0, 1},
		{"<p><b></p><table>", "p(b) table", "html body table", "b", 8, 1, 1},
	})
}

// P16.2: a table does not close a p in a document of the mode Quirks.
func TestInBodyTableInQuirks(t *testing.T) {
	leads(t, place{begin: "<body>", shell: "html(head body(%))"}, []row{
		{"<p>a<table>", `p("a" table)`, "html body p table", "", 8, 0, 1},
		{"<p>a<div>", `p("a") div`, "html body div", "", 6, 0, 1},
	})
}

// P16.2: a table closes a p in a document of the mode Limited.
func TestInBodyTableInLimitedQuirks(t *testing.T) {
	leads(t, place{begin: `<!DOCTYPE html PUBLIC "-//W3C//DTD XHTML 1.0 Frameset//" "x"><body>`, shell: `<!html "-//W3C//DTD XHTML 1.0 Frameset//" "x"> html(head body(%))`}, []row{
		{"<p>a<table>", `p("a") table`, "html body table", "", 8, 0, 1},
	})
}

// P16.2: the mode InTable.
func TestInTable(t *testing.T) {
	leads(t, place{begin: "<!DOCTYPE html><body><table>", shell: "<!html> html(head body(%))"}, []row{
		{"", "table", "html body table", "", 8, 0, 1},
		{"<!--x-->", "table(<!--x-->)", "html body table", "", 8, 0, 1},
		{"<!DOCTYPE html>", "table", "html body table", "", 8, 1, 1},
		{"<caption>", "table(caption)", "html body table caption", "|", 10, 0, 1},
		{"<caption a=1>b", `table(caption{a=1}("b"))`, "html body table caption", "|", 10, 0, 1},
		{"<b><caption>", "b table(caption)", "html body table caption", "b |", 10, 1, 1},
		{"<colgroup>", "table(colgroup)", "html body table colgroup", "", 11, 0, 1},
		{"<colgroup a=1>", "table(colgroup{a=1})", "html body table colgroup", "", 11, 0, 1},
		{"<b><colgroup>", "b table(colgroup)", "html body table colgroup", "b", 11, 1, 1},
		{"<col>", "table(colgroup(col))", "html body table colgroup", "", 11, 0, 1},
		{"<col a=1 />", "table(colgroup(col{a=1}))", "html body table colgroup", "", 11, 0, 1},
		{"<b><col>", "b table(colgroup(col))", "html body table colgroup", "b", 11, 1, 1},
		{"<tbody>", "table(tbody)", "html body table tbody", "", 12, 0, 1},
		{"<tbody a=1>", "table(tbody{a=1})", "html body table tbody", "", 12, 0, 1},
		{"<tfoot>", "table(tfoot)", "html body table tfoot", "", 12, 0, 1},
		{"<thead>", "table(thead)", "html body table thead", "", 12, 0, 1},
		{"<b><thead>", "b table(thead)", "html body table thead", "b", 12, 1, 1},
		{"<td>", "table(tbody(tr(td)))", "html body table tbody tr td", "|", 14, 1, 1},
		{"<td a=1>", "table(tbody(tr(td{a=1})))", "html body table tbody tr td", "|", 14, 1, 1},
		{"<th>", "table(tbody(tr(th)))", "html body table tbody tr th", "|", 14, 1, 1},
		{"<tr>", "table(tbody(tr))", "html body table tbody tr", "", 13, 0, 1},
		{"<tr a=1>", "table(tbody(tr{a=1}))", "html body table tbody tr", "", 13, 0, 1},
		{"<b><tr>", "b table(tbody(tr))", "html body table tbody tr", "b", 13, 1, 1},
		{"<table>", "table table", "html body table", "", 8, 1, 1},
		{"<table a=1>", "table table{a=1}", "html body table", "", 8, 1, 1},
		{"<b><table>", "b table table", "html body table", "b", 8, 2, 1},
		{"</table>", "table", "html body", "", 6, 0, 0},
		{"</table>a", `table "a"`, "html body", "", 6, 0, 0},
		{"<b></table>a", `b table b("a")`, "html body b", "b", 6, 1, 1},
		{"</body></html>", "table", "html body table", "", 8, 2, 1},
		{"</caption></col></colgroup></tbody></td></tfoot></th></thead></tr>", "table", "html body table", "", 8, 9, 1},
		{"<style>a</style>", `table(style("a"))`, "html body table", "", 8, 0, 1},
		{"<script>a</script>", `table(script("a"))`, "html body table", "", 8, 0, 1},
		{"<template>", "table(template)", "html body table template", "|", 17, 0, 2},
		{"<template></template>a", "table(template)", "html body table", "", 9, 0, 2},
		{"</template>", "table", "html body table", "", 8, 1, 1},
		{"<input type=hidden>", "table(input{type=hidden})", "html body table", "", 8, 1, 1},
		{"<input type=HiDDen a=1 />", "table(input{type=HiDDen a=1})", "html body table", "", 8, 1, 1},
		{"<input type=x type=hidden>", "input{type=x} table", "html body table", "", 8, 1, 1},
		{"<input>", "input table", "html body table", "", 8, 1, 1},
		{"<input type=text>", "input{type=text} table", "html body table", "", 8, 1, 1},
		{"<input a=hidden>", "input{a=hidden} table", "html body table", "", 8, 1, 1},
		{"<form>", "table(form)", "html body table", "", 8, 1, 1},
		{"<form a=1>b", "table(form{a=1})", "html body table", "", 9, 1, 2},
		{"<form><form>", "table(form)", "html body table", "", 8, 2, 1},
		{"<form/>", "table(form)", "html body table", "", 8, 2, 1},
		{"<p>", "p table", "html body table p", "", 8, 1, 1},
		{"<p>a</p>b", `p("a") table`, "html body table", "", 9, 3, 2},
		{"</p>", "p table", "html body table", "", 8, 2, 1},
		{"<b>a</b>", `b("a") table`, "html body table", "", 8, 3, 1},
		{"<x/>", "x table", "html body table x", "", 8, 2, 1},
		{"<select>", "select table", "html body table select", "", 16, 1, 1},
		{"<svg>", "svg:svg table", "html body table svg:svg", "", 8, 1, 1},
		{"<textarea>a</textarea>", `textarea("a") table`, "html body table", "", 8, 1, 1},
		{"<tr><td>a</table>b", `table(tbody(tr(td("a")))) "b"`, "html body", "", 6, 0, 0},
		{"<html>", "table", "html body table", "", 8, 2, 1},
		{"<title>a</title>", `title("a") table`, "html body table", "", 8, 1, 1},
	})
}

// P16.2: a form in a table of a form.
func TestInTableWithAForm(t *testing.T) {
	leads(t, place{begin: "<!DOCTYPE html><body><form><table>", shell: "<!html> html(head body(form(%)))"}, []row{
		{"<form>", "table", "html body form table", "", 8, 1, 1},
	})
}

// P16.2: the mode TableText.
func TestTableText(t *testing.T) {
	leads(t, place{begin: "<!DOCTYPE html><body><table>", shell: "<!html> html(head body(%))"}, []row{
		{"a", "table", "html body table", "", 9, 0, 2},
		{"ab<tr>", `"ab" table(tbody(tr))`, "html body table tbody tr", "", 13, 1, 1},
		{" <tr>", `table(" " tbody(tr))`, "html body table tbody tr", "", 13, 0, 1},
		{" \t\n\f\r<tr>", `table(" \t\n\f\r" tbody(tr))`, "html body table tbody tr", "", 13, 0, 1},
		{" a <tr>", `" a " table(tbody(tr))`, "html body table tbody tr", "", 13, 1, 1},
		{"\x00", "table", "html body table", "", 9, 1, 1},
		{"\x00<tr>", "table(tbody(tr))", "html body table tbody tr", "", 13, 1, 1},
		{"\x00 \x00<tr>", `table(" " tbody(tr))`, "html body table tbody tr", "", 13, 2, 1},
		{"a\x00b<tr>", `"ab" table(tbody(tr))`, "html body table tbody tr", "", 13, 2, 1},
		{" <!--x--> <!--y-->", `table(" " <!--x--> " " <!--y-->)`, "html body table", "", 8, 0, 1},
		{"a<!--x-->b<!--y-->", `"ab" table(<!--x--> <!--y-->)`, "html body table", "", 8, 2, 1},
		{" </table>", `table(" ")`, "html body", "", 6, 0, 0},
		{"a</table>", `"a" table`, "html body", "", 6, 1, 0},
		{"a<b>b", `"a" b("b") table`, "html body table b", "b", 8, 3, 1},
		{" <b>b", `b("b") table(" ")`, "html body table b", "b", 8, 2, 1},
		{"<tbody> <tr>", `table(tbody(" " tr))`, "html body table tbody tr", "", 13, 0, 1},
		{"<tbody>a<tr>", `"a" table(tbody(tr))`, "html body table tbody tr", "", 13, 1, 1},
		{"<tr> <td>", `table(tbody(tr(" " td)))`, "html body table tbody tr td", "|", 14, 0, 1},
		{"<tr>a<td>", `"a" table(tbody(tr(td)))`, "html body table tbody tr td", "|", 14, 1, 1},
		{"<thead>a<tr>b", `"a" table(thead(tr))`, "html body table thead tr", "", 9, 1, 2},
		{"<tfoot> <tr>", `table(tfoot(" " tr))`, "html body table tfoot tr", "", 13, 0, 1},
		{"<b></b>a<tr>", `b "a" table(tbody(tr))`, "html body table tbody tr", "", 13, 3, 1},
		{"<b>a", `b("a") table`, "html body table b", "b", 8, 2, 1},
		{"<template> a<tr>", `table(template[" a" tr])`, "html body table template tr", "|", 13, 0, 2},
		{" <!DOCTYPE html>", `table(" ")`, "html body table", "", 8, 1, 1},
	})
}

// P16.2: a table's text and formatting elements.
func TestTableTextRebuild(t *testing.T) {
	leads(t, place{begin: "<!DOCTYPE html><body><p><b></p><table>", shell: "<!html> html(head body(%))"}, []row{
		{"a", "p(b) table", "html body table", "b", 9, 0, 2},
		{"a<tr>", `p(b) b("a") table(tbody(tr))`, "html body table tbody tr", "b", 13, 1, 1},
		{" <tr>", `p(b) table(" " tbody(tr))`, "html body table tbody tr", "b", 13, 0, 1},
		{" a<tr>b<tr>", `p(b) b(" a") b("b") table(tbody(tr tr))`, "html body table tbody tr", "b", 13, 2, 1},
	})
}

// P16.2: a table's text in a template.
func TestTableTextInATemplate(t *testing.T) {
	leads(t, place{begin: "<!DOCTYPE html><head><template></head><tbody>", shell: "<!html> html(head(template[%]))"}, []row{
		{"a<tr>", `tbody(tr) "a"`, "html head template tbody tr", "|", 13, 1, 1},
		{" <tr>", `tbody(" " tr)`, "html head template tbody tr", "|", 13, 0, 1},
	})
}

// P16.2: the mode InCaption.
func TestInCaption(t *testing.T) {
	leads(t, place{begin: "<!DOCTYPE html><body><table><caption>", shell: "<!html> html(head body(table(%)))"}, []row{
		{"", "caption", "html body table caption", "|", 10, 0, 1},
		{"a", `caption("a")`, "html body table caption", "|", 10, 0, 1},
		{"</caption>", "caption", "html body table", "", 8, 0, 1},
		{"<b>a</caption>", `caption(b("a"))`, "html body table", "", 8, 1, 1},
		{"<p>a</caption>", `caption(p("a"))`, "html body table", "", 8, 0, 1},
		{"<span>a</caption>", `caption(span("a"))`, "html body table", "", 8, 1, 1},
		{"</table>", "caption", "html body", "", 6, 0, 0},
		{"<b></table>", "caption(b)", "html body", "", 6, 1, 0},
		{"<caption>", "caption caption", "html body table caption", "|", 10, 0, 1},
		{"<col>", "caption colgroup(col)", "html body table colgroup", "", 11, 0, 1},
		{"<colgroup>", "caption colgroup", "html body table colgroup", "", 11, 0, 1},
		{"<tbody>", "caption tbody", "html body table tbody", "", 12, 0, 1},
		{"<td>", "caption tbody(tr(td))", "html body table tbody tr td", "|", 14, 1, 1},
		{"<tfoot>", "caption tfoot", "html body table tfoot", "", 12, 0, 1},
		{"<th>", "caption tbody(tr(th))", "html body table tbody tr th", "|", 14, 1, 1},
		{"<thead>", "caption thead", "html body table thead", "", 12, 0, 1},
		{"<tr>", "caption tbody(tr)", "html body table tbody tr", "", 13, 0, 1},
		{"<span><tr>", "caption(span) tbody(tr)", "html body table tbody tr", "", 13, 1, 1},
		{"</body></html></col></colgroup></tbody></td></tfoot></th></thead></tr>", "caption", "html body table caption", "|", 10, 10, 1},
		{"<p>a<b>", `caption(p("a" b))`, "html body table caption p b", "| b", 10, 0, 1},
		{"<div></caption>", "caption(div)", "html body table", "", 8, 1, 1},
		{"<table></caption>", "caption(table)", "html body table caption table", "|", 8, 1, 1},
		{"<table><tr><td></table>a", `caption(table(tbody(tr(td))) "a")`, "html body table caption", "|", 10, 0, 1},
		{"</p>", "caption(p)", "html body table caption", "|", 10, 1, 1},
		{"<!--x-->", "caption(<!--x-->)", "html body table caption", "|", 10, 0, 1},
		{"<!DOCTYPE html>", "caption", "html body table caption", "|", 10, 1, 1},
	})
}

// P16.2: the mode InColgroup.
func TestInColgroup(t *testing.T) {
	leads(t, place{begin: "<!DOCTYPE html><body><table><colgroup>", shell: "<!html> html(head body(table(%)))"}, []row{
		{"", "colgroup", "html body table colgroup", "", 11, 0, 1},
		{" \t\n\f\r", `colgroup(" \t\n\f\r")`, "html body table colgroup", "", 11, 0, 1},
		{"<!--x-->", "colgroup(<!--x-->)", "html body table colgroup", "", 11, 0, 1},
		{"<!DOCTYPE html>", "colgroup", "html body table colgroup", "", 11, 1, 1},
		{"<html>", "colgroup", "html body table colgroup", "", 11, 1, 1},
		{"<col>", "colgroup(col)", "html body table colgroup", "", 11, 0, 1},
		{"<col a=1 /><col>", "colgroup(col{a=1} col)", "html body table colgroup", "", 11, 0, 1},
		{"</col>", "colgroup", "html body table colgroup", "", 11, 1, 1},
		{"<template>", "colgroup(template)", "html body table colgroup template", "|", 17, 0, 2},
		{"<template></template>", "colgroup(template)", "html body table colgroup", "", 11, 0, 1},
		{"</template>", "colgroup", "html body table colgroup", "", 11, 1, 1},
		{"</colgroup>", "colgroup", "html body table", "", 8, 0, 1},
		{"<tr>", "colgroup tbody(tr)", "html body table tbody tr", "", 13, 0, 1},
		{"</table>", "colgroup", "html body", "", 6, 0, 0},
		{"<colgroup>", "colgroup colgroup", "html body table colgroup", "", 11, 0, 1},
		{"<caption>", "colgroup caption", "html body table caption", "|", 10, 0, 1},
		{"<template><col><p>a</colgroup>b", "colgroup(template[col])", "html body table colgroup template", "|", 11, 4, 2},
	})
}

// P16.2: texts and other tags in InColgroup.
func TestInColgroupText(t *testing.T) {
	leads(t, place{begin: "<!DOCTYPE html><body><table><colgroup>", shell: "<!html> html(head body(%))"}, []row{
		{"a", "table(colgroup)", "html body table", "", 9, 0, 2},
		{" a", `table(colgroup(" "))`, "html body table", "", 9, 0, 2},
		{"\x00", "table(colgroup)", "html body table", "", 9, 1, 1},
		{"<p>a", `p("a") table(colgroup)`, "html body table p", "", 8, 2, 1},
		{"</p></x>", "p table(colgroup)", "html body table", "", 8, 4, 1},
		{"<form>", "table(colgroup form)", "html body table", "", 8, 1, 1},
		{"<body>", "table(colgroup)", "html body table", "", 8, 2, 1},
		{"<select>", "select table(colgroup)", "html body table select", "", 16, 1, 1},
	})
}

// P16.2: foster parents.
func TestFoster(t *testing.T) {
	leads(t, place{begin: "<!DOCTYPE html><body>", shell: "<!html> html(head body(%))"}, []row{
		{"<table><tr>a", "table(tbody(tr))", "html body table tbody tr", "", 9, 0, 2},
		{"<table><tbody>a<p>b", `"a" p("b") table(tbody)`, "html body table tbody p", "", 12, 3, 1},
		{"<table><b>a<tr>b", `b("a") table(tbody(tr))`, "html body table tbody tr", "b", 9, 2, 2},
		{"<table><b>a</table>b", `b("a") table b("b")`, "html body b", "b", 6, 2, 1},
		{"<table><tr><td><table>a", "table(tbody(tr(td(table))))", "html body table tbody tr td table", "|", 9, 0, 2},
		{"<div><table><tr><b>a", `div(b("a") table(tbody(tr)))`, "html body div table tbody tr b", "b", 13, 2, 1},
		{"<table><template><tr>a", "table(template[tr])", "html body table template tr", "|", 9, 0, 3},
		{"<template><table>a<p>b", `template["a" p("b") table]`, "html body template table p", "|", 8, 3, 1},
		{"<table><!--x--><p><!--y-->", "p(<!--y-->) table(<!--x-->)", "html body table p", "", 8, 1, 1},
		{"<table><svg>a", `svg:svg("a") table`, "html body table svg:svg", "", 8, 1, 1},
		{"<table><svg/><math><mi>a", `svg:svg math:math(math:mi("a")) table`, "html body table math:math math:mi", "", 8, 3, 1},
		{"<table><a>a<tr><a>b", `a("a") a("b") table(tbody(tr))`, "html body table tbody tr a", "a", 13, 6, 1},
		{"<table><p></table>a", `p table "a"`, "html body", "", 6, 1, 0},
		{"<table><b><tr></b>a", "b table(tbody(tr))", "html body table tbody tr", "", 9, 3, 2},
		{"<table><input>a", "input table", "html body table", "", 9, 1, 2},
		{"<table><select><option>a", `select(option("a")) table`, "html body table select option", "", 16, 1, 1},
		{"<table><tr><p></tr>", "p table(tbody(tr))", "html body table tbody", "", 12, 1, 1},
		{"<table><caption>a</caption>b", `table(caption("a"))`, "html body table", "", 9, 0, 2},
		{"<table><b><p></b>a", `b p(b "a") table`, "html body table p", "", 8, 5, 1},
		{"<table><tr><b><p>a</b>b", `b p(b("a") "b") table(tbody(tr))`, "html body table tbody tr p", "", 13, 6, 1},
		{"<b><table></b>a", "b(table)", "html body b table", "b", 9, 2, 2},
		{"<b><table><tr></b>a</table>b", `b("a" table(tbody(tr)) "b")`, "html body b", "b", 6, 3, 1},
		{"<table><a></a>b", "a table", "html body table", "", 9, 2, 2},
		{"<a>1<table><a>2</table>3", `a("1" a("2") table) a("3")`, "html body a", "a", 6, 4, 1},
	})
}

// P16.2: the text of each part of a table is looked at as a whole.
func TestTableTextInParts(t *testing.T) {
	leads(t, place{begin: "<!DOCTYPE html><body><table>", shell: "<!html> html(head body(%))"}, []row{
		{"<thead> <tr>", `table(thead(" " tr))`, "html body table thead tr", "", 13, 0, 1},
		{"<thead>ab<tr>", `"ab" table(thead(tr))`, "html body table thead tr", "", 13, 1, 1},
		{"<tbody>ab<tr>", `"ab" table(tbody(tr))`, "html body table tbody tr", "", 13, 1, 1},
		{"<tfoot>ab<tr>", `"ab" table(tfoot(tr))`, "html body table tfoot tr", "", 13, 1, 1},
		{"<tr>ab<td>", `"ab" table(tbody(tr(td)))`, "html body table tbody tr td", "|", 14, 1, 1},
		{"ab<td>", `"ab" table(tbody(tr(td)))`, "html body table tbody tr td", "|", 14, 2, 1},
		{"<template><tr>ab<td>", `table(template[tr(td) "ab"])`, "html body table template tr td", "| |", 14, 1, 2},
		{"<template><td></td>ab<td>", `table(template[td "ab" td])`, "html body table template td", "| |", 14, 1, 2},
		{"<caption>ab", `table(caption("ab"))`, "html body table caption", "|", 10, 0, 1},
		{"<colgroup>ab<tr>", `"ab" table(colgroup tbody(tr))`, "html body table tbody tr", "", 13, 1, 1},
	})
}
