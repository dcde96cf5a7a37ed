package builder_test

import (
	"testing"
)

// P16.2: the mode InTbody.
func TestInTbody(t *testing.T) {
	leads(t, place{begin: "<!DOCTYPE html><body><table><tbody>", shell: "<!html> html(head body(table(%)))"}, []row{
		{"", "tbody", "html body table tbody", "", 12, 0, 1},
		{"<tr>", "tbody(tr)", "html body table tbody tr", "", 13, 0, 1},
		{"<tr a=1>", "tbody(tr{a=1})", "html body table tbody tr", "", 13, 0, 1},
		{"<td>", "tbody(tr(td))", "html body table tbody tr td", "|", 14, 1, 1},
		{"<th a=1>", "tbody(tr(th{a=1}))", "html body table tbody tr th", "|", 14, 1, 1},
		{"</tbody>", "tbody", "html body table", "", 8, 0, 1},
		{"</tfoot>", "tbody", "html body table tbody", "", 12, 1, 1},
		{"</thead>", "tbody", "html body table tbody", "", 12, 1, 1},
		{"<caption>", "tbody caption", "html body table caption", "|", 10, 0, 1},
		{"<col>", "tbody colgroup(col)", "html body table colgroup", "", 11, 0, 1},
		{"<colgroup>", "tbody colgroup", "html body table colgroup", "", 11, 0, 1},
		{"<tbody>", "tbody tbody", "html body table tbody", "", 12, 0, 1},
		{"<tfoot>", "tbody tfoot", "html body table tfoot", "", 12, 0, 1},
		{"<thead>", "tbody thead", "html body table thead", "", 12, 0, 1},
		{"</table>", "tbody", "html body", "", 6, 0, 0},
		{"</body></caption></col></colgroup></html></td></th></tr>", "tbody", "html body table tbody", "", 12, 8, 1},
		{"<!--x--> ", "tbody(<!--x-->)", "html body table tbody", "", 9, 0, 1},
		{"<script>a</script>", `tbody(script("a"))`, "html body table tbody", "", 12, 0, 1},
		{"<input type=hidden>", "tbody(input{type=hidden})", "html body table tbody", "", 12, 1, 1},
		{"<!DOCTYPE html>", "tbody", "html body table tbody", "", 12, 1, 1},
		{"<template></template>", "tbody(template)", "html body table tbody", "", 12, 0, 1},
	})
}

// P16.2: InTbody with what goes ahead of the table.
func TestInTbodyFostered(t *testing.T) {
	leads(t, place{begin: "<!DOCTYPE html><body><table><tbody>", shell: "<!html> html(head body(%))"}, []row{
		{"<b><tr>", "b table(tbody(tr))", "html body table tbody tr", "b", 13, 1, 1},
		{"<b><td>", "b table(tbody(tr(td)))", "html body table tbody tr td", "b |", 14, 2, 1},
		{"<b></tbody>", "b table(tbody)", "html body table", "b", 8, 1, 1},
		{"<b><tfoot>", "b table(tbody tfoot)", "html body table tfoot", "b", 12, 1, 1},
		{"<p>a", `p("a") table(tbody)`, "html body table tbody p", "", 12, 2, 1},
		{"a", "table(tbody)", "html body table tbody", "", 9, 0, 2},
		{"</p>", "p table(tbody)", "html body table tbody", "", 12, 2, 1},
		{"</x>", "table(tbody)", "html body table tbody", "", 12, 2, 1},
		{"<table>", "table(tbody) table", "html body table", "", 8, 1, 1},
		{"<select>", "select table(tbody)", "html body table tbody select", "", 16, 1, 1},
	})
}

// P16.2: InTbody in a tfoot.
func TestInTbodyTfoot(t *testing.T) {
	leads(t, place{begin: "<!DOCTYPE html><body><table><tfoot>", shell: "<!html> html(head body(table(%)))"}, []row{
		{"</tfoot>", "tfoot", "html body table", "", 8, 0, 1},
		{"</tbody>", "tfoot", "html body table tfoot", "", 12, 1, 1},
		{"<thead>", "tfoot thead", "html body table thead", "", 12, 0, 1},
		{"</table>", "tfoot", "html body", "", 6, 0, 0},
	})
}

// P16.2: the mode InRow.
func TestInRow(t *testing.T) {
	leads(t, place{begin: "<!DOCTYPE html><body><table><tr>", shell: "<!html> html(head body(table(tbody(%))))"}, []row{
		{"", "tr", "html body table tbody tr", "", 13, 0, 1},
		{"<td>", "tr(td)", "html body table tbody tr td", "|", 14, 0, 1},
		{"<th a=1>", "tr(th{a=1})", "html body table tbody tr th", "|", 14, 0, 1},
		{"</tr>", "tr", "html body table tbody", "", 12, 0, 1},
		{"<tr>", "tr tr", "html body table tbody tr", "", 13, 0, 1},
		{"</body></caption></col></colgroup></html></td></th>", "tr", "html body table tbody tr", "", 13, 7, 1},
		{"</tfoot></thead>", "tr", "html body table tbody tr", "", 13, 2, 1},
		{"</tbody>", "tr", "html body table", "", 8, 0, 1},
		{"<!--x--> ", "tr(<!--x-->)", "html body table tbody tr", "", 9, 0, 1},
		{"<style>a</style>", `tr(style("a"))`, "html body table tbody tr", "", 13, 0, 1},
		{"<template></template>", "tr(template)", "html body table tbody tr", "", 13, 0, 1},
		{"<!DOCTYPE html>", "tr", "html body table tbody tr", "", 13, 1, 1},
	})
}

// P16.2: what leaves InRow.
func TestInRowLeft(t *testing.T) {
	leads(t, place{begin: "<!DOCTYPE html><body><table><tr>", shell: "<!html> html(head body(%))"}, []row{
		{"<caption>", "table(tbody(tr) caption)", "html body table caption", "|", 10, 0, 1},
		{"<col>", "table(tbody(tr) colgroup(col))", "html body table colgroup", "", 11, 0, 1},
		{"<colgroup>", "table(tbody(tr) colgroup)", "html body table colgroup", "", 11, 0, 1},
		{"<tbody>", "table(tbody(tr) tbody)", "html body table tbody", "", 12, 0, 1},
		{"<tfoot>", "table(tbody(tr) tfoot)", "html body table tfoot", "", 12, 0, 1},
		{"<thead>", "table(tbody(tr) thead)", "html body table thead", "", 12, 0, 1},
		{"</table>", "table(tbody(tr))", "html body", "", 6, 0, 0},
		{"<b><td>", "b table(tbody(tr(td)))", "html body table tbody tr td", "b |", 14, 1, 1},
		{"<b></tr>", "b table(tbody(tr))", "html body table tbody", "b", 12, 1, 1},
		{"<b><tr>", "b table(tbody(tr tr))", "html body table tbody tr", "b", 13, 1, 1},
		{"<b></tbody>", "b table(tbody(tr))", "html body table", "b", 8, 1, 1},
		{"<b></table>", "b table(tbody(tr))", "html body", "b", 6, 1, 0},
		{"a", "table(tbody(tr))", "html body table tbody tr", "", 9, 0, 2},
		{"<p>a", `p("a") table(tbody(tr))`, "html body table tbody tr p", "", 13, 2, 1},
		{"<table>", "table(tbody(tr)) table", "html body table", "", 8, 1, 1},
	})
}

// P16.2: the mode InCell.
func TestInCell(t *testing.T) {
	leads(t, place{begin: "<!DOCTYPE html><body><table><tr><td>", shell: "<!html> html(head body(table(tbody(tr(%)))))"}, []row{
		{"", "td", "html body table tbody tr td", "|", 14, 0, 1},
		{"a", `td("a")`, "html body table tbody tr td", "|", 14, 0, 1},
		{"</td>", "td", "html body table tbody tr", "", 13, 0, 1},
		{"</th>", "td", "html body table tbody tr td", "|", 14, 1, 1},
		{"<b>a</td>", `td(b("a"))`, "html body table tbody tr", "", 13, 1, 1},
		{"<p>a</td>", `td(p("a"))`, "html body table tbody tr", "", 13, 0, 1},
		{"<span>a</td>", `td(span("a"))`, "html body table tbody tr", "", 13, 1, 1},
		{"<td>", "td td", "html body table tbody tr td", "|", 14, 0, 1},
		{"<th>", "td th", "html body table tbody tr th", "|", 14, 0, 1},
		{"<b><td>", "td(b) td", "html body table tbody tr td", "|", 14, 1, 1},
		{"<p><td>", "td(p) td", "html body table tbody tr td", "|", 14, 0, 1},
		{"<span><td>", "td(span) td", "html body table tbody tr td", "|", 14, 1, 1},
		{"</body></caption></col></colgroup></html>", "td", "html body table tbody tr td", "|", 14, 5, 1},
		{"</tfoot></thead>", "td", "html body table tbody tr td", "|", 14, 2, 1},
		{"<p>a<b>c", `td(p("a" b("c")))`, "html body table tbody tr td p b", "| b", 14, 0, 1},
		{"<table><td>a</table>b", `td(table(tbody(tr(td("a")))) "b")`, "html body table tbody tr td", "|", 14, 1, 1},
		{"<div></td>", "td(div)", "html body table tbody tr", "", 13, 1, 1},
		{"</x>", "td", "html body table tbody tr td", "|", 14, 1, 1},
		{"<!--x--> ", `td(<!--x--> " ")`, "html body table tbody tr td", "|", 14, 0, 1},
		{"<!DOCTYPE html>", "td", "html body table tbody tr td", "|", 14, 1, 1},
		{"<table></td>", "td(table)", "html body table tbody tr td table", "|", 8, 1, 1},
		{"<script>a</script>", `td(script("a"))`, "html body table tbody tr td", "|", 14, 0, 1},
	})
}

// P16.2: what leaves InCell.
func TestInCellLeft(t *testing.T) {
	leads(t, place{begin: "<!DOCTYPE html><body><table><tr><td>", shell: "<!html> html(head body(%))"}, []row{
		{"<caption>", "table(tbody(tr(td)) caption)", "html body table caption", "|", 10, 0, 1},
		{"<col>", "table(tbody(tr(td)) colgroup(col))", "html body table colgroup", "", 11, 0, 1},
		{"<colgroup>", "table(tbody(tr(td)) colgroup)", "html body table colgroup", "", 11, 0, 1},
		{"<tbody>", "table(tbody(tr(td)) tbody)", "html body table tbody", "", 12, 0, 1},
		{"<tfoot>", "table(tbody(tr(td)) tfoot)", "html body table tfoot", "", 12, 0, 1},
		{"<thead>", "table(tbody(tr(td)) thead)", "html body table thead", "", 12, 0, 1},
		{"<tr>", "table(tbody(tr(td) tr))", "html body table tbody tr", "", 13, 0, 1},
		{"</table>", "table(tbody(tr(td)))", "html body", "", 6, 0, 0},
		{"</tbody>", "table(tbody(tr(td)))", "html body table", "", 8, 0, 1},
		{"</tr>", "table(tbody(tr(td)))", "html body table tbody", "", 12, 0, 1},
		{"<b></tr>", "table(tbody(tr(td(b))))", "html body table tbody", "", 12, 1, 1},
		{"<p></tr>", "table(tbody(tr(td(p))))", "html body table tbody", "", 12, 0, 1},
		{"<span></tr>", "table(tbody(tr(td(span))))", "html body table tbody", "", 12, 1, 1},
		{"<span></table>a", `table(tbody(tr(td(span)))) "a"`, "html body", "", 6, 1, 0},
	})
}

// P16.2: InCell in a th.
func TestInCellTh(t *testing.T) {
	leads(t, place{begin: "<!DOCTYPE html><body><table><tr><th>", shell: "<!html> html(head body(table(tbody(tr(%)))))"}, []row{
		{"</td>", "th", "html body table tbody tr th", "|", 14, 1, 1},
		{"</th>", "th", "html body table tbody tr", "", 13, 0, 1},
		{"<td>", "th td", "html body table tbody tr td", "|", 14, 0, 1},
		{"<th>", "th th", "html body table tbody tr th", "|", 14, 0, 1},
	})
}

// P16.2: InTbody in a thead.
func TestInTbodyThead(t *testing.T) {
	leads(t, place{begin: "<!DOCTYPE html><body><table><thead>", shell: "<!html> html(head body(table(%)))"}, []row{
		{"</thead>", "thead", "html body table", "", 8, 0, 1},
		{"</tbody>", "thead", "html body table thead", "", 12, 1, 1},
		{"</tfoot>", "thead", "html body table thead", "", 12, 1, 1},
		{"<tbody>", "thead tbody", "html body table tbody", "", 12, 0, 1},
		{"<tfoot>", "thead tfoot", "html body table tfoot", "", 12, 0, 1},
		{"<caption>", "thead caption", "html body table caption", "|", 10, 0, 1},
		{"</table>", "thead", "html body", "", 6, 0, 0},
		{"<tr><td>a</thead>", `thead(tr(td("a")))`, "html body table", "", 8, 0, 1},
	})
}
