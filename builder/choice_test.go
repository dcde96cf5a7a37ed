package builder_test

import (
	"testing"
)

// P16.2: the mode InSelect.
func TestInSelect(t *testing.T) {
	leads(t, place{begin: "<!DOCTYPE html><body><select>", shell: "<!html> html(head body(%))"}, []row{
		{"", "select", "html body select", "", 15, 0, 1},
		{"a", `select("a")`, "html body select", "", 15, 0, 1},
		{" \t\n\f\r", `select(" \t\n\f\r")`, "html body select", "", 15, 0, 1},
		{"\x00", "select", "html body select", "", 15, 1, 1},
		{"a\x00b", `select("ab")`, "html body select", "", 15, 1, 1},
		{"<!--x-->", "select(<!--x-->)", "html body select", "", 15, 0, 1},
		{"<!DOCTYPE html>", "select", "html body select", "", 15, 1, 1},
		{"<html>", "select", "html body select", "", 15, 1, 1},
		{"<option>", "select(option)", "html body select option", "", 15, 0, 1},
		{"<option a=1>a<option>b", `select(option{a=1}("a") option("b"))`, "html body select option", "", 15, 0, 1},
		{"<optgroup><option>a<option>b", `select(optgroup(option("a") option("b")))`, "html body select optgroup option", "", 15, 0, 1},
		{"<optgroup>", "select(optgroup)", "html body select optgroup", "", 15, 0, 1},
		{"<optgroup a=1><option>a<optgroup>b", `select(optgroup{a=1}(option("a")) optgroup("b"))`, "html body select optgroup", "", 15, 0, 1},
		{"<option>a<optgroup>b", `select(option("a") optgroup("b"))`, "html body select optgroup", "", 15, 0, 1},
		{"<optgroup>a<optgroup>b", `select(optgroup("a") optgroup("b"))`, "html body select optgroup", "", 15, 0, 1},
		{"<hr>", "select(hr)", "html body select", "", 15, 0, 1},
		{"<hr/>", "select(hr)", "html body select", "", 15, 0, 1},
		{"<option><hr>", "select(option hr)", "html body select", "", 15, 0, 1},
		{"<optgroup><hr>", "select(optgroup hr)", "html body select", "", 15, 0, 1},
		{"<optgroup><option><hr>a", `select(optgroup(option) hr "a")`, "html body select", "", 15, 0, 1},
		{"</optgroup>", "select", "html body select", "", 15, 1, 1},
		{"<optgroup></optgroup>", "select(optgroup)", "html body select", "", 15, 0, 1},
		{"<optgroup><option></optgroup>a", `select(optgroup(option) "a")`, "html body select", "", 15, 0, 1},
		{"<option></optgroup>a", `select(option("a"))`, "html body select option", "", 15, 1, 1},
		{"<optgroup><option></option></optgroup>a", `select(optgroup(option) "a")`, "html body select", "", 15, 0, 1},
		{"</option>", "select", "html body select", "", 15, 1, 1},
		{"<option></option>a", `select(option "a")`, "html body select", "", 15, 0, 1},
		{"<optgroup></option>", "select(optgroup)", "html body select optgroup", "", 15, 1, 1},
		{"</select>", "select", "html body", "", 6, 0, 0},
		{"<option></select>a", `select(option) "a"`, "html body", "", 6, 0, 0},
		{"<optgroup><option></select>a", `select(optgroup(option)) "a"`, "html body", "", 6, 0, 0},
		{"<select>", "select", "html body", "", 6, 1, 0},
		{"<option><select>a", `select(option) "a"`, "html body", "", 6, 1, 0},
		{"<input>", "select input", "html body", "", 6, 1, 0},
		{"<option><input a=1 />b", `select(option) input{a=1} "b"`, "html body", "", 6, 1, 0},
		{"<keygen>a", `select keygen "a"`, "html body", "", 6, 1, 0},
		{"<textarea>a</textarea>", `select textarea("a")`, "html body", "", 6, 1, 0},
		{"<script>a</script>b", `select(script("a") "b")`, "html body select", "", 15, 0, 1},
		{"<template>", "select(template)", "html body select template", "|", 17, 0, 2},
		{"<template></template>a", `select(template "a")`, "html body select", "", 15, 0, 1},
		{"</template>", "select", "html body select", "", 15, 1, 1},
		{"<p>a", `select("a")`, "html body select", "", 15, 1, 1},
		{"<b></b>a", `select("a")`, "html body select", "", 15, 2, 1},
		{"</p></x></table>", "select", "html body select", "", 15, 3, 1},
		{"<table><tr>", "select", "html body select", "", 15, 2, 1},
		{"<svg>", "select", "html body select", "", 15, 1, 1},
		{"<br/>", "select", "html body select", "", 15, 2, 1},
		{"<style>a</style>", `select("a")`, "html body select", "", 15, 2, 1},
	})
}

// P16.2: the mode SelTable.
func TestSelTable(t *testing.T) {
	leads(t, place{begin: "<!DOCTYPE html><body><table><tr><td><select>", shell: "<!html> html(head body(%))"}, []row{
		{"", "table(tbody(tr(td(select))))", "html body table tbody tr td select", "|", 16, 0, 1},
		{"<caption>", "table(tbody(tr(td(select))) caption)", "html body table caption", "|", 10, 1, 1},
		{"<table>", "table(tbody(tr(td(select table))))", "html body table tbody tr td table", "|", 8, 1, 1},
		{"<tbody>", "table(tbody(tr(td(select))) tbody)", "html body table tbody", "", 12, 1, 1},
		{"<tfoot>", "table(tbody(tr(td(select))) tfoot)", "html body table tfoot", "", 12, 1, 1},
		{"<thead>", "table(tbody(tr(td(select))) thead)", "html body table thead", "", 12, 1, 1},
		{"<tr>", "table(tbody(tr(td(select)) tr))", "html body table tbody tr", "", 13, 1, 1},
		{"</caption>", "table(tbody(tr(td(select))))", "html body table tbody tr td select", "|", 16, 1, 1},
		{"</table>", "table(tbody(tr(td(select))))", "html body", "", 6, 1, 0},
		{"</tbody>", "table(tbody(tr(td(select))))", "html body table", "", 8, 1, 1},
		{"</tfoot>", "table(tbody(tr(td(select))))", "html body table tbody tr td select", "|", 16, 1, 1},
		{"</thead>", "table(tbody(tr(td(select))))", "html body table tbody tr td select", "|", 16, 1, 1},
		{"</th>", "table(tbody(tr(td(select))))", "html body table tbody tr td select", "|", 16, 1, 1},
		{"</tr>", "table(tbody(tr(td(select))))", "html body table tbody", "", 12, 1, 1},
		{"<td>", "table(tbody(tr(td(select) td)))", "html body table tbody tr td", "|", 14, 1, 1},
		{"<th>", "table(tbody(tr(td(select) th)))", "html body table tbody tr th", "|", 14, 1, 1},
		{"</td>", "table(tbody(tr(td(select))))", "html body table tbody tr", "", 13, 1, 1},
		{"<option></table>a", `table(tbody(tr(td(select(option))))) "a"`, "html body", "", 6, 1, 0},
		{"<option>a<input>", `table(tbody(tr(td(select(option("a")) input))))`, "html body table tbody tr td", "|", 14, 1, 1},
		{"a", `table(tbody(tr(td(select("a")))))`, "html body table tbody tr td select", "|", 16, 0, 1},
		{"</select>", "table(tbody(tr(td(select))))", "html body table tbody tr td", "|", 14, 0, 1},
		{"<col>", "table(tbody(tr(td(select))))", "html body table tbody tr td select", "|", 16, 1, 1},
		{"<colgroup>", "table(tbody(tr(td(select))))", "html body table tbody tr td select", "|", 16, 1, 1},
		{"</col></colgroup>", "table(tbody(tr(td(select))))", "html body table tbody tr td select", "|", 16, 2, 1},
		{"<p>", "table(tbody(tr(td(select))))", "html body table tbody tr td select", "|", 16, 1, 1},
		{"<select>", "table(tbody(tr(td(select))))", "html body table tbody tr td", "|", 14, 1, 1},
	})
}

// P16.2: a select that was put ahead of a table.
func TestSelTableFostered(t *testing.T) {
	leads(t, place{begin: "<!DOCTYPE html><body><table><select>", shell: "<!html> html(head body(%))"}, []row{
		{"a", `select("a") table`, "html body table select", "", 16, 0, 1},
		{"<tr>", "select table(tbody(tr))", "html body table tbody tr", "", 13, 1, 1},
		{"</select><tr>", "select table(tbody(tr))", "html body table tbody tr", "", 13, 0, 1},
		{"</table>a", `select table "a"`, "html body", "", 6, 1, 0},
		{"</td>", "select table", "html body table select", "", 16, 1, 1},
	})
}
