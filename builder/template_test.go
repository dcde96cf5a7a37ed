package builder_test

import (
	"testing"
)

// P16.2: the mode InTemplate.
func TestInTemplate(t *testing.T) {
	leads(t, place{begin: "<!DOCTYPE html><body><template>", shell: "<!html> html(head body(template[%]))"}, []row{
		{"", "", "html body template", "|", 17, 0, 1},
		{"a", `"a"`, "html body template", "|", 17, 0, 1},
		{" ", `" "`, "html body template", "|", 17, 0, 1},
		{"\x00", "", "html body template", "|", 17, 1, 1},
		{"<!--x-->", "<!--x-->", "html body template", "|", 17, 0, 1},
		{"<!DOCTYPE html>", "", "html body template", "|", 17, 1, 1},
		{"<base>", "base", "html body template", "|", 17, 0, 1},
		{"<basefont><bgsound/><link a=1><meta>", "basefont bgsound link{a=1} meta", "html body template", "|", 17, 0, 1},
		{"<noframes>a</noframes>", `noframes("a")`, "html body template", "|", 17, 0, 1},
		{"<script>a</script>", `script("a")`, "html body template", "|", 17, 0, 1},
		{"<style>a</style>", `style("a")`, "html body template", "|", 17, 0, 1},
		{"<title>a</title>", `title("a")`, "html body template", "|", 17, 0, 1},
		{"<template>", "template", "html body template template", "| |", 17, 0, 2},
		{"<template></template>", "template", "html body template", "|", 17, 0, 1},
		{"<caption>", "caption", "html body template caption", "| |", 10, 0, 1},
		{"<colgroup>", "colgroup", "html body template colgroup", "|", 11, 0, 1},
		{"<tbody>", "tbody", "html body template tbody", "|", 12, 0, 1},
		{"<tfoot>", "tfoot", "html body template tfoot", "|", 12, 0, 1},
		{"<thead>", "thead", "html body template thead", "|", 12, 0, 1},
		{"<col>", "col", "html body template", "|", 11, 0, 1},
		{"<col/><col>", "col col", "html body template", "|", 11, 0, 1},
		{"<tr>", "tr", "html body template tr", "|", 13, 0, 1},
		{"<td>", "td", "html body template td", "| |", 14, 0, 1},
		{"<th>", "th", "html body template th", "| |", 14, 0, 1},
		{"<p>", "p", "html body template p", "|", 6, 0, 1},
		{"<p>a", `p("a")`, "html body template p", "|", 6, 0, 1},
		{"<x>", "x", "html body template x", "|", 6, 0, 1},
		{"<html a=1>", "", "html body template", "|", 6, 1, 1},
		{"<body a=1>", "", "html body template", "|", 6, 1, 1},
		{"<div><tr>", "div", "html body template div", "|", 6, 1, 1},
		{"<tr><td>a", `tr(td("a"))`, "html body template tr td", "| |", 14, 0, 1},
		{"<tr></tr><td>", "tr tr(td)", "html body template tr td", "| |", 14, 1, 1},
		{"<td>a</td>b", `td("a")`, "html body template", "|", 9, 0, 2},
		{"</p></x></table></div></body></html>", "", "html body template", "|", 17, 6, 1},
		{"<table><td>a</table>b", `table(tbody(tr(td("a")))) "b"`, "html body template", "|", 6, 1, 1},
		{"<select>", "select", "html body template select", "|", 15, 0, 1},
		{"<frameset>", "", "html body template", "|", 6, 1, 1},
		{"<caption>a</caption><tr>", `caption("a") tbody(tr)`, "html body template tbody tr", "|", 13, 0, 1},
		{"<col><p>", "col", "html body template", "|", 11, 1, 1},
		{"<tr><p>", "tr p", "html body template tr p", "|", 13, 1, 1},
	})
}

// P16.2: the end of a template.
func TestTemplateEnds(t *testing.T) {
	leads(t, place{begin: "<!DOCTYPE html><body>", shell: "<!html> html(head body(%))"}, []row{
		{"<template></template>a", `template "a"`, "html body", "", 6, 0, 0},
		{"<template><p></template>a", `template[p] "a"`, "html body", "", 6, 0, 0},
		{"<template><div></template>a", `template[div] "a"`, "html body", "", 6, 1, 0},
		{"<template><tr><td><p></template>a", `template[tr(td(p))] "a"`, "html body", "|", 6, 0, 0},
		{"<template><tr><td><b></template>a", `template[tr(td(b))] "a"`, "html body", "|", 6, 1, 0},
		{"<p><b></p><template><i></template>a", `p(b) template[i] b("a")`, "html body b", "b", 6, 2, 1},
		{"<template><template></template>a", `template[template "a"]`, "html body template", "|", 17, 0, 1},
		{"<template><template></template></template>a", `template[template] "a"`, "html body", "", 6, 0, 0},
		{"<template><col></template>a", `template[col] "a"`, "html body", "", 6, 0, 0},
		{"<table><template></template><tr>", "table(template tbody(tr))", "html body table tbody tr", "", 13, 0, 1},
		{"<table><tr><template><td></template><td>", "table(tbody(tr(template[td] td)))", "html body table tbody tr td", "| |", 14, 0, 1},
		{"<table><td><template></template>a", `table(tbody(tr(td(template "a"))))`, "html body table tbody tr td", "|", 14, 1, 1},
		{"<select><template></template>a", `select(template "a")`, "html body select", "", 15, 0, 1},
		{"<table><td><template><select><template></template>", "table(tbody(tr(td(template[select(template)]))))", "html body table tbody tr td template select", "| |", 15, 1, 2},
		{"<template><table><td><select><template></template>", "template[table(tbody(tr(td(select(template)))))]", "html body template table tbody tr td select", "| |", 16, 1, 1},
		{"<table><td><select><template></template><tr>", "table(tbody(tr(td(select(template))) tr))", "html body table tbody tr", "", 13, 2, 1},
		{"<table><colgroup><template></template><col>", "table(colgroup(template col))", "html body table colgroup", "", 11, 0, 1},
		{"<table><caption><template></template>a", `table(caption(template "a"))`, "html body table caption", "|", 10, 0, 1},
		{"<svg><template></template>a", `svg:svg(svg:template "a")`, "html body svg:svg", "", 6, 0, 1},
		{"<div></template>", "div", "html body div", "", 6, 1, 1},
		{"<template><svg></template>a", `template[svg:svg] "a"`, "html body", "", 6, 2, 0},
		{"<template><svg><desc></template>a", `template[svg:svg(svg:desc)] "a"`, "html body", "", 6, 2, 0},
		{"<template><table><caption></template>a", `template[table(caption)] "a"`, "html body", "|", 6, 1, 0},
	})
}
