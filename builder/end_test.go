package builder_test

import (
	"testing"
)

// P16.2: the end in each mode.
func TestEnd(t *testing.T) {
	for _, c := range []struct {
		in     string
		tree   string
		errors int
	}{
		{"", "html(head body)", 1},
		{" ", "html(head body)", 1},
		{"<!--x-->", "<!--x--> html(head body)", 1},
		{"<!DOCTYPE html>", "<!html> html(head body)", 0},
		{"<html>", "html(head body)", 1},
		{"<html><!--x-->", "html(<!--x--> head body)", 1},
		{"<head>", "html(head body)", 1},
		{"<head><title>a", `html(head(title("a")) body)`, 2},
		{"<head><script>a", `html(head(script("a")) body)`, 2},
		{"<head><noscript>", "html(head(noscript) body)", 2},
		{"<head><noscript><style>", "html(head(noscript(style)) body)", 3},
		{"<head></head>", "html(head body)", 1},
		{"<head></head><script>", "html(head(script) body)", 3},
		{"<body>", "html(head body)", 1},
		{"<p>a", `html(head body(p("a")))`, 1},
		{"<div>a", `html(head body(div("a")))`, 2},
		{"<span>", "html(head body(span))", 2},
		{"<li><dd><dt><p>", "html(head body(li(dd dt(p))))", 1},
		{"<textarea>a", `html(head body(textarea("a")))`, 2},
		{"<textarea>", "html(head body(textarea))", 2},
		{"<table>", "html(head body(table))", 2},
		{"<table>a", `html(head body("a" table))`, 3},
		{"<table> ", `html(head body(table(" ")))`, 2},
		{"<table>\x00", "html(head body(table))", 3},
		{"<table><caption>a", `html(head body(table(caption("a"))))`, 2},
		{"<table><colgroup>", "html(head body(table(colgroup)))", 2},
		{"<table><colgroup><template>", "html(head body(table(colgroup(template))))", 3},
		{"<table><tbody>", "html(head body(table(tbody)))", 2},
		{"<table><tr>", "html(head body(table(tbody(tr))))", 2},
		{"<table><td>a", `html(head body(table(tbody(tr(td("a"))))))`, 3},
		{"<select><option>a", `html(head body(select(option("a"))))`, 2},
		{"<table><td><select>", "html(head body(table(tbody(tr(td(select))))))", 3},
		{"<template>", "html(head(template) body)", 2},
		{"<template>a<template><p>b", `html(head(template["a" template[p("b")]]) body)`, 3},
		{"<head><template><tr>a", `html(head(template[tr "a"]) body)`, 3},
		{"<template><table><td>", "html(head(template[table(tbody(tr(td)))]) body)", 3},
		{"<template><script>a", `html(head(template[script("a")]) body)`, 3},
		{"<template><col>", "html(head(template[col]) body)", 2},
		{"<p><b><template><i>a", `html(head body(p(b(template[i("a")]))))`, 3},
		{"<body></body>", "html(head body)", 1},
		{"<body><div></body>", "html(head body(div))", 2},
		{"<frameset>", "html(head frameset)", 2},
		{"<frameset><frame></frameset>", "html(head frameset(frame))", 1},
		{"<frameset><noframes>a", `html(head frameset(noframes("a")))`, 3},
		{"</html>", "html(head body)", 1},
		{"<frameset></frameset></html>", "html(head frameset)", 1},
		{"<svg><g>", "html(head body(svg:svg(svg:g)))", 2},
		{"<math><mi>", "html(head body(math:math(math:mi)))", 2},
		{"<p><svg><desc><p>a", `html(head body(p(svg:svg(svg:desc(p("a"))))))`, 2},
		{"<pre>", "html(head body(pre))", 2},
		{"<p><b></p>", "html(head body(p(b)))", 2},
	} {
		b := newBench(t)
		b.feed(c.in)
		b.feedEnd()
		b.tree(c.tree)
		b.isOver()
		if b.b.Errors() != c.errors {
			t.Errorf("%q: %d errors; want %d", c.in, b.b.Errors(), c.errors)
		}
	}
}
