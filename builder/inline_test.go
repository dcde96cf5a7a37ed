package builder_test

import (
	"testing"
)

// P16.2: links.
func TestInBodyLinks(t *testing.T) {
	leads(t, place{begin: "<!DOCTYPE html><body>", shell: "<!html> html(head body(%))"}, []row{
		{"<a>a", `a("a")`, "html body a", "a", 6, 0, 1},
		{"<a href=1>a<a href=2>b", `a{href=1}("a") a{href=2}("b")`, "html body a", "a", 6, 1, 1},
		{"<a>a<b>b<a>c", `a("a" b("b")) b(a("c"))`, "html body b a", "b a", 6, 2, 1},
		{"<a><p>a<a>b", `a p(a("a") a("b"))`, "html body p a", "a", 6, 2, 1},
		{"<a><div><a>", "a div(a a)", "html body div a", "a", 6, 2, 1},
		{"<p><a></p><a>", "p(a) a", "html body a", "a", 6, 3, 1},
		{"<a><object><a>", "a(object(a))", "html body a object a", "a | a", 6, 0, 1},
		{"<a><table><a>", "a(a table)", "html body table a", "a", 8, 3, 1},
		{"<b><p></b><a>a", `b p(b a("a"))`, "html body p a", "a", 6, 1, 1},
		{"<a>1<p>2</a>3", `a("1") p(a("2") "3")`, "html body p", "", 6, 1, 0},
		{"<a><button><a>", "a button(a a)", "html body button a", "a", 6, 2, 1},
	})
}

// P16.2: nobr.
func TestInBodyNobr(t *testing.T) {
	leads(t, place{begin: "<!DOCTYPE html><body>", shell: "<!html> html(head body(%))"}, []row{
		{"<nobr>a", `nobr("a")`, "html body nobr", "nobr", 6, 0, 1},
		{"<nobr>a<nobr>b", `nobr("a") nobr("b")`, "html body nobr", "nobr", 6, 1, 1},
		{"<nobr>a<b>b<nobr>c", `nobr("a" b("b")) b(nobr("c"))`, "html body b nobr", "b nobr", 6, 2, 1},
		{"<nobr><p>a<nobr>b", `nobr p(nobr("a") nobr("b"))`, "html body p nobr", "nobr", 6, 2, 1},
		{"<nobr><object><nobr>", "nobr(object(nobr))", "html body nobr object nobr", "nobr | nobr", 6, 0, 1},
		{"<p><nobr></p><nobr>a", `p(nobr) nobr nobr("a")`, "html body nobr", "nobr", 6, 2, 1},
		{"<nobr><i></nobr><nobr>", "nobr(i) i(nobr)", "html body i nobr", "i nobr", 6, 1, 1},
		{"<nobr x=1><div><nobr>", "nobr{x=1} div(nobr{x=1} nobr)", "html body div nobr", "nobr", 6, 2, 1},
	})
}

// P16.2: formatting elements.
func TestInBodyFormat(t *testing.T) {
	leads(t, place{begin: "<!DOCTYPE html><body>", shell: "<!html> html(head body(%))"}, []row{
		{"<b>a</b>b", `b("a") "b"`, "html body", "", 6, 0, 0},
		{"<big>a</big>b", `big("a") "b"`, "html body", "", 6, 0, 0},
		{"<code>a</code>b", `code("a") "b"`, "html body", "", 6, 0, 0},
		{"<em>a</em>b", `em("a") "b"`, "html body", "", 6, 0, 0},
		{"<font>a</font>b", `font("a") "b"`, "html body", "", 6, 0, 0},
		{"<i>a</i>b", `i("a") "b"`, "html body", "", 6, 0, 0},
		{"<nobr>a</nobr>b", `nobr("a") "b"`, "html body", "", 6, 0, 0},
		{"<s>a</s>b", `s("a") "b"`, "html body", "", 6, 0, 0},
		{"<small>a</small>b", `small("a") "b"`, "html body", "", 6, 0, 0},
		{"<strike>a</strike>b", `strike("a") "b"`, "html body", "", 6, 0, 0},
		{"<strong>a</strong>b", `strong("a") "b"`, "html body", "", 6, 0, 0},
		{"<tt>a</tt>b", `tt("a") "b"`, "html body", "", 6, 0, 0},
		{"<u>a</u>b", `u("a") "b"`, "html body", "", 6, 0, 0},
		{"<a>a</a>b", `a("a") "b"`, "html body", "", 6, 0, 0},
		{"<b><p>1</b>2", `b p(b("1") "2")`, "html body p", "", 6, 1, 0},
		{"<b>1<p>2</b>3", `b("1") p(b("2") "3")`, "html body p", "", 6, 1, 0},
		{"<p>1<b>2<i>3</p>4", `p("1" b("2" i("3"))) b(i("4"))`, "html body b i", "b i", 6, 1, 1},
		{"<b><i></b>a", `b(i) i("a")`, "html body i", "i", 6, 1, 1},
		{"<b><i>1</b>2</i>3", `b(i("1")) i("2") "3"`, "html body", "", 6, 1, 0},
		{"</b>", "", "html body", "", 6, 1, 0},
		{"<b></b></b>", "b", "html body", "", 6, 1, 0},
		{"<b><object></b>", "b(object)", "html body b object", "b |", 6, 1, 1},
		{"<p><b></p></b>", "p(b)", "html body", "", 6, 2, 0},
		{"<b><b><b><b>a</p>", `b(b(b(b("a" p))))`, "html body b b b b", "b b b", 6, 1, 1},
		{"<p><b><b><b><b></p>a", `p(b(b(b(b)))) b(b(b("a")))`, "html body b b b", "b b b", 6, 1, 1},
		{"<p><b a=1 c=2><b c=2 a=1><b a=1><b c=2 a=1><b a=1 c=2></p>a", `p(b{a=1 c=2}(b{c=2 a=1}(b{a=1}(b{c=2 a=1}(b{a=1 c=2}))))) b{c=2 a=1}(b{a=1}(b{c=2 a=1}(b{a=1 c=2}("a"))))`, "html body b b b b", "b b b b", 6, 1, 1},
		{"<b/>a", `b("a")`, "html body b", "b", 6, 1, 1},
		{"<object><b></object>a", `object(b) "a"`, "html body", "", 6, 1, 0},
		{"<p><b><i></p><u>a", `p(b(i)) b(i(u("a")))`, "html body b i u", "b i u", 6, 1, 1},
	})
}

// P16.2: rebuild.
func TestRebuild(t *testing.T) {
	leads(t, place{begin: "<!DOCTYPE html><body>", shell: "<!html> html(head body(%))"}, []row{
		{"<p><b></p>a", `p(b) b("a")`, "html body b", "b", 6, 1, 1},
		{"<p><b></p> ", `p(b) b(" ")`, "html body b", "b", 6, 1, 1},
		{"<p><b><i></p>a", `p(b(i)) b(i("a"))`, "html body b i", "b i", 6, 1, 1},
		{"<b><p><i></p>a", `b(p(i) i("a"))`, "html body b i", "b i", 6, 1, 1},
		{"<p><b></p><object>a", `p(b) b(object("a"))`, "html body b object", "b |", 6, 1, 1},
		{"<p><b></p><object></object>a", `p(b) b(object "a")`, "html body b", "b", 6, 1, 1},
		{"<object><p><b></p>a", `object(p(b) b("a"))`, "html body object b", "| b", 6, 1, 1},
		{"<p><b></p><table><td>a", `p(b) table(tbody(tr(td("a"))))`, "html body table tbody tr td", "b |", 14, 2, 1},
		{"<p><b><i></p><p></p>a", `p(b(i)) p b(i("a"))`, "html body b i", "b i", 6, 1, 1},
		{"<p><b></p><span>a", `p(b) b(span("a"))`, "html body b span", "b", 6, 1, 1},
		{"<p><b></p><div>a", `p(b) div(b("a"))`, "html body div b", "b", 6, 1, 1},
		{"<b><p><i><u></p></b>a", `b(p(i(u))) i(u("a"))`, "html body i u", "i u", 6, 1, 1},
	})
}

// P16.2: applet, marquee, object.
func TestInBodyObjects(t *testing.T) {
	leads(t, place{begin: "<!DOCTYPE html><body>", shell: "<!html> html(head body(%))"}, []row{
		{"<applet>a", `applet("a")`, "html body applet", "|", 6, 0, 1},
		{"<marquee a=1>a", `marquee{a=1}("a")`, "html body marquee", "|", 6, 0, 1},
		{"<object>a", `object("a")`, "html body object", "|", 6, 0, 1},
		{"<p><object>a</object>b", `p(object("a") "b")`, "html body p", "", 6, 0, 0},
		{"<p><b></p><applet>a", `p(b) b(applet("a"))`, "html body b applet", "b |", 6, 1, 1},
		{"<b><applet><i>a</applet>b", `b(applet(i("a")) "b")`, "html body b", "b", 6, 1, 1},
		{"<marquee><b><p>a</marquee>b", `marquee(b(p("a"))) "b"`, "html body", "", 6, 1, 0},
		{"<object><span>a</object>b", `object(span("a")) "b"`, "html body", "", 6, 1, 0},
		{"</applet></marquee></object>", "", "html body", "", 6, 3, 0},
		{"<object><applet></object>", "object(applet)", "html body object applet", "| |", 6, 1, 1},
		{"<object><table></object>", "object(table)", "html body object table", "|", 8, 2, 1},
	})
}

// P16.2: elements that have nothing in them.
func TestInBodyVoid(t *testing.T) {
	leads(t, place{begin: "<!DOCTYPE html><body>", shell: "<!html> html(head body(%))"}, []row{
		{"<area a=1>a", `area{a=1} "a"`, "html body", "", 6, 0, 0},
		{"<br>a", `br "a"`, "html body", "", 6, 0, 0},
		{"<embed>a", `embed "a"`, "html body", "", 6, 0, 0},
		{"<img>a", `img "a"`, "html body", "", 6, 0, 0},
		{"<keygen>a", `keygen "a"`, "html body", "", 6, 0, 0},
		{"<wbr>a", `wbr "a"`, "html body", "", 6, 0, 0},
		{"<br/>a", `br "a"`, "html body", "", 6, 0, 0},
		{"<p><b></p><img>a", `p(b) b(img "a")`, "html body b", "b", 6, 1, 1},
		{"<input>a", `input "a"`, "html body", "", 6, 0, 0},
		{"<input type=hidden>a", `input{type=hidden} "a"`, "html body", "", 6, 0, 0},
		{"<p><b></p><input/>a", `p(b) b(input "a")`, "html body b", "b", 6, 1, 1},
		{"<param>a", `param "a"`, "html body", "", 6, 0, 0},
		{"<source a=1>a", `source{a=1} "a"`, "html body", "", 6, 0, 0},
		{"<track/>a", `track "a"`, "html body", "", 6, 0, 0},
		{"<p><b></p><param>a", `p(b) param b("a")`, "html body b", "b", 6, 1, 1},
		{"<p><param>", "p(param)", "html body p", "", 6, 0, 0},
		{"<hr>a", `hr "a"`, "html body", "", 6, 0, 0},
		{"<p>a<hr>b", `p("a") hr "b"`, "html body", "", 6, 0, 0},
		{"<hr/>", "hr", "html body", "", 6, 0, 0},
		{"<p><b></p><hr>", "p(b) hr", "html body", "b", 6, 1, 0},
		{"<image>", "img", "html body", "", 6, 1, 0},
		{"<image a=1 />", "img{a=1}", "html body", "", 6, 1, 0},
		{"<p><b></p><image>a", `p(b) b(img "a")`, "html body b", "b", 6, 2, 1},
		{"</img></input></hr>", "", "html body", "", 6, 3, 0},
	})
}

// P16.2: raw texts.
func TestInBodyRaw(t *testing.T) {
	leads(t, place{begin: "<!DOCTYPE html><body>", shell: "<!html> html(head body(%))"}, []row{
		{"<textarea>a<b></textarea>b", `textarea("a<b>") "b"`, "html body", "", 6, 0, 0},
		{"<textarea>\na</textarea>", `textarea("a")`, "html body", "", 6, 0, 0},
		{"<textarea>\n\na</textarea>", `textarea("\na")`, "html body", "", 6, 0, 0},
		{"<textarea></textarea>\n", `textarea "\n"`, "html body", "", 6, 0, 0},
		{"<p><textarea>", "p(textarea)", "html body p textarea", "", 7, 0, 1},
		{"<p><b></p><textarea>a</textarea>b", `p(b) textarea("a") b("b")`, "html body b", "b", 6, 1, 1},
		{"<xmp>a<b></xmp>b", `xmp("a<b>") "b"`, "html body", "", 6, 0, 0},
		{"<p>a<xmp>b</xmp>c", `p("a") xmp("b") "c"`, "html body", "", 6, 0, 0},
		{"<p><b></p><xmp>a</xmp>b", `p(b) b(xmp("a") "b")`, "html body b", "b", 6, 1, 1},
		{"<xmp>\na", `xmp("\na")`, "html body xmp", "", 7, 0, 1},
		{"<iframe>a<b></iframe>b", `iframe("a<b>") "b"`, "html body", "", 6, 0, 0},
		{"<p><b></p><iframe>a</iframe>b", `p(b) iframe("a") b("b")`, "html body b", "b", 6, 1, 1},
		{"<p><iframe>", "p(iframe)", "html body p iframe", "", 7, 0, 1},
		{"<noembed>a<b></noembed>b", `noembed("a<b>") "b"`, "html body", "", 6, 0, 0},
		{"<p><b></p><noembed>a</noembed>b", `p(b) noembed("a") b("b")`, "html body b", "b", 6, 1, 1},
		{"<noscript>a<b>", `noscript("a" b)`, "html body noscript b", "b", 6, 0, 1},
		{"<p><b></p><noscript>a", `p(b) b(noscript("a"))`, "html body b noscript", "b", 6, 1, 1},
		{"<textarea/>", "textarea", "html body textarea", "", 7, 1, 1},
	})
}

// P16.2: noscript in InBody with the scripting flag.
func TestInBodyRawWithScripts(t *testing.T) {
	leads(t, place{begin: "<!DOCTYPE html><body>", shell: "<!html> html(head body(%))", scripts: true}, []row{
		{"<noscript>a<b></noscript>b", `noscript("a<b>") "b"`, "html body", "", 6, 0, 0},
		{"<p><b></p><noscript>a</noscript>b", `p(b) noscript("a") b("b")`, "html body b", "b", 6, 1, 1},
		{"<p><noscript>", "p(noscript)", "html body p noscript", "", 7, 0, 1},
	})
}

// P16.2: select in InBody.
func TestInBodySelect(t *testing.T) {
	leads(t, place{begin: "<!DOCTYPE html><body>", shell: "<!html> html(head body(%))"}, []row{
		{"<select>", "select", "html body select", "", 15, 0, 1},
		{"<p><b></p><select>", "p(b) b(select)", "html body b select", "b", 15, 1, 1},
		{"<table><select>", "select table", "html body table select", "", 16, 1, 1},
		{"<table><caption><select>", "table(caption(select))", "html body table caption select", "|", 16, 0, 1},
		{"<table><tbody><select>", "select table(tbody)", "html body table tbody select", "", 16, 1, 1},
		{"<table><tr><select>", "select table(tbody(tr))", "html body table tbody tr select", "", 16, 1, 1},
		{"<table><td><select>", "table(tbody(tr(td(select))))", "html body table tbody tr td select", "|", 16, 1, 1},
		{"<template><select>", "template[select]", "html body template select", "|", 15, 0, 1},
		{"<table><colgroup><select>", "select table(colgroup)", "html body table select", "", 16, 1, 1},
		{"<table><td><div><select>", "table(tbody(tr(td(div(select)))))", "html body table tbody tr td div select", "|", 16, 1, 1},
		{"<option>a<option>b", `option("a") option("b")`, "html body option", "", 6, 0, 0},
		{"<option>a<optgroup>b", `option("a") optgroup("b")`, "html body optgroup", "", 6, 0, 0},
		{"<optgroup><option><optgroup>", "optgroup(option optgroup)", "html body optgroup optgroup", "", 6, 0, 0},
		{"<option><b>a<option>b", `option(b("a" option("b")))`, "html body option b option", "b", 6, 0, 1},
		{"<p><b></p><option>a", `p(b) b(option("a"))`, "html body b option", "b", 6, 1, 1},
		{"<p><b></p><optgroup>a", `p(b) b(optgroup("a"))`, "html body b optgroup", "b", 6, 1, 1},
	})
}

// P16.2: ruby.
func TestInBodyRuby(t *testing.T) {
	leads(t, place{begin: "<!DOCTYPE html><body>", shell: "<!html> html(head body(%))"}, []row{
		{"<ruby>a<rb>b<rb>c", `ruby("a" rb("b") rb("c"))`, "html body ruby rb", "", 6, 0, 1},
		{"<ruby>a<rt>b<rp>c<rt>d", `ruby("a" rt("b") rp("c") rt("d"))`, "html body ruby rt", "", 6, 0, 1},
		{"<ruby>a<rtc>b<rt>c<rp>d", `ruby("a" rtc("b" rt("c") rp("d")))`, "html body ruby rtc rp", "", 6, 0, 1},
		{"<ruby>a<rtc>b<rb>c", `ruby("a" rtc("b") rb("c"))`, "html body ruby rb", "", 6, 0, 1},
		{"<ruby>a<rtc>b<rtc>c", `ruby("a" rtc("b") rtc("c"))`, "html body ruby rtc", "", 6, 0, 1},
		{"<ruby><span>a<rb>b", `ruby(span("a" rb("b")))`, "html body ruby span rb", "", 6, 1, 1},
		{"<ruby><span>a<rt>b", `ruby(span("a" rt("b")))`, "html body ruby span rt", "", 6, 1, 1},
		{"<ruby><p>a<rt>b", `ruby(p("a") rt("b"))`, "html body ruby rt", "", 6, 0, 1},
		{"<rb>a<rt>b", `rb("a" rt("b"))`, "html body rb rt", "", 6, 0, 0},
		{"<rt>a<rp>b<rtc>c", `rt("a" rp("b" rtc("c")))`, "html body rt rp rtc", "", 6, 0, 0},
		{"<ruby><object><rt>", "ruby(object(rt))", "html body ruby object rt", "|", 6, 0, 1},
		{"<ruby><rtc><span><rt>", "ruby(rtc(span(rt)))", "html body ruby rtc span rt", "", 6, 1, 1},
		{"<ruby><rtc><span><rb>", "ruby(rtc(span(rb)))", "html body ruby rtc span rb", "", 6, 1, 1},
	})
}

// P16.2: tags that InBody has no place for, and other ones.
func TestInBodyStray(t *testing.T) {
	leads(t, place{begin: "<!DOCTYPE html><body>", shell: "<!html> html(head body(%))"}, []row{
		{"<caption>a", `"a"`, "html body", "", 6, 1, 0},
		{"<col>", "", "html body", "", 6, 1, 0},
		{"<colgroup>", "", "html body", "", 6, 1, 0},
		{"<frame>", "", "html body", "", 6, 1, 0},
		{"<head>", "", "html body", "", 6, 1, 0},
		{"<tbody>", "", "html body", "", 6, 1, 0},
		{"<td>", "", "html body", "", 6, 1, 0},
		{"<tfoot>", "", "html body", "", 6, 1, 0},
		{"<th>", "", "html body", "", 6, 1, 0},
		{"<thead>", "", "html body", "", 6, 1, 0},
		{"<tr>", "", "html body", "", 6, 1, 0},
		{"<frame/>", "", "html body", "", 6, 2, 0},
		{"<x>a", `x("a")`, "html body x", "", 6, 0, 1},
		{"<x a=1>a</x>b", `x{a=1}("a") "b"`, "html body", "", 6, 0, 0},
		{"<p><b></p><x>a", `p(b) b(x("a"))`, "html body b x", "b", 6, 1, 1},
		{"<x/>", "x", "html body x", "", 6, 1, 1},
		{"<span><x></span>a", `span(x) "a"`, "html body", "", 6, 1, 0},
		{"<x><p></x>a", `x(p("a"))`, "html body x p", "", 6, 1, 1},
		{"<x><span></x>a", `x(span) "a"`, "html body", "", 6, 1, 0},
		{"<x><div></x>a", `x(div("a"))`, "html body x div", "", 6, 1, 1},
		{"</x>", "", "html body", "", 6, 1, 0},
		{"</span>", "", "html body", "", 6, 1, 0},
		{"<x><li></x>a", `x(li("a"))`, "html body x li", "", 6, 1, 1},
		{"<x><x>a</x>b", `x(x("a") "b")`, "html body x", "", 6, 0, 1},
		{"<p><x></p></x>", "p(x)", "html body", "", 6, 2, 0},
		{"</table></td></tr></caption></frameset></select></option>", "", "html body", "", 6, 7, 0},
	})
}

// P16.2: the mode Text.
func TestText(t *testing.T) {
	leads(t, place{begin: "<!DOCTYPE html><body>", shell: "<!html> html(head body(%))"}, []row{
		{"<textarea>", "textarea", "html body textarea", "", 7, 0, 1},
		{"<textarea>a", `textarea("a")`, "html body textarea", "", 7, 0, 1},
		{"<textarea>a</textarea>b", `textarea("a") "b"`, "html body", "", 6, 0, 0},
		{"<iframe><p></iframe>", `iframe("<p>")`, "html body", "", 6, 0, 0},
		{"<script>a</script>b", `script("a") "b"`, "html body", "", 6, 0, 0},
		{"<table><script>a</script>b", `table(script("a"))`, "html body table", "", 9, 0, 2},
		{"<table><style>", "table(style)", "html body table style", "", 7, 0, 2},
	})
}

// P16.2: buttons.
func TestInBodyButtons(t *testing.T) {
	leads(t, place{begin: "<!DOCTYPE html><body>", shell: "<!html> html(head body(%))"}, []row{
		{"<button>a", `button("a")`, "html body button", "", 6, 0, 1},
		{"<button>a<button>b", `button("a") button("b")`, "html body button", "", 6, 1, 1},
		{"<button><p>a<button>b", `button(p("a")) button("b")`, "html body button", "", 6, 1, 1},
		{"<button><span>a<button>b", `button(span("a")) button("b")`, "html body button", "", 6, 1, 1},
		{"<button><object><button>", "button(object(button))", "html body button object button", "|", 6, 0, 1},
		{"<p><b></p><button>a", `p(b) b(button("a"))`, "html body b button", "b", 6, 1, 1},
		{"</button>", "", "html body", "", 6, 1, 0},
		{"<p><button>a</button>b", `p(button("a") "b")`, "html body p", "", 6, 0, 0},
	})
}

// P16.2: each formatting element comes to stand in the list.
func TestFormatIsRebuilt(t *testing.T) {
	leads(t, place{begin: "<!DOCTYPE html><body>", shell: "<!html> html(head body(%))"}, []row{
		{"<p><a></p>x", `p(a) a("x")`, "html body a", "a", 6, 1, 1},
		{"<p><b></p>x", `p(b) b("x")`, "html body b", "b", 6, 1, 1},
		{"<p><big></p>x", `p(big) big("x")`, "html body big", "big", 6, 1, 1},
		{"<p><code></p>x", `p(code) code("x")`, "html body code", "code", 6, 1, 1},
		{"<p><em></p>x", `p(em) em("x")`, "html body em", "em", 6, 1, 1},
		{"<p><font></p>x", `p(font) font("x")`, "html body font", "font", 6, 1, 1},
		{"<p><i></p>x", `p(i) i("x")`, "html body i", "i", 6, 1, 1},
		{"<p><nobr></p>x", `p(nobr) nobr("x")`, "html body nobr", "nobr", 6, 1, 1},
		{"<p><s></p>x", `p(s) s("x")`, "html body s", "s", 6, 1, 1},
		{"<p><small></p>x", `p(small) small("x")`, "html body small", "small", 6, 1, 1},
		{"<p><strike></p>x", `p(strike) strike("x")`, "html body strike", "strike", 6, 1, 1},
		{"<p><strong></p>x", `p(strong) strong("x")`, "html body strong", "strong", 6, 1, 1},
		{"<p><tt></p>x", `p(tt) tt("x")`, "html body tt", "tt", 6, 1, 1},
		{"<p><u></p>x", `p(u) u("x")`, "html body u", "u", 6, 1, 1},
		{"<tt><p>x</tt>", `tt p(tt("x"))`, "html body p", "", 6, 1, 0},
		{"<small><p>x</small>", `small p(small("x"))`, "html body p", "", 6, 1, 0},
	})
}

// P16.2: another end tag closes elements whose end tags may be left out.
func TestAnotherEnd(t *testing.T) {
	leads(t, place{begin: "<!DOCTYPE html><body>", shell: "<!html> html(head body(%))"}, []row{
		{"<x><option>a</x>b", `x(option("a")) "b"`, "html body", "", 6, 0, 0},
		{"<x><optgroup><option>a</x>b", `x(optgroup(option("a"))) "b"`, "html body", "", 6, 0, 0},
		{"<x><option><span>a</x>b", `x(option(span("a"))) "b"`, "html body", "", 6, 1, 0},
		{"<ruby>a<rt>b</ruby>c", `ruby("a" rt("b")) "c"`, "html body", "", 6, 0, 0},
		{"<ruby><rtc><rt>b</ruby>c", `ruby(rtc(rt("b"))) "c"`, "html body", "", 6, 0, 0},
		{"<rt><x>a</rt>b", `rt(x("a")) "b"`, "html body", "", 6, 1, 0},
		{"<option><option>a</option>b", `option option("a") "b"`, "html body", "", 6, 0, 0},
		{"<option><x><option>a</option>b", `option(x(option("a") "b"))`, "html body option x", "", 6, 0, 1},
		{"<b><x></b>a</x>b", `b(x) "ab"`, "html body", "", 6, 2, 0},
	})
}
