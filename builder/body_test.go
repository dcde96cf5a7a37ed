package builder_test

import (
	"testing"
)

// P16.2: characters, comments and doctypes in InBody.
func TestInBodyChars(t *testing.T) {
	leads(t, place{begin: "<!DOCTYPE html><body>", shell: "<!html> html(head body(%))"}, []row{
		{"", "", "html body", "", 6, 0, 0},
		{"\x00", "", "html body", "", 6, 1, 0},
		{"a\x00b", `"ab"`, "html body", "", 6, 1, 0},
		{"a", `"a"`, "html body", "", 6, 0, 0},
		{" a \t\n\f\r", `" a \t\n\f\r"`, "html body", "", 6, 0, 0},
		{"<!--x-->a<!--y-->", `<!--x--> "a" <!--y-->`, "html body", "", 6, 0, 0},
		{"<!DOCTYPE x>", "", "html body", "", 6, 1, 0},
		{"<p><b>1</p>2", `p(b("1")) b("2")`, "html body b", "b", 6, 1, 1},
		{"<p><b><i>1</p> ", `p(b(i("1"))) b(i(" "))`, "html body b i", "b i", 6, 1, 1},
		{"<p><b>1</p>\x00", `p(b("1"))`, "html body", "b", 6, 2, 0},
	})
}

// P16.2: html, body, and what goes into a head, in InBody.
func TestInBodyPage(t *testing.T) {
	leads(t, place{begin: "<!DOCTYPE html><html lang=1><body id=1>", shell: "<!html> html{lang=1}(head body{id=1}(%))"}, []row{
		{"<html>", "", "html body", "", 6, 1, 0},
		{"<html lang=2>", "", "html body", "", 6, 1, 0},
		{"<body>", "", "html body", "", 6, 1, 0},
		{"<body id=2>", "", "html body", "", 6, 1, 0},
		{"<html/>", "", "html body", "", 6, 2, 0},
		{"<template><html a=1><body b=2></template>", "template", "html body", "", 6, 2, 0},
		{"<base>", "base", "html body", "", 6, 0, 0},
		{"<basefont><bgsound><link/><meta>", "basefont bgsound link meta", "html body", "", 6, 0, 0},
		{"<noframes><p></noframes>", `noframes("<p>")`, "html body", "", 6, 0, 0},
		{"<script>1</script>", `script("1")`, "html body", "", 6, 0, 0},
		{"<style>1</style>", `style("1")`, "html body", "", 6, 0, 0},
		{"<template>", "template", "html body template", "|", 17, 0, 1},
		{"<template>a</template>b", `template["a"] "b"`, "html body", "", 6, 0, 0},
		{"<title>1</title>", `title("1")`, "html body", "", 6, 0, 0},
		{"</template>", "", "html body", "", 6, 1, 0},
	})
}

// P16.2: old elements, by start tags, in InBody.
func TestInBodyOld(t *testing.T) {
	leads(t, place{begin: "<!DOCTYPE html><body>", shell: "<!html> html(head body(%))"}, []row{
		{"<p>a<address>b", `p("a") address("b")`, "html body address", "", 6, 0, 1},
		{"<p>a<article>b", `p("a") article("b")`, "html body article", "", 6, 0, 1},
		{"<p>a<aside>b", `p("a") aside("b")`, "html body aside", "", 6, 0, 1},
		{"<p>a<blockquote>b", `p("a") blockquote("b")`, "html body blockquote", "", 6, 0, 1},
		{"<p>a<center>b", `p("a") center("b")`, "html body center", "", 6, 0, 1},
		{"<p>a<details>b", `p("a") details("b")`, "html body details", "", 6, 0, 1},
		{"<p>a<dialog>b", `p("a") dialog("b")`, "html body dialog", "", 6, 0, 1},
		{"<p>a<dir>b", `p("a") dir("b")`, "html body dir", "", 6, 0, 1},
		{"<p>a<div>b", `p("a") div("b")`, "html body div", "", 6, 0, 1},
		{"<p>a<dl>b", `p("a") dl("b")`, "html body dl", "", 6, 0, 1},
		{"<p>a<fieldset>b", `p("a") fieldset("b")`, "html body fieldset", "", 6, 0, 1},
		{"<p>a<figcaption>b", `p("a") figcaption("b")`, "html body figcaption", "", 6, 0, 1},
		{"<p>a<figure>b", `p("a") figure("b")`, "html body figure", "", 6, 0, 1},
		{"<p>a<footer>b", `p("a") footer("b")`, "html body footer", "", 6, 0, 1},
		{"<p>a<header>b", `p("a") header("b")`, "html body header", "", 6, 0, 1},
		{"<p>a<hgroup>b", `p("a") hgroup("b")`, "html body hgroup", "", 6, 0, 1},
		{"<p>a<main>b", `p("a") main("b")`, "html body main", "", 6, 0, 1},
		{"<p>a<menu>b", `p("a") menu("b")`, "html body menu", "", 6, 0, 1},
		{"<p>a<nav>b", `p("a") nav("b")`, "html body nav", "", 6, 0, 1},
		{"<p>a<ol>b", `p("a") ol("b")`, "html body ol", "", 6, 0, 1},
		{"<p>a<p>b", `p("a") p("b")`, "html body p", "", 6, 0, 0},
		{"<p>a<search>b", `p("a") search("b")`, "html body search", "", 6, 0, 1},
		{"<p>a<section>b", `p("a") section("b")`, "html body section", "", 6, 0, 1},
		{"<p>a<summary>b", `p("a") summary("b")`, "html body summary", "", 6, 0, 1},
		{"<p>a<ul>b", `p("a") ul("b")`, "html body ul", "", 6, 0, 1},
		{"<div a=1>", "div{a=1}", "html body div", "", 6, 0, 1},
		{"<p/>", "p", "html body p", "", 6, 1, 0},
		{"<p><b>a<p>b", `p(b("a")) p(b("b"))`, "html body p b", "b", 6, 1, 1},
		{"<p><span>a<p>b", `p(span("a")) p("b")`, "html body p", "", 6, 1, 0},
		{"<p><button><p>", "p(button(p))", "html body p button p", "", 6, 0, 1},
		{"<p><object><p>", "p(object(p))", "html body p object p", "|", 6, 0, 1},
		{"<p><li><p>", "p li(p)", "html body li p", "", 6, 0, 0},
		{"<p><p>", "p p", "html body p", "", 6, 0, 0},
	})
}

// P16.2: end tags of old elements and of those like them, in InBody.
func TestInBodyOldEnds(t *testing.T) {
	leads(t, place{begin: "<!DOCTYPE html><body>", shell: "<!html> html(head body(%))"}, []row{
		{"<address>a</address>b", `address("a") "b"`, "html body", "", 6, 0, 0},
		{"<article>a</article>b", `article("a") "b"`, "html body", "", 6, 0, 0},
		{"<aside>a</aside>b", `aside("a") "b"`, "html body", "", 6, 0, 0},
		{"<blockquote>a</blockquote>b", `blockquote("a") "b"`, "html body", "", 6, 0, 0},
		{"<center>a</center>b", `center("a") "b"`, "html body", "", 6, 0, 0},
		{"<details>a</details>b", `details("a") "b"`, "html body", "", 6, 0, 0},
		{"<dialog>a</dialog>b", `dialog("a") "b"`, "html body", "", 6, 0, 0},
		{"<dir>a</dir>b", `dir("a") "b"`, "html body", "", 6, 0, 0},
		{"<div>a</div>b", `div("a") "b"`, "html body", "", 6, 0, 0},
		{"<dl>a</dl>b", `dl("a") "b"`, "html body", "", 6, 0, 0},
		{"<fieldset>a</fieldset>b", `fieldset("a") "b"`, "html body", "", 6, 0, 0},
		{"<figcaption>a</figcaption>b", `figcaption("a") "b"`, "html body", "", 6, 0, 0},
		{"<figure>a</figure>b", `figure("a") "b"`, "html body", "", 6, 0, 0},
		{"<footer>a</footer>b", `footer("a") "b"`, "html body", "", 6, 0, 0},
		{"<header>a</header>b", `header("a") "b"`, "html body", "", 6, 0, 0},
		{"<hgroup>a</hgroup>b", `hgroup("a") "b"`, "html body", "", 6, 0, 0},
		{"<main>a</main>b", `main("a") "b"`, "html body", "", 6, 0, 0},
		{"<menu>a</menu>b", `menu("a") "b"`, "html body", "", 6, 0, 0},
		{"<nav>a</nav>b", `nav("a") "b"`, "html body", "", 6, 0, 0},
		{"<ol>a</ol>b", `ol("a") "b"`, "html body", "", 6, 0, 0},
		{"<search>a</search>b", `search("a") "b"`, "html body", "", 6, 0, 0},
		{"<section>a</section>b", `section("a") "b"`, "html body", "", 6, 0, 0},
		{"<summary>a</summary>b", `summary("a") "b"`, "html body", "", 6, 0, 0},
		{"<ul>a</ul>b", `ul("a") "b"`, "html body", "", 6, 0, 0},
		{"<button>a</button>b", `button("a") "b"`, "html body", "", 6, 0, 0},
		{"<listing>a</listing>b", `listing("a") "b"`, "html body", "", 6, 0, 0},
		{"<pre>a</pre>b", `pre("a") "b"`, "html body", "", 6, 0, 0},
		{"<dd>a</dd>b", `dd("a") "b"`, "html body", "", 6, 0, 0},
		{"<dt>a</dt>b", `dt("a") "b"`, "html body", "", 6, 0, 0},
		{"</div></ul></button></pre></dd></dt>", "", "html body", "", 6, 6, 0},
		{"<div><p>a</div>b", `div(p("a")) "b"`, "html body", "", 6, 0, 0},
		{"<div><span>a</div>b", `div(span("a")) "b"`, "html body", "", 6, 1, 0},
		{"<div><li><p><option>a</div>b", `div(li(p(option("a")))) "b"`, "html body", "", 6, 0, 0},
		{"<div><object></div>b", `div(object("b"))`, "html body div object", "|", 6, 1, 1},
		{"<div><table><td></div>b", `div(table(tbody(tr(td("b")))))`, "html body div table tbody tr td", "|", 14, 2, 1},
		{"<dd><p>a</dd>b", `dd(p("a")) "b"`, "html body", "", 6, 0, 0},
		{"<dd><dt>a</dd>b", `dd dt("ab")`, "html body dt", "", 6, 1, 0},
		{"<dt><dd>a</dt>b", `dt dd("ab")`, "html body dd", "", 6, 1, 0},
		{"<div><ul></div>", "div(ul)", "html body", "", 6, 1, 0},
	})
}

// P16.2: headings.
func TestInBodyHeadings(t *testing.T) {
	leads(t, place{begin: "<!DOCTYPE html><body>", shell: "<!html> html(head body(%))"}, []row{
		{"<h1>a</h1><h2>b</h2><h3>c</h3><h4>d</h4><h5>e</h5><h6>f</h6>", `h1("a") h2("b") h3("c") h4("d") h5("e") h6("f")`, "html body", "", 6, 0, 0},
		{"<p><h1>", "p h1", "html body h1", "", 6, 0, 1},
		{"<h1><h2>", "h1 h2", "html body h2", "", 6, 1, 1},
		{"<h1><h1>a", `h1 h1("a")`, "html body h1", "", 6, 1, 1},
		{"<h1><b><h2>", "h1(b(h2))", "html body h1 b h2", "b", 6, 0, 1},
		{"<h1>a</h2>b", `h1("a") "b"`, "html body", "", 6, 1, 0},
		{"<h3>a</h6>b", `h3("a") "b"`, "html body", "", 6, 1, 0},
		{"<h1><p>a</h1>b", `h1(p("a")) "b"`, "html body", "", 6, 0, 0},
		{"<h1><span>a</h1>b", `h1(span("a")) "b"`, "html body", "", 6, 1, 0},
		{"<h1><b>a</h2>b", `h1(b("a")) b("b")`, "html body b", "b", 6, 1, 1},
		{"</h1></h6>", "", "html body", "", 6, 2, 0},
		{"<h1><object></h1>", "h1(object)", "html body h1 object", "|", 6, 1, 1},
		{"<h7>a</h7>", `h7("a")`, "html body", "", 6, 0, 0},
		{"<h1><p><h2>", "h1(p) h2", "html body h2", "", 6, 1, 1},
	})
}

// P16.2: pre and listing.
func TestInBodyPre(t *testing.T) {
	leads(t, place{begin: "<!DOCTYPE html><body>", shell: "<!html> html(head body(%))"}, []row{
		{"<pre>a", `pre("a")`, "html body pre", "", 6, 0, 1},
		{"<pre>\na", `pre("a")`, "html body pre", "", 6, 0, 1},
		{"<pre>\n\na", `pre("\na")`, "html body pre", "", 6, 0, 1},
		{"<pre>a\nb", `pre("a\nb")`, "html body pre", "", 6, 0, 1},
		{"<listing>\na", `listing("a")`, "html body listing", "", 6, 0, 1},
		{"<p><pre>", "p pre", "html body pre", "", 6, 0, 1},
		{"<p><listing a=1>", "p listing{a=1}", "html body listing", "", 6, 0, 1},
		{"<pre><b>\n", `pre(b("\n"))`, "html body pre b", "b", 6, 0, 1},
		{"<pre><!--x-->\n", `pre(<!--x--> "\n")`, "html body pre", "", 6, 0, 1},
		{"<pre></pre>\n", `pre "\n"`, "html body", "", 6, 0, 0},
		{"<pre>\x00\n", `pre("\n")`, "html body pre", "", 6, 1, 1},
		{"<pre> \n", `pre(" \n")`, "html body pre", "", 6, 0, 1},
		{"<pre>\r\n", `pre("\r\n")`, "html body pre", "", 6, 0, 1},
	})
}

// P16.2: forms.
func TestInBodyForms(t *testing.T) {
	leads(t, place{begin: "<!DOCTYPE html><body>", shell: "<!html> html(head body(%))"}, []row{
		{"<form>a", `form("a")`, "html body form", "", 6, 0, 1},
		{"<form a=1>", "form{a=1}", "html body form", "", 6, 0, 1},
		{"<p><form>", "p form", "html body form", "", 6, 0, 1},
		{"<form><form>", "form", "html body form", "", 6, 1, 1},
		{"<form></form><form>", "form form", "html body form", "", 6, 0, 1},
		{"<form>a</form>b", `form("a") "b"`, "html body", "", 6, 0, 0},
		{"</form>", "", "html body", "", 6, 1, 0},
		{"<form></form></form>", "form", "html body", "", 6, 1, 0},
		{"<form><div></form>a", `form(div("a"))`, "html body div", "", 6, 1, 1},
		{"<form><p></form>a", `form(p) "a"`, "html body", "", 6, 0, 0},
		{"<form><li><option></form>a", `form(li(option)) "a"`, "html body", "", 6, 0, 0},
		{"<form><span>a</form>b", `form(span("ab"))`, "html body span", "", 6, 1, 1},
		{"<form><object></form>a", `form(object("a"))`, "html body form object", "|", 6, 1, 1},
		{"<div><form></div></form>a", `div(form) "a"`, "html body", "", 6, 2, 0},
		{"<div><form></div><form>", "div(form)", "html body", "", 6, 2, 0},
		{"<template><form><form></template>", "template[form(form)]", "html body", "", 6, 1, 0},
		{"<form><template><form>", "form(template[form])", "html body form template form", "|", 6, 0, 2},
		{"<template><form>a</form>b", `template[form("a") "b"]`, "html body template", "|", 6, 0, 1},
		{"<template></form>", "template", "html body template", "|", 17, 1, 1},
		{"<template><form><div></form>a", `template[form(div) "a"]`, "html body template", "|", 6, 1, 1},
		{"<template><form></form></form>", "template[form]", "html body template", "|", 6, 1, 1},
		{"<template><form><table></form>", "template[form(table)]", "html body template form table", "|", 8, 2, 1},
		{"<form><template></form>a", `form(template["a"])`, "html body form template", "|", 17, 1, 2},
	})
}

// P16.2: items of lists.
func TestInBodyItems(t *testing.T) {
	leads(t, place{begin: "<!DOCTYPE html><body>", shell: "<!html> html(head body(%))"}, []row{
		{"<li>a<li>b", `li("a") li("b")`, "html body li", "", 6, 0, 0},
		{"<ul><li>a<li>b</ul>c", `ul(li("a") li("b")) "c"`, "html body", "", 6, 0, 0},
		{"<ul><li>a<ul><li>b<li>c", `ul(li("a" ul(li("b") li("c"))))`, "html body ul li ul li", "", 6, 0, 1},
		{"<li><p>a<li>b", `li(p("a")) li("b")`, "html body li", "", 6, 0, 0},
		{"<li><div>a<li>b", `li(div("a")) li("b")`, "html body li", "", 6, 1, 0},
		{"<li><address>a<li>b", `li(address("a")) li("b")`, "html body li", "", 6, 1, 0},
		{"<li><div><p><address>a<li>b", `li(div(p address("a"))) li("b")`, "html body li", "", 6, 1, 0},
		{"<li><span>a<li>b", `li(span("a")) li("b")`, "html body li", "", 6, 1, 0},
		{"<li><section>a<li>b", `li(section("a" li("b")))`, "html body li section li", "", 6, 0, 1},
		{"<li><dd>a<li>b", `li(dd("a" li("b")))`, "html body li dd li", "", 6, 0, 0},
		{"<li><option>a<li>b", `li(option("a")) li("b")`, "html body li", "", 6, 0, 0},
		{"<p><li>", "p li", "html body li", "", 6, 0, 0},
		{"<dd>a<dd>b", `dd("a") dd("b")`, "html body dd", "", 6, 0, 0},
		{"<dd>a<dt>b", `dd("a") dt("b")`, "html body dt", "", 6, 0, 0},
		{"<dt>a<dd>b", `dt("a") dd("b")`, "html body dd", "", 6, 0, 0},
		{"<dl><dt>a<dd>b<dt>c</dl>d", `dl(dt("a") dd("b") dt("c")) "d"`, "html body", "", 6, 0, 0},
		{"<dd><p>a<dt>b", `dd(p("a")) dt("b")`, "html body dt", "", 6, 0, 0},
		{"<dd><span>a<dt>b", `dd(span("a")) dt("b")`, "html body dt", "", 6, 1, 0},
		{"<dd><dl>a<dt>b", `dd(dl("a" dt("b")))`, "html body dd dl dt", "", 6, 0, 1},
		{"<dd><li>a<dd>b", `dd(li("a" dd("b")))`, "html body dd li dd", "", 6, 0, 0},
		{"<dt><div><p>a<dd>b", `dt(div(p("a"))) dd("b")`, "html body dd", "", 6, 1, 0},
		{"<p><dd>", "p dd", "html body dd", "", 6, 0, 0},
		{"<p><dt a=1>", "p dt{a=1}", "html body dt", "", 6, 0, 0},
		{"<li>a</li>b", `li("a") "b"`, "html body", "", 6, 0, 0},
		{"</li>", "", "html body", "", 6, 1, 0},
		{"<ul><li><ul></li>", "ul(li(ul))", "html body ul li ul", "", 6, 1, 1},
		{"<ul><li><ol></ul></li>a", `ul(li(ol)) "a"`, "html body", "", 6, 2, 0},
		{"<li><p>a</li>b", `li(p("a")) "b"`, "html body", "", 6, 0, 0},
		{"<li><li>a</li>b", `li li("a") "b"`, "html body", "", 6, 0, 0},
		{"<li><span>a</li>b", `li(span("a")) "b"`, "html body", "", 6, 1, 0},
		{"<li><dd>a</li>b", `li(dd("a")) "b"`, "html body", "", 6, 0, 0},
		{"<ol></li>", "ol", "html body ol", "", 6, 1, 1},
	})
}

// P16.2: plaintext.
func TestInBodyPlaintext(t *testing.T) {
	leads(t, place{begin: "<!DOCTYPE html><body>", shell: "<!html> html(head body(%))"}, []row{
		{"<plaintext>a</plaintext><b>", `plaintext("a</plaintext><b>")`, "html body plaintext", "", 6, 0, 1},
		{"<p><plaintext>a", `p plaintext("a")`, "html body plaintext", "", 6, 0, 1},
	})
}

// P16.2: the end tag p, br.
func TestInBodyParagraphs(t *testing.T) {
	leads(t, place{begin: "<!DOCTYPE html><body>", shell: "<!html> html(head body(%))"}, []row{
		{"<p>a</p>b", `p("a") "b"`, "html body", "", 6, 0, 0},
		{"</p>a", `p "a"`, "html body", "", 6, 1, 0},
		{"<p><span>a</p>b", `p(span("a")) "b"`, "html body", "", 6, 1, 0},
		{"<p><li>a</p>b", `p li("a" p "b")`, "html body li", "", 6, 1, 0},
		{"<p><button></p>", "p(button(p))", "html body p button", "", 6, 1, 1},
		{"<p><object></p>a", `p(object(p "a"))`, "html body p object", "|", 6, 1, 1},
		{"<div></p>", "div(p)", "html body div", "", 6, 1, 1},
		{"</br>a", `br "a"`, "html body", "", 6, 1, 0},
		{"</br a=1>", "br", "html body", "", 6, 1, 0},
		{"<p><b></p></br>", "p(b) b(br)", "html body b", "b", 6, 2, 1},
	})
}

// P16.2: the end tags body and html in InBody.
func TestInBodyEnd(t *testing.T) {
	leads(t, place{begin: "<!DOCTYPE html><body>", shell: "<!html> html(head body(%))"}, []row{
		{"</body>", "", "html body", "", 18, 0, 0},
		{"</html>", "", "html body", "", 21, 0, 0},
		{"<p>a</body>", `p("a")`, "html body p", "", 18, 0, 0},
		{"<div></body>", "div", "html body div", "", 18, 1, 0},
		{"<div></html>", "div", "html body div", "", 21, 1, 0},
		{"<li><dd><dt><optgroup><option><p></body>", "li(dd dt(optgroup(option(p))))", "html body li dt optgroup option p", "", 18, 0, 0},
		{"<ruby><rb></body>", "ruby(rb)", "html body ruby rb", "", 18, 1, 0},
		{"<rb><rt><rp><rtc></body>", "rb(rt(rp(rtc)))", "html body rb rt rp rtc", "", 18, 0, 0},
		{"<object></body>", "object", "html body object", "|", 6, 1, 1},
		{"<object></html>", "object", "html body object", "|", 6, 1, 1},
		{"<table><td></body>", "table(tbody(tr(td)))", "html body table tbody tr td", "|", 14, 2, 1},
		{"<svg></body>", "svg:svg", "html body svg:svg", "", 18, 2, 0},
		{"<svg></html>", "svg:svg", "html body svg:svg", "", 21, 3, 0},
	})
}

// P16.2: each heading closes a p and another heading.
func TestHeadingsInHeadings(t *testing.T) {
	leads(t, place{begin: "<!DOCTYPE html><body>", shell: "<!html> html(head body(%))"}, []row{
		{"<p><h1><h2>", "p h1 h2", "html body h2", "", 6, 1, 1},
		{"<p><h2><h3>", "p h2 h3", "html body h3", "", 6, 1, 1},
		{"<p><h3><h4>", "p h3 h4", "html body h4", "", 6, 1, 1},
		{"<p><h4><h5>", "p h4 h5", "html body h5", "", 6, 1, 1},
		{"<p><h5><h6>", "p h5 h6", "html body h6", "", 6, 1, 1},
		{"<p><h6><h1>", "p h6 h1", "html body h1", "", 6, 1, 1},
		{"<h1><div>a</h3>b", `h1(div("a")) "b"`, "html body", "", 6, 1, 0},
		{"<h2><div>a</h4>b", `h2(div("a")) "b"`, "html body", "", 6, 1, 0},
		{"<h3><div>a</h5>b", `h3(div("a")) "b"`, "html body", "", 6, 1, 0},
		{"<h4><div>a</h1>b", `h4(div("a")) "b"`, "html body", "", 6, 1, 0},
		{"<h5><div>a</h2>b", `h5(div("a")) "b"`, "html body", "", 6, 1, 0},
		{"<h6><div>a</h6>b", `h6(div("a")) "b"`, "html body", "", 6, 1, 0},
	})
}

// P16.2: end tags that close special elements too.
func TestBlocksInBlocks(t *testing.T) {
	leads(t, place{begin: "<!DOCTYPE html><body>", shell: "<!html> html(head body(%))"}, []row{
		{"<button><div>a</button>b", `button(div("a")) "b"`, "html body", "", 6, 1, 0},
		{"<listing><div>a</listing>b", `listing(div("a")) "b"`, "html body", "", 6, 1, 0},
		{"<pre><div>a</pre>b", `pre(div("a")) "b"`, "html body", "", 6, 1, 0},
		{"<dd><div>a</dd>b", `dd(div("a")) "b"`, "html body", "", 6, 1, 0},
		{"<dt><div>a</dt>b", `dt(div("a")) "b"`, "html body", "", 6, 1, 0},
		{"<ul><div>a</ul>b", `ul(div("a")) "b"`, "html body", "", 6, 1, 0},
		{"<li><div>a</li>b", `li(div("a")) "b"`, "html body", "", 6, 1, 0},
		{"<object><div>a</object>b", `object(div("a")) "b"`, "html body", "", 6, 1, 0},
		{"<x><div>a</x>b", `x(div("ab"))`, "html body x div", "", 6, 1, 1},
		{"<template><select></template>a", `template[select] "a"`, "html body", "", 6, 1, 0},
		{"<table><th><select></select>a", `table(tbody(tr(th(select "a"))))`, "html body table tbody tr th", "|", 14, 1, 1},
		{"<table><td><select></select>a", `table(tbody(tr(td(select "a"))))`, "html body table tbody tr td", "|", 14, 1, 1},
	})
}
