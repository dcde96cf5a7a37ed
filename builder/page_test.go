package builder_test

import (
	"testing"
)

// P16.2: whole pages.
func TestPages(t *testing.T) {
	leads(t, place{begin: "", shell: "%"}, []row{
		{"<!DOCTYPE html><html lang=en><head><meta charset=utf-8><title>t</title></head><body class=x><h1>a</h1><p>b<p>c<br>d</body></html>", `<!html> html{lang=en}(head(meta{charset=utf-8} title("t")) body{class=x}(h1("a") p("b") p("c" br "d")))`, "html body p", "", 21, 0, 0},
		{"<title>t</title><p>a<b>b<i>c</b>d</i>e", `html(head(title("t")) body(p("a" b("b" i("c")) i("d") "e")))`, "html body p", "", 6, 2, 0},
		{"<!--a--><!DOCTYPE html><!--b--><html><!--c--><head><!--d--></head><!--e--><body><!--f--></body><!--g--></html><!--h-->", "<!--a--> <!html> <!--b--> html(<!--c--> head(<!--d-->) <!--e--> body(<!--f-->) <!--g-->) <!--h-->", "html body", "", 21, 0, 0},
		{"<!DOCTYPE html><table><caption>c</caption><colgroup><col><col></colgroup><thead><tr><th>1<th>2</thead><tfoot><tr><td>3</tfoot><tbody><tr><td>4<td>5<tr><td>6</table>z", `<!html> html(head body(table(caption("c") colgroup(col col) thead(tr(th("1") th("2"))) tfoot(tr(td("3"))) tbody(tr(td("4") td("5")) tr(td("6")))) "z"))`, "html body", "", 6, 0, 0},
		{"<!DOCTYPE html><form><select><optgroup label=1><option>a<option>b</optgroup><option>c</select><input type=text><textarea>\nx</textarea><button>ok</button></form>", `<!html> html(head body(form(select(optgroup{label=1}(option("a") option("b")) option("c")) input{type=text} textarea("x") button("ok"))))`, "html body", "", 6, 0, 0},
		{"<!DOCTYPE html><frameset cols=1><frame src=a><frameset><frame></frameset></frameset><noframes>n</noframes></html><!--z-->", `<!html> html(head frameset{cols=1}(frame{src=a} frameset(frame)) noframes("n")) <!--z-->`, "html", "", 22, 0, 0},
		{"<!DOCTYPE html><dl><dt>a<dd>b<dt>c<dd>d</dl><ul><li>1<ol><li>2</ol><li>3</ul>", `<!html> html(head body(dl(dt("a") dd("b") dt("c") dd("d")) ul(li("1" ol(li("2"))) li("3"))))`, "html body", "", 6, 0, 0},
		{`<!DOCTYPE html><math><mrow><mi>x</mi><mo>=</mo><annotation-xml encoding="text/html"><p>y</p></annotation-xml></mrow></math><svg viewbox="0 0 1 1"><g><path d=z /><foreignObject><div>w</div></foreignObject></g></svg>v`, `<!html> html(head body(math:math(math:mrow(math:mi("x") math:mo("=") math:annotation-xml{encoding=text/html}(p("y")))) svg:svg{viewBox=0 0 1 1}(svg:g(svg:path{d=z} svg:foreignObject(div("w")))) "v"))`, "html body", "", 6, 0, 0},
		{"<!DOCTYPE html><template><td>a</td></template><template><p>b<template><li>c</template></template><div>d</div>", `<!html> html(head(template[td("a")] template[p("b" template[li("c")])]) body(div("d")))`, "html body", "", 6, 0, 0},
		{" \n<p>a</p>\n</body>\n</html>\n", `html(head body(p("a") "\n\n\n"))`, "html body", "", 21, 1, 0},
	})
}
