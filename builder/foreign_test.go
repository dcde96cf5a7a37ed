package builder_test

import (
	"testing"
)

// P16.2: math and svg in InBody.
func TestInBodyForeign(t *testing.T) {
	leads(t, place{begin: "<!DOCTYPE html><body>", shell: "<!html> html(head body(%))"}, []row{
		{"<math>a", `math:math("a")`, "html body math:math", "", 6, 0, 1},
		{"<svg>a", `svg:svg("a")`, "html body svg:svg", "", 6, 0, 1},
		{"<math definitionurl=1 viewbox=2 xlink:href=3 a=4>", "math:math{definitionURL=1 viewbox=2 xlink href=3 a=4}", "html body math:math", "", 6, 0, 1},
		{"<svg definitionurl=1 viewbox=2 xml:lang=3 xmlns=4>", "svg:svg{definitionurl=1 viewBox=2 xml lang=3 xmlns xmlns=4}", "html body svg:svg", "", 6, 0, 1},
		{"<math/>a", `math:math "a"`, "html body", "", 6, 0, 0},
		{"<svg/>a", `svg:svg "a"`, "html body", "", 6, 0, 0},
		{"<p><b></p><svg>a", `p(b) b(svg:svg("a"))`, "html body b svg:svg", "b", 6, 1, 1},
		{"<p><b></p><math/>a", `p(b) b(math:math "a")`, "html body b", "b", 6, 1, 1},
	})
}

// P16.2: foreign content.
func TestForeign(t *testing.T) {
	leads(t, place{begin: "<!DOCTYPE html><body>", shell: "<!html> html(head body(%))"}, []row{
		{"<svg>a", `svg:svg("a")`, "html body svg:svg", "", 6, 0, 1},
		{"<svg>\x00a", `svg:svg("�a")`, "html body svg:svg", "", 6, 1, 1},
		{"<svg> ", `svg:svg(" ")`, "html body svg:svg", "", 6, 0, 1},
		{"<svg><!--x-->", "svg:svg(<!--x-->)", "html body svg:svg", "", 6, 0, 1},
		{"<svg><!DOCTYPE html>", "svg:svg", "html body svg:svg", "", 6, 1, 1},
		{"<svg><g>a", `svg:svg(svg:g("a"))`, "html body svg:svg svg:g", "", 6, 0, 1},
		{"<svg><lineargradient viewbox=1 xlink:href=2 definitionurl=3>", "svg:svg(svg:linearGradient{viewBox=1 xlink href=2 definitionurl=3})", "html body svg:svg svg:linearGradient", "", 6, 0, 1},
		{"<math><lineargradient viewbox=1 xlink:href=2 definitionurl=3>", "math:math(math:lineargradient{viewbox=1 xlink href=2 definitionURL=3})", "html body math:math math:lineargradient", "", 6, 0, 1},
		{"<svg><g/>a", `svg:svg(svg:g "a")`, "html body svg:svg", "", 6, 0, 1},
		{"<math><mi/>a", `math:math(math:mi "a")`, "html body math:math", "", 6, 0, 1},
		{"<svg><foreignobject/>a", `svg:svg(svg:foreignObject "a")`, "html body svg:svg", "", 6, 0, 1},
		{"<svg><g>a</g>b", `svg:svg(svg:g("a") "b")`, "html body svg:svg", "", 6, 0, 1},
		{"<svg><g>a</svg>b", `svg:svg(svg:g("a")) "b"`, "html body", "", 6, 1, 0},
		{"<svg><linearGradient>a</lineargradient>b", `svg:svg(svg:linearGradient("a") "b")`, "html body svg:svg", "", 6, 0, 1},
		{"<svg><linearGradient>a</LINEARGRADIENT>b", `svg:svg(svg:linearGradient("a") "b")`, "html body svg:svg", "", 6, 0, 1},
		{"<svg><g></x>a", `svg:svg(svg:g("a"))`, "html body svg:svg svg:g", "", 6, 2, 1},
		{"<svg></x>a", `svg:svg("a")`, "html body svg:svg", "", 6, 2, 1},
		{"<svg><g><a></g>b", `svg:svg(svg:g(svg:a) "b")`, "html body svg:svg", "", 6, 1, 1},
		{"<svg><g></a>b", `svg:svg(svg:g("b"))`, "html body svg:svg svg:g", "", 6, 2, 1},
		{"<svg></svg>a", `svg:svg "a"`, "html body", "", 6, 0, 0},
		{"<math><mi></math>a", `math:math(math:mi) "a"`, "html body", "", 6, 1, 0},
		{"<div><svg></div>a", `div(svg:svg) "a"`, "html body", "", 6, 2, 0},
		{"<p><svg></p>a", `p(svg:svg) "a"`, "html body", "", 6, 1, 0},
		{"<svg></br>a", `svg:svg br "a"`, "html body", "", 6, 2, 0},
		{"<p><svg><g></p>a", `p(svg:svg(svg:g)) "a"`, "html body", "", 6, 1, 0},
		{"<svg><g></div>a", `svg:svg(svg:g("a"))`, "html body svg:svg svg:g", "", 6, 2, 1},
		{"<table><td><svg></td>", "table(tbody(tr(td(svg:svg))))", "html body table tbody tr", "", 13, 3, 1},
		{"<table><td><svg><g></table>a", `table(tbody(tr(td(svg:svg(svg:g))))) "a"`, "html body", "", 6, 3, 0},
		{"<table><svg></table>", "svg:svg table", "html body", "", 6, 2, 0},
		{"<svg><script>a</script>b", `svg:svg(svg:script("a") "b")`, "html body svg:svg", "", 6, 0, 1},
		{"<svg><title></svg>a", `svg:svg(svg:title) "a"`, "html body", "", 6, 1, 0},
		{"<svg><desc></p>a", `svg:svg(svg:desc(p "a"))`, "html body svg:svg svg:desc", "", 6, 2, 1},
		{"<svg><desc></br>a", `svg:svg(svg:desc(br "a"))`, "html body svg:svg svg:desc", "", 6, 2, 1},
		{"<svg><desc></desc>a", `svg:svg(svg:desc "a")`, "html body svg:svg", "", 6, 0, 1},
		{"<svg><desc><p></desc>a", `svg:svg(svg:desc(p("a")))`, "html body svg:svg svg:desc p", "", 6, 1, 1},
		{"<svg><desc><g></desc>a", `svg:svg(svg:desc(g("a")))`, "html body svg:svg svg:desc g", "", 6, 1, 1},
		{"<svg><p/>", "svg:svg p", "html body p", "", 6, 2, 0},
	})
}

// P16.2: tags that lead out of foreign content.
func TestForeignBreaks(t *testing.T) {
	leads(t, place{begin: "<!DOCTYPE html><body>", shell: "<!html> html(head body(%))"}, []row{
		{"<svg><g><b>a", `svg:svg(svg:g) b("a")`, "html body b", "b", 6, 1, 1},
		{"<svg><big>a", `svg:svg big("a")`, "html body big", "big", 6, 1, 1},
		{"<math><x><p>a", `math:math(math:x) p("a")`, "html body p", "", 6, 1, 0},
		{"<math><mi><x><p>a", `math:math(math:mi(x(p("a"))))`, "html body math:math math:mi x p", "", 6, 0, 1},
		{"<svg><desc><svg><g><p>a", `svg:svg(svg:desc(svg:svg(svg:g) p("a")))`, "html body svg:svg svg:desc p", "", 6, 1, 1},
		{"<math><annotation-xml encoding=text/html><svg><p>a", `math:math(math:annotation-xml{encoding=text/html}(svg:svg p("a")))`, "html body math:math math:annotation-xml p", "", 6, 1, 1},
		{"<math><annotation-xml><x><p>a", `math:math(math:annotation-xml(math:x)) p("a")`, "html body p", "", 6, 1, 0},
		{"<svg><font>a", `svg:svg(svg:font("a"))`, "html body svg:svg svg:font", "", 6, 0, 1},
		{"<svg><font a=1>a", `svg:svg(svg:font{a=1}("a"))`, "html body svg:svg svg:font", "", 6, 0, 1},
		{"<svg><font size=1>a", `svg:svg font{size=1}("a")`, "html body font", "font", 6, 1, 1},
		{"<svg><font face=1>a", `svg:svg font{face=1}("a")`, "html body font", "font", 6, 1, 1},
		{"<svg><font color=1>a", `svg:svg font{color=1}("a")`, "html body font", "font", 6, 1, 1},
		{"<svg><table><td>a", `svg:svg table(tbody(tr(td("a"))))`, "html body table tbody tr td", "|", 14, 2, 1},
		{"<p><svg><p>a", `p(svg:svg) p("a")`, "html body p", "", 6, 1, 0},
		{"<svg><g></font>a", `svg:svg(svg:g("a"))`, "html body svg:svg svg:g", "", 6, 2, 1},
		{"<svg><ruby>a", `svg:svg ruby("a")`, "html body ruby", "", 6, 1, 1},
		{"<svg><body>", "svg:svg", "html body", "", 6, 2, 0},
		{"<svg><head>", "svg:svg", "html body", "", 6, 2, 0},
		{"<svg><span><svg>a", `svg:svg span(svg:svg("a"))`, "html body span svg:svg", "", 6, 1, 1},
	})
}

// P16.2: which rules: text points, annotation-xml and svg, HTML points.
func TestWhichRules(t *testing.T) {
	leads(t, place{begin: "<!DOCTYPE html><body>", shell: "<!html> html(head body(%))"}, []row{
		{"<math><mi>a", `math:math(math:mi("a"))`, "html body math:math math:mi", "", 6, 0, 1},
		{"<math><mi>\x00a", `math:math(math:mi("a"))`, "html body math:math math:mi", "", 6, 1, 1},
		{"<math><mo><b>a", `math:math(math:mo(b("a")))`, "html body math:math math:mo b", "b", 6, 0, 1},
		{"<math><mn><x>a", `math:math(math:mn(x("a")))`, "html body math:math math:mn x", "", 6, 0, 1},
		{"<math><ms><x/>a", `math:math(math:ms(x("a")))`, "html body math:math math:ms x", "", 6, 1, 1},
		{"<math><mtext><p>a", `math:math(math:mtext(p("a")))`, "html body math:math math:mtext p", "", 6, 0, 1},
		{"<math><mi><mglyph>a", `math:math(math:mi(math:mglyph("a")))`, "html body math:math math:mi math:mglyph", "", 6, 0, 1},
		{"<math><mi><malignmark>a", `math:math(math:mi(math:malignmark("a")))`, "html body math:math math:mi math:malignmark", "", 6, 0, 1},
		{"<math><mi><mglyph/>a", `math:math(math:mi(math:mglyph "a"))`, "html body math:math math:mi", "", 6, 0, 1},
		{"<math><mo><svg>a", `math:math(math:mo(svg:svg("a")))`, "html body math:math math:mo svg:svg", "", 6, 0, 1},
		{"<math><mi></x>a", `math:math(math:mi("a"))`, "html body math:math math:mi", "", 6, 2, 1},
		{"<math><mi><!--x-->", "math:math(math:mi(<!--x-->))", "html body math:math math:mi", "", 6, 0, 1},
		{"<math><mi><!DOCTYPE x>", "math:math(math:mi)", "html body math:math math:mi", "", 6, 1, 1},
		{"<math><x><mglyph>a", `math:math(math:x(math:mglyph("a")))`, "html body math:math math:x math:mglyph", "", 6, 0, 1},
		{"<math><annotation-xml><svg>a", `math:math(math:annotation-xml(svg:svg("a")))`, "html body math:math math:annotation-xml svg:svg", "", 6, 0, 1},
		{"<math><annotation-xml><svg/>a", `math:math(math:annotation-xml(svg:svg "a"))`, "html body math:math math:annotation-xml", "", 6, 0, 1},
		{"<math><annotation-xml><x>a", `math:math(math:annotation-xml(math:x("a")))`, "html body math:math math:annotation-xml math:x", "", 6, 0, 1},
		{"<math><annotation-xml>\x00a", `math:math(math:annotation-xml("�a"))`, "html body math:math math:annotation-xml", "", 6, 1, 1},
		{"<math><annotation-xml><p>a", `math:math(math:annotation-xml) p("a")`, "html body p", "", 6, 1, 0},
		{"<math><annotation-xml encoding=text/html><x>a", `math:math(math:annotation-xml{encoding=text/html}(x("a")))`, "html body math:math math:annotation-xml x", "", 6, 0, 1},
		{"<math><annotation-xml encoding=TEXT/html>\x00<p>a", `math:math(math:annotation-xml{encoding=TEXT/html}(p("a")))`, "html body math:math math:annotation-xml p", "", 6, 1, 1},
		{"<math><annotation-xml encoding=application/xhtml+xml><mglyph>a", `math:math(math:annotation-xml{encoding=application/xhtml+xml}(mglyph("a")))`, "html body math:math math:annotation-xml mglyph", "", 6, 0, 1},
		{"<math><annotation-xml encoding=x><x>a", `math:math(math:annotation-xml{encoding=x}(math:x("a")))`, "html body math:math math:annotation-xml math:x", "", 6, 0, 1},
		{"<math><annotation-xml encoding=text/html></x>a", `math:math(math:annotation-xml{encoding=text/html}("a"))`, "html body math:math math:annotation-xml", "", 6, 2, 1},
		{"<svg><annotation-xml encoding=text/html><x>a", `svg:svg(svg:annotation-xml{encoding=text/html}(svg:x("a")))`, "html body svg:svg svg:annotation-xml svg:x", "", 6, 0, 1},
		{"<svg><foreignobject><x>a", `svg:svg(svg:foreignObject(x("a")))`, "html body svg:svg svg:foreignObject x", "", 6, 0, 1},
		{"<svg><foreignObject>\x00<p>a", `svg:svg(svg:foreignObject(p("a")))`, "html body svg:svg svg:foreignObject p", "", 6, 1, 1},
		{"<svg><desc><x>a", `svg:svg(svg:desc(x("a")))`, "html body svg:svg svg:desc x", "", 6, 0, 1},
		{"<svg><title><x>a", `svg:svg(svg:title(x("a")))`, "html body svg:svg svg:title x", "", 6, 0, 1},
		{"<svg><title>a</title>b", `svg:svg(svg:title("a") "b")`, "html body svg:svg", "", 6, 0, 1},
		{"<svg><desc><mglyph>a", `svg:svg(svg:desc(mglyph("a")))`, "html body svg:svg svg:desc mglyph", "", 6, 0, 1},
		{"<svg><mi><x>a", `svg:svg(svg:mi(svg:x("a")))`, "html body svg:svg svg:mi svg:x", "", 6, 0, 1},
		{"<math><foreignObject><x>a", `math:math(math:foreignobject(math:x("a")))`, "html body math:math math:foreignobject math:x", "", 6, 0, 1},
		{"<math><desc><x>", "math:math(math:desc(math:x))", "html body math:math math:desc math:x", "", 6, 0, 1},
		{"<svg><desc></x>a", `svg:svg(svg:desc("a"))`, "html body svg:svg svg:desc", "", 6, 2, 1},
		{"<svg><desc><!--x-->", "svg:svg(svg:desc(<!--x-->))", "html body svg:svg svg:desc", "", 6, 0, 1},
		{"<svg><desc><svg><x>", "svg:svg(svg:desc(svg:svg(svg:x)))", "html body svg:svg svg:desc svg:svg svg:x", "", 6, 0, 1},
		{"<svg><desc><math><x>", "svg:svg(svg:desc(math:math(math:x)))", "html body svg:svg svg:desc math:math math:x", "", 6, 0, 1},
		{"<svg><desc><table><tr><td>a", `svg:svg(svg:desc(table(tbody(tr(td("a"))))))`, "html body svg:svg svg:desc table tbody tr td", "|", 14, 0, 1},
		{"<svg><desc><template><td>a</template>b", `svg:svg(svg:desc(template[td("a")] "b"))`, "html body svg:svg svg:desc", "|", 6, 0, 1},
		{"<table><tr><td><svg><desc><select></td>a", "table(tbody(tr(td(svg:svg(svg:desc(select))))))", "html body table tbody tr", "", 9, 3, 2},
		{"<math><mi><table><tr>a<td>b", `math:math(math:mi("a" table(tbody(tr(td("b"))))))`, "html body math:math math:mi table tbody tr td", "|", 14, 1, 1},
	})
}
