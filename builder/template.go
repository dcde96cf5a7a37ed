package builder

import (
	"hornbeam/api"
)

func (b *tree) openTemplate(t api.Token) {
	b.put(t)
	b.list.Mark()
	b.framesOff = true
	b.templates = append(b.templates, api.MInTemplate)
	b.mode = api.MInTemplate
}

func (b *tree) closeTemplate() {
	if !b.templateThere() {
		b.wrong()
		return
	}
	b.open.Thorough()
	if !b.isTop("template") {
		b.wrong()
	}
	b.templateEnds()
}

func (b *tree) templateEnds() {
	b.open.PopTo("template")
	b.list.Clear()
	if n := len(b.templates); n > 0 {
		b.templates = b.templates[:n-1]
	}
	b.reset()
}

func (b *tree) inTemplate(t api.Token) verdict {
	switch t.Kind {
	case api.TChar, api.TComment, api.TDoctype:
		return b.inBody(t)
	case api.TStart:
		if isMeta(t.Name) {
			return b.inHead(t)
		}
		b.setTemplateMode(contentsMode(t.Name))
		return again
	case api.TEnd:
		if t.Name == "template" {
			return b.inHead(t)
		}
		b.wrong()
		return done
	}
	if !b.templateThere() {
		b.stop()
		return done
	}
	b.wrong()
	b.templateEnds()
	return again
}

// setTemplateMode gives the last template another mode.
func (b *tree) setTemplateMode(mode int) {
	if n := len(b.templates); n > 0 {
		b.templates[n-1] = mode
	}
	b.mode = mode
}

// contentsMode is the mode of a template whose contents begin with a start tag.
func contentsMode(name string) int {
	switch name {
	case "caption", "colgroup", "tbody", "tfoot", "thead":
		return api.MInTable
	case "col":
		return api.MInColgroup
	case "tr":
		return api.MInTbody
	case "td", "th":
		return api.MInRow
	}
	return api.MInBody
}
