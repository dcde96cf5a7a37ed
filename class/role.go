package class

import "hornbeam/api"

// role is what a node is to the class, whatever it has of its own and wherever it stands.
type role int

const (
	other role = iota // nothing of the class
	document
	html
	head
	title
	body
	holder // an element that has blocks
	paragraph
	span
	text
	comment
	roles // how many there are
)

func roleOf(x api.Node) role {
	switch x.Kind {
	case api.KDocument:
		return document
	case api.KText:
		return text
	case api.KComment:
		return comment
	case api.KElement:
		if x.Space == api.HTML && x.Inner == api.None {
			return roleOfName(x.Name)
		}
	}
	return other
}

func roleOfName(name string) role {
	switch name {
	case "html":
		return html
	case "head":
		return head
	case "title":
		return title
	case "body":
		return body
	case "div", "section", "article", "main", "aside":
		return holder
	case "p":
		return paragraph
	case "span":
		return span
	}
	return other
}

func rolesOf(l []api.Node) []role {
	roles := make([]role, len(l))
	for i, x := range l {
		roles[i] = roleOf(x)
	}
	return roles
}
