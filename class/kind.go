package class

import (
	"slices"

	"hornbeam/api"
)

// kind is a kind of nodes, told by its rules.
type kind struct {
	own  func(x api.Node) bool // may it have these attributes, or data?
	kids func(l []role) bool   // may these be its children?
}

// kindsByRole tells the rules of each role. No node of another role keeps any.
func kindsByRole() [roles]kind {
	inline := each(text, comment, span)
	block := each(text, comment, span, holder, paragraph)
	return [roles]kind{
		other:     {own: never, kids: just()},
		document:  {own: isBare, kids: just(html)},
		html:      {own: isBare, kids: just(head, body)},
		head:      {own: isBare, kids: atMost(title)},
		title:     {own: isBare, kids: atMost(text)},
		body:      {own: hasPlainAttrs, kids: block},
		holder:    {own: hasPlainAttrs, kids: block},
		paragraph: {own: hasPlainAttrs, kids: inline},
		span:      {own: hasPlainAttrs, kids: inline},
		text:      {own: isPlainText, kids: just()},
		comment:   {own: isPlainComment, kids: just()},
	}
}

// just makes the rule that children are of these roles, in that order.
func just(all ...role) func(l []role) bool {
	return func(l []role) bool {
		return slices.Equal(l, all)
	}
}

// atMost makes the rule that there is one child of a role, or none.
func atMost(one role) func(l []role) bool {
	return func(l []role) bool {
		return len(l) == 0 || len(l) == 1 && l[0] == one
	}
}

// each makes the rule that every child is of one of these roles. Two texts side by side would come back as one.
func each(some ...role) func(l []role) bool {
	return func(l []role) bool {
		ahead := other
		for _, r := range l {
			if !slices.Contains(some, r) || r == text && ahead == text {
				return false
			}
			ahead = r
		}
		return true
	}
}
