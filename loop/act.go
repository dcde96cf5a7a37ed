package loop

import (
	"hornbeam/api"
	"hornbeam/decode"
	"hornbeam/edit"
)

// document is the number of every arena's document.
const document = 0

// do does an act, and notes its error when it has ended: an act that was done within it stands ahead of it.
func (l *live) do(x api.Act) {
	e := api.ErrArg
	if act, is := l.does[x.What]; is {
		e = act(x)
	}
	l.step.Errs = append(l.step.Errs, e)
}

// acts makes the map of what scripts can do.
func (l *live) acts() map[int]func(x api.Act) api.Errno {
	return map[int]func(x api.Act) api.Errno{
		api.DoAppend: l.appendNode,
		api.DoBefore: l.before,
		api.DoRemove: l.remove,
		api.DoText:   l.text,
		api.DoElem:   l.element,
		api.DoAttr:   l.attribute,
		api.DoUnattr: l.unattribute,
		api.DoData:   l.data,
		api.DoWrite:  l.write,
		api.DoOpen:   l.open,
		api.DoClose:  l.close,
		api.DoAbort:  l.abort,
	}
}

func (l *live) appendNode(x api.Act) api.Errno {
	return edit.Insert(l.arena, x.A, x.B, api.None)
}

func (l *live) before(x api.Act) api.Errno {
	return edit.Insert(l.arena, x.A, x.B, x.C)
}

func (l *live) remove(x api.Act) api.Errno {
	return edit.Remove(l.arena, x.A)
}

func (l *live) text(x api.Act) api.Errno {
	_, e := edit.AddText(l.arena, x.Text, x.B)
	return e
}

func (l *live) element(x api.Act) api.Errno {
	_, e := edit.AddElement(l.arena, x.Text, x.B)
	return e
}

func (l *live) attribute(x api.Act) api.Errno {
	return edit.SetAttr(l.arena, x.A, x.Text, x.More)
}

func (l *live) unattribute(x api.Act) api.Errno {
	return edit.DelAttr(l.arena, x.A, x.Text)
}

func (l *live) data(x api.Act) api.Errno {
	return edit.SetData(l.arena, x.A, x.Text)
}

// write puts a text in where the script stands, and has the parser read it.
func (l *live) write(x api.Act) api.Errno {
	p := l.parser
	if !l.parsing() || p.input.Marks() == 0 {
		return api.ErrState
	}
	codes, _ := decode.Text(api.EncUTF8, []byte(x.Text))
	if e := p.input.Write(codes); e != api.OK {
		return e
	}
	l.goOn(p)
	return api.OK
}

// open begins the document anew, with a parser of what will be written.
func (l *live) open(x api.Act) api.Errno {
	if l.parsing() {
		return api.ErrState
	}
	for _, kid := range l.arena.Kids(document) {
		l.arena.Unlink(kid)
	}
	l.past = append(l.past, l.parser.tree.Errors()...)
	l.parser = createdParser(l.arena)
	return api.OK
}

// close ends what scripts write. Only the mark that the parser was created with may be there: a script of the parser's
// own has one more.
func (l *live) close(x api.Act) api.Errno {
	p := l.parser
	if !p.created || !l.parsing() || p.input.Marks() != 1 {
		return api.ErrState
	}
	p.created = false
	p.input.Unmark()
	p.input.End()
	l.goOn(p)
	return api.OK
}

func (l *live) abort(x api.Act) api.Errno {
	if !l.parsing() {
		return api.ErrState
	}
	l.parser.stop()
	return api.OK
}
