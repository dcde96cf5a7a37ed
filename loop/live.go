package loop

import (
	"slices"

	"hornbeam/api"
	"hornbeam/node"
	"hornbeam/task"
)

// live is a document that is being parsed, and the scripts that change it meanwhile.
type live struct {
	arena   *node.Arena
	tasks   *task.Queue
	scripts [][]api.Act // the acts of the parser's scripts
	ready   int         // how many scripts were ready
	parser  *parser
	past    []string // the errors of the parsers ahead of this one
	does    map[int]func(x api.Act) api.Errno
	step    api.Step // what the task that is being done has led to so far
}

func newLive(hint string, scripts [][]api.Act) *live {
	l := &live{arena: node.New(), tasks: task.New(), scripts: own(scripts)}
	l.parser = firstParser(l.arena, hint)
	l.does = l.acts()
	return l
}

// own are lists that share no memory with those that were handed in.
func own(scripts [][]api.Act) [][]api.Act {
	lists := make([][]api.Act, len(scripts))
	for k, acts := range scripts {
		lists[k] = append([]api.Act(nil), acts...)
	}
	return lists
}

// run does a task.
func (l *live) run(t api.Task) api.Step {
	ready := l.ready
	switch t.What {
	case api.TaskBytes:
		l.feed(t.Bytes)
	case api.TaskEnd:
		l.end()
	case api.TaskScript:
		for _, x := range t.Acts {
			l.do(x)
		}
	}
	step := l.step
	step.Ran = l.ready - ready
	l.step = api.Step{} // what is answered is not kept
	return step
}

// feed leads bytes to the first parser, if they are still to come to it and it has room for them.
func (l *live) feed(b []byte) {
	p := l.parser
	if p.awaitsBytes() && p.bytes.HasRoom(b, p.input.Len()) {
		p.input.Feed(p.bytes.Feed(b))
		l.goOn(p)
	}
}

func (l *live) end() {
	p := l.parser
	if p.awaitsBytes() {
		p.input.Feed(p.bytes.End())
		p.input.End()
		l.goOn(p)
	}
}

// goOn leads what waits to the tree, as far as it can. A script may stop the parser meanwhile, or have it go on itself
// with what it writes.
func (l *live) goOn(p *parser) {
codes:
	for !p.tree.Over() {
		r, ok := p.input.Next()
		if ok {
			p.tree.Put(r)
		}
		switch {
		case !ok, r == api.EOF: // the input tells EOF as often as it is asked
			break codes
		case p.tree.Script():
			l.script(p)
		}
	}
}

// script does what the next script is bound to, as long as its parser is the loop's.
func (l *live) script(p *parser) {
	acts := l.next()
	if p.input.Mark() != api.OK {
		return
	}
	defer p.input.Unmark()
	for _, x := range acts {
		if l.parser != p {
			return
		}
		l.do(x)
	}
}

// next answers the acts of the script that is ready now. There may be fewer lists than scripts.
func (l *live) next() []api.Act {
	k := l.ready
	l.ready++
	if k >= len(l.scripts) {
		return nil
	}
	acts := l.scripts[k]
	l.scripts[k] = nil // no script has them any more
	return acts
}

func (l *live) parsing() bool {
	return !l.parser.tree.Over()
}

func (l *live) result() api.Result {
	return api.Result{
		Encoding: l.parser.encoding(),
		Mode:     l.parser.tree.Mode(),
		Errors:   append(slices.Clone(l.past), l.parser.tree.Errors()...),
	}
}
