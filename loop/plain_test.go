package loop_test

import (
	"hornbeam/api"
	"hornbeam/builder"
	"hornbeam/decode"
	"hornbeam/lexer"
	"hornbeam/node"
	"hornbeam/sniff"
)

// plainLoop is a loop by the chapter's words, and by the simplest means: all bytes are kept and decoded anew with each
// chunk, what waits is one list in which marks are numbers, and line ends are made one by hand.
type plainLoop struct {
	arena   *node.Arena
	scripts [][]api.Act
	ready   int
	tasks   [2][]api.Task
	bytes   []byte
	hint    string
	put     int // how many code points of the bytes went on
	ended   bool
	first   *plainParser
	parser  *plainParser
	errors  []string
	ran     int
	errs    []api.Errno
	seen    map[[2]int]int // how often an act has led to an error
}

type plainParser struct {
	lexer    *lexer.Lexer
	builder  *builder.Builder
	waits    []rune
	marks    []int
	last     rune // the last code point that was fed
	ended    bool
	created  bool
	over     bool
	told     int
	encoding int
}

func newPlain(hint string, scripts [][]api.Act) *plainLoop {
	l := &plainLoop{arena: node.New(), scripts: scripts, hint: hint, seen: map[[2]int]int{}}
	l.first = l.newParser()
	l.parser = l.first
	return l
}

func (l *plainLoop) newParser() *plainParser {
	b, _ := builder.New(l.arena, true)
	return &plainParser{lexer: lexer.New(), builder: b}
}

// post is a task in its queue; kinds are known, and there is room.
func (l *plainLoop) post(x api.Task) {
	source := 0
	if x.What == taskScript {
		source = 1
	}
	l.tasks[source] = append(l.tasks[source], x)
}

func (l *plainLoop) waiting() int { return len(l.tasks[0]) + len(l.tasks[1]) }

func (l *plainLoop) run(pick int) (api.Step, bool) {
	if l.waiting() == 0 {
		return api.Step{}, false
	}
	source := pick & 1
	if len(l.tasks[source]) == 0 {
		source = 1 - source
	}
	x := l.tasks[source][0]
	l.tasks[source] = l.tasks[source][1:]
	l.ran, l.errs = 0, nil
	turn := l.parser == l.first && !l.ended && !l.first.over
	switch {
	case x.What == taskScript:
		for _, x := range x.Acts {
			l.do(x)
		}
	case turn && x.What == taskEnd:
		l.ended = true
		l.more()
	case turn && len(x.Bytes)+l.undecoded() <= maxInput-8:
		l.bytes = append(l.bytes, x.Bytes...)
		l.more()
	}
	return api.Step{Ran: l.ran, Errs: l.errs}, true
}

// undecoded is how many bytes wait for an encoding.
func (l *plainLoop) undecoded() int {
	if len(l.bytes) < maxSniff {
		return len(l.bytes)
	}
	return 0
}

// more leads to the first parser what the bytes that came by now have beyond what went on already.
func (l *plainLoop) more() {
	encoding, mark, sure := sniff.Choose(l.bytes, l.ended, l.hint)
	if !sure {
		return
	}
	p := l.first
	p.encoding = encoding
	d, _ := decode.New(encoding)
	codes, _ := d.Feed(l.bytes[mark:])
	if l.ended {
		rest, _ := d.End()
		codes = append(codes, rest...)
	}
	for _, r := range codes[l.put:] {
		if r != 10 || p.last != 13 {
			p.waits = append(p.waits, plainEnd(r))
		}
		p.last = r
	}
	l.put = len(codes)
	p.ended = l.ended
	l.goOn(p)
}

func plainEnd(r rune) rune {
	if r == 13 {
		return 10
	}
	return r
}

// next is the code point that is to be put; none if there is none yet.
func (p *plainParser) next() (rune, bool) {
	n := len(p.marks)
	switch {
	case p.over || n > 0 && p.marks[n-1] == 0:
		return 0, false
	case len(p.waits) > 0:
		r := p.waits[0]
		p.waits = p.waits[1:]
		for i := range p.marks {
			p.marks[i]--
		}
		return r, true
	}
	return -1, n == 0 && p.ended
}

func (l *plainLoop) goOn(p *plainParser) {
	for r, is := p.next(); is; r, is = p.next() {
		p.lexer.Sections(p.builder.Foreign())
		p.lexer.Put(r)
		l.errors = append(l.errors, p.lexer.Errors()...)
		for _, x := range p.lexer.Tokens() {
			e := p.builder.Token(x)
			for ; p.told < p.builder.Errors(); p.told++ {
				l.errors = append(l.errors, "tree")
			}
			if e == errFull {
				l.errors = append(l.errors, "full")
				p.over = true
				return
			}
			if p.builder.Script() >= 0 {
				l.script(p)
			}
		}
		if state := p.builder.Want(); state >= 0 {
			p.lexer.Set(state)
		}
		p.over = p.over || p.builder.Over()
	}
}

func (l *plainLoop) script(p *plainParser) {
	k := l.ready
	l.ready++
	l.ran++
	if len(p.marks) == maxNest+1 {
		return
	}
	p.marks = append(p.marks, 0)
	if k < len(l.scripts) {
		for _, x := range l.scripts[k] {
			if l.parser == p {
				l.do(x)
			}
		}
	}
	p.marks = p.marks[:len(p.marks)-1]
}

func (l *plainLoop) do(x api.Act) {
	e := l.act(x)
	l.errs = append(l.errs, e)
	l.seen[[2]int{x.What, int(e)}]++
}

func (l *plainLoop) act(x api.Act) api.Errno {
	p := l.parser
	switch {
	case x.What == 8:
		return l.write(x.Text)
	case x.What == 9 && !p.over:
		return errState
	case x.What == 9:
		for _, kid := range l.arena.Kids(0) {
			l.arena.Unlink(kid)
		}
		l.parser = l.newParser()
		l.parser.created, l.parser.marks = true, []int{0}
		return ok
	case x.What == 10 && (!p.created || p.over || len(p.marks) != 1):
		return errState
	case x.What == 10:
		p.created, p.marks, p.ended = false, nil, true
		l.goOn(p)
		return ok
	case x.What == 11 && p.over:
		return errState
	case x.What == 11:
		p.over = true
		return ok
	}
	return plainAct(l.arena, x)
}

func (l *plainLoop) write(s string) api.Errno {
	p := l.parser
	n := len(p.marks)
	if p.over || n == 0 {
		return errState
	}
	codes, _ := decode.Text(utf8, []byte(s))
	if len(codes)+len(p.waits) > maxInput {
		return errFull
	}
	var new []rune
	for i, r := range codes {
		if r != 10 || i == 0 || codes[i-1] != 13 {
			new = append(new, plainEnd(r))
		}
	}
	at := p.marks[n-1]
	p.waits = append(append(append([]rune{}, p.waits[:at]...), new...), p.waits[at:]...)
	for i := range p.marks {
		p.marks[i] += len(new)
	}
	l.goOn(p)
	return ok
}

func (l *plainLoop) state() state {
	p := l.parser
	r := api.Result{Encoding: p.encoding, Mode: p.builder.Quirk(), Errors: append([]string{}, l.errors...)}
	return state{nodesOf(l.arena), r, !p.over, l.ready, l.waiting()}
}
