package lexer_test

import (
	"strings"

	"hornbeam/api"
	"hornbeam/entity"
)

// A rule of the table.
type rule struct {
	line  string
	right bool // the tag must be a right end tag
	is    bool // temp must be script
	fits  []func(c rune) bool
	does  []string
}

var rulesOf = readTable()

// readTable makes rules of the table's lines, for each state of a row its own.
func readTable() map[string][]*rule {
	all := map[string][]*rule{}
	var states []string
	for _, line := range strings.Split(strings.TrimSpace(table), "\n") {
		if line[0] != '\t' {
			states = strings.Split(line, "|")
			continue
		}
		for i, state := range states {
			if r := readRule(line, i, state); r != nil {
				all[state] = append(all[state], r)
			}
		}
	}
	return all
}

// readRule reads a line for the i-th state of its row; nil, if it is not for that one.
func readRule(line string, i int, state string) *rule {
	ask, do, _ := strings.Cut(line, " :")
	r := &rule{line: state + line}
	for _, word := range strings.Fields(ask) {
		switch {
		case word[0] == '@' && word[1:] != state:
			return nil
		case word[0] == '@':
		case word == "right":
			r.right = true
		case word == "isscript":
			r.is = true
		default:
			r.fits = append(r.fits, sign(pick(word, i)))
		}
	}
	for _, word := range strings.Fields(do) {
		r.does = append(r.does, pick(word, i))
	}
	return r
}

// pick is the i-th of a word's parts, with what stands ahead of all of them.
func pick(word string, i int) string {
	head := ""
	for _, x := range []string{"→", "again-"} {
		if strings.HasPrefix(word, x) {
			head, word = x, word[len(x):]
		}
	}
	parts := strings.Split(word, "|")
	return head + parts[i%len(parts)]
}

func digit(c rune) bool  { return strings.ContainsRune("0123456789", c) }
func hex(c rune) bool    { return strings.ContainsRune("0123456789abcdefABCDEF", c) }
func letter(c rune) bool { return c >= 'a' && c <= 'z' || c >= 'A' && c <= 'Z' }
func alnum(c rune) bool  { return letter(c) || digit(c) }

func lower(c rune) rune {
	if c >= 'A' && c <= 'Z' {
		return c + 32
	}
	return c
}

func sign(word string) func(c rune) bool {
	switch word {
	case "else":
		return func(c rune) bool { return true }
	case "blank":
		return func(c rune) bool { return c == 9 || c == 10 || c == 12 || c == 32 }
	case "letter":
		return letter
	case "alnum":
		return alnum
	case "digit":
		return digit
	case "hexdigit":
		return hex
	case "EOF":
		return func(c rune) bool { return c == -1 }
	case "0":
		return func(c rune) bool { return c == 0 }
	case "grave":
		return func(c rune) bool { return c == 96 }
	}
	if len(word) != 1 {
		panic("no sign: " + word)
	}
	return func(c rune) bool { return c == rune(word[0]) }
}

// A plain lexer does what the chapter says, word by word.
type plain struct {
	state, back, last string
	temp              string
	number            int
	may, ended        bool
	made              api.Token // the tag, comment or doctype that is being made
	attr              *api.Attr
	twice             bool
	tokens            []api.Token
	errors            []string
	seen              map[string]int // how often each rule was done
}

var outside = []string{"Data", "RCDATA", "RAWTEXT", "Script", "Plaintext", "CDATA"}

func newPlain(state int, last string, may bool) *plain {
	return &plain{state: outside[state], last: last, may: may, seen: map[string]int{}}
}

func (p *plain) put(c rune) {
	p.ended = p.ended || c == -1
	for {
		before := p.state
		switch {
		case before == "Markup":
			if !p.markup(c) {
				return
			}
		case before == "AfterDocName":
			if !p.afterDocName(c) {
				return
			}
		case before == "Named":
			p.named(c)
			return
		case before == "Hex" || before == "Dec":
			if !p.digits(c) {
				return
			}
		default:
			if !p.rules(c) {
				return
			}
		}
	}
}

// rules does the first rule that fits, and tells whether c is to be looked at again.
func (p *plain) rules(c rune) bool {
	for _, r := range rulesOf[p.state] {
		if r.right && p.made.Name != p.last || r.is && p.temp != "script" {
			continue
		}
		for _, fits := range r.fits {
			if fits(c) {
				p.seen[r.line]++
				return p.do(r.does, c)
			}
		}
	}
	panic("no rule of " + p.state)
}

func (p *plain) do(words []string, c rune) bool {
	state := p.state
	for _, word := range words {
		switch {
		case strings.HasPrefix(word, "E-"):
			p.errors = append(p.errors, word[2:])
		case word == "NUL":
			p.errors = append(p.errors, "unexpected-null-character")
			c = 0xFFFD
		case strings.HasPrefix(word, "→"):
			p.state = word[len("→"):]
		case word == "again-back":
			p.state = p.back
			return true
		case strings.HasPrefix(word, "again-"):
			p.state = word[len("again-"):]
			return true
		case word == "back":
			p.back = state
		case word == "end":
			p.tokens = append(p.tokens, api.Token{Kind: 5})
		case word == "char":
			p.chars(c)
		case strings.HasPrefix(word, "char="):
			p.chars([]rune(word[5:])...)
		case word == "char-temp":
			p.chars([]rune(p.temp)...)
		case word == "put":
			p.puts(c)
		case word == "put-temp":
			p.puts([]rune(p.temp)...)
		default:
			p.make(word, c)
		}
	}
	return false
}

// make does what has to do with what is being made, and with temp.
func (p *plain) make(word string, c rune) {
	head, text, whole := strings.Cut(word, "=")
	if !whole {
		text = string(c)
	}
	switch head {
	case "temp":
		p.temp = text
	case "temp+c":
		p.temp += text
	case "temp+small":
		p.temp += string(lower(c))
	case "number":
		p.number = 0
	case "new-start", "new-end", "new-comment", "new-doctype":
		p.made = api.Token{Kind: map[string]int{"new-start": 1, "new-end": 2, "new-comment": 3, "new-doctype": 0}[head]}
		p.attr = nil
	case "new-attr":
		p.attrDone()
		p.attr = &api.Attr{}
	case "+tag", "+doc":
		p.made.Name += string(lower(c))
	case "+attr":
		p.attr.Name += string(lower(c))
	case "+value":
		p.attr.Value += text
	case "+com", "+public":
		p.made.Data += text
	case "+system":
		p.made.System += text
	case "named":
		for _, a := range p.made.Attrs {
			p.twice = p.twice || a.Name == p.attr.Name
		}
		if p.twice {
			p.errors = append(p.errors, "duplicate-attribute")
		}
	case "self":
		p.made.Self = true
	case "quirks":
		p.made.Quirks = true
	case "has-1", "has-2", "has-4":
		p.made.Has |= int(head[4] - '0')
	case "emit":
		p.tell()
		p.state = "Data"
	case "tell":
		p.tell()
	default:
		panic("no word: " + word)
	}
}

func (p *plain) attrDone() {
	if p.attr != nil && !p.twice {
		p.made.Attrs = append(p.made.Attrs, *p.attr)
	}
	p.attr, p.twice = nil, false
}

func (p *plain) tell() {
	p.attrDone()
	if p.made.Kind == 1 {
		p.last = p.made.Name
	}
	if p.made.Kind == 2 && len(p.made.Attrs) > 0 {
		p.errors = append(p.errors, "end-tag-with-attributes")
	}
	if p.made.Kind == 2 && p.made.Self {
		p.errors = append(p.errors, "end-tag-with-trailing-solidus")
	}
	p.tokens = append(p.tokens, p.made)
	p.made = api.Token{}
}

func (p *plain) chars(l ...rune) {
	for _, c := range l {
		p.tokens = append(p.tokens, api.Token{Kind: 4, Char: c})
	}
}

func (p *plain) inValue() bool { return strings.HasPrefix(p.back, "Value") }

func (p *plain) puts(l ...rune) {
	if !p.inValue() {
		p.chars(l...)
		return
	}
	p.attr.Value += string(l)
}

// begins tells whether one of the words begins with s, which has no letters of another size then.
func begins(s string, words ...string) bool {
	for _, word := range words {
		if strings.HasPrefix(word, s) {
			return true
		}
	}
	return false
}

func asSmall(s string) string { return strings.Map(lower, s) }

func (p *plain) markup(c rune) bool {
	ahead := p.temp
	p.temp += string(c)
	switch {
	case p.temp == "--":
		p.seen["Markup --"]++
		return p.do([]string{"new-comment", "→ComStart"}, c)
	case asSmall(p.temp) == "doctype":
		p.seen["Markup doctype"]++
		return p.do([]string{"→Doctype"}, c)
	case p.temp == "[CDATA[" && p.may:
		p.seen["Markup section"]++
		return p.do([]string{"→CDATA"}, c)
	case p.temp == "[CDATA[":
		p.seen["Markup no section"]++
		return p.do([]string{"E-cdata-in-html-content", "new-comment", "+com=[CDATA[", "→Bogus"}, c)
	case begins(p.temp, "--", "[CDATA[") || begins(asSmall(p.temp), "doctype"):
		p.seen["Markup begins"]++
		return false
	}
	p.seen["Markup else"]++
	p.do([]string{"E-incorrectly-opened-comment", "new-comment", "→Bogus"}, c)
	for _, r := range ahead {
		p.put(r)
	}
	return true
}

func (p *plain) afterDocName(c rune) bool {
	if p.temp == "" {
		switch {
		case sign("blank")(c):
			p.seen["AfterDocName blank"]++
			return false
		case c == '>':
			p.seen["AfterDocName >"]++
			return p.do([]string{"emit"}, c)
		case c == -1:
			p.seen["AfterDocName EOF"]++
			return p.do([]string{"E-eof-in-doctype", "quirks", "tell", "end"}, c)
		}
	}
	p.temp += string(c)
	switch word := asSmall(p.temp); {
	case word == "public":
		p.seen["AfterDocName public"]++
		return p.do([]string{"→AfterPublicKey"}, c)
	case word == "system":
		p.seen["AfterDocName system"]++
		return p.do([]string{"→AfterSystemKey"}, c)
	case begins(word, "public", "system"):
		p.seen["AfterDocName begins"]++
		return false
	}
	p.seen["AfterDocName else"]++
	return p.do([]string{"E-invalid-character-sequence-after-doctype-name", "quirks", "again-BogusDoctype"}, c)
}

// named does all that the chapter's paragraph says, with c too.
func (p *plain) named(c rune) {
	rest := []rune{c}
	if (alnum(c) || c == ';') && entity.Begins(p.temp+string(c)) {
		p.temp += string(c)
		if c != ';' {
			p.seen["Named goes on"]++
			return
		}
		rest = nil
	}
	name, points := entity.Longest(p.temp)
	rest = append([]rune(p.temp[len(name):]), rest...)
	closed := strings.HasSuffix(name, ";")
	switch {
	case name == "":
		p.seen["Named nothing"]++
		p.puts('&')
		p.state = "Ambiguous"
	case p.inValue() && !closed && (rest[0] == '=' || alnum(rest[0])):
		p.seen["Named as it is"]++
		p.puts([]rune("&" + name)...)
		p.state = p.back
	default:
		if closed {
			p.seen["Named whole"]++
		} else {
			p.seen["Named without ;"]++
			p.errors = append(p.errors, "missing-semicolon-after-character-reference")
		}
		p.puts(points...)
		p.state = p.back
	}
	for _, r := range rest {
		p.put(r)
	}
}

func (p *plain) digits(c rune) bool {
	base, is := 10, digit(c)
	if p.state == "Hex" {
		base, is = 16, hex(c)
	}
	if is {
		p.seen[p.state+" digit"]++
		p.number = min(p.number*base+strings.IndexRune("0123456789abcdef", lower(c)), 0x110000)
		return false
	}
	if c == ';' {
		p.seen[p.state+" ;"]++
	} else {
		p.seen[p.state+" else"]++
		p.errors = append(p.errors, "missing-semicolon-after-character-reference")
	}
	point, fault := entity.Number(p.number)
	if fault != "" {
		p.errors = append(p.errors, fault)
	}
	p.puts(point)
	p.state = p.back
	return c != ';'
}

// allRules are the lines of all rules, those in code too.
func allRules() []string {
	all := []string{
		"Markup --", "Markup doctype", "Markup section", "Markup no section", "Markup begins", "Markup else",
		"AfterDocName blank", "AfterDocName >", "AfterDocName EOF", "AfterDocName public", "AfterDocName system", "AfterDocName begins",
		"AfterDocName else", "Named goes on", "Named nothing", "Named as it is", "Named whole", "Named without ;",
		"Hex digit", "Hex ;", "Hex else", "Dec digit", "Dec ;", "Dec else",
	}
	for _, l := range rulesOf {
		for _, r := range l {
			all = append(all, r.line)
		}
	}
	return all
}
