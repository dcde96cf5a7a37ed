package lexer_test

import (
	"math/rand"
	"slices"
	"testing"

	"hornbeam/lexer"
)

// ways lead to each state of the table: the state from outside, what is put then, and the state that is there behind it.
var ways = []struct {
	from  int
	text  string
	state string
}{
	{inData, "", "Data"}, {inRCDATA, "", "RCDATA"}, {inRAWTEXT, "", "RAWTEXT"}, {inScript, "", "Script"},
	{inPlaintext, "", "Plaintext"}, {inCDATA, "", "CDATA"}, {inData, "a", "Data"}, {inData, "<title>", "Data"},
	{inCDATA, "a]", "CDataBracket"}, {inCDATA, "]]", "CDataEnd"}, {inCDATA, "]]]", "CDataEnd"},
	{inData, "<", "TagOpen"}, {inData, "</", "EndTagOpen"}, {inData, "<b", "TagName"}, {inData, "</B", "TagName"},
	{inRCDATA, "<", "RcLess"}, {inRAWTEXT, "<", "RawLess"}, {inScript, "<", "ScrLess"}, {inScript, "<!--<", "EscLess"},
	{inRCDATA, "</", "RcEndOpen"}, {inRAWTEXT, "</", "RawEndOpen"}, {inScript, "</", "ScrEndOpen"}, {inScript, "<!--</", "EscEndOpen"},
	{inRCDATA, "</title", "RcEndName"}, {inRAWTEXT, "</TITLE", "RawEndName"}, {inScript, "</Title", "ScrEndName"},
	{inScript, "<!--</title", "EscEndName"}, {inRCDATA, "</titl", "RcEndName"}, {inRAWTEXT, "</titles", "RawEndName"},
	{inScript, "</b", "ScrEndName"}, {inScript, "<!--a</b", "EscEndName"},
	{inScript, "<!", "EscStart"}, {inScript, "<!-", "EscStartDash"}, {inScript, "<!--a", "Esc"}, {inScript, "<!--a-", "EscDash"},
	{inScript, "<!--", "EscDashDash"}, {inScript, "<!--a---", "EscDashDash"}, {inScript, "<!--<S", "DblStart"},
	{inScript, "<!--<sCript", "DblStart"}, {inScript, "<!--<script ", "Dbl"}, {inScript, "<!--<script>-", "DblDash"},
	{inScript, "<!--<script/---", "DblDashDash"}, {inScript, "<!--<script><", "DblLess"}, {inScript, "<!--<script></", "DblEnd"},
	{inScript, "<!--<script></Script", "DblEnd"}, {inScript, "<!--<script></x", "DblEnd"},
	{inData, "<b ", "BeforeAttr"}, {inData, "<b c", "AttrName"}, {inData, "</b c d", "AttrName"}, {inData, "<b c=1 d=2 c", "AttrName"},
	{inData, "<b =", "AttrName"}, {inData, "<b c ", "AfterAttr"}, {inData, "<b c=", "BeforeValue"}, {inData, "<b c=\"", "ValueD"},
	{inData, "<b c='", "ValueS"}, {inData, "<b c=d", "ValueU"}, {inData, "<b c=''", "AfterValue"}, {inData, "</b c=\"d\"", "AfterValue"},
	{inData, "<b c d c=e", "ValueU"}, {inData, "<b/", "SelfClose"}, {inData, "</b/", "SelfClose"}, {inData, "</b c/", "SelfClose"},
	{inRCDATA, "</title ", "BeforeAttr"}, {inRAWTEXT, "</title/", "SelfClose"}, {inScript, "<!--</title ", "BeforeAttr"},
	{inData, "<?", "Bogus"}, {inData, "</ ", "Bogus"}, {inData, "<!a", "Bogus"}, {inData, "<!", "Markup"}, {inData, "<!-", "Markup"},
	{inData, "<!d", "Markup"}, {inData, "<!DOCTYP", "Markup"}, {inData, "<![CDATA", "Markup"},
	{inData, "<!--", "ComStart"}, {inData, "<!---", "ComStartDash"}, {inData, "<!--a", "Com"}, {inData, "<!--<", "ComLess"},
	{inData, "<!--a<!", "ComLessBang"}, {inData, "<!--<!-", "ComLessDash"}, {inData, "<!--<!--", "ComLessDashDash"},
	{inData, "<!--a-", "ComEndDash"}, {inData, "<!--a--", "ComEnd"}, {inData, "<!----", "ComEnd"}, {inData, "<!--a--!", "ComEndBang"},
	{inData, "<!doctype", "Doctype"}, {inData, "<!DOCTYPE ", "BeforeDocName"}, {inData, "<!doctype a", "DocName"},
	{inData, "<!doctypea", "DocName"}, {inData, "<!doctype a ", "AfterDocName"}, {inData, "<!doctype a publi", "AfterDocName"},
	{inData, "<!doctype a SYSTE", "AfterDocName"}, {inData, "<!doctype a Public", "AfterPublicKey"},
	{inData, "<!doctype a public ", "BeforePublic"}, {inData, "<!doctype a public\"", "PublicD"}, {inData, "<!doctype a public '", "PublicS"},
	{inData, "<!doctype a public ''", "AfterPublic"}, {inData, "<!doctype a public \"b\" ", "Between"},
	{inData, "<!doctype a system", "AfterSystemKey"}, {inData, "<!doctype a system ", "BeforeSystem"},
	{inData, "<!doctype a system \"", "SystemD"}, {inData, "<!doctype a public '' '", "SystemS"}, {inData, "<!doctype a system ''", "AfterSystem"},
	{inData, "<!doctype a public \"b\"'c'", "AfterSystem"}, {inData, "<!doctype a b", "BogusDoctype"},
	{inData, "&", "Ref"}, {inRCDATA, "&", "Ref"}, {inData, "<b c=&", "Ref"}, {inData, "<b c=\"&", "Ref"}, {inData, "<b c='&", "Ref"},
	{inData, "&a", "Named"}, {inData, "&amp", "Named"}, {inRCDATA, "&noti", "Named"}, {inData, "&su", "Named"},
	{inData, "<b c=&lt", "Named"}, {inData, "<b c=\"&not", "Named"}, {inData, "<b c='&notin", "Named"}, {inData, "<b c='&al", "Named"},
	{inData, "&zz", "Ambiguous"}, {inRCDATA, "&alphax", "Ambiguous"}, {inData, "<b c=&zz", "Ambiguous"}, {inData, "<b c=\"&zz", "Ambiguous"},
	{inData, "&#", "Numeric"}, {inRCDATA, "&#", "Numeric"}, {inData, "<b c=&#", "Numeric"}, {inData, "&#x", "HexStart"},
	{inData, "<b c='&#X", "HexStart"}, {inData, "&#x4", "Hex"}, {inRCDATA, "&#XD80", "Hex"}, {inData, "<b c=&#x1", "Hex"},
	{inData, "&#4", "Dec"}, {inData, "&#12", "Dec"}, {inRCDATA, "&#111410", "Dec"}, {inData, "<b c=\"&#6", "Dec"}, {inData, "<b c='&#6", "Dec"},
}

// signs are all that the table names, letters that begin its words, and others that are easily taken for one of them.
var signs = []rune{
	0, 9, 10, 11, 12, 13, 32, '!', '"', '#', '&', '\'', '-', '/', '0', '1', '9', ';', '<', '=', '>', '?', 'A', 'D', 'E', 'P', 'S', 'X', 'Z',
	'[', ']', '`', '@', '{', 'a', 'd', 'e', 'c', 'f', 'g', 'l', 'm', 'n', 'p', 's', 't', 'x', 'z', ':', 0xA0, 0xC9, 0x130, 0x17F, 0x212A,
	0xD800, 0xDFFF, 0xFFFD, 0x10FFFF,
}

// A follower puts code points to a lexer and to a plain one, and holds what both tell against each other behind each of them.
type follower struct {
	t    *testing.T
	x    *lexer.Lexer
	p    *plain
	from int
	last string
	may  bool
	text []rune
}

func follow(t *testing.T, from int, last string, may bool) *follower {
	f := &follower{t: t, x: lexer.New(), p: newPlain(from, last, may), from: from, last: last, may: may}
	f.x.Set(from)
	f.x.Name(last)
	f.x.Sections(may)
	return f
}

func (f *follower) put(l ...rune) bool {
	for _, c := range l {
		f.text = append(f.text, c)
		e := f.x.Put(c)
		f.p.put(c)
		tokens, errors := f.x.Tokens(), f.x.Errors()
		text := slices.Contains(outside, f.p.state)
		if e != ok || !sameTokens(tokens, f.p.tokens) || !slices.Equal(errors, f.p.errors) || f.x.Text() != text {
			f.t.Errorf("%q %x in %d, last %q, sections %v: %s %q %v, not %s %q %v; %d", string(f.text), f.text, f.from, f.last, f.may,
				shown(tokens), errors, f.x.Text(), shown(f.p.tokens), f.p.errors, text, e)
			return false
		}
		f.p.tokens, f.p.errors = nil, nil
	}
	return true
}

// P9.1: each way leads where it should.
func TestWaysLeadToStates(t *testing.T) {
	states := map[string]bool{}
	for _, w := range ways {
		f := follow(t, w.from, "title", false)
		f.put([]rune(w.text)...)
		if f.p.state != w.state {
			t.Errorf("%q in %d: %s, not %s", w.text, w.from, f.p.state, w.state)
		}
		states[w.state] = true
	}
	for state := range rulesOf {
		if !states[state] && state != "DecStart" { // no code point stays there: the one that leads to it is looked at again in it
			t.Errorf("no way to %s", state)
		}
	}
}

// P9.1: in each state each sign, and each sign behind it, and the end behind none, one and both; each rule of the table is done on the way.
func TestEachStateMeetsEachSign(t *testing.T) {
	seen := map[string]int{}
	finish := func(f *follower) bool {
		good := f.put(end)
		for line, n := range f.p.seen {
			seen[line] += n
		}
		return good
	}
	for _, w := range ways {
		for _, may := range []bool{false, true} {
			f := follow(t, w.from, "title", may)
			if !f.put([]rune(w.text)...) || !finish(f) {
				return
			}
			for _, c := range signs {
				f := follow(t, w.from, "title", may)
				if !f.put([]rune(w.text)...) || !f.put(c) || !finish(f) {
					return
				}
				if may && w.state != "Markup" {
					continue
				}
				for _, d := range signs {
					f := follow(t, w.from, "title", may)
					if !f.put([]rune(w.text)...) || !f.put(c, d) || !finish(f) {
						return
					}
				}
			}
		}
	}
	for _, line := range allRules() {
		if seen[line] == 0 {
			t.Errorf("never done: %s", line)
		}
	}
}

// pieces are parts of which pages are made at random.
var pieces = []string{
	"<", "<", ">", ">", "/", "!", "-", "--", "<!--", "-->", "--!>", "<!", "<!-", "?", "=", "\"", "'", "`", "&", "&amp", "&amp;", "&not", "&notin;",
	"&noti", "&copy", "&zzz", "&zzz;", ";", "#", "&#", "&#x", "&#X", "0", "41", "1", "x", "X", "a", "A", "b", "B", "script", "SCRIPT", "<script",
	"</script", "</Script>", "title", "</title>", "</TITLE ", "</", "<a", "<a b", " b=", " B='", "=\"", "\x00", " ", "\t", "\n", "\f", "\r", "]", "]]",
	"]]>", "<![CDATA[", "<!doctype", "<!DOCTYPE", "<!DocType html", " public", " SYSTEM", "PUBLIC", "public\"", "'x'", "\"y\"", "\u00e9", "\u20ac",
	"&#128;", "&#xD800;", "&#1114112;", "&#99999999999999999999;", "&#13;", "&#xFDD0", "&#x1FFFE;", "&lt=", "&lt;=", "doctype", "[CDATA[",
	"pub", "syst", "&#12a", "&#xag;", "&sup", "&sup1", "&acE;", "&fjlig;", "&thetasym", "\U0001F600",
}

// randomText is a page at random, which begins as some way to a state does. It has code points D800 to DFFF too.
func randomText(random *rand.Rand) (int, []rune) {
	w := ways[random.Intn(len(ways))]
	l := []rune(w.text)
	for range random.Intn(14) {
		l = append(l, []rune(pieces[random.Intn(len(pieces))])...)
		if random.Intn(40) == 0 {
			l = append(l, 0xD800+rune(random.Intn(0x800)))
		}
	}
	return w.from, l
}

// P9.1: pages at random.
func TestRandomPages(t *testing.T) {
	random := rand.New(rand.NewSource(9))
	for range 60000 {
		from, l := randomText(random)
		f := follow(t, from, []string{"", "title", "script", "a", "Title"}[random.Intn(5)], random.Intn(2) == 0)
		if !f.put(l...) || !f.put(end) {
			return
		}
	}
}

// P9.1: the states from outside, the name and the sections are set at random between code points, also in the midst of anything.
func TestRandomSettings(t *testing.T) {
	random := rand.New(rand.NewSource(10))
	names := []string{"", "title", "script", "a", "b"}
	for range 20000 {
		from, l := randomText(random)
		f := follow(t, from, "title", false)
		for _, c := range l {
			if !f.put(c) {
				return
			}
			switch random.Intn(30) {
			case 0:
				state := random.Intn(6)
				f.x.Set(state)
				f.p.state = outside[state]
				f.text = append(f.text, '(', rune('0'+state), ')')
			case 1:
				name := names[random.Intn(5)]
				f.x.Name(name)
				f.p.last = name
				f.text = append(append(f.text, '('), append([]rune(name), ')')...)
			case 2:
				f.p.may = !f.p.may
				f.x.Sections(f.p.may)
				f.text = append(f.text, '(', '?', ')')
			}
		}
		if !f.put(end) {
			return
		}
	}
}
