package lexer_test

import (
	"math/rand"
	"slices"
	"strings"
	"testing"

	"hornbeam/api"
	"hornbeam/lexer"
)

// P9.1: what New answers.
func TestNew(t *testing.T) {
	x := lexer.New()
	if x == nil {
		t.Fatal("nil")
	}
	isText(t, x, true)
	tells(t, x, "", "")
	puts(t, x, "<b>&amp;")
	tells(t, x, `[b] "&"`, "")

	x = lexer.New() // there may be no sections
	puts(t, x, "<![CDATA[a>")
	tells(t, x, `{[CDATA[a}`, noSection)

	x = lexer.New() // there was no start tag
	gives(t, "Set", x.Set(inRCDATA), ok)
	puts(t, x, "</b>")
	tells(t, x, `"</b>"`, "")
}

// P9.1: what is told behind each code point, and that it is told once.
func TestWhenThingsAreTold(t *testing.T) {
	for _, c := range []struct {
		state int
		steps string // behind each code point, or ~ for the end, what is told, in brackets, if anything is
	}{
		{inData, `a("a")b("b")`},
		{inData, `<A b=1>([a b="1"])x("x")~(.)`},
		{inData, `<1("<1" wrongFirst)`},
		{inData, `&amp;("&")&amp-("&-" noSemicolon)`},
		{inData, `&noti-("¬i-" noSemicolon)`},
		{inData, `&zz("&zz")z("z");(";" unknown)`},
		{inData, `&#65;("A")&#6-(` + "\"\\x06-\"" + ` noSemicolon control)`},
		{inData, `<!--a-->({a})`},
		{inData, `<!--a~({a} . eofInComment)`},
		{inData, `<!d-( opened)>({d-})`},
		{inData, `<!doctype a>(!a|-|-!)`},
		{inData, `<!doctype a b( wrongWord)>(!a|-|-?!)`},
		{inData, `<a b"( inName)b b"( inName)b ( duplicate)>([a b"b=""])`},
		{inData, `<a b b=( duplicate)2>([a b=""])`},
		{inData, `<a b='&amp;&lt-( noSemicolon)'>([a b="&<-"])`},
		{inRCDATA, `</titlf>("</titlf>")`},
		{inRCDATA, `</title>([/title])`},
		{inRAWTEXT, `<a("<a")</b/("</b/")`},
		{inScript, `<!("<!")-("-")-("-")<s("<s")c("c")r("r")i("i")p("p")t("t")>(">")<("<")/("/")~(. eofInScript)`},
		{inCDATA, `]]]("]")>a("a")`},
		{inCDATA, `]a("]a")~(. eofInCDATA)`},
	} {
		stepwise(t, c.state, c.steps)
	}
}

var shortFaults = map[string]string{
	"wrongFirst": wrongFirst, "noSemicolon": noSemicolon, "unknown": unknownNamed, "control": "control-character-reference",
	"eofInComment": eofInComment, "opened": opened, "wrongWord": wrongWord, "inName": inName, "duplicate": duplicate, "eofInScript": eofInScript,
	"eofInCDATA": "eof-in-cdata",
}

// stepwise puts code points one by one, and holds what is told behind each against the steps.
func stepwise(t *testing.T, state int, steps string) {
	t.Helper()
	x := lexer.New()
	gives(t, "Set", x.Set(state), ok)
	gives(t, "Name", x.Name("title"), ok)
	l := []rune(steps)
	for i := 0; i < len(l); i++ {
		r := l[i]
		if r == '~' {
			r = end
		}
		gives(t, "Put", x.Put(r), ok)
		want := ""
		if i+1 < len(l) && l[i+1] == '(' {
			n := slices.Index(l[i:], ')')
			want = string(l[i+2 : i+n])
			i += n
		}
		got := shown(x.Tokens())
		for _, e := range x.Errors() {
			for short, long := range shortFaults {
				if e == long {
					e = short
				}
			}
			got += " " + e
		}
		if got != want {
			t.Errorf("%s, at %d: %s, not %s", steps, i, got, want)
		}
		tells(t, x, "", "") // once
	}
}

// P9.1, P9.4: told behind each code point, at times, and behind all of them: the same; and Lex tells the same.
func TestWhenTheyAreAskedForMakesNoDifference(t *testing.T) {
	random := rand.New(rand.NewSource(11))
	for range 20000 {
		state, l := randomText(random)
		last := []string{"", "title", "script"}[random.Intn(3)]
		want, faults, e := lexer.Lex(l, state, last)
		gives(t, "Lex", e, ok)
		for _, often := range []int{1, 4, 1 << 30} {
			x := lexer.New()
			x.Set(state)
			x.Name(last)
			var tokens []api.Token
			var errors []string
			for _, r := range append(slices.Clone(l), end) {
				x.Put(r)
				if random.Intn(often) == 0 {
					tokens = append(tokens, x.Tokens()...)
				}
				if random.Intn(often) == 0 {
					errors = append(errors, x.Errors()...)
				}
			}
			tokens, errors = append(tokens, x.Tokens()...), append(errors, x.Errors()...)
			if !sameTokens(tokens, want) || !slices.Equal(errors, faults) {
				t.Fatalf("%q in %d: %s %q, not %s %q", string(l), state, shown(tokens), errors, shown(want), faults)
			}
		}
	}
}

// P9.4: the end is the last token, and there is one; names and attributes are as they should be.
func TestWhatFollows(t *testing.T) {
	random := rand.New(rand.NewSource(12))
	for range 40000 {
		state, l := randomText(random)
		tokens, _, _ := lexer.Lex(l, state, "title")
		for i, x := range tokens {
			if (x.Kind == 5) != (i == len(tokens)-1) {
				t.Fatalf("%q in %d: %s", string(l), state, shown(tokens))
			}
			if x.Kind != 1 && x.Kind != 2 {
				continue
			}
			if x.Name == "" || strings.ContainsFunc(x.Name, func(r rune) bool { return r >= 'A' && r <= 'Z' }) {
				t.Fatalf("%q in %d: a tag named %q", string(l), state, x.Name)
			}
			names := map[string]bool{}
			for _, a := range x.Attrs {
				if names[a.Name] {
					t.Fatalf("%q in %d: %q twice", string(l), state, a.Name)
				}
				names[a.Name] = true
			}
		}
	}
}

// P9.1: Text in each state.
func TestText(t *testing.T) {
	for _, w := range ways {
		x := lexer.New()
		gives(t, "Set", x.Set(w.from), ok)
		isText(t, x, true)
		gives(t, "Name", x.Name("title"), ok)
		puts(t, x, w.text)
		isText(t, x, slices.Contains(outside, w.state))
	}
	// The end changes no state but by its rules.
	for _, c := range []struct {
		state int
		text  string
		want  bool
	}{
		{inData, "", true}, {inRCDATA, "a", true}, {inRAWTEXT, "", true}, {inScript, "", true}, {inPlaintext, "", true}, {inCDATA, "", true},
		{inData, "<", false}, {inData, "</", false}, {inData, "<a", false}, {inData, "<a b='", false}, {inData, "<!--", false},
		{inData, "<!", false}, {inData, "<!doctype", false}, {inData, "&", true}, {inData, "&am", true}, {inData, "&zz", true},
		{inData, "&#6", true}, {inData, "<a b=&", false}, {inRCDATA, "</ti", true}, {inScript, "<!", true}, {inScript, "<!--", false},
		{inScript, "<!--<script", false}, {inCDATA, "]]", true}, {inScript, "<", true},
	} {
		x := lexer.New()
		x.Set(c.state)
		puts(t, x, c.text)
		gives(t, "Put", x.Put(end), ok)
		if x.Text() != c.want {
			t.Errorf("%q in %d, and the end: %v", c.text, c.state, x.Text())
		}
	}
}

// P9.1: Set between code points, also in the midst of something: that is not told.
func TestSet(t *testing.T) {
	x := lexer.New()
	puts(t, x, "a<tit")
	isText(t, x, false)
	gives(t, "Set", x.Set(inData), ok)
	isText(t, x, true)
	puts(t, x, "le>b")
	tells(t, x, `"ale>b"`, "")

	puts(t, x, "<a b='c' d=\"")
	gives(t, "Set", x.Set(inPlaintext), ok)
	puts(t, x, "\"><b>\x00")
	tells(t, x, `""><b>\ufffd"`, null)
	gives(t, "Set", x.Set(inData), ok)
	puts(t, x, "<i>")
	tells(t, x, `[i]`, "")

	for _, text := range []string{"&am", "&zz", "&#6", "<!--a", "<!doctype a public 'b", "</", "<!-", "<a b b", "<a b=&lt"} {
		puts(t, x, text)
		x.Tokens()
		x.Errors()
		for state := range 6 {
			gives(t, "Set", x.Set(state), ok)
			isText(t, x, true)
		}
		puts(t, x, "p;]]>&amp;<u c/>")
		if got := shown(x.Tokens()); got != `"p;&" [u c=""/]` {
			t.Errorf("behind %q: %s", text, got)
		}
	}

	// What is left in the midst leaves nothing to the next one of its kind.
	for _, c := range []struct{ left, text, want string }{
		{"<!--a", "<!--b-->", "{b}"}, {"<!--a--", "<!-->", "{}"}, {"</ a", "<!b>", "{b}"}, {"<![CDATA[a", "<?b>", "{?b}"},
		{"<!doctype a public 'b' \"c", "<!doctype d>", "!d|-|-!"}, {"<!doctype a b", "<!doctype d system ''>", "!d|-|!"},
		{"<!doctype a pub", "<!doctype d public 'e'>", "!d|e|-!"}, {"<!doctype a ", "<!doctype>", "!-|-|-?!"},
		{"<a b=1 c='2", "<d b>", `[d b=""]`}, {"<a b=1 ", "<d>", "[d]"}, {"<a b b", "<d b=1>", `[d b="1"]`}, {"</a b", "</d>", "[/d]"},
		{"<a", "</d>", "[/d]"}, {"&am", "&lt;", `"<"`}, {"&#x4", "&#65;", `"A"`}, {"&#1", "&#;", `"&#;"`}, {"<!DOC", "<!-a>", "{-a}"},
		{"<a b=&am", "&lt;", `"<"`}, {"<a b='&zz", "&zz", `"&zz"`}, {"&lt", "<a b=&ampx>", `[a b="&ampx"]`},
	} {
		puts(t, x, c.left)
		x.Tokens()
		x.Errors()
		gives(t, "Set", x.Set(inData), ok)
		puts(t, x, c.text)
		if got := shown(x.Tokens()); got != c.want {
			t.Errorf("%q behind %q: %s", c.text, c.left, got)
		}
		gives(t, "Set", x.Set(inData), ok)
	}

	x = lexer.New()
	for state, want := range []string{`"&" [b]`, `"&<b>"`, `"&amp;<b>"`, `"&amp;<b>"`, `"&amp;<b>"`, `"&amp;<b>"`} {
		gives(t, "Set", x.Set(state), ok)
		puts(t, x, "&amp;<b>")
		tells(t, x, want, "")
	}
}

// P9.1: as a page's builder sets the state, behind a start tag.
func TestSetBehindATag(t *testing.T) {
	x := lexer.New()
	puts(t, x, "<title>")
	gives(t, "Set", x.Set(inRCDATA), ok)
	puts(t, x, "a<b>&lt;</title><script>")
	gives(t, "Set", x.Set(inScript), ok)
	puts(t, x, "&lt;</title></script>&lt;")
	gives(t, "Put", x.Put(end), ok)
	tells(t, x, `[title] "a<b><" [/title] [script] "&lt;</title>" [/script] "<" .`, "")
}

// P5: lexers know nothing of each other.
func TestTwoLexers(t *testing.T) {
	a, b := lexer.New(), lexer.New()
	puts(t, a, "<a b=")
	puts(t, b, "<!--")
	gives(t, "Set", b.Set(inRCDATA), ok)
	gives(t, "Sections", b.Sections(true), ok)
	gives(t, "Name", b.Name("b"), ok)
	puts(t, a, "1><![CDATA[c>")
	puts(t, b, "</a></b>")
	tells(t, a, `[a b="1"] {[CDATA[c}`, noSection)
	tells(t, b, `"</a>" [/b]`, "")
}
