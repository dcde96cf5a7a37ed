package lexer_test

import (
	"reflect"
	"slices"
	"strconv"
	"strings"
	"testing"

	"hornbeam/api"
	"hornbeam/lexer"
)

// Errors, states and the end by the document's numbers: a test leans on no constant that the program reads.
const (
	ok       = 0
	errArg   = 1
	errState = 5
	errZero  = 7

	inData      = 0
	inRCDATA    = 1
	inRAWTEXT   = 2
	inScript    = 3
	inPlaintext = 4
	inCDATA     = 5

	end = -1
)

// shown is a text of tokens, with blanks between them: characters that follow one another in quotes, [a b="1"], [/a], [a/], {a comment}, !name|public|system!, with - for what is not there and ? for quirks, and . for the end.
func shown(l []api.Token) string {
	var words []string
	for i := 0; i < len(l); i++ {
		if l[i].Kind != 4 {
			words = append(words, word(l[i]))
			continue
		}
		var run []rune
		for ; i < len(l) && l[i].Kind == 4; i++ {
			run = append(run, l[i].Char)
			if !reflect.DeepEqual(l[i], api.Token{Kind: 4, Char: l[i].Char}) {
				words = append(words, "a character with more")
			}
		}
		i--
		words = append(words, quoted(run))
	}
	return strings.Join(words, " ")
}

// quoted is a text in quotes. A code point D800 to DFFF stands by its number, as it would be U+FFFD in a text.
func quoted(l []rune) string {
	var b strings.Builder
	for _, c := range l {
		switch {
		case c >= 0xD800 && c <= 0xDFFF:
			b.WriteString("(" + strconv.FormatInt(int64(c), 16) + ")")
		case c < ' ' || c == 0xFFFD || c == 0xA0:
			b.WriteString(strings.Trim(strconv.QuoteRuneToASCII(c), "'"))
		default:
			b.WriteRune(c)
		}
	}
	return `"` + b.String() + `"`
}

func word(t api.Token) string {
	plain := api.Token{Kind: t.Kind}
	s := ""
	switch t.Kind {
	case 0:
		part := func(bit int, text string) string {
			if t.Has&bit == 0 {
				return "-" + text
			}
			return text
		}
		plain.Name, plain.Data, plain.System, plain.Has, plain.Quirks = t.Name, t.Data, t.System, t.Has&7, t.Quirks
		s = "!" + part(1, t.Name) + "|" + part(2, t.Data) + "|" + part(4, t.System) + mark(t.Quirks, "?") + "!"
	case 1, 2:
		plain.Name, plain.Self, plain.Attrs = t.Name, t.Self, t.Attrs
		s = "[" + mark(t.Kind == 2, "/") + t.Name
		for _, a := range t.Attrs {
			if a.Space != 0 || a.Prefix != "" {
				s += " an attribute with more"
			}
			s += " " + a.Name + `="` + a.Value + `"`
		}
		s += mark(t.Self, "/") + "]"
	case 3:
		plain.Data = t.Data
		s = "{" + t.Data + "}"
	case 5:
		s = "."
	default:
		s = "no kind"
	}
	if !reflect.DeepEqual(t, plain) {
		s += " with more"
	}
	return s
}

func mark(is bool, s string) string {
	if is {
		return s
	}
	return ""
}

// A text is lexed in a state, with a last start tag's name; what is wanted are tokens as shown, and the errors with blanks between them.
type example struct {
	text, want, faults string
}

func (c example) in(t *testing.T, state int, last string) {
	t.Helper()
	l, errors, e := lexer.Lex([]rune(c.text), state, last)
	if got := shown(l); got != c.want || e != ok {
		t.Errorf("Lex(%q, %d, %q): %s, not %s; %d", c.text, state, last, got, c.want, e)
	}
	if got := strings.Join(errors, " "); got != c.faults {
		t.Errorf("Lex(%q, %d, %q): errors %s; not %s", c.text, state, last, got, c.faults)
	}
}

func examples(t *testing.T, state int, last string, l []example) {
	t.Helper()
	for _, c := range l {
		c.in(t, state, last)
	}
}

// gives fails, unless the call's errno is as wanted.
func gives[E ~int](t *testing.T, what string, got E, want int) {
	t.Helper()
	if int(got) != want {
		t.Errorf("%s: %d, not %d", what, got, want)
	}
}

// puts puts all code points of a text.
func puts(t *testing.T, x *lexer.Lexer, text string) {
	t.Helper()
	for _, r := range text {
		gives(t, "Put", x.Put(r), ok)
	}
}

// tells holds what came since the last time against what is wanted.
func tells(t *testing.T, x *lexer.Lexer, want, faults string) {
	t.Helper()
	if got := shown(x.Tokens()); got != want {
		t.Errorf("Tokens: %s, not %s", got, want)
	}
	if got := strings.Join(x.Errors(), " "); got != faults {
		t.Errorf("Errors: %s, not %s", got, faults)
	}
}

// isText holds Text against what is wanted.
func isText(t *testing.T, x *lexer.Lexer, want bool) {
	t.Helper()
	if x.Text() != want {
		t.Errorf("Text: %v", !want)
	}
}

// sameTokens asks whether both are the same, nil and empty lists being so too.
func sameTokens(a, b []api.Token) bool {
	return slices.EqualFunc(a, b, func(x, y api.Token) bool {
		same := slices.Equal(x.Attrs, y.Attrs)
		x.Attrs, y.Attrs = nil, nil
		return same && reflect.DeepEqual(x, y)
	})
}
