package lexer_test

import (
	"math"
	"slices"
	"strconv"
	"strings"
	"testing"

	"hornbeam/api"
	"hornbeam/lexer"
)

// P9.1: states that Set does not take; nothing has changed then.
func TestWrongStates(t *testing.T) {
	for _, state := range []int{-1, -2, 6, 7, 100, math.MinInt, math.MaxInt} {
		x := lexer.New()
		puts(t, x, "<a b='")
		gives(t, "Set", x.Set(state), errArg)
		isText(t, x, false)
		puts(t, x, "c'>")
		tells(t, x, `[a b="c"]`, "")
		gives(t, "Set", x.Set(inRCDATA), ok)
		gives(t, "Set", x.Set(state), errArg)
		puts(t, x, "<b>")
		tells(t, x, `"<b>"`, "")

		l, errors, e := lexer.Lex([]rune("a<\x00"), state, "a")
		if e != errArg || len(l) > 0 || len(errors) > 0 {
			t.Errorf("Lex in %d: %s %q %d", state, shown(l), errors, e)
		}
		_, _, e = lexer.Lex(nil, state, "")
		gives(t, "Lex", e, errArg)
	}
}

// P9.1: code points that can't be; nothing has changed then.
func TestWrongCodePoints(t *testing.T) {
	for _, r := range []rune{-2, -3, 0x110000, 0x110001, math.MinInt32, math.MaxInt32} {
		for _, w := range ways {
			x := lexer.New()
			x.Set(w.from)
			puts(t, x, w.text)
			before, errors := x.Tokens(), x.Errors()
			gives(t, "Put", x.Put(r), errArg)
			tells(t, x, "", "")
			gives(t, "Put", x.Put(end), ok)
			want, faults, _ := lexer.Lex([]rune(w.text), w.from, "")
			if !sameTokens(append(before, x.Tokens()...), want) || !slices.Equal(append(errors, x.Errors()...), faults) {
				t.Errorf("%q in %d with %x: it has changed", w.text, w.from, r)
			}
		}
		for _, text := range [][]rune{{r}, {'a', r}, {r, 'a'}, {'<', 0, r, '>'}} {
			l, errors, e := lexer.Lex(text, inData, "")
			if e != errArg || len(l) > 0 || len(errors) > 0 {
				t.Errorf("Lex(%x): %s %q %d", text, shown(l), errors, e)
			}
		}
	}
	// The end is none of a list's code points.
	for _, text := range [][]rune{{end}, {'a', end}, {end, 'a'}} {
		l, errors, e := lexer.Lex(text, inData, "")
		if e != errArg || len(l) > 0 || len(errors) > 0 {
			t.Errorf("Lex(%x): %s %q %d", text, shown(l), errors, e)
		}
	}
}

// P9.1: the code points at the ends of what can be.
func TestUtmostCodePoints(t *testing.T) {
	x := lexer.New()
	gives(t, "Put", x.Put(0), ok)
	gives(t, "Put", x.Put(0x10FFFF), ok)
	tells(t, x, "\"\\x00\U0010ffff\"", null)
	example{"\U0010ffff<a \U0010ffff=\U0010ffff>", "\"\U0010ffff\" [a \U0010ffff=\"\U0010ffff\"] .", ""}.in(t, inData, "")
}

// P9.1: Put behind EOF, whatever is put; what was told, and the state, stay, and can be asked for and set.
func TestPutBehindEOF(t *testing.T) {
	for _, text := range []string{"", "a", "<a", "&am", "<!--a"} {
		x := lexer.New()
		puts(t, x, text)
		gives(t, "Put", x.Put(end), ok)
		is := x.Text()
		for _, r := range []rune{'a', 0, end, -2, 0x110000, '>', math.MinInt32, math.MaxInt32} {
			gives(t, "Put behind EOF", x.Put(r), errState)
			isText(t, x, is)
		}
		want, faults, _ := lexer.Lex([]rune(text), inData, "")
		if !sameTokens(x.Tokens(), want) || !slices.Equal(x.Errors(), faults) {
			t.Errorf("%q: it has changed", text)
		}
		gives(t, "Set", x.Set(6), errArg)
		gives(t, "Set", x.Set(inRCDATA), ok)
		isText(t, x, true)
		gives(t, "Name", x.Name("a"), ok)
		gives(t, "Sections", x.Sections(true), ok)
		gives(t, "Put behind EOF", x.Put('a'), errState)
		gives(t, "Put behind EOF", x.Put(end), errState)
		tells(t, x, "", "")
	}
}

// P9.3: a nil lexer, and those that no call made, with every call, twice over: no call makes one of them a lexer.
func TestZero(t *testing.T) {
	for _, x := range []*lexer.Lexer{nil, {}, new(lexer.Lexer)} {
		for range 2 {
			for _, r := range []rune{'a', '<', 0, end, -2, 0x110000, math.MinInt32} {
				gives(t, "Put", x.Put(r), errZero)
			}
			for _, state := range []int{0, 1, 5, 6, -1, math.MaxInt} {
				gives(t, "Set", x.Set(state), errZero)
			}
			gives(t, "Name", x.Name(""), errZero)
			gives(t, "Name", x.Name("title"), errZero)
			gives(t, "Sections", x.Sections(true), errZero)
			gives(t, "Sections", x.Sections(false), errZero)
			tells(t, x, "", "")
			isText(t, x, false)
		}
	}
	var field struct{ x lexer.Lexer }
	gives(t, "Put", field.x.Put('a'), errZero)
	isText(t, &field.x, false)
	tells(t, &field.x, "", "")
}

// P9.1: code points D800 to DFFF are U+FFFD in names and texts; a character is the code point itself.
func TestSurrogates(t *testing.T) {
	for _, s := range []rune{0xD800, 0xDBFF, 0xDC00, 0xDFFF} {
		lex := func(text, want, faults string) {
			t.Helper()
			l := []rune(text)
			for i, r := range l {
				if r == '~' {
					l[i] = s
				}
			}
			tokens, errors, e := lexer.Lex(l, inData, "")
			if got := shown(tokens); got != want || strings.Join(errors, " ") != faults || e != ok {
				t.Errorf("%q with %x: %s, not %s; %q %d", text, s, got, want, errors, e)
			}
		}
		number := "(" + strconv.FormatInt(int64(s), 16) + ")"
		lex("a~", `"a`+number+`" .`, "")
		lex("<a~></a~>", "[a\ufffd] [/a\ufffd] .", "")
		lex("<~>", `"<`+number+`>" .`, wrongFirst)
		lex("<a ~=~ b='~' c=\"~\">", "[a \ufffd=\"\ufffd\" b=\"\ufffd\" c=\"\ufffd\"] .", "")
		lex("<a ~ \ufffd>", "[a \ufffd=\"\"] .", duplicate)
		lex("<a ~=1 ~~=2 ~=3>", "[a \ufffd=\"1\" \ufffd\ufffd=\"2\"] .", duplicate)
		lex("<!--~-~--~--!~-->", "{\ufffd-\ufffd--\ufffd--!\ufffd} .", "")
		lex("<!~>", "{\ufffd} .", opened)
		lex("<!d~>", "{d\ufffd} .", opened)
		lex("<?~></~>", "{?\ufffd} {\ufffd} .", "unexpected-question-mark-instead-of-tag-name "+wrongFirst)
		lex("<!doctype ~a~ public '~' \"~\">", "!\ufffda\ufffd|\ufffd|\ufffd! .", "")
		lex("<!doctype a ~>", "!a|-|-?! .", wrongWord)
		lex("&~&am~&#~", `"&`+number+`&am`+number+`&#`+number+`" .`, "absence-of-digits-in-numeric-character-reference")
	}
	x := lexer.New()
	x.Put(0xD800)
	x.Put(0xDC00) // two of them are never one
	if l := x.Tokens(); len(l) != 2 || l[0].Char != 0xD800 || l[1].Char != 0xDC00 {
		t.Errorf("%+v", l)
	}
	// A name of one is no other name.
	gives(t, "Set", x.Set(inRCDATA), ok)
	for _, r := range []rune{'<', '/', 'a', 0xD800, '>'} {
		x.Put(r)
	}
	if l := x.Tokens(); len(l) != 5 || l[3].Char != 0xD800 {
		t.Errorf("%+v", l)
	}
}

// P3, P9.2: nil and empty lists.
func TestNothing(t *testing.T) {
	for _, l := range [][]rune{nil, {}} {
		for state := range 6 {
			tokens, errors, e := lexer.Lex(l, state, "")
			faults := 0
			if state == inCDATA {
				faults = 1
			}
			if shown(tokens) != "." || len(errors) != faults || e != ok {
				t.Errorf("Lex of nothing in %d: %s %q %d", state, shown(tokens), errors, e)
			}
		}
	}
}

// P4: lists that were handed in or out, when they are changed, change no later answer.
func TestListsThatAreChanged(t *testing.T) {
	page := []rune("<a b=1 c=2></a d><!--x--><i e=3>")
	whole := append(slices.Clone(page), []rune("....")...)
	l := whole[:len(page)]
	first, faults, _ := lexer.Lex(l, inData, "")
	if !slices.Equal(whole, append(slices.Clone(page), []rune("....")...)) {
		t.Error("what was handed in has changed")
	}
	for i := range l {
		l[i] = 'X'
	}
	const want = `[a b="1" c="2"] [/a d=""] {x} [i e="3"] .`
	if got := shown(first); got != want || !slices.Equal(faults, []string{endAttrs}) {
		t.Errorf("%s %q", got, faults)
	}
	// No two lists of an answer share memory.
	more := append(first[0].Attrs, api.Attr{Name: "X"}, api.Attr{Name: "Y"})
	more[0].Name = "Z"
	if got := shown(first[1:]); got != `[/a d=""] {x} [i e="3"] .` {
		t.Error(got)
	}

	x := lexer.New()
	puts(t, x, "<a b=1>x<a b=2 c")
	tokens, errors := x.Tokens(), x.Errors()
	spoil(tokens, errors)
	puts(t, x, "=3 b><")
	gives(t, "Put", x.Put(end), ok)
	tokens, errors = x.Tokens(), x.Errors()
	if got := shown(tokens); got != `[a b="2" c="3"] "<" .` || !slices.Equal(errors, []string{duplicate, "eof-before-tag-name"}) {
		t.Errorf("%s %q", got, errors)
	}
	spoil(tokens, errors)
	tells(t, x, "", "")
}

// spoil changes all of both lists, and what there may be room for behind them.
func spoil(tokens []api.Token, errors []string) {
	for _, x := range tokens {
		for i := range x.Attrs[:cap(x.Attrs)] {
			x.Attrs[:cap(x.Attrs)][i] = api.Attr{Name: "X", Value: "Y"}
		}
	}
	for i := range tokens[:cap(tokens)] {
		tokens[:cap(tokens)][i] = api.Token{Kind: 3, Data: "X"}
	}
	for i := range errors[:cap(errors)] {
		errors[:cap(errors)][i] = "X"
	}
}

// P1: long names, texts and lists of attributes end in good time.
func TestLongThings(t *testing.T) {
	long := strings.Repeat("aB", 1<<18)
	small := strings.ToLower(long)
	one := func(text, want, faults string, state int) {
		t.Helper()
		l, errors, _ := lexer.Lex([]rune(text), state, small)
		if shown(l) != want || strings.Join(errors, " ") != faults {
			t.Errorf("%s .. in %d: %q", text[:10], state, errors)
		}
	}
	one("<"+long+" "+long+"="+long+">", "["+small+" "+small+`="`+long+`"] .`, "", inData)
	one("<!--"+long+"-->", "{"+long+"} .", "", inData)
	one("<!doctype "+long+" public '"+long+"' \""+long+"\">", "!"+small+"|"+long+"|"+long+"! .", "", inData)
	one("&"+long+";", `"&`+long+`;" .`, unknownNamed, inData)
	one("</"+long+">", "[/"+small+"] .", "", inRCDATA)
	one("</"+long+"b>", `"</`+long+`b>" .`, "", inRAWTEXT)
	one("<!--<"+long+">-->", `"<!--<`+long+`>-->" .`, "", inScript)
	one(strings.Repeat("]", 1<<18)+"]]>", `"`+strings.Repeat("]", 1<<18)+`" .`, "", inCDATA)
	one(strings.Repeat("</", 1<<17), `"`+strings.Repeat("</", 1<<17)+`" .`, "", inRCDATA)

	var b strings.Builder
	b.WriteString("<a")
	const count = 200000
	for i := range count {
		b.WriteString(" x" + strconv.Itoa(i))
	}
	b.WriteString(" x0 x" + strconv.Itoa(count-1) + "=1>")
	l, errors, _ := lexer.Lex([]rune(b.String()), inData, "")
	if len(l) != 2 || len(l[0].Attrs) != count || l[0].Attrs[count-1].Value != "" || !slices.Equal(errors, []string{duplicate, duplicate}) {
		t.Errorf("%d tokens, %q", len(l), errors)
	}
}
