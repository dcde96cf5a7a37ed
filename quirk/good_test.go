package quirk_test

import (
	"math/rand"
	"slices"
	"strings"
	"testing"

	"hornbeam/api"
	"hornbeam/quirk"
)

const compat = "about:legacy-compat"

// P10.2: the chapter's examples, and the doctypes that pages have most.
func TestGoodOfOrdinaryDoctypes(t *testing.T) {
	isGood(t, withName("html"), true)
	isGood(t, withSystem(compat), true)
	isGood(t, api.Token{}, false)
	isGood(t, withPublic("-//W3C//DTD HTML 4.01//EN"), false)
	isGood(t, withBoth("-//W3C//DTD HTML 4.01//EN", "http://www.w3.org/TR/html4/strict.dtd"), false)
	isGood(t, withBoth("-//W3C//DTD XHTML 1.0 Strict//EN", "http://www.w3.org/TR/xhtml1/DTD/xhtml1-strict.dtd"), false)
	isGood(t, withPublic("HTML"), false)
}

// P10.2: what is no doctype is not good, though all else of it is one's.
func TestGoodOfOtherTokens(t *testing.T) {
	for _, kind := range []int{1, 2, 3, 4, 5, 6, -1, 256, 1 << 32, minInt, maxInt} {
		isGood(t, api.Token{Kind: kind, Name: "html", Has: named}, false)
		isGood(t, api.Token{Kind: kind, Name: "html", System: compat, Has: named | system}, false)
		isGood(t, api.Token{Kind: kind}, false)
	}
}

// P10.2: quirks have no part in it.
func TestGoodOfADoctypeThatForcesQuirks(t *testing.T) {
	isGood(t, api.Token{Name: "html", Has: named, Quirks: true}, true)
	isGood(t, api.Token{Name: "html", System: compat, Has: named | system, Quirks: true}, true)
	isGood(t, api.Token{Name: "html", System: "x", Has: named | system, Quirks: true}, false)
	isGood(t, api.Token{Quirks: true}, false)
}

// P10.2: the name's letters are as they are; a name that it does not have is none.
func TestGoodByTheName(t *testing.T) {
	for _, s := range []string{"HTML", "Html", "htmL", "", "htm", "htmll", "html ", " html", "svg", "h\xfftml"} {
		isGood(t, withName(s), false)
		isGood(t, api.Token{Name: s, System: compat, Has: named | system}, false)
	}
	isGood(t, api.Token{Name: "html"}, false)
	isGood(t, api.Token{Name: "html", System: compat, Has: system}, false)
}

// P10.2: a public identifier is one, though it is empty; one that it does not have is none, though its text is there.
func TestGoodByThePublicIdentifier(t *testing.T) {
	for _, s := range []string{"", "x", "html", compat, "\xff"} {
		isGood(t, withPublic(s), false)
		isGood(t, withBoth(s, ""), false)
		isGood(t, withBoth(s, compat), false)
		isGood(t, api.Token{Name: "html", Data: s, Has: named}, true)
		isGood(t, api.Token{Name: "html", Data: s, System: compat, Has: named | system}, true)
	}
}

// P10.2: the system identifier in letters of any size, as all texts but the name.
func TestGoodByTheSystemIdentifier(t *testing.T) {
	for _, s := range sizes(compat) {
		isGood(t, withSystem(s), true)
	}
	for _, s := range []string{"", " ", compat + " ", " " + compat, compat[1:], compat[:len(compat)-1], compat + compat, "about:blank",
		"about:legacy-\u017fcompat", "about\x1alegacy-compat", "about:legacy\rcompat", compat + "\xff", "\xff", ibm} {
		isGood(t, withSystem(s), false)
		isGood(t, api.Token{Name: "html", System: s, Has: named}, true)
	}
}

// P10.2: of Has its three bits count, whatever number it is.
func TestGoodByOddNumbersOfHas(t *testing.T) {
	for _, more := range []int{0, 8, 16, 1 << 20, 1 << 62, minInt, -8, maxInt &^ 7} {
		isGood(t, api.Token{Name: "html", Has: more | named}, true)
		isGood(t, api.Token{Name: "html", Has: more}, false)
		isGood(t, api.Token{Name: "html", Has: more | named | public}, false)
		isGood(t, api.Token{Name: "html", Has: more | named | system}, false)
		isGood(t, api.Token{Name: "html", System: compat, Has: more | named | system}, true)
	}
	isGood(t, api.Token{Name: "html", System: compat, Has: -1}, false)
}

// P10.1, P10.2: all kinds, numbers of Has and texts of a doctype with one another, as the promises say them.
func TestAllParts(t *testing.T) {
	names := []string{"", "html", "HTML", "x"}
	publics := slices.Concat([]string{"", "x", "-//W3C//DTD HTML 4.01//EN"}, wholes, beginnings())
	systems := []string{"", "x", compat, upper(compat), ibm, upper(ibm), transitionals[0]}
	for has := -1; has < 9; has++ {
		for _, name := range names {
			for _, pub := range publics {
				for _, sys := range systems {
					x := api.Token{Name: name, Data: pub, System: sys, Has: has & 15}
					asPlain(t, x)
					x.Quirks = true
					asPlain(t, x)
					x.Kind, x.Quirks = 1+len(pub)%5, false
					asPlain(t, x)
				}
			}
		}
	}
}

// P10.1, P10.2: beginnings with signs put in, taken out and changed.
func TestManyIdentifiers(t *testing.T) {
	r := rand.New(rand.NewSource(10))
	texts := slices.Concat(wholes, beginnings(), []string{ibm, compat, "html"})
	pick := func() string { return texts[r.Intn(len(texts))] }
	for range 100000 {
		x := api.Token{Name: "html", Data: changed(r, pick()), System: changed(r, pick()), Has: r.Intn(8)}
		asPlain(t, x)
	}
}

// changed is s as it is, in other sizes, or with a piece of it changed.
func changed(r *rand.Rand, s string) string {
	at := r.Intn(len(s))
	switch r.Intn(6) {
	case 0:
		return mixed(s) + "EN"
	case 1:
		return s[:at] + string([]byte{byte(r.Intn(256))}) + s[at+1:]
	case 2:
		return s[:at] + s[at+1:]
	case 3:
		return upper(s[:at]) + s[at:]
	case 4:
		return s[at:] + s[:at]
	}
	return s
}

// P1: long texts end, and are looked at no further than the beginnings go.
func TestLongTexts(t *testing.T) {
	long := strings.Repeat("-//W3C//DTD HTML ", 1<<16)
	isMode(t, withPublic(long), noQuirks)
	isMode(t, withPublic(olds[0]+long), quirks)
	isMode(t, withSystem(long), noQuirks)
	isMode(t, withName(long), quirks)
	isGood(t, withSystem(long), false)
}

// P4, P5: what other fields a token has makes no difference, and they stay as they are.
func TestOtherFields(t *testing.T) {
	attrs := []api.Attr{{Name: "a", Value: "b"}}
	x := api.Token{Name: "html", Has: named, Char: 'x', Self: true, Attrs: attrs}
	for range 3 {
		isMode(t, x, noQuirks)
		isGood(t, x, true)
	}
	if len(attrs) != 1 || attrs[0] != (api.Attr{Name: "a", Value: "b"}) {
		t.Errorf("the attributes were changed: %v", attrs)
	}
}

// P4: the tables are nobody's to change: an answer hangs on the token alone.
func TestAnswersStay(t *testing.T) {
	for _, begin := range beginnings() {
		x := withPublic(begin)
		first := quirk.Mode(x)
		quirk.Mode(withPublic("HTML"))
		quirk.Good(withPublic(begin))
		isMode(t, x, first)
	}
}
