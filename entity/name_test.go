package entity_test

import (
	"math/rand"
	"slices"
	"strings"
	"testing"

	"hornbeam/entity"
)

// P8.1, P8.3: named references.

func TestExamples(t *testing.T) {
	finds(t, "amp", 38)
	findsNone(t, "notin")
	hasLongest(t, "notit;", "not", 172)
	hasLongest(t, "notin;", "notin;", 8713)
}

func TestListsAreWhole(t *testing.T) {
	if len(olds()) != 106 || len(singles()) != 145 || len(texts) != 2*106+145 {
		t.Errorf("%d old names, %d with a semicolon alone, %d texts", len(olds()), len(singles()), len(texts))
	}
	finds(t, "nbsp", 160)
	finds(t, "yuml", 255)
}

func TestEachOldName(t *testing.T) {
	for x, points := range olds() {
		for _, s := range []string{x, x + ";"} {
			finds(t, s, points...)
			hasLongest(t, s, s, points...)
			begins(t, s, true)
		}
	}
}

func TestEachNameWithASemicolonAlone(t *testing.T) {
	for x, points := range singles() {
		finds(t, x+";", points...)
		hasLongest(t, x+";", x+";", points...)
		begins(t, x+";", true)

		findsNone(t, x)
		begins(t, x, true)
		if text, l := entity.Longest(x); text == x || text == x+";" || !slices.Equal(l, texts[text]) {
			t.Errorf("Longest(%q): %q, %d", x, text, l)
		}
	}
	for _, x := range []string{"alpha", "sup", "sub", "apos", "fjlig", "Yuml"} {
		hasLongest(t, x, "")
	}
	hasLongest(t, "notin", "not", 172)
	hasLongest(t, "thetasym", "")
}

func TestNamesOfTwoCodePoints(t *testing.T) {
	for _, c := range []struct {
		name   string
		points []rune
	}{{"nvlt", []rune{60, 8402}}, {"bne", []rune{61, 8421}}, {"fjlig", []rune{102, 106}}, {"acE", []rune{8766, 819}}} {
		finds(t, c.name+";", c.points...)
		findsNone(t, c.name)
		hasLongest(t, c.name+";x", c.name+";", c.points...)
		hasLongest(t, c.name, "")
		begins(t, c.name, true)
	}
}

func TestNamesThatBeginLongerOnes(t *testing.T) {
	for _, c := range []struct {
		s, longest string
		points     []rune
	}{
		{"not", "not", []rune{172}}, {"not;", "not;", []rune{172}}, {"notx", "not", []rune{172}}, {"not;;", "not;", []rune{172}},
		{"noti", "not", []rune{172}}, {"noti;", "not", []rune{172}}, {"notin", "not", []rune{172}}, {"notinx", "not", []rune{172}},
		{"notin;", "notin;", []rune{8713}}, {"notin;x", "notin;", []rune{8713}}, {"not;in;", "not;", []rune{172}},
		{"sup", "", nil}, {"supx", "", nil}, {"sup;", "sup;", []rune{8835}}, {"sup;1", "sup;", []rune{8835}}, {"sup4", "", nil},
		{"sup1", "sup1", []rune{185}}, {"sup1;", "sup1;", []rune{185}}, {"sup1x", "sup1", []rune{185}}, {"sup12", "sup1", []rune{185}},
		{"sup2;;", "sup2;", []rune{178}}, {"sup3", "sup3", []rune{179}}, {"supe", "", nil}, {"supe;", "supe;", []rune{8839}},
		{"sub", "", nil}, {"sub;", "sub;", []rune{8834}}, {"sub;e;", "sub;", []rune{8834}}, {"subx;", "", nil},
		{"sube", "", nil}, {"sube;", "sube;", []rune{8838}}, {"subex", "", nil}, {"sigmaf", "", nil},
		{"sigma;f;", "sigma;", []rune{963}}, {"sigmaf;", "sigmaf;", []rune{962}}, {"thetasym;", "thetasym;", []rune{977}},
		{"theta;sym;", "theta;", []rune{952}}, {"thetasym", "", nil}, {"piv;", "piv;", []rune{982}}, {"pi;v;", "pi;", []rune{960}},
		{"acE;", "acE;", []rune{8766, 819}}, {"acute", "acute", []rune{180}}, {"ampamp", "amp", []rune{38}},
		{"ltimes;", "lt", []rune{60}}, {"gta", "gt", []rune{62}}, {"copysr;", "copy", []rune{169}}, {"centerdot;", "cent", []rune{162}},
		{"frac12", "frac12", []rune{189}}, {"frac1", "", nil}, {"frac13", "", nil}, {"numx", "", nil}, {"num;", "num;", []rune{35}},
		{"nu;m;", "nu;", []rune{957}}, {"upsih;", "upsih;", []rune{978}}, {"timesb;", "times", []rune{215}},
	} {
		hasLongest(t, c.s, c.longest, c.points...)
		asPlain(t, c.s)
	}
}

func TestNamesThatDifferInTheSizeOfALetter(t *testing.T) {
	for _, c := range []struct {
		s     string
		point rune
	}{
		{"Alpha;", 913}, {"alpha;", 945}, {"Omega;", 937}, {"omega;", 969}, {"Yuml;", 376}, {"yuml;", 255}, {"yuml", 255},
		{"Dagger;", 8225}, {"dagger;", 8224}, {"Prime;", 8243}, {"prime;", 8242}, {"OElig;", 338}, {"oelig;", 339},
		{"Scaron;", 352}, {"scaron;", 353}, {"ETH", 208}, {"eth", 240}, {"THORN", 222}, {"thorn", 254}, {"AElig", 198},
		{"aelig", 230}, {"Agrave", 192}, {"agrave", 224}, {"AMP", 38}, {"COPY", 169}, {"copy", 169}, {"REG", 174}, {"reg;", 174},
	} {
		finds(t, c.s, c.point)
		hasLongest(t, c.s, c.s, c.point)
	}
	hasLongest(t, "Yuml", "")
	hasLongest(t, "notIn;", "not", 172)
	for _, s := range []string{"Amp", "aMP", "Amp;", "Lt", "lT;", "ALPHA;", "Eth", "eTH", "Thorn", "AELIG", "Aelig", "oElig;", "Copy",
		"ACE;", "ace;", "acE", "newline;", "tab;", "TAB;", "NBSP", "Nbsp", "SUP1", "Notin;", "FJLIG;"} {
		findsNone(t, s)
		hasLongest(t, s, "")
	}
	for x := range texts {
		for i := range len(x) {
			asPlain(t, x[:i]+strings.ToUpper(x[i:i+1])+x[i+1:])
			asPlain(t, x[:i]+strings.ToLower(x[i:i+1])+x[i+1:])
		}
		asPlain(t, strings.ToUpper(x))
		asPlain(t, strings.ToLower(x))
	}
}

func TestNothingAndSemicolons(t *testing.T) {
	findsNone(t, "")
	hasLongest(t, "", "")
	begins(t, "", true)
	for _, s := range []string{";", ";;", ";amp", ";amp;"} {
		findsNone(t, s)
		hasLongest(t, s, "")
		begins(t, s, false)
	}
	for x, points := range texts {
		if strings.HasSuffix(x, ";") {
			findsNone(t, x+";")
			hasLongest(t, x+";", x, points...)
			begins(t, x+";", false)
		}
		asPlain(t, x+";;")
	}
}

func TestEachBeginningAndMore(t *testing.T) {
	for x := range texts {
		for i := range len(x) + 1 {
			begins(t, x[:i], true)
			for c := range 256 {
				asPlain(t, x[:i]+string([]byte{byte(c)}))
			}
			for _, more := range []string{"amp;", "x;", " ;", "\x00\x00", ";amp", "1;", "in;", "\u00e9", strings.Repeat("z", 100)} {
				asPlain(t, x[:i]+more)
			}
		}
	}
}

func TestOneByteLessOrMoreOrOther(t *testing.T) {
	for x := range texts {
		for i := range len(x) {
			asPlain(t, x[:i]+x[i+1:])
			asPlain(t, x[i:])
			for c := range 256 {
				b := string([]byte{byte(c)})
				asPlain(t, x[:i]+b+x[i:])
				asPlain(t, x[:i]+b+x[i+1:])
			}
		}
	}
}

func TestEachTextOfTwoBytes(t *testing.T) {
	for c := range 256 {
		asPlain(t, string([]byte{byte(c)}))
		for d := range 256 {
			asPlain(t, string([]byte{byte(c), byte(d)}))
		}
	}
}

func TestWrongNames(t *testing.T) {
	for _, s := range []string{"&", "&amp", "&amp;", "&&amp;", " amp", "\tamp;", "\namp", "\u00a0amp", "#38;", "#x26;", "38", "X;",
		"\u00e4mp;", "\uff41mp;", "\u0430mp;", "\u03b1;", "\xff", "\xffamp", "\x00amp", "\xe2\x82", "\xed\xa0\x80amp;", "1amp;",
		"zz;", "J;", "j", "v;", "w", "H;", "V", "W;", "{", "`amp", "@amp", "[", "~"} {
		findsNone(t, s)
		hasLongest(t, s, "")
		begins(t, s, false)
	}
	for _, s := range []string{"am p", "a mp;", "amp ;", "amp ", "amp\x00", "amp\xff", "alpha ;", "alph\u00e1;", "alpha\x00;", "not\u0131n;",
		"\u017fup1", "\u212aappa;", "amp\u037e", "amp\uff1b", "amp&", "lt\xc3", "e\u0301acute", "notin\xff;"} {
		findsNone(t, s)
		begins(t, s, false)
		asPlain(t, s)
	}
	hasLongest(t, "amp ;", "amp", 38)
	hasLongest(t, "amp\xff", "amp", 38)
	hasLongest(t, "amp\uff1b", "amp", 38)
}

func TestLongTexts(t *testing.T) {
	const many = 1 << 22
	for _, s := range []string{"a", "amp", ";", "amp;", "thetasym", "\xff", " ", "not"} {
		asPlain(t, strings.Repeat(s, many))
		asPlain(t, "notin;"+strings.Repeat(s, many))
		asPlain(t, "thetasym;"+strings.Repeat(s, many))
	}
}

func TestRandomTexts(t *testing.T) {
	random := rand.New(rand.NewSource(8))
	parts := append(inOrder(), ";", ";", "&", " ", "x", "e", "1", "s", "in", "in;", "\xff", "\u00e9", "")
	for range 300000 {
		s := ""
		for range 1 + random.Intn(3) {
			p := parts[random.Intn(len(parts))]
			s += p[:random.Intn(len(p)+1)]
			if random.Intn(2) > 0 {
				s += p
			}
		}
		asPlain(t, s)
	}
}

// P8.3: what Longest tells is a beginning that Find finds, with the same code points, and Find finds no longer one.
func TestLongestByFind(t *testing.T) {
	all := inOrder()
	for _, x := range all {
		for _, y := range all {
			s := x + y
			text, points := entity.Longest(s)
			if l, ok := entity.Find(text); !ok || !slices.Equal(l, points) || !strings.HasPrefix(s, text) {
				t.Errorf("Longest(%q): %q, %d; Find: %d, %v", s, text, points, l, ok)
			}
			for n := len(text) + 1; n <= len(s); n++ {
				findsNone(t, s[:n])
			}
		}
	}
}

// P4, P5: what is handed out is new memory each time.
func TestAnswersAreNotKept(t *testing.T) {
	for range 2 {
		for x, points := range texts {
			l, _ := entity.Find(x)
			_, k := entity.Longest(x)
			m, _ := entity.Find(x)
			for i := range points {
				l[i] = -5
			}
			l = append(l[:0], 1, 2, 3)
			if !slices.Equal(k, points) || !slices.Equal(m, points) {
				t.Errorf("%q: %d and %d; want %d", x, k, m, points)
			}
			for i := range points {
				k[i], m[i] = -6, -7
			}
			finds(t, x, points...)
			hasLongest(t, x, x, points...)
		}
	}
}
