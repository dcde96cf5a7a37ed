package entity_test

import (
	"slices"
	"strconv"
	"strings"
	"testing"

	"hornbeam/entity"
)

// The chapter's lists, in its own words and order: a test leans on no table that the program reads.
const (
	oldSigns   = "AMP 38, amp 38, LT 60, lt 60, GT 62, gt 62, QUOT 34, quot 34, COPY 169, REG 174"
	oldFrom160 = "nbsp, iexcl, cent, pound, curren, yen, brvbar, sect, uml, copy, ordf, laquo, not, shy, reg, macr, deg, plusmn, " +
		"sup2, sup3, acute, micro, para, middot, cedil, sup1, ordm, raquo, frac14, frac12, frac34, iquest, Agrave, " +
		"Aacute, Acirc, Atilde, Auml, Aring, AElig, Ccedil, Egrave, Eacute, Ecirc, Euml, Igrave, Iacute, Icirc, Iuml, " +
		"ETH, Ntilde, Ograve, Oacute, Ocirc, Otilde, Ouml, times, Oslash, Ugrave, Uacute, Ucirc, Uuml, Yacute, THORN, " +
		"szlig, agrave, aacute, acirc, atilde, auml, aring, aelig, ccedil, egrave, eacute, ecirc, euml, igrave, iacute, " +
		"icirc, iuml, eth, ntilde, ograve, oacute, ocirc, otilde, ouml, divide, oslash, ugrave, uacute, ucirc, uuml, " +
		"yacute, thorn, yuml"
	alone = "Alpha 913, alpha 945, Beta 914, beta 946, Gamma 915, gamma 947, Delta 916, delta 948, Epsilon 917, epsilon " +
		"949, Zeta 918, zeta 950, Eta 919, eta 951, Theta 920, theta 952, Iota 921, iota 953, Kappa 922, kappa 954, " +
		"Lambda 923, lambda 955, Mu 924, mu 956, Nu 925, nu 957, Xi 926, xi 958, Omicron 927, omicron 959, Pi 928, pi " +
		"960, Rho 929, rho 961, Sigma 931, Tau 932, Upsilon 933, Phi 934, Chi 935, Psi 936, Omega 937, sigmaf 962, " +
		"sigma 963, tau 964, upsilon 965, phi 966, chi 967, psi 968, omega 969, apos 39, OElig 338, oelig 339, Scaron " +
		"352, scaron 353, Yuml 376, fnof 402, circ 710, tilde 732, thetasym 977, upsih 978, piv 982, ensp 8194, emsp " +
		"8195, thinsp 8201, zwnj 8204, zwj 8205, lrm 8206, rlm 8207, ndash 8211, mdash 8212, lsquo 8216, rsquo 8217, " +
		"sbquo 8218, ldquo 8220, rdquo 8221, bdquo 8222, dagger 8224, Dagger 8225, bull 8226, hellip 8230, permil 8240, " +
		"prime 8242, Prime 8243, lsaquo 8249, rsaquo 8250, oline 8254, frasl 8260, euro 8364, larr 8592, uarr 8593, " +
		"rarr 8594, darr 8595, harr 8596, forall 8704, part 8706, exist 8707, empty 8709, nabla 8711, isin 8712, notin " +
		"8713, ni 8715, prod 8719, sum 8721, minus 8722, lowast 8727, radic 8730, prop 8733, infin 8734, ang 8736, and " +
		"8743, or 8744, cap 8745, cup 8746, int 8747, there4 8756, sim 8764, cong 8773, asymp 8776, ne 8800, equiv " +
		"8801, le 8804, ge 8805, sub 8834, sup 8835, nsub 8836, sube 8838, supe 8839, oplus 8853, otimes 8855, perp " +
		"8869, sdot 8901, Tab 9, NewLine 10, num 35, colon 58, lpar 40, rpar 41, lsqb 91, rsqb 93, lcub 123, rcub 125"
	pairs   = "nvlt 60 and 8402, bne 61 and 8421, fjlig 102 and 106, acE 8766 and 819"
	numbers = "80 20AC, 82 201A, 83 192, 84 201E, 85 2026, 86 2020, 87 2021, 88 2C6, 89 2030, 8A 160, 8B 2039, 8C 152, 8E " +
		"17D, 91 2018, 92 2019, 93 201C, 94 201D, 95 2022, 96 2013, 97 2014, 98 2DC, 99 2122, 9A 161, 9B 203A, 9C 153, " +
		"9E 17E, 9F 178"
)

const (
	minInt = -1 << 63
	maxInt = 1<<63 - 1
)

func number(s string, base int) int {
	n, err := strconv.ParseInt(s, base, 32)
	if err != nil {
		panic(err)
	}
	return int(n)
}

// olds are the old names with their code points.
func olds() map[string][]rune {
	all := map[string][]rune{}
	for _, x := range strings.Split(oldSigns, ", ") {
		w := strings.Fields(x)
		all[w[0]] = []rune{rune(number(w[1], 10))}
	}
	for i, x := range strings.Split(oldFrom160, ", ") {
		all[x] = []rune{rune(160 + i)}
	}
	return all
}

// singles are the names with a semicolon alone, without it.
func singles() map[string][]rune {
	all := map[string][]rune{}
	for _, x := range strings.Split(alone, ", ") {
		w := strings.Fields(x)
		all[w[0]] = []rune{rune(number(w[1], 10))}
	}
	for _, x := range strings.Split(pairs, ", ") {
		w := strings.Fields(x)
		all[w[0]] = []rune{rune(number(w[1], 10)), rune(number(w[3], 10))}
	}
	return all
}

// allTexts are all names' texts.
func allTexts() map[string][]rune {
	all := map[string][]rune{}
	for x, points := range olds() {
		all[x], all[x+";"] = points, points
	}
	for x, points := range singles() {
		all[x+";"] = points
	}
	return all
}

// allBeginnings are all that a name's text begins with.
func allBeginnings() map[string]bool {
	all := map[string]bool{}
	for x := range texts {
		for i := range len(x) + 1 {
			all[x[:i]] = true
		}
	}
	return all
}

var (
	texts      = allTexts()
	beginnings = allBeginnings()
)

// inOrder are all names' texts, sorted.
func inOrder() []string {
	var all []string
	for x := range texts {
		all = append(all, x)
	}
	slices.Sort(all)
	return all
}

// short is a text that may stand in a test's message.
func short(s string) string {
	if len(s) > 60 {
		return s[:60] + " .."
	}
	return s
}

func finds(t *testing.T, s string, want ...rune) {
	t.Helper()
	if l, ok := entity.Find(s); !ok || !slices.Equal(l, want) {
		t.Errorf("Find(%q): %d, %v; want %d", short(s), l, ok, want)
	}
}

func findsNone(t *testing.T, s string) {
	t.Helper()
	if l, ok := entity.Find(s); ok || len(l) > 0 {
		t.Errorf("Find(%q): %d, %v; want none", short(s), l, ok)
	}
}

// hasLongest asks for a text and its code points; of the empty text there are none.
func hasLongest(t *testing.T, s, want string, points ...rune) {
	t.Helper()
	if text, l := entity.Longest(s); text != want || !slices.Equal(l, points) {
		t.Errorf("Longest(%q): %q, %d; want %q, %d", short(s), text, l, want, points)
	}
}

func begins(t *testing.T, s string, want bool) {
	t.Helper()
	if got := entity.Begins(s); got != want {
		t.Errorf("Begins(%q): %v", short(s), got)
	}
}

// asPlain holds all three calls against the chapter's lists.
func asPlain(t *testing.T, s string) {
	t.Helper()
	if points, ok := texts[s]; ok {
		finds(t, s, points...)
	} else {
		findsNone(t, s)
	}
	longest := ""
	for n := range min(len(s), 20) + 1 {
		if _, ok := texts[s[:n]]; ok {
			longest = s[:n]
		}
	}
	hasLongest(t, s, longest, texts[longest]...)
	begins(t, s, beginnings[s])
}
