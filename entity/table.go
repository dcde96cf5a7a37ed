package entity

// The names stand apart by their first letters, so that a call makes and goes over a few of them alone.

func capitals(first byte) []name {
	switch first {
	case 'A':
		return []name{
			{"AElig", 198}, {"AMP", 38}, {"Aacute", 193}, {"Acirc", 194}, {"Agrave", 192}, {"Alpha;", 913},
			{"Aring", 197}, {"Atilde", 195}, {"Auml", 196},
		}
	case 'B':
		return []name{{"Beta;", 914}}
	case 'C':
		return []name{{"COPY", 169}, {"Ccedil", 199}, {"Chi;", 935}}
	case 'D':
		return []name{{"Dagger;", 8225}, {"Delta;", 916}}
	case 'E':
		return []name{
			{"ETH", 208}, {"Eacute", 201}, {"Ecirc", 202}, {"Egrave", 200}, {"Epsilon;", 917}, {"Eta;", 919},
			{"Euml", 203},
		}
	case 'G':
		return []name{{"GT", 62}, {"Gamma;", 915}}
	case 'I':
		return []name{{"Iacute", 205}, {"Icirc", 206}, {"Igrave", 204}, {"Iota;", 921}, {"Iuml", 207}}
	case 'K':
		return []name{{"Kappa;", 922}}
	case 'L':
		return []name{{"LT", 60}, {"Lambda;", 923}}
	case 'M':
		return []name{{"Mu;", 924}}
	case 'N':
		return []name{{"NewLine;", 10}, {"Ntilde", 209}, {"Nu;", 925}}
	case 'O':
		return []name{
			{"OElig;", 338}, {"Oacute", 211}, {"Ocirc", 212}, {"Ograve", 210}, {"Omega;", 937},
			{"Omicron;", 927}, {"Oslash", 216}, {"Otilde", 213}, {"Ouml", 214},
		}
	case 'P':
		return []name{{"Phi;", 934}, {"Pi;", 928}, {"Prime;", 8243}, {"Psi;", 936}}
	case 'Q':
		return []name{{"QUOT", 34}}
	case 'R':
		return []name{{"REG", 174}, {"Rho;", 929}}
	case 'S':
		return []name{{"Scaron;", 352}, {"Sigma;", 931}}
	case 'T':
		return []name{{"THORN", 222}, {"Tab;", 9}, {"Tau;", 932}, {"Theta;", 920}}
	case 'U':
		return []name{{"Uacute", 218}, {"Ucirc", 219}, {"Ugrave", 217}, {"Upsilon;", 933}, {"Uuml", 220}}
	case 'X':
		return []name{{"Xi;", 926}}
	case 'Y':
		return []name{{"Yacute", 221}, {"Yuml;", 376}}
	case 'Z':
		return []name{{"Zeta;", 918}}
	}
	return nil
}

func smallsToL(first byte) []name {
	switch first {
	case 'a':
		return []name{
			{"aacute", 225}, {"acE;", 8766}, {"acirc", 226}, {"acute", 180}, {"aelig", 230}, {"agrave", 224},
			{"alpha;", 945}, {"amp", 38}, {"and;", 8743}, {"ang;", 8736}, {"apos;", 39}, {"aring", 229},
			{"asymp;", 8776}, {"atilde", 227}, {"auml", 228},
		}
	case 'b':
		return []name{{"bdquo;", 8222}, {"beta;", 946}, {"bne;", 61}, {"brvbar", 166}, {"bull;", 8226}}
	case 'c':
		return []name{
			{"cap;", 8745}, {"ccedil", 231}, {"cedil", 184}, {"cent", 162}, {"chi;", 967}, {"circ;", 710},
			{"colon;", 58}, {"cong;", 8773}, {"copy", 169}, {"cup;", 8746}, {"curren", 164},
		}
	case 'd':
		return []name{{"dagger;", 8224}, {"darr;", 8595}, {"deg", 176}, {"delta;", 948}, {"divide", 247}}
	case 'e':
		return []name{
			{"eacute", 233}, {"ecirc", 234}, {"egrave", 232}, {"empty;", 8709}, {"emsp;", 8195}, {"ensp;", 8194},
			{"epsilon;", 949}, {"equiv;", 8801}, {"eta;", 951}, {"eth", 240}, {"euml", 235}, {"euro;", 8364},
			{"exist;", 8707},
		}
	case 'f':
		return []name{
			{"fjlig;", 102}, {"fnof;", 402}, {"forall;", 8704}, {"frac12", 189}, {"frac14", 188},
			{"frac34", 190}, {"frasl;", 8260},
		}
	case 'g':
		return []name{{"gamma;", 947}, {"ge;", 8805}, {"gt", 62}}
	case 'h':
		return []name{{"harr;", 8596}, {"hellip;", 8230}}
	case 'i':
		return []name{
			{"iacute", 237}, {"icirc", 238}, {"iexcl", 161}, {"igrave", 236}, {"infin;", 8734}, {"int;", 8747},
			{"iota;", 953}, {"iquest", 191}, {"isin;", 8712}, {"iuml", 239},
		}
	case 'k':
		return []name{{"kappa;", 954}}
	case 'l':
		return []name{
			{"lambda;", 955}, {"laquo", 171}, {"larr;", 8592}, {"lcub;", 123}, {"ldquo;", 8220}, {"le;", 8804},
			{"lowast;", 8727}, {"lpar;", 40}, {"lrm;", 8206}, {"lsaquo;", 8249}, {"lsqb;", 91}, {"lsquo;", 8216},
			{"lt", 60},
		}
	}
	return nil
}

func smallsFromM(first byte) []name {
	switch first {
	case 'm':
		return []name{{"macr", 175}, {"mdash;", 8212}, {"micro", 181}, {"middot", 183}, {"minus;", 8722}, {"mu;", 956}}
	case 'n':
		return []name{
			{"nabla;", 8711}, {"nbsp", 160}, {"ndash;", 8211}, {"ne;", 8800}, {"ni;", 8715}, {"not", 172},
			{"notin;", 8713}, {"nsub;", 8836}, {"ntilde", 241}, {"nu;", 957}, {"num;", 35}, {"nvlt;", 60},
		}
	case 'o':
		return []name{
			{"oacute", 243}, {"ocirc", 244}, {"oelig;", 339}, {"ograve", 242}, {"oline;", 8254}, {"omega;", 969},
			{"omicron;", 959}, {"oplus;", 8853}, {"or;", 8744}, {"ordf", 170}, {"ordm", 186}, {"oslash", 248},
			{"otilde", 245}, {"otimes;", 8855}, {"ouml", 246},
		}
	case 'p':
		return []name{
			{"para", 182}, {"part;", 8706}, {"permil;", 8240}, {"perp;", 8869}, {"phi;", 966}, {"pi;", 960},
			{"piv;", 982}, {"plusmn", 177}, {"pound", 163}, {"prime;", 8242}, {"prod;", 8719}, {"prop;", 8733},
			{"psi;", 968},
		}
	case 'q':
		return []name{{"quot", 34}}
	case 'r':
		return []name{
			{"radic;", 8730}, {"raquo", 187}, {"rarr;", 8594}, {"rcub;", 125}, {"rdquo;", 8221}, {"reg", 174},
			{"rho;", 961}, {"rlm;", 8207}, {"rpar;", 41}, {"rsaquo;", 8250}, {"rsqb;", 93}, {"rsquo;", 8217},
		}
	case 's':
		return []name{
			{"sbquo;", 8218}, {"scaron;", 353}, {"sdot;", 8901}, {"sect", 167}, {"shy", 173}, {"sigma;", 963},
			{"sigmaf;", 962}, {"sim;", 8764}, {"sub;", 8834}, {"sube;", 8838}, {"sum;", 8721}, {"sup1", 185},
			{"sup2", 178}, {"sup3", 179}, {"sup;", 8835}, {"supe;", 8839}, {"szlig", 223},
		}
	case 't':
		return []name{
			{"tau;", 964}, {"there4;", 8756}, {"theta;", 952}, {"thetasym;", 977}, {"thinsp;", 8201},
			{"thorn", 254}, {"tilde;", 732}, {"times", 215},
		}
	case 'u':
		return []name{
			{"uacute", 250}, {"uarr;", 8593}, {"ucirc", 251}, {"ugrave", 249}, {"uml", 168}, {"upsih;", 978},
			{"upsilon;", 965}, {"uuml", 252},
		}
	case 'x':
		return []name{{"xi;", 958}}
	case 'y':
		return []name{{"yacute", 253}, {"yen", 165}, {"yuml", 255}}
	case 'z':
		return []name{{"zeta;", 950}, {"zwj;", 8205}, {"zwnj;", 8204}}
	}
	return nil
}
