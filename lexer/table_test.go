package lexer_test

// table is the chapter's, in its order, with all its states: of a row that stands for several ones, the words with a | between them are those of one state each. A rule is what fits (@S: in the state S alone), a colon, and what is done:
// E-x an error, NUL, char (char=x), temp (=x, +c, +small), back, →S, again-S, end, emit, tell (the comment or doctype is told), new-x, named (an attribute's name is done), self, quirks, has-n, +x and +x=y (y is added to x), put (put-temp).
// Four rows are not here, but in code: Markup, AfterDocName, Named, Hex and Dec.
const table = `
Data
	& : temp=& back →Ref
	< : →TagOpen
	0 : E-unexpected-null-character char
	EOF : end
	else : char
RCDATA
	& : temp=& back →Ref
	< : →RcLess
	0 : NUL char
	EOF : end
	else : char
RAWTEXT|Script
	< : →RawLess|ScrLess
	0 : NUL char
	EOF : end
	else : char
Plaintext
	0 : NUL char
	EOF : end
	else : char
CDATA
	] : →CDataBracket
	EOF : E-eof-in-cdata end
	else : char
CDataBracket
	] : →CDataEnd
	else : char=] again-CDATA
CDataEnd
	] : char=]
	> : →Data
	else : char=]] again-CDATA
TagOpen
	! : temp= →Markup
	/ : →EndTagOpen
	letter : new-start again-TagName
	? : E-unexpected-question-mark-instead-of-tag-name new-comment again-Bogus
	EOF : E-eof-before-tag-name char=< end
	else : E-invalid-first-character-of-tag-name char=< again-Data
EndTagOpen
	letter : new-end again-TagName
	> : E-missing-end-tag-name →Data
	EOF : E-eof-before-tag-name char=</ end
	else : E-invalid-first-character-of-tag-name new-comment again-Bogus
TagName
	blank : →BeforeAttr
	/ : →SelfClose
	> : emit
	0 : NUL +tag
	EOF : E-eof-in-tag end
	else : +tag
RcLess|RawLess|ScrLess|EscLess
	/ : temp= →RcEndOpen|RawEndOpen|ScrEndOpen|EscEndOpen
	@ScrLess ! : char=<! →EscStart
	@EscLess letter : temp= char=< again-DblStart
	else : char=< again-RCDATA|RAWTEXT|Script|Esc
RcEndOpen|RawEndOpen|ScrEndOpen|EscEndOpen
	letter : new-end temp= again-RcEndName|RawEndName|ScrEndName|EscEndName
	else : char=</ again-RCDATA|RAWTEXT|Script|Esc
RcEndName|RawEndName|ScrEndName|EscEndName
	right blank : →BeforeAttr
	right / : →SelfClose
	right > : emit
	letter : +tag temp+c
	else : char=</ char-temp again-RCDATA|RAWTEXT|Script|Esc
EscStart
	- : char →EscStartDash
	else : again-Script
EscStartDash
	- : char →EscDashDash
	else : again-Script
Esc|EscDash|EscDashDash
	- : char →EscDash|EscDashDash|EscDashDash
	< : →EscLess
	@EscDashDash > : char →Script
	EOF : E-eof-in-script-html-comment-like-text end
	0 : NUL char →Esc
	else : char →Esc
DblStart
	isscript blank / > : char →Dbl
	blank / > : char →Esc
	letter : temp+small char
	else : again-Esc
Dbl|DblDash|DblDashDash
	- : char →DblDash|DblDashDash|DblDashDash
	< : char →DblLess
	@DblDashDash > : char →Script
	EOF : E-eof-in-script-html-comment-like-text end
	0 : NUL char →Dbl
	else : char →Dbl
DblLess
	/ : temp= char →DblEnd
	else : again-Dbl
DblEnd
	isscript blank / > : char →Esc
	blank / > : char →Dbl
	letter : temp+small char
	else : again-Dbl
BeforeAttr
	blank :
	/ > EOF : again-AfterAttr
	= : E-unexpected-equals-sign-before-attribute-name new-attr +attr →AttrName
	else : new-attr again-AttrName
AttrName
	blank / > EOF : named again-AfterAttr
	= : named →BeforeValue
	0 : NUL +attr
	" ' < : E-unexpected-character-in-attribute-name +attr
	else : +attr
AfterAttr
	blank :
	/ : →SelfClose
	= : →BeforeValue
	> : emit
	EOF : E-eof-in-tag end
	else : new-attr again-AttrName
BeforeValue
	blank :
	" : →ValueD
	' : →ValueS
	> : E-missing-attribute-value emit
	else : again-ValueU
ValueD|ValueS
	"|' : →AfterValue
	& : temp=& back →Ref
	EOF : E-eof-in-tag end
	0 : NUL +value
	else : +value
ValueU
	blank : →BeforeAttr
	> : emit
	& : temp=& back →Ref
	EOF : E-eof-in-tag end
	0 : NUL +value
	" ' < = grave : E-unexpected-character-in-unquoted-attribute-value +value
	else : +value
AfterValue
	EOF : E-eof-in-tag end
	blank : →BeforeAttr
	/ : →SelfClose
	> : emit
	else : E-missing-whitespace-between-attributes again-BeforeAttr
SelfClose
	EOF : E-eof-in-tag end
	> : self emit
	else : E-unexpected-solidus-in-tag again-BeforeAttr
Bogus
	> : emit
	EOF : tell end
	0 : NUL +com
	else : +com
ComStart
	> : E-abrupt-closing-of-empty-comment emit
	- : →ComStartDash
	else : again-Com
ComStartDash
	> : E-abrupt-closing-of-empty-comment emit
	- : →ComEnd
	EOF : E-eof-in-comment tell end
	else : +com=- again-Com
Com
	< : +com=< →ComLess
	- : →ComEndDash
	EOF : E-eof-in-comment tell end
	0 : NUL +com
	else : +com
ComLess
	! : +com=! →ComLessBang
	< : +com=<
	else : again-Com
ComLessBang
	- : →ComLessDash
	else : again-Com
ComLessDash
	- : →ComLessDashDash
	else : again-ComEndDash
ComLessDashDash
	> EOF : again-ComEnd
	else : E-nested-comment again-ComEnd
ComEndDash
	- : →ComEnd
	EOF : E-eof-in-comment tell end
	else : +com=- again-Com
ComEnd
	> : emit
	! : →ComEndBang
	- : +com=-
	EOF : E-eof-in-comment tell end
	else : +com=-- again-Com
ComEndBang
	> : E-incorrectly-closed-comment emit
	- : +com=--! →ComEndDash
	EOF : E-eof-in-comment tell end
	else : +com=--! again-Com
Doctype
	blank : →BeforeDocName
	> EOF : again-BeforeDocName
	else : E-missing-whitespace-before-doctype-name again-BeforeDocName
BeforeDocName
	blank :
	> : new-doctype E-missing-doctype-name quirks emit
	EOF : new-doctype E-eof-in-doctype quirks tell end
	0 : new-doctype has-1 NUL +doc →DocName
	else : new-doctype has-1 +doc →DocName
DocName
	blank : temp= →AfterDocName
	> : emit
	EOF : E-eof-in-doctype quirks tell end
	0 : NUL +doc
	else : +doc
AfterPublicKey|BeforePublic
	EOF : E-eof-in-doctype quirks tell end
	blank : →BeforePublic
	@AfterPublicKey " : E-missing-whitespace-after-doctype-public-keyword has-2 →PublicD
	@AfterPublicKey ' : E-missing-whitespace-after-doctype-public-keyword has-2 →PublicS
	@BeforePublic " : has-2 →PublicD
	@BeforePublic ' : has-2 →PublicS
	> : E-missing-doctype-public-identifier quirks emit
	else : E-missing-quote-before-doctype-public-identifier quirks again-BogusDoctype
PublicD|PublicS
	"|' : →AfterPublic
	> : E-abrupt-doctype-public-identifier quirks emit
	EOF : E-eof-in-doctype quirks tell end
	0 : NUL +public
	else : +public
AfterPublic|Between
	EOF : E-eof-in-doctype quirks tell end
	blank : →Between
	> : emit
	@AfterPublic " : E-missing-whitespace-between-doctype-public-and-system-identifiers has-4 →SystemD
	@AfterPublic ' : E-missing-whitespace-between-doctype-public-and-system-identifiers has-4 →SystemS
	@Between " : has-4 →SystemD
	@Between ' : has-4 →SystemS
	else : E-missing-quote-before-doctype-system-identifier quirks again-BogusDoctype
AfterSystemKey|BeforeSystem
	EOF : E-eof-in-doctype quirks tell end
	blank : →BeforeSystem
	@AfterSystemKey " : E-missing-whitespace-after-doctype-system-keyword has-4 →SystemD
	@AfterSystemKey ' : E-missing-whitespace-after-doctype-system-keyword has-4 →SystemS
	@BeforeSystem " : has-4 →SystemD
	@BeforeSystem ' : has-4 →SystemS
	> : E-missing-doctype-system-identifier quirks emit
	else : E-missing-quote-before-doctype-system-identifier quirks again-BogusDoctype
SystemD|SystemS
	"|' : →AfterSystem
	> : E-abrupt-doctype-system-identifier quirks emit
	EOF : E-eof-in-doctype quirks tell end
	0 : NUL +system
	else : +system
AfterSystem
	EOF : E-eof-in-doctype quirks tell end
	blank :
	> : emit
	else : E-unexpected-character-after-doctype-system-identifier again-BogusDoctype
BogusDoctype
	> : emit
	0 : E-unexpected-null-character
	EOF : tell end
	else :
Ref
	alnum : temp= again-Named
	# : temp+c →Numeric
	else : put-temp again-back
Ambiguous
	alnum : put
	; : E-unknown-named-character-reference again-back
	else : again-back
Numeric
	x X : temp+c →HexStart
	else : again-DecStart
HexStart|DecStart
	hexdigit|digit : number again-Hex|Dec
	else : E-absence-of-digits-in-numeric-character-reference put-temp again-back
`
