package lexer

import (
	"hornbeam/api"
)

// States. Those from outside have the numbers that they are known by there.
const (
	data      = api.LexData
	rcdata    = api.LexRCDATA
	rawtext   = api.LexRAWTEXT
	script    = api.LexScript
	plaintext = api.LexPlaintext
	cdata     = api.LexCDATA
)

// States from within. Where rows of the chapter are alike but for a quote, or for the text that they go back to, one state stands for them, and quote or home says which it is.
const (
	cdataBracket = cdata + 1 + iota
	cdataEnd
	tagOpen
	endTagOpen
	tagName
	selfClose
	less
	endOpen
	endName
	escStart
	escStartDash
	esc // the two behind it are those of one dash and of more
	escDash
	escDashDash
	dblStart
	dbl // likewise
	dblDash
	dblDashDash
	dblLess
	dblEnd
	beforeAttr
	attrName
	afterAttr
	beforeValue
	quotedValue
	plainValue
	afterValue
	markup
	bogus
	comStart
	comStartDash
	com
	comLess
	comLessBang
	comLessDash
	comLessDashDash
	comEndDash
	comEnd
	comEndBang
	beginDoctype
	beforeDocName
	docName
	afterDocName
	afterPublicKey
	beforePublic
	publicID
	afterPublic
	between
	afterSystemKey
	beforeSystem
	systemID
	afterSystem
	bogusDoctype
	ref
	named
	ambiguous
	numeric
	hexStart
	hex
	decStart
	dec
)

// verdict is what becomes of a code point that a state has looked at.
type verdict int

const (
	done   verdict = iota
	again          // it is looked at again, in the state that is then
	behind         // likewise, but all of temp comes there ahead of it
)

// rule is what a state does with a code point.
type rule func(x *Lexer, c rune) verdict

// rules are those of all states.
func rules() map[int]rule {
	return map[int]rule{
		data: (*Lexer).inData, rcdata: (*Lexer).inRCDATA, rawtext: (*Lexer).inRaw, script: (*Lexer).inRaw,
		plaintext: (*Lexer).inPlaintext, cdata: (*Lexer).inCDATA, cdataBracket: (*Lexer).inCDATABracket, cdataEnd: (*Lexer).inCDATAEnd,

		tagOpen: (*Lexer).inTagOpen, endTagOpen: (*Lexer).inEndTagOpen, tagName: (*Lexer).inTagName, selfClose: (*Lexer).inSelfClose,

		less: (*Lexer).inLess, endOpen: (*Lexer).inEndOpen, endName: (*Lexer).inEndName,

		escStart: (*Lexer).inEscStart, escStartDash: (*Lexer).inEscStartDash,
		esc: (*Lexer).inEsc, escDash: (*Lexer).inEsc, escDashDash: (*Lexer).inEsc, dblStart: (*Lexer).inDblStart,
		dbl: (*Lexer).inDbl, dblDash: (*Lexer).inDbl, dblDashDash: (*Lexer).inDbl, dblLess: (*Lexer).inDblLess, dblEnd: (*Lexer).inDblEnd,

		beforeAttr: (*Lexer).inBeforeAttr, attrName: (*Lexer).inAttrName, afterAttr: (*Lexer).inAfterAttr,
		beforeValue: (*Lexer).inBeforeValue, quotedValue: (*Lexer).inQuotedValue, plainValue: (*Lexer).inPlainValue,
		afterValue: (*Lexer).inAfterValue,

		markup: (*Lexer).inMarkup, bogus: (*Lexer).inBogus,
		comStart: (*Lexer).inComStart, comStartDash: (*Lexer).inComStartDash, com: (*Lexer).inCom,
		comLess: (*Lexer).inComLess, comLessBang: (*Lexer).inComLessBang, comLessDash: (*Lexer).inComLessDash,
		comLessDashDash: (*Lexer).inComLessDashDash, comEndDash: (*Lexer).inComEndDash, comEnd: (*Lexer).inComEnd,
		comEndBang: (*Lexer).inComEndBang,

		beginDoctype: (*Lexer).inBeginDoctype, beforeDocName: (*Lexer).inBeforeDocName, docName: (*Lexer).inDocName,
		afterDocName:   (*Lexer).inAfterDocName,
		afterPublicKey: (*Lexer).inBeforePublic, beforePublic: (*Lexer).inBeforePublic, publicID: (*Lexer).inPublicID,
		afterPublic: (*Lexer).inAfterPublic, between: (*Lexer).inAfterPublic,
		afterSystemKey: (*Lexer).inBeforeSystem, beforeSystem: (*Lexer).inBeforeSystem, systemID: (*Lexer).inSystemID,
		afterSystem: (*Lexer).inAfterSystem, bogusDoctype: (*Lexer).inBogusDoctype,

		ref: (*Lexer).inRef, named: (*Lexer).inNamed, ambiguous: (*Lexer).inAmbiguous,
		numeric: (*Lexer).inNumeric, hexStart: (*Lexer).inHexStart, hex: (*Lexer).inHex, decStart: (*Lexer).inDecStart, dec: (*Lexer).inDec,
	}
}

// take leads a code point from state to state, until one of them is done with it.
func (x *Lexer) take(c rune) {
states:
	for {
		switch x.rules[x.state](x, c) {
		case done:
			break states
		case behind:
			temp := x.temp
			x.temp = nil
			for _, r := range temp {
				x.take(r)
			}
		}
	}
}

// to goes on to a state with the next code point.
func (x *Lexer) to(state int) verdict {
	x.state = state
	return done
}

// again looks at the same code point in another state.
func (x *Lexer) again(state int) verdict {
	x.state = state
	return again
}
