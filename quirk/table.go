package quirk

// whole are the public identifiers that lead to quirks, with nothing behind them.
func whole() []string {
	return []string{
		"-//W3O//DTD W3 HTML Strict 3.0//EN//",
		"-/W3C/DTD HTML 4.0 Transitional/EN",
		"HTML",
	}
}

// old are the beginnings of public identifiers that lead to quirks.
func old() []string {
	return []string{
		"+//Silmaril//dtd html Pro v0r11 19970101//",
		"-//AS//DTD HTML 3.0 asWedit + extensions//",
		"-//IETF//DTD HTML 2.0 Level 1//",
		"-//IETF//DTD HTML 2.0 Level 2//",
		"-//IETF//DTD HTML 2.0 Strict//",
		"-//IETF//DTD HTML 2.0//",
		"-//IETF//DTD HTML 2.1E//",
		"-//IETF//DTD HTML 3.0//",
		"-//IETF//DTD HTML 3.2 Final//",
		"-//IETF//DTD HTML 3.2//",
		"-//IETF//DTD HTML 3//",
		"-//IETF//DTD HTML Strict//",
		"-//IETF//DTD HTML//",
		"-//Microsoft//DTD Internet Explorer 2.0 HTML//",
		"-//Microsoft//DTD Internet Explorer 3.0 HTML//",
		"-//Netscape Comm. Corp.//DTD HTML//",
		"-//SQ//DTD HTML 2.0 HoTMetaL + extensions//",
		"-//Spyglass//DTD HTML 2.0 Extended//",
		"-//Sun Microsystems Corp.//DTD HotJava HTML//",
		"-//W3C//DTD HTML 3 1995-03-24//",
		"-//W3C//DTD HTML 3.2 Draft//",
		"-//W3C//DTD HTML 3.2 Final//",
		"-//W3C//DTD HTML 3.2//",
		"-//W3C//DTD HTML 4.0 Frameset//",
		"-//W3C//DTD HTML 4.0 Transitional//",
		"-//W3C//DTD HTML Experimental 19960712//",
		"-//W3C//DTD W3 HTML//",
		"-//W3O//DTD W3 HTML 3.0//",
		"-//WebTechs//DTD Mozilla HTML//",
	}
}

// transitional are the beginnings whose mode hangs on whether there is a system identifier.
func transitional() []string {
	return []string{
		"-//W3C//DTD HTML 4.01 Frameset//",
		"-//W3C//DTD HTML 4.01 Transitional//",
	}
}

// limited are the beginnings that lead to limited quirks, with a system identifier and without.
func limited() []string {
	return []string{
		"-//W3C//DTD XHTML 1.0 Frameset//",
		"-//W3C//DTD XHTML 1.0 Transitional//",
	}
}
