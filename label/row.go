package label

import (
	"hornbeam/api"
)

// row is an encoding with its name and its labels, which stand apart by one blank: no label has a blank in it.
type row struct {
	enc    int
	name   string
	labels string
}

func rows() []row {
	return []row{
		{api.EncUTF8, "UTF-8", "utf-8 utf8 unicode-1-1-utf-8 unicode11utf8 unicode20utf8 x-unicode20utf8"},
		{api.EncUTF16LE, "UTF-16LE", "utf-16 utf-16le unicode ucs-2 iso-10646-ucs-2 csunicode unicodefeff"},
		{api.EncUTF16BE, "UTF-16BE", "utf-16be unicodefffe"},
		{api.EncWindows, "windows-1252", "windows-1252 latin1 iso-8859-1 iso8859-1 iso_8859-1 ascii us-ascii cp1252 x-cp1252 l1 ibm819 cp819"},
		{api.EncLatin9, "ISO-8859-15", "iso-8859-15 iso8859-15 iso_8859-15 l9 csisolatin9"},
		{api.EncCyr, "ISO-8859-5", "iso-8859-5 iso8859-5 iso_8859-5 cyrillic csisolatincyrillic iso-ir-144"},
		{api.EncUser, "x-user-defined", "x-user-defined"},
	}
}
