package decode

import (
	"hornbeam/api"
)

// kind is how an encoding's bytes are read, one by one, with what those so far leave open. Both calls answer the list
// with what has become sure behind it.
type kind interface {
	put(l []rune, c byte) []rune
	end(l []rune) []rune
}

// kindOf is a new one, with nothing open; nil, if there is no such encoding.
func kindOf(enc int) kind {
	switch enc {
	case api.EncUTF8:
		return &eights{}
	case api.EncUTF16LE:
		return &sixteens{low: true}
	case api.EncUTF16BE:
		return &sixteens{}
	case api.EncWindows:
		return windows{}
	case api.EncLatin9:
		return latin{}
	case api.EncCyr:
		return cyrillic{}
	case api.EncUser:
		return user{}
	}
	return nil
}
