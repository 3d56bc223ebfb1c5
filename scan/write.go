package scan

import (
	"strings"
	"unicode/utf8"

	"arbiter/api"
)

// Quote writes the symbol of that name.
func Quote(name string) (string, api.Errno) {
	if simple(name) && !reserved(name) {
		return strings.Clone(name), api.OK
	}
	if !writable(name) || strings.ContainsAny(name, `|\`) {
		return "", api.ErrName
	}
	return "|" + name + "|", api.OK
}

// Literal writes a string.
func Literal(s string) (string, api.Errno) {
	if !writable(s) {
		return "", api.ErrName
	}
	return `"` + strings.ReplaceAll(s, `"`, `""`) + `"`, api.OK
}

// writable says whether a text is characters that may stand in a string.
func writable(text string) bool {
	for i, r := range text {
		switch {
		case r == utf8.RuneError:
			// Range tells bytes that are no character by the very rune that a character of the text may be.
			if !strings.HasPrefix(text[i:], string(utf8.RuneError)) {
				return false
			}
		case r < utf8.RuneSelf && classes[byte(r)] == control:
			return false
		}
	}
	return true
}

// Join writes tokens one behind the other, with a blank between two but at the inner side of a bracket.
func Join(l []api.Token) (string, api.Errno) {
	var b strings.Builder
	for i, t := range l {
		s, err := spelling(t)
		if err != api.OK {
			return "", err
		}
		if i > 0 && l[i-1].Kind != api.KindOpen && t.Kind != api.KindClose {
			b.WriteByte(' ')
		}
		b.WriteString(s)
	}
	return b.String(), api.OK
}

func spelling(t api.Token) (string, api.Errno) {
	switch t.Kind {
	case api.KindSymbol:
		return Quote(t.Text)
	case api.KindString:
		return Literal(t.Text)
	case api.KindKeyword:
		if simple(t.Text) {
			return ":" + t.Text, api.OK
		}
	default:
		// All other tokens are spelt by their Text, if it is read as just them.
		l, err, _ := Tokens(t.Text)
		if err == api.OK && len(l) == 1 && l[0].Kind == t.Kind && l[0].Text == t.Text {
			return t.Text, api.OK
		}
	}
	return "", api.ErrName
}

// Place tells the line and the column of a place, both from 1 on.
func Place(text string, at int) (int, int, api.Errno) {
	if at < 0 || at > len(text) {
		return 0, 0, api.ErrIndex
	}
	line, column := 1, 1
	for i := range at {
		switch {
		case lineEnds(text, i):
			line, column = line+1, 1
		case text[i] < 0x80 || text[i] > 0xBF:
			column++
		}
	}
	return line, column, api.OK
}

// lineEnds says whether a line ends behind the byte at i.
func lineEnds(text string, i int) bool {
	return text[i] == '\n' || text[i] == '\r' && (i+1 == len(text) || text[i+1] != '\n')
}
