package scan_test

import (
	"strings"
	"testing"
	"unicode/utf8"

	"arbiter/api"
	"arbiter/scan"
)

const (
	letters     = "ABCDEFGHIJKLMNOPQRSTUVWXYZabcdefghijklmnopqrstuvwxyz"
	digits      = "0123456789"
	marks       = "~!@$%^&*_-+=<>.?/"
	symbolBytes = letters + digits + marks
	whites      = "\t\n\r "
	strays      = "',[\\]`{}"
)

func words() []string {
	return strings.Fields(`BINARY DECIMAL HEXADECIMAL NUMERAL STRING _ ! as let exists forall match par
		assert check-sat check-sat-assuming declare-const declare-datatype declare-datatypes
		declare-fun declare-sort define-const define-fun define-fun-rec define-funs-rec define-sort
		echo exit get-assertions get-assignment get-info get-model get-option get-proof
		get-unsat-assumptions get-unsat-core get-value pop push reset reset-assertions
		set-info set-logic set-option`)
}

func isControl(b byte) bool {
	return b < 32 && !strings.Contains(whites, string(rune(b))) || b == 127
}

func isSymbolByte(b byte) bool {
	return strings.IndexByte(symbolBytes, b) >= 0
}

func isDigit(b byte) bool {
	return strings.IndexByte(digits, b) >= 0
}

func token(kind, at, end int, text string) api.Token {
	return api.Token{Kind: kind, At: at, End: end, Text: text}
}

func same(a, b []api.Token) bool {
	if len(a) != len(b) {
		return false
	}
	for i := range a {
		if a[i] != b[i] {
			return false
		}
	}
	return true
}

// span is how many bytes at the front of text are of the set.
func span(text, set string) int {
	n := 0
	for n < len(text) && strings.IndexByte(set, text[n]) >= 0 {
		n++
	}
	return n
}

// The plain way to cut a text: with the whole of it at hand.
func plain(text string) ([]api.Token, api.Errno, int) {
	var l []api.Token
	at := 0
	for at < len(text) {
		t, skip, err, place := plainOne(text, at)
		if err != api.OK {
			return l, err, place
		}
		if t.Kind != 0 {
			l = append(l, t)
		}
		at = skip
	}
	return l, api.OK, 0
}

// plainOne tells what begins at the place at (a token of Kind 0 is white or a comment), and where it ends.
func plainOne(text string, at int) (api.Token, int, api.Errno, int) {
	c, from := text[at], text[at:]
	put := func(kind, n int, value string) (api.Token, int, api.Errno, int) {
		return token(kind, at, at+n, value), at + n, api.OK, 0
	}
	fail := func(e api.Errno, place int) (api.Token, int, api.Errno, int) {
		return api.Token{}, 0, e, place
	}
	switch {
	case c == '(':
		return put(api.KindOpen, 1, "(")
	case c == ')':
		return put(api.KindClose, 1, ")")
	case strings.IndexByte(whites, c) >= 0:
		return api.Token{}, at + 1, api.OK, 0
	case c == ';':
		n, e, place := plainInside(text, at+1, "\n\r", "")
		if e != api.OK {
			return fail(e, place)
		}
		return api.Token{}, n, api.OK, 0
	case c == '"':
		return plainString(text, at)
	case c == '|':
		n, e, place := plainInside(text, at+1, "|", "\\")
		if e != api.OK {
			return fail(e, place)
		}
		if n == len(text) {
			return fail(api.ErrQuoted, at)
		}
		return put(api.KindSymbol, n+1-at, text[at+1:n])
	case c == ':':
		n := span(from[1:], symbolBytes)
		if n == 0 || isDigit(from[1]) {
			return fail(api.ErrKeyword, at+1)
		}
		return put(api.KindKeyword, n+1, from[1:n+1])
	case c == '#' || isDigit(c):
		return plainNumber(text, at)
	case isSymbolByte(c):
		n := span(from, symbolBytes)
		for _, w := range words() {
			if w == from[:n] {
				return put(api.KindWord, n, w)
			}
		}
		return put(api.KindSymbol, n, from[:n])
	case c >= 0x80:
		return fail(api.ErrUtf8, at)
	}
	return fail(api.ErrByte, at)
}

// plainInside goes on to the first byte of ends, or the text's end.
func plainInside(text string, at int, ends, never string) (int, api.Errno, int) {
	for at < len(text) && strings.IndexByte(ends, text[at]) < 0 {
		r, n := utf8.DecodeRuneInString(text[at:])
		switch {
		case r == utf8.RuneError && n <= 1:
			return 0, api.ErrUtf8, at
		case isControl(text[at]):
			return 0, api.ErrByte, at
		case strings.IndexByte(never, text[at]) >= 0:
			return 0, api.ErrQuoted, at
		}
		at += n
	}
	return at, api.OK, 0
}

func plainString(text string, at int) (api.Token, int, api.Errno, int) {
	value, begin := "", at
	for {
		n, e, place := plainInside(text, at+1, "\"", "")
		if e != api.OK {
			return api.Token{}, 0, e, place
		}
		if n == len(text) {
			return api.Token{}, 0, api.ErrString, begin
		}
		value += text[at+1 : n]
		if n+1 == len(text) || text[n+1] != '"' {
			return token(api.KindString, begin, n+1, value), n + 1, api.OK, 0
		}
		value += "\""
		at = n + 1
	}
}

func plainNumber(text string, at int) (api.Token, int, api.Errno, int) {
	from := text[at:]
	kind, lead, set := api.KindNumeral, 0, ""
	switch {
	case strings.HasPrefix(from, "#x"):
		kind, lead, set = api.KindHex, 2, digits+"abcdefABCDEF"
	case strings.HasPrefix(from, "#b"):
		kind, lead, set = api.KindBinary, 2, "01"
	case from[0] == '#':
		return api.Token{}, 0, api.ErrNumber, at + 1
	case from[0] == '0':
		lead = 1
	default:
		lead = span(from, digits)
	}
	if kind == api.KindNumeral && lead < len(from) && from[lead] == '.' {
		kind, lead, set = api.KindDecimal, lead+1, digits
	}
	n := lead
	if set != "" {
		n += span(from[lead:], set)
		if n == lead {
			return api.Token{}, 0, api.ErrNumber, at + n
		}
	}
	if n < len(from) && isSymbolByte(from[n]) {
		return api.Token{}, 0, api.ErrGlued, at + n
	}
	value := from[:n]
	if kind == api.KindHex {
		value = strings.ToLower(value)
	}
	return token(kind, at, at+n, value), at + n, api.OK, 0
}

// certain is how many bytes of the text must have come for the token to be certain.
func certain(text string, t api.Token) int {
	if t.Kind == api.KindOpen || t.Kind == api.KindClose || text[t.At] == '|' {
		return t.End
	}
	return t.End + 1
}

// feed hands the text over in pieces that end at the cuts, and holds each answer against what is certain by then.
func feed(t *testing.T, text string, cuts ...int) {
	t.Helper()
	want, e, place := scan.Tokens(text)
	s := scan.New()
	from, told := 0, 0
	for _, cut := range append(append([]int(nil), cuts...), len(text)) {
		n := told
		for n < len(want) && certain(text, want[n]) <= cut {
			n++
		}
		if got := s.Feed(text[from:cut]); !same(got, want[told:n]) {
			t.Fatalf("S3: %q up to %d of cuts %#v: Feed tells %#v, want %#v", text, cut, cuts, got, want[told:n])
		}
		from, told = cut, n
	}
	if got, f, at := s.End(); !same(got, want[told:]) || f != e || at != place {
		t.Fatalf("S3: %q cut at %#v: End tells %#v, %d at %d, want %#v, %d at %d", text, cuts, got, f, at, want[told:], e, place)
	}
}

// everyText goes through all texts over the alphabet up to a length.
func everyText(alphabet string, length int, look func(text string)) {
	var grow func(text []byte)
	grow = func(text []byte) {
		look(string(text))
		if len(text) == length {
			return
		}
		for i := range len(alphabet) {
			grow(append(text[:len(text):len(text)], alphabet[i]))
		}
	}
	grow(nil)
}
