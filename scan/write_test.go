package scan_test

import (
	"math/rand"
	"strings"
	"testing"
	"unicode/utf8"

	"arbiter/api"
	"arbiter/scan"
)

func TestQuoteAndLiteral(t *testing.T) {
	for _, c := range []struct {
		name, quote string
		e           api.Errno
		literal     string
		f           api.Errno
	}{
		{"x", "x", 0, "\"x\"", 0},
		{"", "||", 0, "\"\"", 0},
		{"a1", "a1", 0, "\"a1\"", 0},
		{"12", "|12|", 0, "\"12\"", 0},
		{"1x", "|1x|", 0, "\"1x\"", 0},
		{"-1", "-1", 0, "\"-1\"", 0},
		{symbolBytes, symbolBytes, 0, "\"" + symbolBytes + "\"", 0},
		{marks, marks, 0, "\"" + marks + "\"", 0},
		{"a b", "|a b|", 0, "\"a b\"", 0},
		{"a\"b", "|a\"b|", 0, "\"a\"\"b\"", 0},
		{"\"\"", "|\"\"|", 0, "\"\"\"\"\"\"", 0},
		{"a|b", "", api.ErrName, "\"a|b\"", 0},
		{"|", "", api.ErrName, "\"|\"", 0},
		{"a\\b", "", api.ErrName, "\"a\\b\"", 0},
		{":a", "|:a|", 0, "\":a\"", 0},
		{"#b1", "|#b1|", 0, "\"#b1\"", 0},
		{"a;b\n'", "|a;b\n'|", 0, "\"a;b\n'\"", 0},
		{"\u00e9\u20ac\U0010FFFF\uFFFD", "|\u00e9\u20ac\U0010FFFF\uFFFD|", 0, "\"\u00e9\u20ac\U0010FFFF\uFFFD\"", 0},
		{"\uFFFD\xFF", "", api.ErrName, "", api.ErrName},
		{"a\xC3", "", api.ErrName, "", api.ErrName},
		{"\xEF\xBF", "", api.ErrName, "", api.ErrName},
		{"\xED\xA0\x80", "", api.ErrName, "", api.ErrName},
		{"a\x00", "", api.ErrName, "", api.ErrName},
		{"a\x7F", "", api.ErrName, "", api.ErrName},
		{" \x1F", "", api.ErrName, "", api.ErrName},
	} {
		if s, e := scan.Quote(c.name); s != c.quote || e != c.e {
			t.Errorf("S5: Quote(%q) = %q, %d, want %q, %d", c.name, s, e, c.quote, c.e)
		}
		if s, e := scan.Literal(c.name); s != c.literal || e != c.f {
			t.Errorf("S5: Literal(%q) = %q, %d, want %q, %d", c.name, s, e, c.literal, c.f)
		}
	}
	for _, w := range words() {
		if s, e := scan.Quote(w); s != "|"+w+"|" || e != 0 {
			t.Errorf("S5: Quote(%q) = %q, %d", w, s, e)
		}
	}
}

// readBack looks over S5 and S4 for one text, as a name and as what a string holds.
func readBack(t *testing.T, s string) {
	t.Helper()
	can := utf8.ValidString(s)
	for i := range len(s) {
		can = can && !isControl(s[i])
	}
	q, e := scan.Quote(s)
	if want := can && !strings.ContainsAny(s, "|\\"); want != (e == api.OK) || e != api.OK && (e != api.ErrName || q != "") {
		t.Fatalf("S5: Quote(%q) = %q, %d", s, q, e)
	}
	if e == api.OK {
		if l, f, _ := scan.Tokens(q); f != 0 || !same(l, []api.Token{token(api.KindSymbol, 0, len(q), s)}) {
			t.Fatalf("S5: Quote(%q) is read as %#v, %d", s, l, f)
		}
		if l, f, _ := scan.Tokens(s); q == s != (f == 0 && same(l, []api.Token{token(api.KindSymbol, 0, len(s), s)})) {
			t.Fatalf("S5: Quote(%q) = %q", s, q)
		}
	}
	q, e = scan.Literal(s)
	if can != (e == api.OK) || e != api.OK && (e != api.ErrName || q != "") {
		t.Fatalf("S5: Literal(%q) = %q, %d", s, q, e)
	}
	if l, f, _ := scan.Tokens(q); e == api.OK && (f != 0 || !same(l, []api.Token{token(api.KindString, 0, len(q), s)})) {
		t.Fatalf("S5: Literal(%q) is read as %#v, %d", s, l, f)
	}
}

func TestReadBack(t *testing.T) {
	for i := range 256 {
		readBack(t, string([]byte{byte(i)}))
		readBack(t, string([]byte{'a', byte(i)}))
		readBack(t, string([]byte{byte(i), 'a'}))
		readBack(t, string([]byte{0xC3, byte(i)}))
	}
	everyText("a1\"|\\; \n\x01\xE2\x82\xAC", 4, func(s string) { readBack(t, s) })
	for r := rune(0); r <= utf8.MaxRune; r += 1 + r/64 {
		readBack(t, "x"+string(r)+"y")
	}
}

func TestJoin(t *testing.T) {
	k := func(kind int, text string) api.Token { return token(kind, -5, 1<<40, text) }
	for _, c := range []struct {
		l    []api.Token
		want string
		e    api.Errno
	}{
		{nil, "", 0},
		{[]api.Token{}, "", 0},
		{[]api.Token{k(1, "("), k(3, "f"), k(1, "("), k(2, ")"), k(6, "1.0"), k(2, ")"), k(10, "k")}, "(f () 1.0) :k", 0},
		{[]api.Token{k(2, ")"), k(2, ")"), k(1, "("), k(1, "(")}, ")) ((", 0},
		{[]api.Token{k(1, "("), k(4, "assert"), k(3, "assert"), k(2, ")")}, "(assert |assert|)", 0},
		{[]api.Token{k(9, "a"), k(9, "b\"")}, "\"a\" \"b\"\"\"", 0},
		{[]api.Token{k(3, ""), k(3, "x y"), k(9, "")}, "|| |x y| \"\"", 0},
		{[]api.Token{k(5, "0"), k(5, "10"), k(6, "0.00"), k(7, "#x0a"), k(8, "#b01")}, "0 10 0.00 #x0a #b01", 0},
	} {
		if s, e := scan.Join(c.l); s != c.want || e != c.e {
			t.Errorf("S4: Join(%#v) = %q, %d, want %q", c.l, s, e, c.want)
		}
	}
	for _, x := range []api.Token{
		k(1, ")"), k(1, ""), k(1, "(("), k(2, "("), k(2, " )"), k(0, ""), k(0, "x"), k(-1, "x"), k(11, "x"), k(1<<40, "x"),
		k(3, "a|b"), k(3, "\\"), k(3, "\x00"), k(3, "\xFF"), k(9, "\x01"), k(9, "\xC3"),
		k(4, "lets"), k(4, ""), k(4, "let "), k(4, "|let|"), k(4, "x"), k(4, "LET"),
		k(5, ""), k(5, "00"), k(5, "01"), k(5, "-1"), k(5, "1.0"), k(5, " 1"), k(5, "1 "), k(5, "1;"), k(5, "1 2"), k(5, "a"),
		k(6, "1"), k(6, "1."), k(6, ".5"), k(6, "01.5"), k(6, "1.5.2"), k(6, "1.a"), k(6, "1.0 "),
		k(7, "#x"), k(7, "#xA"), k(7, "#X1"), k(7, "#xg"), k(7, "#b1"), k(7, "1"), k(7, "#x1\n"),
		k(8, "#b"), k(8, "#b2"), k(8, "#x1"), k(8, "#B1"), k(8, "01"), k(8, "#b0;"),
		k(10, ""), k(10, "1"), k(10, "1a"), k(10, ":a"), k(10, "a b"), k(10, "a|"), k(10, "\u00e9"), k(10, "a\xFF"),
	} {
		for _, l := range [][]api.Token{{x}, {k(1, "("), x}, {x, k(2, ")")}, {k(3, "a"), x, k(3, "b")}} {
			if s, e := scan.Join(l); s != "" || e != api.ErrName {
				t.Errorf("S4: Join(%#v) = %q, %d, want ErrName", l, s, e)
			}
		}
	}
}

// joined looks over S4 for the tokens of a text without an error.
func joined(t *testing.T, text string) {
	l, e, _ := scan.Tokens(text)
	if e != api.OK {
		return
	}
	s, f := scan.Join(l)
	m, g, _ := scan.Tokens(s)
	alike := f == api.OK && g == api.OK && len(l) == len(m)
	for i := 0; alike && i < len(l); i++ {
		alike = l[i].Kind == m[i].Kind && l[i].Text == m[i].Text
	}
	if !alike {
		t.Fatalf("S4: %q is joined to %q, %d, and read as %#v, %d", text, s, f, m, g)
	}
}

func TestJoinReadBack(t *testing.T) {
	everyText("(a\"|:#b1.;\n\xC3\xA9) ", 4, func(text string) { joined(t, text) })
	rng := rand.New(rand.NewSource(4))
	texts := []string{"(", ")", "a", "let", "a b", "1", "0", "1.5", "#xa", "#b1", "", "k", "\"", "\n", "01", "|"}
	for range 20000 {
		var l []api.Token
		for range rng.Intn(5) {
			l = append(l, api.Token{Kind: rng.Intn(12), Text: texts[rng.Intn(len(texts))]})
		}
		s, e := scan.Join(l)
		if e != api.OK {
			if s != "" || e != api.ErrName {
				t.Fatalf("S4: Join(%#v) = %q, %d", l, s, e)
			}
			continue
		}
		m, f, _ := scan.Tokens(s)
		alike := f == api.OK && len(l) == len(m)
		for i := 0; alike && i < len(l); i++ {
			alike = l[i].Kind == m[i].Kind && l[i].Text == m[i].Text
		}
		if !alike {
			t.Fatalf("S4: %#v is joined to %q, and read as %#v, %d", l, s, m, f)
		}
	}
}

func TestJoinLeavesItsArgument(t *testing.T) {
	room := []api.Token{token(1, 3, 4, "("), token(7, 5, 6, "#xa"), token(3, 9, 9, "rest"), token(2, 1, 1, "spare")}
	held := append([]api.Token(nil), room...)
	scan.Join(room[:2])
	if !same(room, held) {
		t.Errorf("S7: Join left %#v", room)
	}
}

// plainPlace counts line by line.
func plainPlace(text string, at int) (int, int) {
	line, begin := 1, 0
	for i := 1; i <= at; i++ {
		if text[i-1] == '\n' || text[i-1] == '\r' && !strings.HasPrefix(text[i:], "\n") {
			line, begin = line+1, i
		}
	}
	column := 1
	for _, b := range []byte(text[begin:at]) {
		if b&0xC0 != 0x80 {
			column++
		}
	}
	return line, column
}

func TestPlace(t *testing.T) {
	for _, c := range []struct {
		text             string
		at, line, column int
		e                api.Errno
	}{
		{"", 0, 1, 1, 0}, {"", 1, 0, 0, api.ErrIndex}, {"", -1, 0, 0, api.ErrIndex},
		{"ab", 2, 1, 3, 0}, {"ab", 3, 0, 0, api.ErrIndex}, {"ab", -1 << 63, 0, 0, api.ErrIndex}, {"ab", 1<<63 - 1, 0, 0, api.ErrIndex},
		{"a\nb", 1, 1, 2, 0}, {"a\nb", 2, 2, 1, 0}, {"a\nb", 3, 2, 2, 0}, {"a\n", 2, 2, 1, 0},
		{"a\r\nb", 2, 1, 3, 0}, {"a\r\nb", 3, 2, 1, 0}, {"a\rb", 2, 2, 1, 0}, {"a\r", 2, 2, 1, 0}, {"\n\r", 1, 2, 1, 0}, {"\n\r", 2, 3, 1, 0}, {"\r\r\n", 3, 3, 1, 0}, {"\r\r\n", 2, 2, 2, 0},
		{"\u00e9x", 1, 1, 2, 0}, {"\u00e9x", 2, 1, 2, 0}, {"\u20acx", 4, 1, 3, 0}, {"\x80\xBF\xC0\xFF", 4, 1, 3, 0}, {"\tx", 1, 1, 2, 0},
	} {
		if l, k, e := scan.Place(c.text, c.at); l != c.line || k != c.column || e != c.e {
			t.Errorf("S6: Place(%q, %d) = %d, %d, %d", c.text, c.at, l, k, e)
		}
	}
	everyText("a\n\r\xC3\xA9", 6, func(text string) {
		before, column := 0, 0
		for at := range len(text) + 1 {
			l, k, e := scan.Place(text, at)
			if line, col := plainPlace(text, at); l != line || k != col || e != api.OK {
				t.Fatalf("S6: Place(%q, %d) = %d, %d, %d, want %d, %d", text, at, l, k, e, line, col)
			}
			if l < before || l == before && k < column {
				t.Fatalf("S6: Place(%q, %d) = %d, %d stands ahead of the place before it", text, at, l, k)
			}
			before, column = l, k
		}
	})
}
