package scan_test

import (
	"fmt"
	"strings"
	"testing"
	"unicode/utf8"

	"arbiter/api"
	"arbiter/scan"
)

// check holds Tokens against tokens written as Kind:Text@At-End with commas between.
func check(t *testing.T, text, want string, e api.Errno, place int) {
	t.Helper()
	l, f, at := scan.Tokens(text)
	var got []string
	for _, x := range l {
		got = append(got, fmt.Sprintf("%d:%s@%d-%d", x.Kind, x.Text, x.At, x.End))
	}
	if s := strings.Join(got, ","); s != want || f != e || at != place {
		t.Errorf("S1: Tokens(%q) = %q; %d at %d; want %q; %d at %d", text, s, f, at, want, e, place)
	}
}

func TestExamples(t *testing.T) {
	check(t, "(assert (<= x 1.50))", "1:(@0-1,4:assert@1-7,1:(@8-9,3:<=@9-11,3:x@12-13,6:1.50@14-18,2:)@18-19,2:)@19-20", 0, 0)
	check(t, "|a b| \"c\"\"d\" :named", "3:a b@0-5,9:c\"d@6-12,10:named@13-19", 0, 0)
	check(t, "x 007 y", "3:x@0-1", api.ErrGlued, 3)
	check(t, "1.", "", api.ErrNumber, 2)
	check(t, "a : b", "3:a@0-1", api.ErrKeyword, 3)
	check(t, "a \"bc", "3:a@0-1", api.ErrString, 2)
	check(t, "#xAF#b1", "7:#xaf@0-4,8:#b1@4-7", 0, 0)
	check(t, "x'", "3:x@0-1", api.ErrByte, 1)
	check(t, "; all of it is a comment", "", 0, 0)
	check(t, "|a\\|", "", api.ErrQuoted, 2)
	check(t, "(\xC3(", "1:(@0-1", api.ErrUtf8, 1)
	check(t, "\"\xE2\x82", "", api.ErrUtf8, 1)
	check(t, "let |let|", "4:let@0-3,3:let@4-9", 0, 0)
	check(t, "", "", 0, 0)
}

func TestKinds(t *testing.T) {
	check(t, "()(", "1:(@0-1,2:)@1-2,1:(@2-3", 0, 0)
	check(t, "abc |abc|", "3:abc@0-3,3:abc@4-9", 0, 0)
	check(t, "|| |12|", "3:@0-2,3:12@3-7", 0, 0)
	check(t, "|a\n\"(;)\t:b|", "3:a\n\"(;)\t:b@0-11", 0, 0)
	check(t, "0 10 1234567890", "5:0@0-1,5:10@2-4,5:1234567890@5-15", 0, 0)
	check(t, "0.0 10.010 0.5", "6:0.0@0-3,6:10.010@4-10,6:0.5@11-14", 0, 0)
	check(t, "#x0 #xaAfF09 #b0 #b0110", "7:#x0@0-3,7:#xaaff09@4-12,8:#b0@13-16,8:#b0110@17-23", 0, 0)
	check(t, "\"\" \"\"\"\" \"a\"\"b\"", "9:@0-2,9:\"@3-7,9:a\"b@8-14", 0, 0)
	check(t, "\"a|b;c\\d\n'{\"", "9:a|b;c\\d\n'{@0-12", 0, 0)
	check(t, ":a :let :-1 :a.b/c", "10:a@0-2,10:let@3-7,10:-1@8-11,10:a.b/c@12-18", 0, 0)
	check(t, "-1 .5 /2 a1", "3:-1@0-2,3:.5@3-5,3:/2@6-8,3:a1@9-11", 0, 0)
	check(t, "|\u00e9\u20ac\U0010FFFF| \"\u0080\uFFFD\"", "3:\u00e9\u20ac\U0010FFFF@0-11,9:\u0080\uFFFD@12-19", 0, 0)
}

func TestLongest(t *testing.T) {
	check(t, "<=x", "3:<=x@0-3", 0, 0)
	check(t, "a|b|", "3:a@0-1,3:b@1-4", 0, 0)
	check(t, "|b|a", "3:b@0-3,3:a@3-4", 0, 0)
	check(t, "(:a:b)", "1:(@0-1,10:a@1-3,10:b@3-5,2:)@5-6", 0, 0)
	check(t, "1(2)3\"a\"4:b5 6|7|", "5:1@0-1,1:(@1-2,5:2@2-3,2:)@3-4,5:3@4-5,9:a@5-8,5:4@8-9,10:b5@9-12,5:6@13-14,3:7@14-17", 0, 0)
	check(t, "1#b1#xf1.5#b0", "5:1@0-1,8:#b1@1-4", api.ErrGlued, 8)
	check(t, "a#b1", "3:a@0-1,8:#b1@1-4", 0, 0)
	check(t, "a\"b\"c", "3:a@0-1,9:b@1-4,3:c@4-5", 0, 0)
	check(t, "lets let! LET", "3:lets@0-4,3:let!@5-9,3:LET@10-13", 0, 0)
}

func TestComments(t *testing.T) {
	check(t, "a;b\nc;d\re;f\r\ng", "3:a@0-1,3:c@4-5,3:e@8-9,3:g@13-14", 0, 0)
	check(t, ";\"|'\\\u00e9\t:#1a\n1", "5:1@13-14", 0, 0)
	check(t, "\";\" |;|;", "9:;@0-3,3:;@4-7", 0, 0)
	check(t, "1;a", "5:1@0-1", 0, 0)
	check(t, "a;\x01", "3:a@0-1", api.ErrByte, 2)
	check(t, "a;b\x7Fc", "3:a@0-1", api.ErrByte, 3)
	check(t, ";\xC3", "", api.ErrUtf8, 1)
	check(t, ";\xE2\x82\n", "", api.ErrUtf8, 1)
}

func TestErrors(t *testing.T) {
	for _, c := range []struct {
		text, want string
		e          api.Errno
		place      int
	}{
		{"#", "", api.ErrNumber, 1}, {"#X1", "", api.ErrNumber, 1}, {"#B1", "", api.ErrNumber, 1}, {"# x1", "", api.ErrNumber, 1}, {"a #1", "3:a@0-1", api.ErrNumber, 3},
		{"#x", "", api.ErrNumber, 2}, {"#xg", "", api.ErrNumber, 2}, {"#x)", "", api.ErrNumber, 2}, {"#b", "", api.ErrNumber, 2}, {"#b2", "", api.ErrNumber, 2}, {"#b ", "", api.ErrNumber, 2},
		{"1.", "", api.ErrNumber, 2}, {"0.", "", api.ErrNumber, 2}, {"12.a", "", api.ErrNumber, 3}, {"1..5", "", api.ErrNumber, 2}, {"1.)", "", api.ErrNumber, 2},
		{"#'", "", api.ErrNumber, 1}, {"1.[", "", api.ErrNumber, 2}, {"#\x00", "", api.ErrNumber, 1}, {"#x\xC3", "", api.ErrNumber, 2}, {"#b\u00e9", "", api.ErrNumber, 2}, {"1.\xFF", "", api.ErrNumber, 2},
		{"00", "", api.ErrGlued, 1}, {"01.5", "", api.ErrGlued, 1}, {"1x", "", api.ErrGlued, 1}, {"12-", "", api.ErrGlued, 2}, {"1.5.2", "", api.ErrGlued, 3}, {"1.5e", "", api.ErrGlued, 3},
		{"#b12", "", api.ErrGlued, 3}, {"#xag", "", api.ErrGlued, 3}, {"#b1.", "", api.ErrGlued, 3}, {"#xf.", "", api.ErrGlued, 3}, {"(1 2a", "1:(@0-1,5:1@1-2", api.ErrGlued, 4},
		{":", "", api.ErrKeyword, 1}, {":1", "", api.ErrKeyword, 1}, {"::a", "", api.ErrKeyword, 1}, {":(", "", api.ErrKeyword, 1}, {":|a|", "", api.ErrKeyword, 1},
		{":,", "", api.ErrKeyword, 1}, {":\x07", "", api.ErrKeyword, 1}, {":\u00e9", "", api.ErrKeyword, 1}, {":\x80", "", api.ErrKeyword, 1},
		{"|a", "", api.ErrQuoted, 0}, {"a |", "3:a@0-1", api.ErrQuoted, 2}, {"|a\\b", "", api.ErrQuoted, 2}, {"|\\", "", api.ErrQuoted, 1}, {"|a\n\"b\"", "", api.ErrQuoted, 0},
		{"\"", "", api.ErrString, 0}, {"\"a\"\"", "", api.ErrString, 0}, {"(\"a\" \"b", "1:(@0-1,9:a@1-4", api.ErrString, 5},
		{"\u00e9", "", api.ErrUtf8, 0}, {"a\u00e9", "3:a@0-1", api.ErrUtf8, 1}, {"1\u20ac", "5:1@0-1", api.ErrUtf8, 1}, {"\"a\"\xFF", "9:a@0-3", api.ErrUtf8, 3}, {":a\xC3", "10:a@0-2", api.ErrUtf8, 2},
		{"1'", "5:1@0-1", api.ErrByte, 1}, {"#xf,", "7:#xf@0-3", api.ErrByte, 3}, {"\"a\"{", "9:a@0-3", api.ErrByte, 3}, {"|a|\\", "3:a@0-3", api.ErrByte, 3}, {"a\x00", "3:a@0-1", api.ErrByte, 1},
	} {
		check(t, c.text, c.want, c.e, c.place)
	}
}

// Which error is met first, where a text has several.
func TestFirstError(t *testing.T) {
	check(t, "\"a\x01", "", api.ErrByte, 2)
	check(t, "|a\x01", "", api.ErrByte, 2)
	check(t, "\"a\xE2\x82", "", api.ErrUtf8, 2)
	check(t, "|a\xF0\x90\x80", "", api.ErrUtf8, 2)
	check(t, "\"\xE2\x82\x01", "", api.ErrUtf8, 1)
	check(t, "|\xE2\\|", "", api.ErrUtf8, 1)
	check(t, "\"\x01\xFF", "", api.ErrByte, 1)
	check(t, "|\\\x01", "", api.ErrQuoted, 1)
	check(t, "' 01 \"", "", api.ErrByte, 0)
	check(t, "01 '", "", api.ErrGlued, 1)
	check(t, "\"01 ' #", "", api.ErrString, 0)
	check(t, ";\xC3\x01", "", api.ErrUtf8, 1)
	check(t, ": \xFF", "", api.ErrKeyword, 1)
	check(t, "\xC3'", "", api.ErrUtf8, 0)
}

func TestEveryByte(t *testing.T) {
	inside := func(b byte) api.Errno {
		switch {
		case isControl(b):
			return api.ErrByte
		case b >= 0x80:
			return api.ErrUtf8
		}
		return api.OK
	}
	outside := func(b byte) api.Errno {
		if strings.IndexByte(strays, b) >= 0 {
			return api.ErrByte
		}
		return inside(b)
	}
	for i := range 256 {
		b := byte(i)
		s := string([]byte{b})
		if want := outside(b); want != api.OK {
			check(t, s, "", want, 0)
			check(t, "x"+s, "3:x@0-1", want, 1)
			check(t, "17"+s+" ", "5:17@0-2", want, 2)
			check(t, "("+s, "1:(@0-1", want, 1)
		} else if strings.IndexByte(whites, b) >= 0 {
			check(t, s+"x"+s, "3:x@1-2", api.OK, 0)
		}
		if want := inside(b); want != api.OK {
			check(t, "\"a"+s+"\"", "", want, 2)
			check(t, "|a"+s+"|", "", want, 2)
			check(t, ";a"+s+"\n", "", want, 2)
		} else if b != '"' && b != '|' && b != '\\' {
			check(t, "\"a"+s+"\"", "9:a"+s+"@0-4", api.OK, 0)
			check(t, "|a"+s+"|", "3:a"+s+"@0-4", api.OK, 0)
			check(t, ";a"+s+"\n", "", api.OK, 0)
		}
		if isDigit(b) {
			check(t, ":"+s, "", api.ErrKeyword, 1)
			check(t, "1."+s, "6:1."+s+"@0-3", api.OK, 0)
		} else if isSymbolByte(b) {
			check(t, ":"+s, "10:"+s+"@0-2", api.OK, 0)
			check(t, "7."+s, "", api.ErrNumber, 2)
		}
		if isSymbolByte(b) {
			check(t, "k"+s, "3:k"+s+"@0-2", api.OK, 0)
			check(t, ":k"+s, "10:k"+s+"@0-3", api.OK, 0)
			if b == '0' || b == '1' {
				check(t, "#b1"+s, "8:#b1"+s+"@0-4", api.OK, 0)
			} else {
				check(t, "#b1"+s, "", api.ErrGlued, 3)
			}
		}
	}
}

func TestReservedWords(t *testing.T) {
	if len(words()) != 44 {
		t.Fatal("the document has 44 words")
	}
	for _, w := range words() {
		n := len(w)
		check(t, w, fmt.Sprintf("4:%s@0-%d", w, n), 0, 0)
		check(t, "("+w+")", fmt.Sprintf("1:(@0-1,4:%s@1-%d,2:)@%d-%d", w, n+1, n+1, n+2), 0, 0)
		check(t, "|"+w+"|", fmt.Sprintf("3:%s@0-%d", w, n+2), 0, 0)
		check(t, ":"+w, fmt.Sprintf("10:%s@0-%d", w, n+1), 0, 0)
		check(t, w+"$", fmt.Sprintf("3:%s$@0-%d", w, n+1), 0, 0)
		check(t, "$"+w, fmt.Sprintf("3:$%s@0-%d", w, n+1), 0, 0)
		for _, other := range []string{strings.ToLower(w), strings.ToUpper(w)} {
			if other != w {
				check(t, other, fmt.Sprintf("3:%s@0-%d", other, n), 0, 0)
			}
		}
	}
	check(t, "Real Bool true not and check", "3:Real@0-4,3:Bool@5-9,3:true@10-14,3:not@15-18,3:and@19-22,3:check@23-28", 0, 0)
}

// In strings, quoted symbols and comments a text's characters are those of UTF-8.
func TestCharacters(t *testing.T) {
	look := func(bytes ...byte) {
		c := string(bytes)
		bad := 0
		for bad < len(c) {
			r, n := utf8.DecodeRuneInString(c[bad:])
			if r == utf8.RuneError && n <= 1 {
				break
			}
			bad += n
		}
		want, at := api.ErrUtf8, bad+1
		if bad == len(c) {
			want, at = api.OK, 0
		}
		for _, frame := range []string{"\"\"", "||", ";\n"} {
			if _, e, place := scan.Tokens(frame[:1] + c + frame[1:]); e != want || place != at {
				t.Fatalf("S1: % X in %q: %d at %d, want %d at %d", c, frame, e, place, want, at)
			}
		}
	}
	for a := range 0x80 {
		a := byte(0x80 + a)
		look(a)
		for b := range 0x100 {
			b := byte(b)
			if isControl(b) || b == '"' || b == '|' || b == '\\' || b == '\n' || b == '\r' {
				continue
			}
			look(a, b)
			for _, c := range []byte{0x20, 0x7A, 0x80, 0xBF, 0xC0} {
				look(a, b, c)
				for _, d := range []byte{0x7A, 0x80, 0xBF, 0xFF} {
					look(a, b, c, d)
				}
			}
		}
	}
	check(t, "\"\xE1\x80\x20\"", "", api.ErrUtf8, 1)
	check(t, "\"a\u00e9\xF1\x80\x80z\"", "", api.ErrUtf8, 4)
	check(t, "\"\xC3\"", "", api.ErrUtf8, 1)
	check(t, "|\xC3|", "", api.ErrUtf8, 1)
	check(t, "\"\u00e9\xA9\"", "", api.ErrUtf8, 3)
}

func TestAgainstPlain(t *testing.T) {
	look := func(text string) {
		l, e, place := scan.Tokens(text)
		want, f, at := plain(text)
		if !same(l, want) || e != f || place != at {
			t.Fatalf("S1: Tokens(%q) = %#v; %d at %d; want %#v; %d at %d", text, l, e, place, want, f, at)
		}
		stand(t, text, l)
	}
	everyText("(a\"|:#0x;\n\xC3\xA9\\' ", 4, look)
	everyText("01.bxgF# :\"", 5, look)
	everyText("\"|;\\a\r\xE2\x82\xAC", 6, look)
}

// stand looks over what S2 says of tokens.
func stand(t *testing.T, text string, l []api.Token) {
	t.Helper()
	end := 0
	for _, x := range l {
		if x.At < end || x.End <= x.At || x.End > len(text) {
			t.Fatalf("S2: %q: the token %#v does not stand in it", text, x)
		}
		if between, e, _ := plain(text[end:x.At]); len(between) != 0 || e != api.OK {
			t.Fatalf("S2: %q: %#v stand ahead of %#v", text, between, x)
		}
		end = x.End
	}
}

func TestLongTexts(t *testing.T) {
	const n = 1 << 20
	long := strings.Repeat("a", n)
	check(t, "\""+long+"\"", fmt.Sprintf("9:%s@0-%d", long, n+2), 0, 0)
	check(t, "|"+long, "", api.ErrQuoted, 0)
	check(t, long, fmt.Sprintf("3:%s@0-%d", long, n), 0, 0)
	check(t, ";"+long, "", 0, 0)
	check(t, strings.Repeat("1", n)+"x", "", api.ErrGlued, n)
	if l, e, place := scan.Tokens(strings.Repeat("(", n)); len(l) != n || e != 0 || place != 0 || l[n-1] != token(1, n-1, n, "(") {
		t.Errorf("S1: a million brackets: %d tokens, %d at %d", len(l), e, place)
	}
}
