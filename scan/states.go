package scan

import "arbiter/api"

func (s *Scanner) between(b byte) {
	switch classes[b] {
	case white:
	case control, stray:
		s.fail(api.ErrByte, s.at)
	case high:
		s.fail(api.ErrUtf8, s.at)
	case single:
		s.sign(b)
	case binary, digit:
		s.number(b)
	default:
		s.open(api.KindSymbol)
		s.keep(b)
		s.become(s.inName, s.whole)
	}
}

func (s *Scanner) sign(b byte) {
	switch b {
	case '(':
		s.open(api.KindOpen)
		s.tell("(", s.at+1)
	case ')':
		s.open(api.KindClose)
		s.tell(")", s.at+1)
	case '"':
		s.open(api.KindString)
		s.become(s.inString, s.noMark)
	case '|':
		s.open(api.KindSymbol)
		s.become(s.inBars, s.noBar)
	case ':':
		s.open(api.KindKeyword)
		s.become(s.behindColon, s.noKeyword)
	case '#':
		s.open(api.KindHex)
		s.keep(b)
		s.become(s.behindHash, s.noNumber)
	case ';':
		s.open(comment)
		s.become(s.inComment, s.nothing)
	}
}

func (s *Scanner) inName(b byte) {
	if classes[b] > symbol {
		s.pass(b)
		return
	}
	s.keep(b)
}

func (s *Scanner) behindColon(b byte) {
	if c := classes[b]; c <= digit || c > symbol {
		s.noKeyword()
		return
	}
	s.keep(b)
	s.become(s.inName, s.whole)
}

func (s *Scanner) noKeyword() {
	s.fail(api.ErrKeyword, s.at)
}

func (s *Scanner) number(b byte) {
	s.open(api.KindNumeral)
	s.keep(b)
	if b == '0' {
		s.become(s.behindNumeral, s.whole)
		return
	}
	s.become(s.inNumeral, s.whole)
}

func (s *Scanner) inNumeral(b byte) {
	if classes[b] > digit {
		s.behindNumeral(b)
		return
	}
	s.keep(b)
}

func (s *Scanner) behindNumeral(b byte) {
	if b != '.' {
		s.behindNumber(b)
		return
	}
	s.keep(b)
	s.want(api.KindDecimal, digit)
}

func (s *Scanner) behindHash(b byte) {
	s.keep(b)
	switch b {
	case 'x':
		s.want(api.KindHex, hexa)
	case 'b':
		s.want(api.KindBinary, binary)
	default:
		s.noNumber()
	}
}

// want is the state in which a number needs one byte at least of a class up to most.
func (s *Scanner) want(kind int, most uint8) {
	s.kind, s.most = kind, most
	s.become(s.firstDigit, s.noNumber)
}

func (s *Scanner) firstDigit(b byte) {
	if classes[b] > s.most {
		s.noNumber()
		return
	}
	s.become(s.inDigits, s.whole)
	s.inDigits(b)
}

func (s *Scanner) inDigits(b byte) {
	if classes[b] > s.most {
		s.behindNumber(b)
		return
	}
	if b >= 'A' && b <= 'F' {
		b += 'a' - 'A'
	}
	s.keep(b)
}

func (s *Scanner) behindNumber(b byte) {
	if classes[b] <= symbol {
		s.fail(api.ErrGlued, s.at)
		return
	}
	s.pass(b)
}

func (s *Scanner) noNumber() {
	s.fail(api.ErrNumber, s.at)
}

func (s *Scanner) inComment(b byte) {
	if b == '\n' || b == '\r' {
		s.idle()
		return
	}
	s.content(b)
}

func (s *Scanner) inString(b byte) {
	if b == '"' {
		s.become(s.behindMark, s.whole)
		return
	}
	s.keep(b)
	s.content(b)
}

func (s *Scanner) behindMark(b byte) {
	if b != '"' {
		s.pass(b)
		return
	}
	s.keep(b)
	s.become(s.inString, s.noMark)
}

func (s *Scanner) noMark() {
	s.fail(api.ErrString, s.begin)
}

func (s *Scanner) inBars(b byte) {
	switch b {
	case '|':
		s.tell(string(s.text), s.at+1)
		s.idle()
	case '\\':
		s.fail(api.ErrQuoted, s.at)
	default:
		s.keep(b)
		s.content(b)
	}
}

func (s *Scanner) noBar() {
	s.fail(api.ErrQuoted, s.begin)
}

// content looks at a byte of a comment, a string or a quoted symbol.
func (s *Scanner) content(b byte) {
	switch classes[b] {
	case control:
		s.fail(api.ErrByte, s.at)
	case high:
		s.character(b)
	}
}

func (s *Scanner) character(b byte) {
	count, low, top := follow(b)
	s.char = character{begin: s.at, left: count, low: low, top: top, step: s.step, stop: s.stop}
	if count == 0 {
		s.noCharacter()
		return
	}
	s.become(s.inCharacter, s.noCharacter)
}

func (s *Scanner) inCharacter(b byte) {
	c := &s.char
	if b < c.low || b > c.top {
		s.noCharacter()
		return
	}
	s.keep(b)
	c.low, c.top = 0x80, 0xBF
	c.left--
	if c.left == 0 {
		s.become(c.step, c.stop)
	}
}

func (s *Scanner) noCharacter() {
	s.fail(api.ErrUtf8, s.char.begin)
}
