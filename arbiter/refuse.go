package arbiter

import (
	"errors"
	"strconv"

	"arbiter/api"
)

// errExit is the end of a script that has said so.
var errExit = errors.New("exit")

// refusal is why a text, or a command, is refused.
type refusal struct {
	err api.Errno
}

// Error tells the class.
func (r refusal) Error() string {
	switch r.err {
	case api.ErrByte, api.ErrUtf8, api.ErrNumber, api.ErrGlued, api.ErrString, api.ErrQuoted, api.ErrKeyword:
		return "lexical error"
	case api.ErrClose, api.ErrOpen, api.ErrSyntax:
		return "syntax error"
	case api.ErrUnknown:
		return "unknown symbol"
	case api.ErrAgain:
		return "redeclaration"
	case api.ErrReserved:
		return "reserved symbol"
	case api.ErrSort:
		return "sort mismatch"
	case api.ErrLinear, api.ErrZero:
		return "non-linear term"
	case api.ErrCommand:
		return "unsupported command"
	case api.ErrMode:
		return "wrong mode"
	}
	return "limit exceeded"
}

// located is a refusal with its place in the text.
type located struct {
	refusal error
	at      int
}

// Error tells the class and the place.
func (l located) Error() string {
	return l.refusal.Error() + " at " + strconv.Itoa(l.at)
}

// Unwrap tells the refusal.
func (l located) Unwrap() error {
	return l.refusal
}
