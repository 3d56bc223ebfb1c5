package scan

// The classes of bytes. Each of the first four holds the ones ahead of it too where a run of bytes is asked for: 0 and 1 are digits, digits are hexadecimal digits, and these are symbol bytes.
const (
	binary  = iota // 0 and 1
	digit          // 2 to 9
	hexa           // A to F, a to f
	symbol         // all other symbol bytes
	white          // 9, 10, 13, 32
	control        // control bytes
	stray          // the bytes that begin no token
	single         // ( ) " | : # ;
	high           // a part of a character of two bytes or more, or of none
)

// The numbers are those of the classes above: written out, since a table of names would be too wide to be read.
var classes = [256]uint8{
	5, 5, 5, 5, 5, 5, 5, 5, 5, 4, 4, 5, 5, 4, 5, 5,
	5, 5, 5, 5, 5, 5, 5, 5, 5, 5, 5, 5, 5, 5, 5, 5,
	4, 3, 7, 7, 3, 3, 3, 6, 7, 7, 3, 3, 6, 3, 3, 3, // blank ! " # $ % & ' ( ) * + , - . /
	0, 0, 1, 1, 1, 1, 1, 1, 1, 1, 7, 7, 3, 3, 3, 3, // 0 to 9 : ; < = > ?
	3, 2, 2, 2, 2, 2, 2, 3, 3, 3, 3, 3, 3, 3, 3, 3, // @ A to O
	3, 3, 3, 3, 3, 3, 3, 3, 3, 3, 3, 6, 6, 6, 3, 3, // P to Z [ \ ] ^ _
	6, 2, 2, 2, 2, 2, 2, 3, 3, 3, 3, 3, 3, 3, 3, 3, // ` a to o
	3, 3, 3, 3, 3, 3, 3, 3, 3, 3, 3, 6, 7, 6, 3, 5, // p to z { | } ~ and 127
	8, 8, 8, 8, 8, 8, 8, 8, 8, 8, 8, 8, 8, 8, 8, 8,
	8, 8, 8, 8, 8, 8, 8, 8, 8, 8, 8, 8, 8, 8, 8, 8,
	8, 8, 8, 8, 8, 8, 8, 8, 8, 8, 8, 8, 8, 8, 8, 8,
	8, 8, 8, 8, 8, 8, 8, 8, 8, 8, 8, 8, 8, 8, 8, 8,
	8, 8, 8, 8, 8, 8, 8, 8, 8, 8, 8, 8, 8, 8, 8, 8,
	8, 8, 8, 8, 8, 8, 8, 8, 8, 8, 8, 8, 8, 8, 8, 8,
	8, 8, 8, 8, 8, 8, 8, 8, 8, 8, 8, 8, 8, 8, 8, 8,
	8, 8, 8, 8, 8, 8, 8, 8, 8, 8, 8, 8, 8, 8, 8, 8,
}

// simple says whether a text could stand as a symbol without bars, or behind a colon, if it were no reserved word.
func simple(name string) bool {
	for i := range len(name) {
		if classes[name[i]] > symbol {
			return false
		}
	}
	return name != "" && classes[name[0]] > digit
}

func reserved(name string) bool {
	switch name {
	case "BINARY", "DECIMAL", "HEXADECIMAL", "NUMERAL", "STRING",
		"_", "!", "as", "let", "exists", "forall", "match", "par",
		"assert", "check-sat", "check-sat-assuming",
		"declare-const", "declare-datatype", "declare-datatypes", "declare-fun", "declare-sort",
		"define-const", "define-fun", "define-fun-rec", "define-funs-rec", "define-sort",
		"echo", "exit",
		"get-assertions", "get-assignment", "get-info", "get-model", "get-option", "get-proof",
		"get-unsat-assumptions", "get-unsat-core", "get-value",
		"pop", "push", "reset", "reset-assertions",
		"set-info", "set-logic", "set-option":
		return true
	}
	return false
}

// follow says how many bytes a character has behind its first byte, and which ones may stand right behind that; 0, if no character begins so.
func follow(first byte) (count int, low, top byte) {
	switch {
	case first < 0xC2 || first > 0xF4:
		return 0, 0, 0
	case first < 0xE0:
		return 1, 0x80, 0xBF
	case first == 0xE0:
		return 2, 0xA0, 0xBF
	case first == 0xED:
		return 2, 0x80, 0x9F
	case first < 0xF0:
		return 2, 0x80, 0xBF
	case first == 0xF0:
		return 3, 0x90, 0xBF
	case first == 0xF4:
		return 3, 0x80, 0x8F
	}
	return 3, 0x80, 0xBF
}
