package impl

import (
	"strconv"
	"strings"
)

// Codes, which count up from OK.
const (
	OK = iota
	ErrInvalid
	ErrRange
	ErrNotFound
	ErrExists
	ErrFull
	ErrState
	ErrSyntax
	ErrFormat
	ErrTruncated
	ErrSum
)

// Limits of names and words.
const (
	MaxName = 12
	MaxWord = 10
)

// maxDigits keeps every number that is read far from the ends of int64.
const maxDigits = 18

var codeNames = [...]string{
	OK:           "ok",
	ErrInvalid:   "invalid",
	ErrRange:     "range",
	ErrNotFound:  "not-found",
	ErrExists:    "exists",
	ErrFull:      "full",
	ErrState:     "state",
	ErrSyntax:    "syntax",
	ErrFormat:    "format",
	ErrTruncated: "truncated",
	ErrSum:       "sum",
}

// CodeName returns the name of a code.
func CodeName(code int64) string {
	if code < 0 || code >= int64(len(codeNames)) {
		return ""
	}
	return codeNames[code]
}

// IsName reports whether s is a name.
func IsName(s string) bool {
	if len(s) < 1 || len(s) > MaxName {
		return false
	}
	for at, r := range s {
		if isSmallLetter(r) {
			continue
		}
		if at == 0 || !isDigit(r) && r != '-' {
			return false
		}
	}
	return true
}

// Decimal returns the decimal form of a number.
func Decimal(n int64) string { return strconv.FormatInt(n, 10) }

// ReadDecimal returns the number with a decimal form.
func ReadDecimal(s string) (int64, bool) {
	if len(strings.TrimPrefix(s, "-")) > maxDigits {
		return 0, false
	}
	n, err := strconv.ParseInt(s, 10, 64)
	// ParseInt also takes a plus sign, leading zeros and -0, which Decimal never returns.
	if err != nil || Decimal(n) != s {
		return 0, false
	}
	return n, true
}

// SplitWords returns the parts of a text without blanks.
func SplitWords(s string) []string {
	// strings.Fields would also divide at tabs, newlines and other white space.
	return strings.FieldsFunc(s, isBlank)
}

// IsWord reports whether s is a word.
func IsWord(s string) bool {
	if len(s) < 1 || len(s) > MaxWord {
		return false
	}
	for _, r := range s {
		if !isSmallLetter(r) {
			return false
		}
	}
	return true
}

func isSmallLetter(r rune) bool { return 'a' <= r && r <= 'z' }

func isDigit(r rune) bool { return '0' <= r && r <= '9' }

func isBlank(r rune) bool { return r == ' ' }

// readNumbers returns the numbers whose decimal forms are the words, if all of them are such forms.
func readNumbers(words ...string) ([]int64, bool) {
	numbers := make([]int64, 0, len(words))
	for _, word := range words {
		n, ok := ReadDecimal(word)
		if !ok {
			return nil, false
		}
		numbers = append(numbers, n)
	}
	return numbers, true
}

// readLines returns the lines of a text, and whether each of them is ended by a newline; there is one at least.
func readLines(s string) ([]string, bool) {
	body, ended := strings.CutSuffix(s, "\n")
	return strings.Split(body, "\n"), ended
}

// readBehind returns the number whose decimal form follows the start of a line, if the line consists of both.
func readBehind(start, line string) (int64, bool) {
	word, begins := strings.CutPrefix(line, start)
	n, ok := ReadDecimal(word)
	if !begins || !ok {
		return 0, false
	}
	return n, true
}

// readTriple returns three numbers whose decimal forms are separated by commas, if the word consists of these.
func readTriple(word string) ([3]int64, bool) {
	numbers, ok := readNumbers(strings.Split(word, ",")...)
	if !ok || len(numbers) != 3 {
		return [3]int64{}, false
	}
	return [3]int64{numbers[0], numbers[1], numbers[2]}, true
}

// nearest returns n / d rounded to the nearest integer, the greater one of two; d is positive.
func nearest(n, d int64) int64 { return downward(2*n+d, 2*d) }

// downward returns n / d rounded down; d is positive.
func downward(n, d int64) int64 {
	// Go rounds quotients towards 0, and gives remainders the sign of n.
	if n%d < 0 {
		return n/d - 1
	}
	return n / d
}
