package house

import (
	"strconv"
	"strings"

	"kimberlite/api"
	"kimberlite/span"
)

const (
	maxNumber = 1 << 50
	maxName   = 8
)

func parseNumber(word string) (int, bool) {
	n, err := strconv.Atoi(word)
	// Atoi also takes needless zeros, and a plus sign.
	if err != nil || strconv.Itoa(n) != word || n < -maxNumber || n > maxNumber {
		return 0, false
	}
	return n, true
}

func parseHash(word string) (uint64, bool) {
	n, err := strconv.ParseUint(word, 10, 64)
	if err != nil || strconv.FormatUint(n, 10) != word {
		return 0, false
	}
	return n, true
}

func parseName(word string) (string, bool) {
	if len(word) > maxName || !isLetter(word[0]) {
		return "", false
	}
	for _, c := range []byte(word) {
		if !isLetter(c) && !isDigit(c) {
			return "", false
		}
	}
	return word, true
}

func isLetter(c byte) bool { return 'a' <= c && c <= 'z' }

func isDigit(c byte) bool { return '0' <= c && c <= '9' }

func parseSet(word string) ([]api.Span, bool) {
	set, e := span.Parse(strings.ReplaceAll(word, ",", blank))
	return set, e == api.OK
}

// parseGrade returns the grade of three numbers, valid or not.
func parseGrade(word string) (api.Grade, bool) {
	parts := strings.Split(word, ".")
	var g api.Grade
	if len(parts) != len(g) {
		return api.Grade{}, false
	}
	for i, part := range parts {
		n, ok := parseNumber(part)
		if !ok {
			return api.Grade{}, false
		}
		g[i] = n
	}
	return g, true
}
