package span

import (
	"strconv"
	"strings"

	"kimberlite/api"
)

const (
	emptyText = "-"
	between   = ".."
	blank     = " "
)

// Text returns the set a as a string.
func Text(a []api.Span) (string, api.Errno) {
	if !Valid(a) {
		return "", api.ErrArg
	}
	if len(a) == 0 {
		return emptyText, api.OK
	}
	words := make([]string, len(a))
	for i, s := range a {
		words[i] = strconv.Itoa(s.Lo) + between + strconv.Itoa(s.Hi)
	}
	return strings.Join(words, blank), api.OK
}

// Parse returns the set whose Text is s.
func Parse(s string) ([]api.Span, api.Errno) {
	var a []api.Span
	rest, more := s, s != emptyText
	for more && len(a) <= api.MaxSpans {
		var word string
		word, rest, more = strings.Cut(rest, blank)
		x, ok := parseSpan(word)
		if !ok {
			return nil, api.ErrForm
		}
		a = append(a, x)
	}
	// Numbers are read more freely than Text writes them (with needless zeros
	// or a plus sign), and the spans read need not be a set: Text decides.
	if t, e := Text(a); e != api.OK || t != s {
		return nil, api.ErrForm
	}
	return a, api.OK
}

func parseSpan(word string) (api.Span, bool) {
	low, high, ok := strings.Cut(word, between)
	if !ok {
		return api.Span{}, false
	}
	lo, err := strconv.Atoi(low)
	if err != nil {
		return api.Span{}, false
	}
	hi, err := strconv.Atoi(high)
	if err != nil {
		return api.Span{}, false
	}
	return api.Span{Lo: lo, Hi: hi}, true
}
