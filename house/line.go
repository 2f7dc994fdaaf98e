package house

import (
	"strconv"
	"strings"

	"kimberlite/api"
)

const (
	blank   = " "
	done    = "ok"
	badLine = "? line"
)

// wordsOf returns the words of a line.
func wordsOf(line string) []string {
	isBlank := func(r rune) bool { return r == ' ' }
	return strings.FieldsFunc(line, isBlank)
}

// isLine reports whether a line is no longer than it may be, and has only bytes that it
// may have.
func isLine(line string) bool {
	isOdd := func(r rune) bool { return r < 32 || r > 126 }
	return len(line) <= api.MaxLine && !strings.ContainsFunc(line, isOdd)
}

// badWord is the reply of a command with a parameter that is not of its kind.
func badWord(number int) string { return "? word " + strconv.Itoa(number) }

// refusal is the reply of a command that is refused.
func refusal(e api.Errno) string { return "! " + strconv.Itoa(int(e)) }

// listed returns words, and numbers behind them, with blanks between.
func listed(words []string, numbers ...int) string {
	for _, n := range numbers {
		words = append(words, strconv.Itoa(n))
	}
	return strings.Join(words, blank)
}

// params are the parameters of a command, which are read one by one.
type params struct {
	words []string
	read  int // so many were read
	bad   int // the first one that is not of the kind that is asked for, from 1 on
}

func (p *params) number() int      { return next(p, parseNumber) }
func (p *params) name() string     { return next(p, parseName) }
func (p *params) set() []api.Span  { return next(p, parseSet) }
func (p *params) grade() api.Grade { return next(p, parseGrade) }
func (p *params) hash() uint64     { return next(p, parseHash) }

// next reads a parameter of one kind.
func next[T any](p *params, parse func(word string) (T, bool)) T {
	x, ok := parse(p.words[p.read])
	p.read++
	if !ok && p.bad == 0 {
		p.bad = p.read
	}
	return x
}

// rest reads all parameters that are left.
func rest[T any](p *params, read func() T) []T {
	var l []T
	for p.read < len(p.words) {
		l = append(l, read())
	}
	return l
}
