package desk

import (
	"strconv"
	"strings"

	"almshouse/api"
)

// args are the words of a line, looked at.
type args struct {
	pid     int    // of the process that asks
	word    string // what it asks
	numbers []int
	texts   []string
	on      bool
}

// parse looks at the words behind the first one, by a form with a letter of each: N (a number), Y (y or n) or T (any). It throws ErrForm.
func parse(form string, words []string) args {
	a := args{word: words[0]}
	words = words[1:]
	if len(words) != len(form) {
		panic(api.ErrForm)
	}
	ok := true
	for i, w := range words {
		switch form[i] {
		case 'N':
			var n int
			n, ok = number(w)
			a.numbers = append(a.numbers, n)
		case 'Y':
			a.on, ok = w == "y", w == "y" || w == "n"
		default:
			a.texts = append(a.texts, w)
		}
		if !ok {
			panic(api.ErrForm)
		}
	}
	return a
}

// told is the answer to what is done: its word, and what comes of it. It throws what is wrong.
func (a args) told(err error, what ...int) string {
	check(err)
	return a.word + each(what)
}

func isBlank(r rune) bool { return r == ' ' }

// number is a word's. Of a number there is one form alone: the one in which it is told.
func number(word string) (n int, ok bool) {
	n, err := strconv.Atoi(word)
	return n, err == nil && strconv.Itoa(n) == word
}

// each tells numbers, with a blank ahead of each.
func each(l []int) string {
	var b strings.Builder
	for _, n := range l {
		b.WriteByte(' ')
		b.WriteString(strconv.Itoa(n))
	}
	return b.String()
}

// shown tells bytes, none of which may end the line or be taken for a blank.
func shown(s string) string {
	const digits = "0123456789abcdef"
	b := []byte{'"'}
	for i := range len(s) {
		if c := s[i]; c > ' ' && c <= '~' && c != '%' {
			b = append(b, c)
		} else {
			b = append(b, '%', digits[c>>4], digits[c&15])
		}
	}
	return string(append(b, '"'))
}
