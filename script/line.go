package script

import "selvedge/api"

const mostDigits = 4 // of a number

// line is what a script's line asks for.
type line struct {
	word string // the first one
	op   api.Op // the texts behind it
	n, m int    // the numbers behind it
}

// behind is what stands behind a line's first word, a letter for each word: paths P and Q, numbers N and M, a text W; false: there is no such line.
func behind(word string) (string, bool) {
	switch word {
	case "flush", "sync", "crash", "check", "group", "tree", "wait":
		return "", true
	case "make", "mkdir", "del", "rmdir", "cut", "get", "ls":
		return "P", true
	case "ln", "mv":
		return "PQ", true
	case "put":
		return "PNW", true
	case "write", "spoil", "heal", "on", "off", "free", "drop", "last":
		return "N", true
	case "dep":
		return "NM", true
	}
	return "", false
}

// read reads a line's words; false: there is no such line.
func read(words []string) (line, bool) {
	letters, ok := behind(words[0])
	if !ok || len(words) != 1+len(letters) {
		return line{}, false
	}
	l := line{word: words[0]}
	for i, letter := range letters {
		if !l.take(letter, words[1+i]) {
			return line{}, false
		}
	}
	return l, true
}

// take takes the word of a letter in; false: it can't be.
func (l *line) take(letter rune, word string) (ok bool) {
	ok = true
	switch letter {
	case 'P':
		l.op.Path = word
	case 'Q':
		l.op.Other = word
	case 'W':
		l.op.Data = word
	case 'N':
		l.n, ok = number(word)
	case 'M':
		l.m, ok = number(word)
	}
	return ok
}

// number is what digits say; false: a word is no number.
func number(word string) (int, bool) {
	if word == "" || len(word) > mostDigits || word[0] == '0' && word != "0" {
		return 0, false
	}
	n := 0
	for _, r := range word {
		if r < '0' || r > '9' {
			return 0, false
		}
		n = 10*n + int(r-'0')
	}
	return n, true
}
