package shell

import (
	"strconv"
	"strings"

	"selvedge/api"
	"selvedge/delta"
)

const mostNumber = 9999 // four digits

// asked is what a line asks for.
type asked struct {
	verb    string   // the first word
	texts   []string // the paths, the text behind it
	numbers []int    // the numbers, the flags behind it
	op      api.Op
}

// shape is what stands behind a line's first word, a letter for each word: texts T, numbers N, numbers with a sign S, flags F; false: there is no such line.
func shape(verb string) (letters string, ok bool) {
	switch verb {
	case "open":
		return "TF", true
	case "write":
		return "NT", true
	case "seek":
		return "NSN", true
	case "mv":
		letters = "T"
		fallthrough
	case "rm":
		return letters + "T", true
	case "at":
		letters = "N"
		fallthrough
	case "read", "names":
		letters += "N"
		fallthrough
	case "close", "dup", "cut", "stat", "block", "ask":
		letters += "N"
		fallthrough
	case "sync", "flush", "next", "move", "go", "keep", "diff", "lost", "crash", "check", "tree":
		return letters, true
	}
	return "", false
}

// read is what the words of a line ask for; false: there is no such line.
func read(words []string) (asked, bool) {
	a := asked{verb: words[0]}
	if a.verb == "do" {
		op, ok := operation(words[1:])
		a.op = op
		return a, ok
	}
	letters, ok := shape(a.verb)
	if !ok || len(words) != 1+len(letters) {
		return asked{}, false
	}
	for i, letter := range letters {
		if !a.take(letter, words[1+i]) {
			return asked{}, false
		}
	}
	return a, true
}

// take takes the word of a letter in; false: it can't be.
func (a *asked) take(letter rune, word string) bool {
	n, ok := 0, false
	switch letter {
	case 'T':
		a.texts = append(a.texts, word)
		return true
	case 'F':
		n, ok = flags(word)
	case 'S':
		n, ok = signed(word)
	case 'N':
		n, ok = number(word)
	}
	a.numbers = append(a.numbers, n)
	return ok
}

// number is what digits say; false: a word is no number.
func number(word string) (int, bool) {
	n, _ := strconv.Atoi(word)
	// What is no number, or the same in other letters (a sign, noughts ahead), is found by how it is written.
	if n < 0 || n > mostNumber || strconv.Itoa(n) != word {
		return 0, false
	}
	return n, true
}

// signed is a number that may be below 0.
func signed(word string) (int, bool) {
	digits, below := strings.CutPrefix(word, "-")
	n, ok := number(digits)
	if below {
		return -n, ok && n != 0
	}
	return n, ok
}

// flags is the sum of those that letters say; false: they say none, or one twice.
func flags(word string) (int, bool) {
	sum := 0
	for _, r := range word {
		flag := 0
		switch r {
		case 'r':
			flag = api.Reading
		case 'w':
			flag = api.Writing
		case 'a':
			flag = api.Appending
		case 'c':
			flag = api.Creating
		case 'x':
			flag = api.Alone
		case 't':
			flag = api.Cutting
		}
		if flag == 0 || sum&flag != 0 {
			return 0, false
		}
		sum |= flag
	}
	return sum, sum != 0
}

// operation is the one whose line these words are; false: they are none's.
func operation(words []string) (api.Op, bool) {
	line := strings.Join(words, " ")
	if len(words) == 4 && words[0] == "write" {
		// Words have lost their quotes, which this one has in an operation's line.
		line = strings.Join(words[:3], " ") + " " + delta.Quote(words[3])
	}
	l, _ := delta.Parse(line + "\n")
	// In quotes there may be blanks and line feeds, too: those make no words, and no lines.
	if len(l) != 1 || strings.Count(line, " ") != len(words)-1 {
		return api.Op{}, false
	}
	return l[0], true
}
