package delta

import (
	"iter"
	"strconv"

	"selvedge/api"
	"selvedge/tree"
)

const (
	mostOps   = 512 // operations that are lines
	mostWords = 4   // words of a line
	hex       = "0123456789abcdef"
)

// verb is the first word of an operation's line.
func verb(k api.OpKind) string {
	switch k {
	case api.Create:
		return "create"
	case api.Mkdir:
		return "mkdir"
	case api.Link:
		return "link"
	case api.Unlink:
		return "unlink"
	case api.Rmdir:
		return "rmdir"
	case api.Rename:
		return "rename"
	case api.Write:
		return "write"
	case api.Truncate:
		return "cut"
	}
	return ""
}

// kind is what a first word says; NoOp: nothing.
func kind(word string) api.OpKind {
	for k := api.Create; k <= api.Truncate; k++ {
		if verb(k) == word {
			return k
		}
	}
	return api.NoOp
}

// line is that of an operation that is right.
func line(o api.Op) string {
	s := verb(o.Kind) + " " + o.Path
	switch o.Kind {
	case api.Link, api.Rename:
		s += " " + o.Other
	case api.Write:
		s += " " + strconv.Itoa(o.Off) + " " + Quote(o.Data)
	}
	return s
}

// read is the operation of which a line may be; false: of none.
func read(text string) (api.Op, bool) {
	var words [mostWords]string
	many := 0
	for word := range ended(text+" ", ' ') {
		if many == mostWords {
			return api.Op{}, false
		}
		words[many] = word
		many++
	}
	o := api.Op{Kind: kind(words[0]), Path: words[1]}
	switch o.Kind {
	case api.Link, api.Rename:
		o.Other = words[2]
	case api.Write:
		off, wrong := strconv.Atoi(words[2])
		data, e := Unquote(words[3])
		if wrong != nil || e != api.OK {
			return api.Op{}, false
		}
		o.Off, o.Data = off, data
	}
	return o, tree.RightOp(o)
}

// ended goes through the pieces of a text that such a rune ends.
func ended(text string, end rune) iter.Seq[string] {
	return func(yield func(string) bool) {
		from := 0
		for i, r := range text {
			if r != end {
				continue
			}
			if !yield(text[from:i]) {
				return
			}
			from = i + 1 // a blank and a line feed are a byte each
		}
	}
}

// unquoted is what may be meant by what is in quotes: each % that two digits follow is a byte.
func unquoted(s string) string {
	var text []byte
	for i := 0; i < len(s); i++ {
		c := s[i]
		if c == '%' && i+2 < len(s) {
			if code, wrong := strconv.ParseUint(s[i+1:i+3], 16, 8); wrong == nil {
				c = byte(code)
				i += 2
			}
		}
		text = append(text, c)
	}
	return string(text)
}
