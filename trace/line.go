package trace

import (
	"iter"
	"strconv"
	"strings"

	"selvedge/api"
	"selvedge/delta"
)

const mostNumber = 99 // of a block, of a group

// verbs are the first words of events' lines, by their kinds.
var verbs = [...]string{
	api.NoEvent:      "",
	api.Did:          "do",
	api.Wrote:        "write",
	api.Flushed:      "flush",
	api.Synced:       "sync",
	api.Crashed:      "crash",
	api.Grouped:      "group",
	api.Depended:     "depend",
	api.EngagedIn:    "engage",
	api.DisengagedOf: "rest",
	api.ReleasedOf:   "release",
}

// kind is what a first word says; NoEvent: nothing.
func kind(word string) api.EventKind {
	for k, verb := range verbs {
		if verb == word {
			return api.EventKind(k)
		}
	}
	return api.NoEvent
}

func isFrom0To(most, n int) bool {
	return n >= 0 && n <= most
}

// right goes through the events that are.
func right(l []api.Event) iter.Seq[api.Event] {
	return func(yield func(api.Event) bool) {
		for _, event := range l {
			if Right(event) && !yield(event) {
				return
			}
		}
	}
}

// line is that of an event that is right.
func line(e api.Event) string {
	behind := ""
	switch e.Kind {
	case api.Did:
		text, _ := delta.Print([]api.Op{e.Op})
		behind = " " + strings.TrimSuffix(text, "\n")
	case api.Depended:
		behind = " " + strconv.Itoa(e.M)
		fallthrough
	case api.Wrote, api.EngagedIn, api.DisengagedOf, api.ReleasedOf:
		behind = " " + strconv.Itoa(e.N) + behind
	}
	return verbs[e.Kind] + behind
}

// read is the event whose line a text is; false: of none.
func read(text string) (api.Event, bool) {
	verb, rest, _ := strings.Cut(text, " ")
	e := api.Event{Kind: kind(verb)}
	switch e.Kind {
	case api.Did:
		l, _ := delta.Parse(rest + "\n")
		if len(l) != 1 {
			return api.Event{}, false
		}
		e.Op = l[0]
	case api.Depended:
		n, m, _ := strings.Cut(rest, " ")
		e.M, _ = strconv.Atoi(m)
		rest = n
		fallthrough
	case api.Wrote, api.EngagedIn, api.DisengagedOf, api.ReleasedOf:
		e.N, _ = strconv.Atoi(rest)
	}
	// A line is read kindly: what is none, or says the same in other bytes, is found here.
	return e, Right(e) && line(e) == text
}
