package trace

import (
	"iter"
	"slices"

	"selvedge/api"
	"selvedge/image"
	"selvedge/stitch"
	"selvedge/tree"
)

// begun is a new system on which events can be played.
func begun(blocks int, l []api.Event) (*stitch.System, api.Errno) {
	s := stitch.New(blocks)
	if s == nil || len(l) > api.MaxEvents {
		return nil, api.ErrRange
	}
	return s, api.OK
}

// played goes through the system behind each event, and the error of that.
func played(s *stitch.System, l []api.Event) iter.Seq2[*stitch.System, api.Errno] {
	return func(yield func(*stitch.System, api.Errno) bool) {
		behind := s
		for _, event := range l {
			var e api.Errno
			behind, e = Apply(behind, event)
			if !yield(behind, e) {
				return
			}
		}
	}
}

// last is what a system has become behind some events.
func last(s *stitch.System, l []api.Event) *stitch.System {
	for behind := range played(s, l) {
		s = behind
	}
	return s
}

// called is the error of the system's call that an event says.
func called(s *stitch.System, event api.Event) (e api.Errno) {
	switch event.Kind {
	case api.Did:
		e = s.Do(event.Op)
	case api.Wrote:
		e = s.Write(event.N)
	case api.Flushed:
		e = s.Flush()
	case api.Synced:
		e = s.Sync()
	case api.Grouped:
		_, e = s.Group()
	case api.Depended:
		e = s.Depend(event.N, event.M)
	case api.EngagedIn:
		e = s.Engage(event.N)
	case api.DisengagedOf:
		e = s.Disengage(event.N)
	case api.ReleasedOf:
		e = s.Release(event.N)
	}
	return e
}

// lost is how many paths would not be there, as they are, behind a crash that picks nothing. Of an image that is not safe no path is there.
func lost(s *stitch.System) int {
	there, _ := image.Tree(s.Crash(nil))
	gone := slices.DeleteFunc(s.Tree(), func(n api.Node) bool { return slices.Contains(there, n) })
	return len(gone)
}

// has: is there something at a path?
func has(s *stitch.System, path string) bool {
	_, ok := tree.Get(s.Tree(), path)
	return ok
}
