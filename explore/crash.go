package explore

import (
	"bytes"
	"iter"
	"strconv"
	"strings"

	"selvedge/api"
	"selvedge/image"
	"selvedge/merge"
)

// crash is a safe image, and small items, of which it may leave each closed set.
type crash struct {
	needs
	img   [][]byte
	items []api.Item
}

func crashOf(img [][]byte, l []api.Item) (*crash, api.Errno) {
	if len(l) > small || !merge.Right(l) || !image.Safe(img) {
		return nil, api.ErrForm
	}
	deps := make([][]int, len(l))
	for i, item := range l {
		deps[i] = item.Deps
	}
	need, e := needsOf(deps)
	if e != api.OK {
		return nil, e
	}
	if need.count() > api.MaxClosed {
		return nil, api.ErrFull
	}
	return &crash{need, img, l}, api.OK
}

// left goes through the closed sets, in order, with the image behind each.
func (c *crash) left() iter.Seq2[set, [][]byte] {
	return func(yield func(set, [][]byte) bool) {
		for s := range c.closed() {
			if !yield(s, merge.Blocks(c.items, s.members(), c.img)) {
				return
			}
		}
	}
}

// images are those that came not yet, in order.
func (c *crash) images(came seen) [][][]byte {
	var l [][][]byte
	for _, left := range c.left() {
		// All are of equally many blocks of BlockSize bytes: their bytes alone tell them apart.
		if came.first(string(bytes.Join(left, nil))) {
			l = append(l, left)
		}
	}
	return l
}

// seen are the texts that came already.
type seen map[string]struct{}

// first: does a text come for the first time? From here on it came.
func (came seen) first(text string) bool {
	if _, again := came[text]; again {
		return false
	}
	came[text] = struct{}{}
	return true
}

// treeText is a text of a tree that no other tree has.
func treeText(t []api.Node) string {
	var b strings.Builder
	for _, n := range t {
		// No path has a blank in it.
		b.WriteString(n.Path + " " + n.First + " " + strconv.FormatBool(n.Dir) + " " + strconv.Quote(n.Data) + "\n")
	}
	return b.String()
}
