package tree

import (
	"slices"

	"counterfoil/api"
)

// longestName is how many bytes the name of an element or an attribute may have.
const longestName = 20

// Right looks at where nodes stand only once their number is known to be small.
func Right(l []api.Node) bool {
	if len(l) < 1 || len(l) > api.MaxNodes || isText(l[0]) || l[0].Parent != none {
		return false
	}
	for i := range l {
		if !isFormed(&l[i]) {
			return false
		}
	}
	return areLinked(l) && areReached(l)
}

// isThere tells whether l is right and has a node of that number.
func isThere(l []api.Node, id int) bool {
	return id >= 0 && id < len(l) && Right(l)
}

func isText(n api.Node) bool { return n.Name == "" }

// isFormed takes a pointer, as each call of the layer asks it of all nodes.
func isFormed(n *api.Node) bool {
	if isText(*n) {
		return len(n.Text) <= api.MaxText && len(n.Attrs) == 0 && len(n.Kids) == 0
	}
	return isName(n.Name) && n.Text == "" && areAttrs(n.Attrs)
}

// isName tells whether s may be the name of an element, or of an attribute.
func isName(s string) bool {
	if len(s) < 1 || len(s) > longestName || !isSmall(s[0]) {
		return false
	}
	for i := range len(s) {
		if c := s[i]; !isSmall(c) && !('0' <= c && c <= '9') && c != '-' {
			return false
		}
	}
	return true
}

func isSmall(c byte) bool { return 'a' <= c && c <= 'z' }

func areAttrs(attrs []api.Attr) bool {
	if len(attrs) > api.MaxAttrs {
		return false
	}
	for i, a := range attrs {
		if !isName(a.Name) || len(a.Value) > api.MaxText || slices.ContainsFunc(attrs[:i], called(a.Name)) {
			return false
		}
	}
	return true
}

// areLinked tells whether each child is told once, and by its parent.
func areLinked(l []api.Node) bool {
	var listed [api.MaxNodes]bool
	for id := range l {
		for _, kid := range l[id].Kids {
			if kid < 0 || kid >= len(l) || l[kid].Parent != id || listed[kid] {
				return false
			}
			listed[kid] = true
		}
	}
	return true
}

// areReached tells whether those without a parent lead to all. None of them leads to a node that is within itself, nor to one whose parent isn't there, or doesn't tell it. It needs nodes that are linked, or going down may not end.
func areReached(l []api.Node) bool {
	reached := make([]int, 0, len(l))
	for id := range l {
		if l[id].Parent == none {
			reached = downwards(reached, l, id)
		}
	}
	return len(reached) == len(l)
}
