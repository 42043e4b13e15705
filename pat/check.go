package pat

import "columbary/api"

// part is a piece of a pattern that is whole: the place of its last node, and whether there is a star in it.
type part struct {
	last    int
	starred bool
}

func hasStar(x part) bool {
	return x.starred
}

// parts is how many parts a node of the kind has.
func parts(kind int) int {
	switch kind {
	case api.PSum, api.PCat:
		return 2
	case api.PStar:
		return 1
	}
	return 0
}

// right tells whether n may be the node of the parts l, of which there are as many as its kind has.
func right(n api.PNode, tags int, l []part) bool {
	want := api.PNode{Kind: n.Kind, Name: n.Name}
	switch n.Kind {
	case api.PZero, api.POne:
	case api.PTag:
		if n.N < 0 || n.N >= tags || !count(n.A) {
			return false
		}
		want.A, want.N = n.A, n.N
	case api.PSum, api.PCat:
		want.A, want.B = l[0].last, l[1].last
	case api.PStar:
		if l[0].starred {
			return false
		}
		want.A = l[0].last
	default:
		return false
	}
	return n == want
}
