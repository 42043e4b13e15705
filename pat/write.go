package pat

import (
	"slices"
	"strconv"
	"strings"

	"columbary/api"
	"columbary/lex"
)

// named tells whether a reader of the text of p would know each of its tags by its name.
func named(p api.Pattern, names []string) bool {
	for _, n := range p {
		if n.Kind != api.PTag {
			continue
		}
		name := names[n.N]
		if !lex.Name(name) || slices.Index(names, name) < n.N {
			return false
		}
	}
	return true
}

// writer is what is written so far of a pattern.
type writer struct {
	nodes api.Pattern
	names []string
	text  strings.Builder
}

// part writes the part whose last node stands at i, in brackets if it is of one of the kinds.
func (w *writer) part(i int, bracketed ...int) {
	if !slices.Contains(bracketed, w.nodes[i].Kind) {
		w.node(w.nodes[i])
		return
	}
	w.text.WriteByte('(')
	w.node(w.nodes[i])
	w.text.WriteByte(')')
}

// node writes n with its parts. What stands on the left of a sign needs no brackets against that sign, since a reader takes it first.
func (w *writer) node(n api.PNode) {
	switch n.Kind {
	case api.PZero:
		w.text.WriteByte('0')
	case api.POne:
		w.text.WriteByte('1')
	case api.PTag:
		w.tag(n)
	case api.PSum:
		w.part(n.A)
		w.text.WriteString(" + ")
		w.part(n.B, api.PSum)
	case api.PCat:
		w.part(n.A, api.PSum)
		w.text.WriteString(" . ")
		w.part(n.B, api.PSum, api.PCat)
	case api.PStar:
		w.text.WriteByte('*')
		w.part(n.A, api.PSum, api.PCat)
	}
}

func (w *writer) tag(n api.PNode) {
	w.text.WriteString(w.names[n.N])
	if n.A > 1 {
		w.text.WriteByte('^')
		w.text.WriteString(strconv.Itoa(n.A))
	}
}
