package pat

import (
	"columbary/api"
	"columbary/lex"
)

// reader is how far a text is read: the token at which it goes on, how many brackets stand open there, whether it is within a star, and the nodes that are whole.
type reader struct {
	tokens   []api.Token
	tags     map[string]int
	at, open int
	starred  bool
	nodes    api.Pattern
}

// numbers is the tag of each name; of equal names, the first.
func numbers(names []string) map[string]int {
	tags := make(map[string]int, len(names))
	for n, name := range names {
		if _, ok := tags[name]; !ok {
			tags[name] = n
		}
	}
	return tags
}

// next is the token at which the reader stands, and goes on. None is asked for behind the end: the end may stand only where whole looks for it.
func (r *reader) next() api.Token {
	r.at++
	return r.tokens[r.at-1]
}

// skip goes on if the reader stands at the sign. No token of another kind has a sign's text.
func (r *reader) skip(sign string) bool {
	if r.tokens[r.at].Text != sign {
		return false
	}
	r.at++
	return true
}

func (r *reader) add(n api.PNode) {
	r.nodes = append(r.nodes, n)
}

// last is the place of the last node, which is that of the part that was just read.
func (r *reader) last() int {
	return len(r.nodes) - 1
}

// whole reads all of the text.
func (r *reader) whole() api.Errno {
	if e := r.sum(); e != api.OK {
		return e
	}
	if r.next().Kind != api.TokEnd {
		return api.ErrForm
	}
	return api.OK
}

func (r *reader) sum() api.Errno {
	return r.row("+", api.PSum, r.cat)
}

func (r *reader) cat() api.Errno {
	return r.row(".", api.PCat, r.star)
}

// row reads pieces with the sign between them, each node having all that stands on its left.
func (r *reader) row(sign string, kind int, piece func() api.Errno) api.Errno {
	if e := piece(); e != api.OK {
		return e
	}
	for r.skip(sign) {
		left := r.last()
		if e := piece(); e != api.OK {
			return e
		}
		r.add(api.PNode{Kind: kind, A: left, B: r.last()})
	}
	return api.OK
}

// star reads what may stand between the signs of a row.
func (r *reader) star() api.Errno {
	if !r.skip("*") {
		return r.single()
	}
	if r.starred {
		return api.ErrForm
	}
	r.starred = true
	if e := r.single(); e != api.OK {
		return e
	}
	r.starred = false
	r.add(api.PNode{Kind: api.PStar, A: r.last()})
	return api.OK
}

// single reads what may stand behind a star.
func (r *reader) single() api.Errno {
	switch t := r.next(); {
	case t.Text == "(":
		return r.brackets()
	case t.Text == "0":
		r.add(api.PNode{Kind: api.PZero})
		return api.OK
	case t.Text == "1":
		r.add(api.PNode{Kind: api.POne})
		return api.OK
	case lex.Name(t.Text):
		return r.tag(t.Text)
	}
	return api.ErrForm
}

// brackets reads on behind the one that opens.
func (r *reader) brackets() api.Errno {
	if r.open == api.MaxDepth {
		return api.ErrLimit
	}
	r.open++
	if e := r.sum(); e != api.OK {
		return e
	}
	if !r.skip(")") {
		return api.ErrForm
	}
	r.open--
	return api.OK
}

// tag reads on behind the name of a tag.
func (r *reader) tag(name string) api.Errno {
	n, ok := r.tags[name]
	if !ok {
		return api.ErrNone
	}
	many := 1
	if r.skip("^") {
		t := r.next()
		if t.Kind != api.TokNumber || !count(t.N) {
			return api.ErrForm
		}
		many = t.N
	}
	r.add(api.PNode{Kind: api.PTag, A: many, N: n})
	return api.OK
}
