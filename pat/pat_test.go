package pat

import (
	"slices"
	"strconv"
	"strings"
	"testing"

	"columbary/api"
)

// The nodes of patterns, with just the fields that are theirs.
var (
	zero = api.PNode{Kind: api.PZero}
	one  = api.PNode{Kind: api.POne}
)

func tag(n, many int) api.PNode {
	return api.PNode{Kind: api.PTag, N: n, A: many}
}

func sum(a, b int) api.PNode {
	return api.PNode{Kind: api.PSum, A: a, B: b}
}

func cat(a, b int) api.PNode {
	return api.PNode{Kind: api.PCat, A: a, B: b}
}

func star(a int) api.PNode {
	return api.PNode{Kind: api.PStar, A: a}
}

// join is the pattern whose node of the kind has the patterns a and b.
func join(kind int, a, b api.Pattern) api.Pattern {
	p := slices.Clone(a)
	for _, n := range b {
		p = append(p, moved(n, len(a)))
	}
	return append(p, api.PNode{Kind: kind, A: len(a) - 1, B: len(p) - 1})
}

// moved is n, so many places further on.
func moved(n api.PNode, by int) api.PNode {
	switch n.Kind {
	case api.PSum, api.PCat:
		n.A, n.B = n.A+by, n.B+by
	case api.PStar:
		n.A += by
	}
	return n
}

// stars is the pattern of a star of p.
func stars(p api.Pattern) api.Pattern {
	return append(slices.Clone(p), star(len(p)-1))
}

// row is the pattern of many leaves, each node having all that stands on its left.
func row(kind, many int, leaf api.PNode) api.Pattern {
	p := api.Pattern{leaf}
	for len(p) < 2*many-1 {
		p = join(kind, p, api.Pattern{leaf})
	}
	return p
}

// trees are all patterns of just n nodes over the leaves, those with a star in a star among them.
func trees(n int, leaves ...api.PNode) []api.Pattern {
	var l []api.Pattern
	if n == 1 {
		for _, leaf := range leaves {
			l = append(l, api.Pattern{leaf})
		}
		return l
	}
	for _, p := range trees(n-1, leaves...) {
		l = append(l, stars(p))
	}
	for i := 1; i < n-1; i++ {
		for _, a := range trees(i, leaves...) {
			for _, b := range trees(n-1-i, leaves...) {
				l = append(l, join(api.PSum, a, b), join(api.PCat, a, b))
			}
		}
	}
	return l
}

// nested tells whether p, one of trees, has a star in a star.
func nested(p api.Pattern) bool {
	var within func(i int, starred bool) bool
	within = func(i int, starred bool) bool {
		switch n := p[i]; n.Kind {
		case api.PSum, api.PCat:
			return within(n.A, starred) || within(n.B, starred)
		case api.PStar:
			return starred || within(n.A, true)
		}
		return false
	}
	return within(len(p)-1, false)
}

// short is text, or its beginning, for telling it.
func short(text string) string {
	return strconv.Quote(text[:min(len(text), 60)])
}

// random answers numbers below n, the same ones in each run.
func random() func(n int) int {
	state := uint64(1)
	return func(n int) int {
		state = state*6364136223846793005 + 1442695040888963407
		return int(state>>33) % n
	}
}

// someTree is a pattern of up to n nodes over the tags, without a star in a star.
func someTree(pick func(n int) int, n, tags int, starred bool) api.Pattern {
	switch {
	case n >= 2 && !starred && pick(4) == 0:
		return stars(someTree(pick, n-1, tags, true))
	case n >= 3:
		left := 1 + pick(n-2)
		return join(api.PSum+pick(2), someTree(pick, left, tags, starred), someTree(pick, n-1-left, tags, starred))
	case pick(6) == 0:
		return api.Pattern{zero}
	case pick(6) == 0:
		return api.Pattern{one}
	}
	return api.Pattern{tag(pick(tags), 1+pick(3))}
}

func TestSame(t *testing.T) {
	p := api.Pattern{tag(0, 1), tag(1, 2), sum(0, 1), star(2)}
	if !Same(p, p) || !Same(p, slices.Clone(p)) {
		t.Error("a pattern is not the same as itself")
	}
	if !Same(nil, nil) || !Same(nil, api.Pattern{}) || !Same(api.Pattern{}, nil) {
		t.Error("no nodes are not the same as no nodes")
	}
	for i := range p {
		for k, change := range []func(n *api.PNode){
			func(n *api.PNode) { n.Kind++ },
			func(n *api.PNode) { n.A++ },
			func(n *api.PNode) { n.B-- },
			func(n *api.PNode) { n.N++ },
			func(n *api.PNode) { n.Name = "a" },
		} {
			q := slices.Clone(p)
			change(&q[i])
			if Same(p, q) || Same(q, p) {
				t.Errorf("with change %d of node %d it is the same", k, i)
			}
			if !Same(q, slices.Clone(q)) {
				t.Errorf("with change %d of node %d it is not the same as itself", k, i)
			}
		}
	}
}

func TestSameOfUnlikeLengths(t *testing.T) {
	p := api.Pattern{tag(0, 1), tag(1, 2), sum(0, 1), star(2)}
	for i := range p {
		if Same(p, p[:i]) || Same(p[:i], p) {
			t.Errorf("it is the same as its first %d nodes", i)
		}
	}
	if Same(p, append(slices.Clone(p), api.PNode{})) {
		t.Error("it is the same with an empty node behind it")
	}
	if Same(nil, api.Pattern{{}}) {
		t.Error("none is the same as an empty node")
	}
}

// TestSameIsOfAnyNodes: what Check does not take is the same as itself, too, however much there is of it.
func TestSameIsOfAnyNodes(t *testing.T) {
	p := slices.Repeat(api.Pattern{{Kind: -1, A: -2, B: 99, N: 1 << 62, Name: "msg"}, {}}, 10*api.MaxPat)
	q := slices.Clone(p)
	if !Same(p, q) {
		t.Error("any nodes are not the same as themselves")
	}
	q[len(q)-1].N = 1
	if Same(p, q) {
		t.Error("they are the same with another last node")
	}
}

// TestSameIsOfTheNodes: not of what they stand for.
func TestSameIsOfTheNodes(t *testing.T) {
	names := []string{"a", "b", "a"}
	for _, x := range [][2]string{{"a + b", "b + a"}, {"a + a", "a"}, {"a . a", "a^2"}, {"1 . a", "a"}, {"a + (b + 1)", "a + b + 1"}} {
		p, _ := Parse(x[0], names...)
		q, _ := Parse(x[1], names...)
		if len(p) == 0 || len(q) == 0 || Same(p, q) {
			t.Errorf("%s and %s are the same", x[0], x[1])
		}
	}
}

// TestNothingIsChanged: not a pattern, and not the names.
func TestNothingIsChanged(t *testing.T) {
	p := api.Pattern{tag(0, 1), tag(1, 2), sum(0, 1), star(2), one, cat(3, 4)}
	names := []string{"a", "b", "a", ""}
	oldP, oldNames := slices.Clone(p), slices.Clone(names)
	Check(p, 2)
	Check(p, 1)
	Check(p[:3:6], 2)
	Print(p, names...)
	Print(p, names[:1:4]...)
	Parse("*(a + b) . 1", names...)
	Parse("a c", names...)
	Same(p, p[:3])
	if !slices.Equal(p, oldP) || !slices.Equal(names, oldNames) {
		t.Errorf("they became %v, %q", p, names)
	}
}

// TestAnswersAreNew: what is done to one answer is not seen in another.
func TestAnswersAreNew(t *testing.T) {
	text := "*(a + b) . 1"
	want := api.Pattern{tag(0, 1), tag(1, 1), sum(0, 1), star(2), one, cat(3, 4)}
	p, _ := Parse(text, "a", "b")
	for i := range p[:cap(p)] {
		p[:cap(p)][i] = api.PNode{Kind: 9, Name: "gone"}
	}
	q, e := Parse(text, "a", "b")
	if e != api.OK || !slices.Equal(q, want) {
		t.Errorf("Parse is %v, error %v, want %v", q, e, want)
	}
}

func TestManyTags(t *testing.T) {
	const many = 100000
	names := make([]string, many)
	for i := range names {
		names[i] = "t" + strconv.Itoa(i)
	}
	text := strings.Repeat("t99999 + ", api.MaxText/9-1)
	if p, e := Parse(text+"a", names...); len(p) != 0 || e != api.ErrNone {
		t.Errorf("Parse has %d nodes, error %v", len(p), e)
	}
	p, e := Parse("t99999 . t0", names...)
	if want := (api.Pattern{tag(many-1, 1), tag(0, 1), cat(0, 1)}); e != api.OK || !slices.Equal(p, want) {
		t.Errorf("Parse is %v, error %v", p, e)
	}
	if !Check(p, many) || Check(p, many-1) {
		t.Error("Check of the last tag")
	}
	if s, e := Print(p, names...); s != "t99999 . t0" || e != api.OK {
		t.Errorf("Print is %q, error %v", s, e)
	}
}
