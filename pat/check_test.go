package pat

import (
	"math"
	"slices"
	"testing"

	"columbary/api"
)

func expectCheck(t *testing.T, p api.Pattern, tags int, want bool) {
	t.Helper()
	if got := Check(p, tags); got != want {
		t.Errorf("Check(%v, %d) is %v", p, tags, got)
	}
}

func TestCheckOfOneNode(t *testing.T) {
	for _, tags := range []int{math.MinInt, -1, 0, 1, 12, math.MaxInt} {
		expectCheck(t, nil, tags, false)
		expectCheck(t, api.Pattern{}, tags, false)
		expectCheck(t, api.Pattern{zero}, tags, true)
		expectCheck(t, api.Pattern{one}, tags, true)
		expectCheck(t, api.Pattern{tag(0, 1)}, tags, tags > 0)
		expectCheck(t, api.Pattern{sum(0, 0)}, tags, false)
		expectCheck(t, api.Pattern{cat(0, 0)}, tags, false)
		expectCheck(t, api.Pattern{star(0)}, tags, false)
		for _, kind := range []int{math.MinInt, -1, 0, 7, 8, math.MaxInt} {
			expectCheck(t, api.Pattern{{Kind: kind}}, tags, false)
		}
	}
}

func TestCheckOfParts(t *testing.T) {
	for _, p := range []api.Pattern{
		{zero, one, sum(0, 1)},
		{one, zero, cat(0, 1)},
		{one, one, sum(0, 1)},
		{tag(0, 1), star(0)},
		{tag(0, 1), tag(1, 2), sum(0, 1), star(2)},
		{tag(0, 1), tag(1, 2), tag(0, 3), cat(1, 2), sum(0, 3)},
		{tag(0, 1), tag(1, 2), cat(0, 1), tag(0, 3), sum(2, 3)},
		{tag(0, 1), star(0), tag(1, 1), star(2), cat(1, 3)},
		{one, one, sum(0, 1), zero, one, cat(3, 4), sum(2, 5)},
	} {
		expectCheck(t, p, 2, true)
		// Without its last node something is left over, unless that is a star; without its first something is not there.
		expectCheck(t, p[:len(p)-1], 2, p[len(p)-1].Kind == api.PStar)
		expectCheck(t, p[1:], 2, false)
	}
}

func TestCheckOfManyNodes(t *testing.T) {
	most := api.MaxPat / 2
	for _, leaf := range []api.PNode{zero, one, tag(0, 1)} {
		for _, kind := range []int{api.PSum, api.PCat} {
			p := row(kind, most, leaf)
			expectCheck(t, p, 1, true)
			if p = stars(p); len(p) != api.MaxPat {
				t.Fatalf("there are %d nodes", len(p))
			}
			expectCheck(t, p, 1, true)
			expectCheck(t, row(kind, most+1, leaf), 1, false)
			expectCheck(t, row(kind, 1000, leaf), 1, false)
		}
	}
	// Just one more: two parts of an odd number of nodes each have an odd number.
	a := row(api.PSum, most/2, one)
	b := row(api.PSum, most/2+1, one)
	p := join(api.PCat, a, b)
	if len(p) != api.MaxPat+1 {
		t.Fatalf("there are %d nodes", len(p))
	}
	expectCheck(t, p, 1, false)
	expectCheck(t, make(api.Pattern, api.MaxPat), 1, false)
	expectCheck(t, slices.Repeat(api.Pattern{one}, api.MaxPat), 1, false)
	expectCheck(t, slices.Repeat(api.Pattern{one}, 1<<20), 1, false)
}

func TestCheckOfTags(t *testing.T) {
	for _, tags := range []int{1, 2, 3, api.MaxMsgs, api.MaxMsgs + 1, 1000, math.MaxInt} {
		expectCheck(t, api.Pattern{tag(0, 1)}, tags, true)
		expectCheck(t, api.Pattern{tag(tags-1, 1)}, tags, true)
		expectCheck(t, api.Pattern{tag(-1, 1)}, tags, false)
		expectCheck(t, api.Pattern{tag(math.MinInt, 1)}, tags, false)
		expectCheck(t, api.Pattern{tag(math.MaxInt, 1)}, tags, false)
		expectCheck(t, api.Pattern{tag(0, 1), tag(-1, 1), sum(0, 1)}, tags, false)
		if tags < math.MaxInt {
			expectCheck(t, api.Pattern{tag(tags, 1)}, tags, false)
			expectCheck(t, api.Pattern{tag(tags+1, 1)}, tags, false)
			expectCheck(t, api.Pattern{tag(0, 1), tag(tags, 1), cat(0, 1)}, tags, false)
			expectCheck(t, api.Pattern{tag(tags, 1), tag(0, 1), cat(0, 1)}, tags, false)
		}
	}
	for _, tags := range []int{0, -1, math.MinInt} {
		expectCheck(t, api.Pattern{tag(0, 1)}, tags, false)
		expectCheck(t, api.Pattern{tag(-1, 1)}, tags, false)
		expectCheck(t, api.Pattern{tag(tags, 1)}, tags, false)
	}
}

func TestCheckOfCounts(t *testing.T) {
	for _, many := range []int{1, 2, 3, api.MaxText, api.MaxCount - 1, api.MaxCount} {
		expectCheck(t, api.Pattern{tag(0, many)}, 1, true)
		expectCheck(t, api.Pattern{one, tag(0, many), sum(0, 1)}, 1, true)
	}
	for _, many := range []int{0, -1, -api.MaxCount, math.MinInt, api.MaxCount + 1, 1 << 32, api.Far, math.MaxInt} {
		expectCheck(t, api.Pattern{tag(0, many)}, 1, false)
		expectCheck(t, api.Pattern{one, tag(0, many), sum(0, 1)}, 1, false)
	}
}

// TestCheckOfWrongOrder: parts in another order, left over, used twice, or not right ahead.
func TestCheckOfWrongOrder(t *testing.T) {
	for _, p := range []api.Pattern{
		// A and B the other way round.
		{one, zero, sum(1, 0)},
		{one, zero, cat(1, 0)},
		{one, one, zero, cat(1, 2), sum(3, 0)},
		// The node that has them ahead of its parts, or between them.
		{sum(1, 2), one, zero},
		{one, sum(0, 2), zero},
		{star(1), one},
		{star(0), one},
		// Left over.
		{one, one},
		{one, zero, one},
		{one, one, star(1)},
		{one, one, one, sum(1, 2)},
		{one, one, sum(0, 1), one},
		{one, one, sum(0, 1), one, star(3)},
		// Used twice.
		{one, sum(0, 0)},
		{one, cat(0, 0)},
		{one, one, sum(0, 0)},
		{one, one, sum(1, 1)},
		{one, one, sum(0, 1), sum(2, 2)},
		{one, one, sum(0, 1), cat(1, 2)},
		{one, one, sum(0, 1), cat(0, 2)},
		{one, one, sum(0, 1), one, cat(0, 3)},
		// Not the last places of the parts right ahead.
		{one, one, one, cat(0, 1), sum(3, 2)},
		{one, one, one, sum(0, 1), sum(3, 2)},
		{one, one, one, cat(0, 2), sum(1, 3)},
		{one, one, one, cat(1, 2), sum(0, 2)},
		{one, one, one, cat(1, 2), sum(1, 3)},
		{one, one, sum(0, 1), star(1)},
		{one, one, sum(0, 1), star(0)},
		{one, one, star(0)},
		{one, one, star(0), sum(1, 2)},
		{one, star(0), one, sum(0, 2)},
		// Places that are its own, behind it, or none.
		{one, star(1)},
		{one, star(2)},
		{one, star(-1)},
		{one, star(math.MaxInt)},
		{one, one, sum(0, 2)},
		{one, one, sum(2, 1)},
		{one, one, sum(-1, 1)},
		{one, one, sum(0, -1)},
		{one, one, cat(0, 3)},
		{one, one, cat(math.MinInt, 1)},
		{one, one, cat(0, math.MaxInt)},
	} {
		expectCheck(t, p, 1, false)
	}
}

func TestCheckOfStars(t *testing.T) {
	for _, p := range []api.Pattern{
		{one, star(0), star(1)},
		{zero, star(0), star(1)},
		{tag(0, 1), star(0), star(1)},
		{one, star(0), one, sum(1, 2), star(3)},
		{one, one, star(1), cat(0, 2), star(3)},
		{one, one, one, star(2), cat(1, 3), sum(0, 4), star(5)},
		{one, star(0), one, cat(1, 2), one, cat(3, 4), one, sum(5, 6), star(7)},
		{one, star(0), star(1), one, sum(2, 3)},
		{one, one, star(1), star(2), sum(0, 3)},
		{one, star(0), star(1), star(2)},
	} {
		expectCheck(t, p, 1, false)
	}
	for _, p := range []api.Pattern{
		{one, star(0)},
		{one, star(0), one, star(2), sum(1, 3)},
		{one, star(0), one, star(2), cat(1, 3)},
		{one, star(0), one, star(2), cat(1, 3), one, star(5), sum(4, 6)},
		{one, one, star(1), cat(0, 2)},
		{one, one, cat(0, 1), star(2), one, sum(3, 4)},
	} {
		expectCheck(t, p, 1, true)
	}
}

// TestCheckOfOtherFields: those that a node has not must be zero.
func TestCheckOfOtherFields(t *testing.T) {
	p := api.Pattern{zero, one, sum(0, 1), tag(1, 2), cat(2, 3), star(4)}
	expectCheck(t, p, 2, true)
	for _, v := range []int{1, 2, -1, math.MaxInt, math.MinInt} {
		for i, n := range p {
			set := func(use bool, change func(n *api.PNode)) {
				t.Helper()
				q := slices.Clone(p)
				change(&q[i])
				expectCheck(t, q, 2, use)
			}
			leaf := n.Kind == api.PZero || n.Kind == api.POne
			if leaf {
				set(false, func(n *api.PNode) { n.A = v })
			}
			if leaf || n.Kind == api.PTag || n.Kind == api.PStar {
				set(false, func(n *api.PNode) { n.B = v })
			}
			if n.Kind != api.PTag {
				set(false, func(n *api.PNode) { n.N = v })
			}
			set(true, func(n *api.PNode) { n.Name = "msg" })
		}
	}
}

func TestCheckDoesNotAskNames(t *testing.T) {
	for _, name := range []string{"a", "msg", "", "A b", "\xff", "abcdefghijklmnopqrstuvwxyz"} {
		p := api.Pattern{zero, one, sum(0, 1), tag(1, 2), cat(2, 3), star(4)}
		for i := range p {
			p[i].Name = name
			expectCheck(t, p, 2, true)
			expectCheck(t, p, 1, false)
		}
	}
}

// modelCheck is Check, read from the last node to the first.
func modelCheck(p api.Pattern, tags int) bool {
	var begin func(end int, starred bool) int
	// begin is the place ahead of the part that ends there, or -2: there is none.
	begin = func(end int, starred bool) int {
		if end < 0 {
			return -2
		}
		n := p[end]
		switch {
		case n.Kind == api.PZero && n.A == 0 && n.B == 0 && n.N == 0,
			n.Kind == api.POne && n.A == 0 && n.B == 0 && n.N == 0,
			n.Kind == api.PTag && n.A >= 1 && n.A <= 999999999 && n.B == 0 && n.N >= 0 && n.N < tags:
			return end - 1
		case n.Kind == api.PStar && !starred && n.A == end-1 && n.B == 0 && n.N == 0:
			return begin(end-1, true)
		case (n.Kind == api.PSum || n.Kind == api.PCat) && n.B == end-1 && n.N == 0:
			if a := begin(end-1, starred); a >= 0 && a == n.A {
				return begin(a, starred)
			}
		}
		return -2
	}
	return len(p) <= 24 && begin(len(p)-1, false) == -1
}

// eachPattern hands on every list of up to n nodes with fields of these.
func eachPattern(n int, kinds, as, bs, ns []int, use func(p api.Pattern)) {
	var nodes []api.PNode
	for _, kind := range kinds {
		for _, a := range as {
			for _, b := range bs {
				for _, n := range ns {
					nodes = append(nodes, api.PNode{Kind: kind, A: a, B: b, N: n})
				}
			}
		}
	}
	var grow func(p api.Pattern)
	grow = func(p api.Pattern) {
		use(p)
		for i := 0; i < len(nodes) && len(p) < n; i++ {
			grow(append(p, nodes[i]))
		}
	}
	grow(make(api.Pattern, 0, n))
}

func TestCheckOfAllShortLists(t *testing.T) {
	asked := 0
	use := func(p api.Pattern) {
		if t.Failed() {
			return
		}
		asked++
		expectCheck(t, p, 1, modelCheck(p, 1))
	}
	eachPattern(2, []int{0, 1, 2, 3, 4, 5, 6, 7}, []int{-1, 0, 1, 2}, []int{-1, 0, 1, 2}, []int{-1, 0, 1}, use)
	eachPattern(3, []int{1, 2, 3, 4, 5, 6}, []int{0, 1, 2}, []int{0, 1}, []int{0, 1}, use)
	eachPattern(4, []int{2, 4, 6}, []int{0, 1, 2}, []int{0, 1, 2}, []int{0}, use)
	if asked < 1000000 {
		t.Errorf("only %d lists were asked", asked)
	}
}

// TestCheckOfAllTrees: each is taken unless it has a star in a star, and is not once a place in it is another.
func TestCheckOfAllTrees(t *testing.T) {
	for n := 1; n <= 7; n++ {
		for _, p := range trees(n, tag(0, 1)) {
			expectCheck(t, p, 1, !nested(p))
			for i := range p {
				for _, change := range []func(n *api.PNode){
					func(n *api.PNode) { n.A-- }, func(n *api.PNode) { n.A++ }, func(n *api.PNode) { n.B-- }, func(n *api.PNode) { n.B++ }, func(n *api.PNode) { n.Kind++ },
				} {
					q := slices.Clone(p)
					change(&q[i])
					expectCheck(t, q, 1, modelCheck(q, 1))
				}
				q := slices.Delete(slices.Clone(p), i, i+1)
				expectCheck(t, q, 1, modelCheck(q, 1))
			}
			if t.Failed() {
				return
			}
		}
	}
}

func TestCheckOfSomeGreatTrees(t *testing.T) {
	pick := random()
	for range 20000 {
		n := 1 + pick(api.MaxPat+4)
		p := someTree(pick, n, 3, false)
		expectCheck(t, p, 3, len(p) <= api.MaxPat)
		i := pick(len(p))
		switch pick(4) {
		case 0:
			p[i].A += pick(5) - 2
		case 1:
			p[i].B += pick(5) - 2
		case 2:
			p[i].Kind = pick(8)
		case 3:
			j := pick(len(p))
			p[i], p[j] = p[j], p[i]
		}
		expectCheck(t, p, 3, modelCheck(p, 3))
		if t.Failed() {
			return
		}
	}
}
