package norm

import (
	"fmt"
	"math"
	"slices"
	"testing"

	"columbary/api"
	"columbary/meter"
	"columbary/pat"
)

// outAlready is a meter that is out with 7 left, 3 being spent.
func outAlready() *meter.Meter {
	m := meter.New(10)
	m.Spend(3)
	m.Spend(8)
	return m
}

// expectRefused asks with many meters: nothing is spent, whatever they have.
func expectRefused(t *testing.T, name string, p api.Pattern, tags int) {
	t.Helper()
	for _, budget := range []int{math.MaxInt, 100, 1, 0, -1} {
		expectAnswer(t, name, ask(meter.New(budget), p, tags), answer{"[]", api.ErrArg, 0, false})
	}
	expectAnswer(t, name+", out already", ask(outAlready(), p, tags), answer{"[]", api.ErrArg, 3, true})
	expectAnswer(t, name+", no bound", ask(nil, p, tags), answer{semi: "[]", e: api.ErrArg})
}

// Short forms of nodes.
var (
	zero = api.PNode{Kind: api.PZero}
	one  = api.PNode{Kind: api.POne}
)

func tag(n, many int) api.PNode { return api.PNode{Kind: api.PTag, N: n, A: many} }
func sum(a, b int) api.PNode    { return api.PNode{Kind: api.PSum, A: a, B: b} }
func cat(a, b int) api.PNode    { return api.PNode{Kind: api.PCat, A: a, B: b} }
func star(a int) api.PNode      { return api.PNode{Kind: api.PStar, A: a} }

func TestOfNoNodes(t *testing.T) {
	for _, tags := range []int{-1, 0, 1, api.MaxMsgs, api.MaxMsgs + 1} {
		expectRefused(t, "no pattern", nil, tags)
		expectRefused(t, "an empty pattern", api.Pattern{}, tags)
	}
}

func TestOfWrongNodes(t *testing.T) {
	for name, n := range map[string]api.PNode{
		"no kind":             {},
		"a kind below":        {Kind: -1},
		"a kind behind":       {Kind: api.PStar + 1},
		"the least kind":      {Kind: math.MinInt},
		"the greatest kind":   {Kind: math.MaxInt},
		"a tag below 0":       tag(-1, 1),
		"the least tag":       tag(math.MinInt, 1),
		"just the tags":       tag(2, 1),
		"the greatest tag":    tag(math.MaxInt, 1),
		"none of a tag":       tag(0, 0),
		"less of a tag":       tag(1, -1),
		"too many of a tag":   tag(0, api.MaxCount+1),
		"the most of a tag":   tag(1, math.MaxInt),
		"a tag with B":        {Kind: api.PTag, A: 1, B: 1},
		"a zero with A":       {Kind: api.PZero, A: 1},
		"a zero with B":       {Kind: api.PZero, B: 1},
		"a zero with N":       {Kind: api.PZero, N: 1},
		"a one with A":        {Kind: api.POne, A: -1},
		"a one with B":        {Kind: api.POne, B: 1},
		"a one with N":        {Kind: api.POne, N: 1},
		"a sum without parts": sum(0, 0),
		"a cat without parts": cat(0, 0),
		"a star without one":  star(0),
	} {
		// Alone, and first, in the middle and last among what is right.
		expectRefused(t, name, api.Pattern{n}, 2)
		expectRefused(t, name+", first", api.Pattern{n, one, sum(0, 1), tag(0, 1), cat(2, 3)}, 2)
		expectRefused(t, name+", middle", api.Pattern{one, n, sum(0, 1), tag(0, 1), cat(2, 3)}, 2)
		expectRefused(t, name+", behind", api.Pattern{one, tag(1, 1), sum(0, 1), n, cat(2, 3)}, 2)
		expectRefused(t, name+", last", api.Pattern{one, tag(1, 1), sum(0, 1), n}, 2)
	}
	expectAnswer(t, "all right", ask(nil, api.Pattern{one, tag(1, 1), sum(0, 1), tag(0, 1), cat(2, 3)}, 2), answer{semi: "[{[1] []} {[1 1] []}]"})
}

func TestOfWrongPlaces(t *testing.T) {
	for _, far := range []int{-1, 3, 4, math.MinInt, math.MaxInt} {
		for _, p := range []api.Pattern{
			{one, zero, sum(0, far)},
			{one, zero, sum(far, 1)},
			{one, zero, cat(0, far)},
			{one, zero, cat(far, 1)},
			{one, zero, sum(0, 1), star(far)},
		} {
			expectRefused(t, fmt.Sprint(p), p, 1)
		}
	}
	for _, p := range []api.Pattern{
		// Turned round, used twice, left over, its own, ahead of its parts.
		{one, zero, sum(1, 0)},
		{one, zero, cat(1, 0)},
		{one, zero, sum(1, 1)},
		{one, sum(0, 0)},
		{one, cat(0, 0)},
		{one, one},
		{one, zero, one, sum(1, 2)},
		{one, zero, star(1)},
		{one, star(1)},
		{one, zero, sum(0, 1), star(1)},
		{star(1), one},
		{sum(1, 2), one, one},
		{one, zero, cat(2, 1)},
	} {
		expectRefused(t, fmt.Sprint(p), p, 1)
	}
	for _, n := range []api.PNode{{Kind: api.PSum, B: 1, N: 1}, {Kind: api.PCat, B: 1, N: -1}} {
		p := api.Pattern{one, zero, n}
		expectRefused(t, fmt.Sprint(p), p, 1)
	}
	for _, n := range []api.PNode{{Kind: api.PStar, B: 1}, {Kind: api.PStar, N: 1}} {
		p := api.Pattern{one, n}
		expectRefused(t, fmt.Sprint(p), p, 1)
	}
}

func TestOfStarsInStars(t *testing.T) {
	for _, p := range []api.Pattern{
		{one, star(0), star(1)},
		{zero, star(0), star(1)},
		{tag(0, 1), star(0), one, sum(1, 2), star(3)},
		{one, tag(0, 1), star(1), cat(0, 2), star(3)},
		{one, star(0), star(1), tag(0, 1), sum(2, 3)},
	} {
		expectRefused(t, fmt.Sprint(p), p, 1)
	}
}

// Every list of up to three nodes with small numbers is taken just if pat.Check takes it; so no refusal of a star comes to be seen but Check's.
func TestOfJustWhatCheckTakes(t *testing.T) {
	var nodes []api.PNode
	for kind := 0; kind <= api.PStar+1; kind++ {
		for a := -1; a <= 2; a++ {
			for b := range 3 {
				for n := range 2 {
					nodes = append(nodes, api.PNode{Kind: kind, A: a, B: b, N: n})
				}
			}
		}
	}
	taken := 0
	var grow func(p api.Pattern)
	grow = func(p api.Pattern) {
		m := meter.New(100)
		s, e := Of(m, p, 1)
		refused := e == api.ErrArg && len(s) == 0 && m.Spent() == 0
		if pat.Check(p, 1) != (e == api.OK) || e != api.OK && !refused {
			t.Fatalf("%v is %v, %d, spent %d", p, s, e, m.Spent())
		}
		if e == api.OK {
			taken++
		}
		if len(p) == 3 {
			return
		}
		for _, n := range nodes {
			grow(append(slices.Clip(p), n))
		}
	}
	grow(nil)
	// Four leaves (a and a^2 among them), a star of each, and two nodes of each two.
	if want := 4 + 4 + 2*4*4; taken != want {
		t.Errorf("%d are taken, want %d", taken, want)
	}
}
