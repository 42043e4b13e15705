package resid

import (
	"fmt"
	"math"
	"slices"
	"testing"

	"columbary/api"
	"columbary/meter"
	"columbary/norm"
	"columbary/pat"
	"columbary/semi"
)

const far = api.Far

// set is a linear set as it is written, Right or not.
func set(base api.Bag, periods ...api.Bag) api.Lin {
	return api.Lin{Base: base, Periods: periods}
}

// word is the set of one word.
func word(n ...int) api.Semi {
	return api.Semi{set(n)}
}

// last is n of the last tag that there may be.
func last(n int) api.Bag {
	return append(make(api.Bag, api.MaxMsgs-1), n)
}

// numbered is a linear set of so many Periods: 1, 2, 3, .. of one tag.
func numbered(periods int, base ...int) (l api.Lin) {
	l.Base = base
	for i := range periods {
		l.Periods = append(l.Periods, api.Bag{i + 1})
	}
	return l
}

// of is what a pattern over a, b and c stands for.
func of(t *testing.T, text string) api.Semi {
	t.Helper()
	p, e := pat.Parse(text, "a", "b", "c")
	if e != api.OK {
		t.Fatalf("%s is no pattern: %d", text, e)
	}
	s, e := norm.Of(nil, p, 3)
	if e != api.OK {
		t.Fatalf("%s has no words: %d", text, e)
	}
	return s
}

// wrongWords are lists that are not bag.Right, for one reason each.
func wrongWords() map[string]api.Bag {
	return map[string]api.Bag{
		"just a nought":        {0},
		"a nought at the end":  {1, 0},
		"many noughts":         make(api.Bag, api.MaxMsgs),
		"below 0":              {-1},
		"below 0, ahead":       {-1, 1},
		"below 0, behind":      {1, -2},
		"the least":            {1, math.MinInt},
		"beyond Far":           {far + 1},
		"beyond Far, ahead":    {far + 1, 1},
		"beyond Far, behind":   {3, far + 1},
		"the greatest":         {math.MaxInt},
		"too many tags":        append(make(api.Bag, api.MaxMsgs), 1),
		"too many tags, alike": slices.Repeat(api.Bag{1}, api.MaxMsgs+1),
	}
}

// wrongSemis are lists that are not semi.Right, for one reason each.
func wrongSemis() map[string]api.Semi {
	all := map[string]api.Semi{
		"two alike":          {set(nil), set(nil)},
		"two that fall":      {set(api.Bag{1}), set(nil)},
		"two that fall last": {set(nil), set(api.Bag{1, 1}), set(api.Bag{0, 1})},
		"fewer behind":       {set(nil, api.Bag{1}), set(nil)},
		"periods fall":       {set(nil, api.Bag{2}, api.Bag{1})},
		"periods alike":      {set(nil, api.Bag{1}, api.Bag{1})},
		"an empty period":    {set(nil, nil)},
		"an empty one ahead": {set(nil, nil, api.Bag{1})},
	}
	for name, w := range wrongWords() {
		all["a base: "+name] = api.Semi{set(w)}
		all["a base behind: "+name] = api.Semi{set(nil), set(w)}
		all["a period: "+name] = api.Semi{set(nil, w)}
		all["a period behind: "+name] = api.Semi{set(nil, api.Bag{1}, w)}
		all["the last of all: "+name] = api.Semi{set(nil), set(api.Bag{1}), set(api.Bag{2}, api.Bag{1}, w)}
	}
	return all
}

// rightSemis are sets of all kinds.
func rightSemis() []api.Semi {
	return []api.Semi{
		nil, {}, semi.One(), word(1), word(0, 2), word(far), {set(last(far))}, {set(nil, api.Bag{1})}, {set(nil), set(api.Bag{3}, api.Bag{1}, api.Bag{0, 2})},
		{numbered(41)}, {numbered(3), numbered(2, 1), set(api.Bag{5, 6, 7})}, {set(slices.Repeat(api.Bag{far}, api.MaxMsgs))},
	}
}

// calling is a call with a meter; what is answered beside the error is told as a text, nil and empty lists alike.
type calling func(m *meter.Meter) (told string, e api.Errno)

func by(s api.Semi, tag int) calling {
	return func(m *meter.Meter) (string, api.Errno) {
		left, e := By(m, s, tag)
		return fmt.Sprint(left), e
	}
}

// answer is all that is to be seen of a call.
type answer struct {
	told  string
	e     api.Errno
	spent int
	out   bool
}

func ask(m *meter.Meter, call calling) answer {
	told, e := call(m)
	return answer{told, e, m.Spent(), m.Out()}
}

// outAlready is a meter that is out with 7 left, 3 being spent.
func outAlready() *meter.Meter {
	m := meter.New(10)
	m.Spend(3)
	m.Spend(8)
	return m
}

func expectAnswer(t *testing.T, name string, got, want answer) {
	t.Helper()
	if got != want {
		t.Errorf("%s is %v, want %v", name, got, want)
	}
}

// expectBy asks without a bound.
func expectBy(t *testing.T, s api.Semi, tag int, want api.Semi) {
	t.Helper()
	expectAnswer(t, fmt.Sprintf("By(%v, %d)", s, tag), ask(nil, by(s, tag)), answer{told: fmt.Sprint(want)})
	if left, _ := By(nil, s, tag); !semi.Right(left) {
		t.Errorf("By(%v, %d) is not Right: %v", s, tag, left)
	}
}

// expectRefused asks with many meters: nothing is spent, whatever they have.
func expectRefused(t *testing.T, name string, call calling) {
	t.Helper()
	for _, budget := range []int{math.MaxInt, 100, 1, 0, -1} {
		expectAnswer(t, name, ask(meter.New(budget), call), answer{"[]", api.ErrArg, 0, false})
	}
	expectAnswer(t, name+", out already", ask(outAlready(), call), answer{"[]", api.ErrArg, 3, true})
	expectAnswer(t, name+", no bound", ask(nil, call), answer{told: "[]", e: api.ErrArg})
}

// expectWork asks with each budget that may be too small, and with some that are not: cost is what is spent, 1 by 1, ahead of what is told.
func expectWork(t *testing.T, name string, call calling, want string, e api.Errno, cost int) {
	t.Helper()
	for budget := -1; budget <= cost+1; budget++ {
		expected := answer{want, e, cost, false}
		if max(budget, 0) < cost {
			expected = answer{"[]", api.ErrWork, max(budget, 0), true}
		}
		expectAnswer(t, fmt.Sprint(name, " by ", budget), ask(meter.New(budget), call), expected)
	}
	expectAnswer(t, name+", much", ask(meter.New(math.MaxInt), call), answer{want, e, cost, false})
	expectAnswer(t, name+", no bound", ask(nil, call), answer{told: want, e: e})
	if cost > 0 {
		expectAnswer(t, name+", out already", ask(outAlready(), call), answer{"[]", api.ErrWork, 3, true})
	} else {
		expectAnswer(t, name+", out already", ask(outAlready(), call), answer{want, e, 3, true})
	}
}

// expectCover is of what is told as a text, nil and empty words alike.
func expectCover(t *testing.T, s api.Semi, free bool, tags []int, wantOK bool, want api.Bag) {
	t.Helper()
	ok, w := Cover(s, free, tags...)
	if ok != wantOK || !slices.Equal(w, want) {
		t.Errorf("Cover(%v, %v, %v) is %v, %v, want %v, %v", s, free, tags, ok, w, wantOK, want)
	}
}
