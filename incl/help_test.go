package incl

import (
	"fmt"
	"math"
	"slices"
	"strings"
	"testing"

	"columbary/api"
	"columbary/meter"
	"columbary/norm"
	"columbary/pat"
	"columbary/semi"
)

const far = api.Far

// set is a linear set as it is written, Right or not.
func set(base api.Bag, periods ...api.Bag) api.Lin {
	return api.Lin{Base: base, Periods: periods}
}

// word is the set of one word.
func word(n ...int) api.Semi {
	return api.Semi{set(n)}
}

// last is n of the last tag that there may be.
func last(n int) api.Bag {
	return append(make(api.Bag, api.MaxMsgs-1), n)
}

// numbered is a linear set of so many Periods: 1, 2, 3, .. of one tag.
func numbered(periods int, base ...int) (l api.Lin) {
	l.Base = base
	for i := range periods {
		l.Periods = append(l.Periods, api.Bag{i + 1})
	}
	return l
}

// of is what a pattern over a, b and c stands for.
func of(t *testing.T, text string) api.Semi {
	t.Helper()
	p, e := pat.Parse(text, "a", "b", "c")
	if e != api.OK {
		t.Fatalf("%s is no pattern: %d", text, e)
	}
	s, e := norm.Of(nil, p, 3)
	if e != api.OK {
		t.Fatalf("%s has no words: %d", text, e)
	}
	return s
}

// wrongWords are lists that are not bag.Right, for one reason each.
func wrongWords() map[string]api.Bag {
	return map[string]api.Bag{
		"just a nought":        {0},
		"a nought at the end":  {1, 0},
		"many noughts":         make(api.Bag, api.MaxMsgs),
		"below 0":              {-1},
		"below 0, ahead":       {-1, 1},
		"below 0, behind":      {1, -2},
		"the least":            {1, math.MinInt},
		"beyond Far":           {far + 1},
		"beyond Far, ahead":    {far + 1, 1},
		"beyond Far, behind":   {3, far + 1},
		"the greatest":         {math.MaxInt},
		"too many tags":        append(make(api.Bag, api.MaxMsgs), 1),
		"too many tags, alike": slices.Repeat(api.Bag{1}, api.MaxMsgs+1),
	}
}

// wrongSemis are lists that are not semi.Right, for one reason each.
func wrongSemis() map[string]api.Semi {
	all := map[string]api.Semi{
		"two alike":       {set(nil), set(nil)},
		"two that fall":   {set(api.Bag{1}), set(nil)},
		"fewer behind":    {set(nil, api.Bag{1}), set(nil)},
		"periods fall":    {set(nil, api.Bag{2}, api.Bag{1})},
		"periods alike":   {set(nil, api.Bag{1}, api.Bag{1})},
		"an empty period": {set(nil, nil)},
	}
	for name, w := range wrongWords() {
		all["a base: "+name] = api.Semi{set(w)}
		all["a base behind: "+name] = api.Semi{set(nil), set(w)}
		all["a period: "+name] = api.Semi{set(nil, w)}
		all["a period behind: "+name] = api.Semi{set(nil, api.Bag{1}, w)}
	}
	return all
}

// rightSemis are sets of all kinds.
func rightSemis() []api.Semi {
	return []api.Semi{
		nil, {}, semi.One(), word(1), word(0, 2), word(far), {set(last(far))}, {set(nil, api.Bag{1})}, {set(nil), set(api.Bag{3}, api.Bag{1}, api.Bag{0, 2})},
		{numbered(21)}, {numbered(3), numbered(2, 1), set(api.Bag{5, 6, 7})}, {set(slices.Repeat(api.Bag{far}, api.MaxMsgs))},
	}
}

// calling is a call with a meter; what is answered beside the error is told as a text.
type calling func(m *meter.Meter) (told string, e api.Errno)

func has(s api.Semi, w api.Bag) calling {
	return func(m *meter.Meter) (string, api.Errno) {
		ok, e := Has(m, s, w)
		return fmt.Sprint(ok), e
	}
}

// inside tells the word, too; nil and empty lists are the same.
func inside(a, b api.Semi) calling {
	return func(m *meter.Meter) (string, api.Errno) {
		ok, w, e := Within(m, a, b)
		return fmt.Sprint(ok, " ", w), e
	}
}

func same(a, b api.Semi) calling {
	return func(m *meter.Meter) (string, api.Errno) {
		ok, e := Same(m, a, b)
		return fmt.Sprint(ok), e
	}
}

// answer is all that is to be seen of a call.
type answer struct {
	told  string
	e     api.Errno
	spent int
	out   bool
}

func ask(m *meter.Meter, call calling) answer {
	told, e := call(m)
	return answer{told, e, m.Spent(), m.Out()}
}

// outAlready is a meter that is out with 7 left, 3 being spent.
func outAlready() *meter.Meter {
	m := meter.New(10)
	m.Spend(3)
	m.Spend(8)
	return m
}

func expectAnswer(t *testing.T, name string, got, want answer) {
	t.Helper()
	if got != want {
		t.Errorf("%s is %v, want %v", name, got, want)
	}
}

// expectTold asks without a bound.
func expectTold(t *testing.T, name string, call calling, want string) {
	t.Helper()
	expectAnswer(t, name, ask(nil, call), answer{told: want})
}

// nothing is what is told beside an error, by Has and Same, and by Within.
func nothing(told string) string {
	if strings.Contains(told, " ") {
		return "false []"
	}
	return "false"
}

// expectRefused asks with many meters: nothing is spent, whatever they have.
func expectRefused(t *testing.T, name string, call calling) {
	t.Helper()
	told, _ := call(nil)
	for _, budget := range []int{math.MaxInt, 100, 1, 0, -1} {
		expectAnswer(t, name, ask(meter.New(budget), call), answer{nothing(told), api.ErrArg, 0, false})
	}
	expectAnswer(t, name+", out already", ask(outAlready(), call), answer{nothing(told), api.ErrArg, 3, true})
	expectAnswer(t, name+", no bound", ask(nil, call), answer{told: nothing(told), e: api.ErrArg})
}

// paid is what is spent when a meter of that budget is asked for one after the other, and whether it has them all.
func paid(budget int, spends []int) (spent int, all bool) {
	for _, n := range spends {
		if spent+n > max(budget, 0) {
			return spent, false
		}
		spent += n
	}
	return spent, true
}

// expectWork asks with each budget that may be too small, and with some that are not: spends is what is spent, one after the other, ahead of what is told.
func expectWork(t *testing.T, name string, call calling, want string, e api.Errno, spends ...int) {
	t.Helper()
	cost, _ := paid(math.MaxInt, spends)
	for budget := -1; budget <= cost+1; budget++ {
		spent, all := paid(budget, spends)
		expected := answer{want, e, spent, false}
		if !all {
			expected = answer{nothing(want), api.ErrWork, spent, true}
		}
		expectAnswer(t, fmt.Sprint(name, " by ", budget), ask(meter.New(budget), call), expected)
	}
	expectAnswer(t, name+", much", ask(meter.New(math.MaxInt), call), answer{want, e, cost, false})
	expectAnswer(t, name+", no bound", ask(nil, call), answer{told: want, e: e})
	if len(spends) > 0 {
		expectAnswer(t, name+", out already", ask(outAlready(), call), answer{nothing(want), api.ErrWork, 3, true})
	} else {
		expectAnswer(t, name+", out already", ask(outAlready(), call), answer{want, e, 3, true})
	}
}
