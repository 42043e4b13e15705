package norm

import (
	"fmt"
	"math"
	"testing"

	"columbary/api"
	"columbary/meter"
)

// paid is what is spent when a meter of that budget is asked for one after the other, and whether it has them all.
func paid(budget int, spends []int) (spent int, all bool) {
	for _, n := range spends {
		if spent+n > max(budget, 0) {
			return spent, false
		}
		spent += n
	}
	return spent, true
}

// expectWork asks with each budget that may be too small, and with some that are not.
func expectWork(t *testing.T, name string, p api.Pattern, want string, spends []int) {
	t.Helper()
	cost, _ := paid(math.MaxInt, spends)
	for budget := -1; budget <= cost+1; budget++ {
		spent, all := paid(budget, spends)
		if all != (budget >= cost) {
			t.Fatalf("%s: %v come not to %d", name, spends, cost)
		}
		expected := answer{want, api.OK, spent, false}
		if !all {
			expected = answer{"[]", api.ErrWork, spent, true}
		}
		expectAnswer(t, fmt.Sprint(name, " by ", budget), ask(meter.New(budget), p, api.MaxMsgs), expected)
	}
	expectAnswer(t, name+", much", ask(meter.New(math.MaxInt), p, api.MaxMsgs), answer{want, api.OK, cost, false})
	expectAnswer(t, name+", no bound", ask(nil, p, api.MaxMsgs), answer{semi: want})
	expectAnswer(t, name+", out already", ask(outAlready(), p, api.MaxMsgs), answer{"[]", api.ErrWork, 3, true})
}

func TestWork(t *testing.T) {
	for _, x := range []struct {
		text, want string
		spends     []int
	}{
		{"0", "[]", []int{1}},
		{"1", "[{[] []}]", []int{1}},
		{"a", "[{[1] []}]", []int{1}},
		{"l^999999999", "[{[0 0 0 0 0 0 0 0 0 0 0 999999999] []}]", []int{1}},
		// A sum spends nothing but its node's 1.
		{"a + b", "[{[1] []} {[0 1] []}]", []int{1, 1, 1}},
		{"a + b + a", "[{[1] []} {[0 1] []}]", []int{1, 1, 1, 1, 1}},
		// A cat spends both sides' numbers, one times the other, behind its node's 1.
		{"a . b", "[{[1 1] []}]", []int{1, 1, 1, 1}},
		{"(a + b) . c", "[{[0 1 1] []} {[1 0 1] []}]", []int{1, 1, 1, 1, 1, 2}},
		{"c . (a + b)", "[{[0 1 1] []} {[1 0 1] []}]", []int{1, 1, 1, 1, 1, 2}},
		{"(a + b) . (1 + a + b)", "[{[1] []} {[2] []} {[0 1] []} {[0 2] []} {[1 1] []}]", []int{1, 1, 1, 1, 1, 1, 1, 1, 1, 6}},
		{"(a + 1) . (1 + a) . (a + 1)", "[{[] []} {[1] []} {[2] []} {[3] []}]", []int{1, 1, 1, 1, 1, 1, 1, 4, 1, 1, 1, 1, 6}},
		{"a . 0", "[]", []int{1, 1, 1, 0}},
		{"0 . a", "[]", []int{1, 1, 1, 0}},
		// What stands twice counts once.
		{"(a + a) . (b + b)", "[{[1 1] []}]", []int{1, 1, 1, 1, 1, 1, 1, 1}},
		// A star spends its number of words, the empty one too, behind its node's 1.
		{"*0", "[{[] []}]", []int{1, 1, 0}},
		{"*1", "[{[] []}]", []int{1, 1, 1}},
		{"*a", "[{[] [[1]]}]", []int{1, 1, 1}},
		{"*(a + b^2)", "[{[] [[1] [0 2]]}]", []int{1, 1, 1, 1, 2}},
		{"*(1 + a + b)", "[{[] [[1] [0 1]]}]", []int{1, 1, 1, 1, 1, 1, 3}},
		// Spending in the middle, and more behind it.
		{"a . b + c", "[{[1 1] []} {[0 0 1] []}]", []int{1, 1, 1, 1, 1, 1}},
		{"*a . *a", "[{[] [[1]]}]", []int{1, 1, 1, 1, 1, 1, 1, 1}},
		{"*(a + b) . c", "[{[0 0 1] [[1] [0 1]]}]", []int{1, 1, 1, 1, 2, 1, 1, 1}},
		{"(1 + a) . *b . c", "[{[0 0 1] [[0 1]]} {[1 0 1] [[0 1]]}]", []int{1, 1, 1, 1, 1, 1, 1, 2, 1, 1, 2}},
		{"(1 + a) . (1 + b) + *(a + b + c)", "[{[] []} {[] [[1] [0 1] [0 0 1]]} {[1] []} {[0 1] []} {[1 1] []}]", []int{1, 1, 1, 1, 1, 1, 1, 4, 1, 1, 1, 1, 1, 1, 3, 1}},
	} {
		expectWork(t, x.text, parse(t, x.text), x.want, x.spends)
	}
}

// At a node that is refused all is over: nothing behind it is spent, though there would be enough.
func TestNothingIsSpentBehindARefusal(t *testing.T) {
	for text, want := range map[string][2]int{
		// A budget, and what is spent of it: the cat of 4 is refused.
		"(1 + a) . (1 + b) + c + d":   {10, 7},
		"(1 + a) . (1 + b) . c":       {10, 7},
		"a + (1 + a) . (1 + b)":       {11, 8},
		"*(a + b + c) . d":            {8, 6},
		"d + *(a + b + c) + 0":        {9, 7},
		"*(a + b + c + (1 + d) . 1)":  {11, 10},
		"*(a + b) + *(c + d) + e + f": {11, 10},
	} {
		expectAnswer(t, text, ask(meter.New(want[0]), parse(t, text), api.MaxMsgs), answer{"[]", api.ErrWork, want[1], true})
	}
}

// What was spent ahead of a call is not given back, and counts.
func TestMeterThatIsUsedAgain(t *testing.T) {
	p, q := parse(t, "*(a + b)"), parse(t, "a . b")
	m := meter.New(12)
	expectAnswer(t, "first", ask(m, p, 2), answer{"[{[] [[1] [0 1]]}]", api.OK, 6, false})
	expectAnswer(t, "refused by its arguments", ask(m, p, 1), answer{"[]", api.ErrArg, 6, false})
	expectAnswer(t, "second", ask(m, q, 2), answer{"[{[1 1] []}]", api.OK, 10, false})
	expectAnswer(t, "third", ask(m, q, 2), answer{"[]", api.ErrWork, 12, true})
	expectAnswer(t, "behind it", ask(m, parse(t, "0"), 0), answer{"[]", api.ErrWork, 12, true})
	expectAnswer(t, "behind it, refused by its arguments", ask(m, nil, 0), answer{"[]", api.ErrArg, 12, true})
	expectAnswer(t, "another meter", ask(meter.New(4), q, 2), answer{"[{[1 1] []}]", api.OK, 4, false})
}
