package auto

import (
	"fmt"
	"math"
	"testing"

	"columbary/api"
	"columbary/meter"
)

// outAlready is a meter that is out with 7 left, 3 being spent.
func outAlready() *meter.Meter {
	m := meter.New(10)
	m.Spend(3)
	m.Spend(8)
	return m
}

// paid is what is spent when a meter of that budget is asked for one after the other, and whether it has them all.
func paid(budget int, spends []int) (spent int, all bool) {
	for _, n := range spends {
		if spent+n > max(budget, 0) {
			return spent, false
		}
		spent += n
	}
	return spent, true
}

// expectWork asks with each budget that may be too small, and with some that are not.
func expectWork(t *testing.T, s api.Semi, l []api.Item, letter uint, want string, spends []int) {
	t.Helper()
	name := fmt.Sprint(s, ", ", l, ", ", letter)
	cost, _ := paid(math.MaxInt, spends)
	for budget := -1; budget <= cost+1; budget++ {
		spent, all := paid(budget, spends)
		expected := answer{want, api.OK, spent, false}
		if !all {
			expected = answer{"[]", api.ErrWork, spent, true}
		}
		expectAnswer(t, fmt.Sprint(name, " by ", budget), ask(meter.New(budget), s, l, letter), expected)
	}
	expectAnswer(t, name+", much", ask(meter.New(math.MaxInt), s, l, letter), answer{want, api.OK, cost, false})
	expectAnswer(t, name+", no bound", ask(nil, s, l, letter), answer{items: want})
	if len(l) > 0 {
		expectAnswer(t, name+", out already", ask(outAlready(), s, l, letter), answer{"[]", api.ErrWork, 3, true})
	}
}

func TestWork(t *testing.T) {
	s := api.Semi{
		set(nil), set(nil, api.Bag{1}), set(nil, api.Bag{1}, api.Bag{1, 1}), numbered(3), numbered(7),
		set(api.Bag{1}), set(api.Bag{1}, api.Bag{2}),
	}
	for _, x := range []struct {
		l      []api.Item
		letter uint
		want   string
		spends []int
	}{
		{nil, 0, "[]", nil},
		// 2 to the power of how many periods there are, for each item, whatever comes of it.
		{[]api.Item{item(0)}, 0, "[{0 []}]", []int{1}},
		{[]api.Item{item(0)}, 1, "[]", []int{1}},
		{[]api.Item{item(5, 3)}, 1, "[{5 [1]}]", []int{1}},
		{[]api.Item{item(1)}, 0, "[{1 []}]", []int{2}},
		{[]api.Item{item(1)}, 9, "[]", []int{2}},
		{[]api.Item{item(2)}, 2, "[{2 [1]}]", []int{4}},
		{[]api.Item{item(3)}, 0, "[{3 []} {3 [1]} {3 [2]} {3 [3]}]", []int{8}},
		{[]api.Item{item(3)}, 2, "[]", []int{8}},
		{[]api.Item{item(4, 100, 1)}, 1, "[]", []int{128}},
		{[]api.Item{item(0), item(0, 2), item(0, 3), item(0, 4)}, 0, "[{0 []} {0 [1]} {0 [2]}]", []int{1, 1, 1, 1}},
		{[]api.Item{item(0), item(1), item(2), item(3)}, 1, "[{1 []} {2 []} {3 []} {3 [1]} {3 [2]}]", []int{1, 2, 4, 8}},
		{[]api.Item{item(2), item(2, 1), item(2, 0, 1)}, 1, "[{2 []} {2 [0 1]}]", []int{4, 4, 4}},
		{[]api.Item{item(3, 1), item(5), item(5, 1), item(6)}, 0, "[{3 [1]} {3 [2]} {3 [3]} {5 []} {6 []} {6 [1]}]", []int{8, 1, 1, 2}},
		{[]api.Item{item(2, 8, 1), item(4, 0, 0, 2), item(6, 5)}, 8, "[]", []int{4, 128, 2}},
	} {
		expectWork(t, s, x.l, x.letter, x.want, x.spends)
	}
}

// At an item that is refused all is over: nothing behind it is spent, though there would be enough.
func TestNothingIsSpentBehindARefusal(t *testing.T) {
	s := api.Semi{set(nil), set(nil, api.Bag{1}), numbered(3), set(api.Bag{1})}
	l := []api.Item{item(0), item(1), item(2), item(3)}
	for budget, spent := range []int{0, 1, 1, 3, 3, 3, 3, 3, 3, 3, 3, 11, 12, 12} {
		e := api.ErrWork
		want := "[]"
		if budget >= 12 {
			e, want = api.OK, "[{0 []} {1 []} {2 []} {2 [1]} {2 [2]} {2 [3]} {3 []}]"
		}
		expectAnswer(t, fmt.Sprint("by ", budget), ask(meter.New(budget), s, l, 0), answer{want, e, spent, e == api.ErrWork})
	}
}

// The first that is wrong is told: of one item the number of Periods, the work, the sum; of more that of the first.
func TestTheFirstErrorIsTold(t *testing.T) {
	s := api.Semi{set(nil, api.Bag{1}), set(nil, api.Bag{1}, api.Bag{2}), numbered(21)}
	tooMuch, many := item(0, far), item(2, far)
	for name, x := range map[string]struct {
		l      []api.Item
		budget int
		want   answer
	}{
		"many, no work":                   {[]api.Item{many}, 0, answer{"[]", api.ErrLimit, 0, false}},
		"too much, no work":               {[]api.Item{tooMuch}, 1, answer{"[]", api.ErrWork, 0, true}},
		"too much":                        {[]api.Item{tooMuch}, 2, answer{"[]", api.ErrLimit, 2, false}},
		"too much, then no work":          {[]api.Item{tooMuch, item(1)}, 3, answer{"[]", api.ErrLimit, 2, false}},
		"too much, then many":             {[]api.Item{tooMuch, many}, 3, answer{"[]", api.ErrLimit, 2, false}},
		"no work, then many":              {[]api.Item{item(0), item(1), item(2)}, 5, answer{"[]", api.ErrWork, 2, true}},
		"no work, then too much":          {[]api.Item{item(0), item(1), item(1, far)}, 5, answer{"[]", api.ErrWork, 2, true}},
		"just work, then many":            {[]api.Item{item(0), item(1), item(2)}, 6, answer{"[]", api.ErrLimit, 6, false}},
		"just work, then no work for one": {[]api.Item{item(0), item(1), item(1, far)}, 6, answer{"[]", api.ErrWork, 6, true}},
		"too much, then what is wrong":    {[]api.Item{tooMuch, item(1), item(3)}, 9, answer{"[]", api.ErrArg, 0, false}},
		"no work, then what is wrong":     {[]api.Item{item(0), item(0)}, 1, answer{"[]", api.ErrArg, 0, false}},
		"many, then what is wrong":        {[]api.Item{many, item(1)}, 9, answer{"[]", api.ErrArg, 0, false}},
	} {
		expectAnswer(t, name, ask(meter.New(x.budget), s, x.l, 0), x.want)
	}
}

// What was spent ahead of a call is not given back, and counts.
func TestMeterThatIsUsedAgain(t *testing.T) {
	s := api.Semi{set(nil, api.Bag{1}, api.Bag{2}), numbered(21)}
	l := []api.Item{item(0)}
	m := meter.New(14)
	expectAnswer(t, "first", ask(m, s, l, 1), answer{"[{0 []} {0 [1]}]", api.OK, 4, false})
	expectAnswer(t, "refused by its arguments", ask(m, s, []api.Item{item(2)}, 1), answer{"[]", api.ErrArg, 4, false})
	expectAnswer(t, "refused by a sum", ask(m, s, []api.Item{item(0, far)}, 1), answer{"[]", api.ErrLimit, 8, false})
	expectAnswer(t, "refused by its periods", ask(m, s, []api.Item{item(1)}, 1), answer{"[]", api.ErrLimit, 8, false})
	expectAnswer(t, "second", ask(m, s, l, 0), answer{"[{0 []} {0 [1]}]", api.OK, 12, false})
	expectAnswer(t, "third", ask(m, s, l, 0), answer{"[]", api.ErrWork, 12, true})
	expectAnswer(t, "behind it", ask(m, api.Semi{set(nil)}, l, 0), answer{"[]", api.ErrWork, 12, true})
	expectAnswer(t, "behind it, of no items", ask(m, s, nil, 0), answer{"[]", api.OK, 12, true})
	expectAnswer(t, "another meter", ask(meter.New(4), s, l, 0), answer{"[{0 []} {0 [1]}]", api.OK, 4, false})
}
