package resid

import (
	"fmt"
	"math"
	"slices"
	"strings"
	"testing"

	"columbary/api"
	"columbary/meter"
	"columbary/semi"
)

func TestByOfPatterns(t *testing.T) {
	for _, x := range []struct {
		text string
		tag  int
		want string
	}{
		{"a", 0, "1"}, {"a", 1, "0"}, {"1", 0, "0"}, {"0", 0, "0"},
		{"a . b", 0, "b"}, {"a . b", 1, "a"}, {"a . b", 2, "0"},
		{"*a", 0, "*a"}, {"*a", 1, "0"}, {"*a . b", 0, "*a . b"}, {"*a . b", 1, "*a"},
		{"*(a . b)", 0, "b . *(a . b)"}, {"*(a . b)", 1, "a . *(a . b)"},
		{"*(a + b)", 1, "*(a + b)"}, {"a + b + 1", 0, "1"}, {"a + a . b + c", 0, "1 + b"},
		{"*inc . (1 + ask)", 0, "*inc . (1 + ask)"}, {"*inc . (1 + ask)", 1, "*inc"},
		{"a^5 . b", 0, "a^4 . b"}, {"*(a^3)", 0, "a^2 . *(a^3)"}, {"*(a^3 + a . b + c)", 0, "(a^2 + b) . *(a^3 + a . b + c)"},
	} {
		names := strings.NewReplacer("inc", "a", "ask", "b")
		expectBy(t, of(t, names.Replace(x.text)), x.tag, of(t, names.Replace(x.want)))
	}
}

func TestByRefuses(t *testing.T) {
	for name, s := range wrongSemis() {
		for _, tag := range []int{-1, 0, 1, api.MaxMsgs - 1, api.MaxMsgs} {
			expectRefused(t, fmt.Sprint(name, ", by ", tag), by(s, tag))
		}
	}
	for i, s := range rightSemis() {
		for _, tag := range []int{math.MinInt, -api.MaxMsgs, -2, -1, api.MaxMsgs, api.MaxMsgs + 1, 99, far, math.MaxInt} {
			expectRefused(t, fmt.Sprint("set ", i, ", by ", tag), by(s, tag))
		}
	}
}

// What is wrong with s is told ahead of all that would be spent, or would be too much, in what is ahead of it.
func TestByTellsTheArgumentsFirst(t *testing.T) {
	tooMuch := set(api.Bag{0, far}, api.Bag{1, 1})
	expectRefused(t, "wrong behind", by(api.Semi{tooMuch, set(api.Bag{0, far}, api.Bag{1, 1}, api.Bag{0, 0})}, 0))
	expectRefused(t, "twice", by(api.Semi{tooMuch, tooMuch}, 0))
	expectRefused(t, "no tag", by(api.Semi{tooMuch}, api.MaxMsgs))
}

func TestByOfNothing(t *testing.T) {
	for _, s := range []api.Semi{nil, {}} {
		for tag := range api.MaxMsgs {
			expectWork(t, "nothing", by(s, tag), "[]", api.OK, 0)
		}
	}
}

func TestByOfABaseThatHasIt(t *testing.T) {
	x, y := api.Bag{1}, api.Bag{0, 1}
	for _, c := range []struct {
		l    api.Lin
		tag  int
		want api.Lin
	}{
		{set(x), 0, set(nil)}, {set(y), 1, set(nil)}, {set(api.Bag{2}), 0, set(x)}, {set(api.Bag{7, 3}), 0, set(api.Bag{6, 3})}, {set(api.Bag{7, 3}), 1, set(api.Bag{7, 2})},
		// The noughts at the end go.
		{set(api.Bag{7, 1}), 1, set(api.Bag{7})}, {set(api.Bag{1, 0, 0, 1}), 3, set(x)}, {set(api.Bag{1, 0, 0, 1}), 0, set(api.Bag{0, 0, 0, 1})},
		// Its Periods stay, those that have it too.
		{set(x, x), 0, set(nil, x)}, {set(x, x, y, api.Bag{3, 3}), 0, set(nil, x, y, api.Bag{3, 3})}, {set(api.Bag{4, 1}, y), 0, set(api.Bag{3, 1}, y)}, {set(api.Bag{4, 1}, x), 1, set(api.Bag{4}, x)},
		{set(api.Bag{far}), 0, set(api.Bag{far - 1})}, {set(api.Bag{far}, api.Bag{far}), 0, set(api.Bag{far - 1}, api.Bag{far})},
		{set(last(1)), 11, set(nil)}, {set(last(far), last(2)), 11, set(last(far-1), last(2))},
		{numbered(40, 1), 0, numbered(40)},
	} {
		expectBy(t, api.Semi{c.l}, c.tag, api.Semi{c.want})
		expectWork(t, fmt.Sprint("a base that has it: ", c.l), by(api.Semi{c.l}, c.tag), fmt.Sprint(api.Semi{c.want}), api.OK, 1)
	}
}

func TestByOfABaseWithoutIt(t *testing.T) {
	x, y, xy, y2 := api.Bag{1}, api.Bag{0, 1}, api.Bag{1, 1}, api.Bag{0, 2}
	for _, c := range []struct {
		l    api.Lin
		tag  int
		want api.Semi
	}{
		// No period has it.
		{set(nil), 0, nil}, {set(x), 1, nil}, {set(y), 0, nil}, {set(api.Bag{1, 0, 1}), 1, nil}, {set(x), 11, nil}, {set(last(1)), 10, nil},
		{set(nil, x), 1, nil}, {set(nil, y), 0, nil}, {set(y, y, y2), 0, nil}, {set(nil, api.Bag{1, 0, 1}), 1, nil}, {set(nil, last(1)), 10, nil},
		// One has.
		{set(nil, x), 0, api.Semi{set(nil, x)}}, {set(y, x), 0, api.Semi{set(y, x)}}, {set(nil, xy), 0, api.Semi{set(y, xy)}}, {set(nil, xy), 1, api.Semi{set(x, xy)}},
		{set(x, y), 1, api.Semi{set(x, y)}}, {set(x, xy), 1, api.Semi{set(api.Bag{2}, xy)}}, {set(x, x, y), 1, api.Semi{set(x, x, y)}}, {set(nil, last(1)), 11, api.Semi{set(nil, last(1))}},
		// More than once: one is taken, and no more.
		{set(nil, api.Bag{5}), 0, api.Semi{set(api.Bag{4}, api.Bag{5})}}, {set(y, api.Bag{5, 2}), 0, api.Semi{set(api.Bag{4, 3}, api.Bag{5, 2})}}, {set(nil, api.Bag{far}), 0, api.Semi{set(api.Bag{far - 1}, api.Bag{far})}},
		{set(x, api.Bag{2, far}), 1, api.Semi{set(api.Bag{3, far - 1}, api.Bag{2, far})}}, {set(nil, last(2)), 11, api.Semi{set(last(1), last(2))}},
		// Several have: each gives a set of its own, with all Periods.
		{set(nil, x, xy), 0, api.Semi{set(nil, x, xy), set(y, x, xy)}},
		{set(y, x, api.Bag{3}, xy), 0, api.Semi{set(y, x, api.Bag{3}, xy), set(y2, x, api.Bag{3}, xy), set(api.Bag{2, 1}, x, api.Bag{3}, xy)}},
		{set(nil, x, y, xy), 1, api.Semi{set(nil, x, y, xy), set(x, x, y, xy)}},
		{numbered(4), 0, api.Semi{numbered(4), numbered(4, 1), numbered(4, 2), numbered(4, 3)}},
		// What is left of them is laid in order.
		{set(nil, api.Bag{4}, api.Bag{1, 2}, api.Bag{2, 1}), 0, api.Semi{set(y2, api.Bag{4}, api.Bag{1, 2}, api.Bag{2, 1}), set(api.Bag{3}, api.Bag{4}, api.Bag{1, 2}, api.Bag{2, 1}), set(xy, api.Bag{4}, api.Bag{1, 2}, api.Bag{2, 1})}},
	} {
		want := slices.Clone(c.want)
		slices.SortFunc(want, before)
		expectBy(t, api.Semi{c.l}, c.tag, want)
	}
}

// before is the order of sets with as many Periods: the shorter base ahead, then the one with less of the first tag that tells.
func before(a, b api.Lin) int {
	if len(a.Base) != len(b.Base) {
		return len(a.Base) - len(b.Base)
	}
	return slices.Compare(a.Base, b.Base)
}

// What is answered is as semi.Of lays it, not as it was found.
func TestByIsLaidInOrder(t *testing.T) {
	x, y, xy := api.Bag{1}, api.Bag{0, 1}, api.Bag{1, 1}
	// Two change places: what is left of the second is shorter.
	expectBy(t, api.Semi{set(api.Bag{5, 2}), set(api.Bag{6, 1})}, 1, api.Semi{set(api.Bag{6}), set(api.Bag{5, 1})})
	expectBy(t, api.Semi{set(nil, api.Bag{1, 3}), set(api.Bag{2})}, 0, api.Semi{set(x), set(api.Bag{0, 3}, api.Bag{1, 3})})
	expectBy(t, api.Semi{set(nil, api.Bag{9}), set(y), set(xy), set(api.Bag{3, 1})}, 0, api.Semi{set(api.Bag{8}, api.Bag{9}), set(y), set(api.Bag{2, 1})})
	// What is left of the periods is in another order than they.
	expectBy(t, api.Semi{set(nil, api.Bag{0, 0, 1}, api.Bag{0, 3, 1}, api.Bag{1, 0, 1})}, 2, api.Semi{
		set(nil, api.Bag{0, 0, 1}, api.Bag{0, 3, 1}, api.Bag{1, 0, 1}), set(x, api.Bag{0, 0, 1}, api.Bag{0, 3, 1}, api.Bag{1, 0, 1}), set(api.Bag{0, 3}, api.Bag{0, 0, 1}, api.Bag{0, 3, 1}, api.Bag{1, 0, 1}),
	})
	// Two become one: of a set of a, and of no a, and any number of it.
	expectBy(t, api.Semi{set(nil, x), set(x, x)}, 0, api.Semi{set(nil, x)})
	expectBy(t, api.Semi{set(nil, api.Bag{2}), set(api.Bag{2}, api.Bag{2})}, 0, api.Semi{set(x, api.Bag{2})})
	expectBy(t, api.Semi{set(y, x), set(xy, x), set(api.Bag{2, 1}, x)}, 0, api.Semi{set(y, x), set(xy, x)})
	// The same words otherwise written stay two.
	expectBy(t, api.Semi{set(nil, x, api.Bag{2}), set(x, x)}, 0, api.Semi{set(nil, x), set(nil, x, api.Bag{2}), set(x, x, api.Bag{2})})
}

func TestByOfMoreSets(t *testing.T) {
	x, y := api.Bag{1}, api.Bag{0, 1}
	s := api.Semi{set(nil), set(nil, x), set(nil, x, y), set(x), set(api.Bag{2}, y), set(y), set(y, api.Bag{3, 1}), set(api.Bag{0, 0, 1}, x, api.Bag{1, 0, 2})}
	expectBy(t, s, 0, api.Semi{set(nil), set(nil, x), set(nil, x, y), set(x, y), set(api.Bag{2, 2}, api.Bag{3, 1}), set(api.Bag{0, 0, 1}, x, api.Bag{1, 0, 2}), set(api.Bag{0, 0, 3}, x, api.Bag{1, 0, 2})})
	expectBy(t, s, 1, api.Semi{set(nil), set(nil, api.Bag{3, 1}), set(nil, x, y), set(api.Bag{2}, y)})
	expectBy(t, s, 2, api.Semi{set(nil, x, api.Bag{1, 0, 2})})
	for tag := 3; tag < api.MaxMsgs; tag++ {
		expectBy(t, s, tag, nil)
	}
}

// 1 is spent for each set, and for each period that is asked, as far as By comes.
func TestByWork(t *testing.T) {
	x, y := api.Bag{1}, api.Bag{0, 1}
	for _, c := range []struct {
		s    api.Semi
		tag  int
		cost int
	}{
		{nil, 0, 0}, {semi.One(), 0, 1}, {word(1), 0, 1}, {word(9), 0, 1}, {word(9), 1, 1}, {word(9), 11, 1},
		{api.Semi{set(nil, x)}, 0, 2}, {api.Semi{set(nil, x)}, 1, 1}, {api.Semi{set(x, x)}, 0, 1}, {api.Semi{set(x, x, api.Bag{2}, api.Bag{3})}, 0, 1}, {api.Semi{set(y, x, api.Bag{2}, api.Bag{3})}, 0, 4}, {api.Semi{set(y, x, api.Bag{2}, api.Bag{3})}, 1, 1},
		{api.Semi{set(nil, api.Bag{7})}, 0, 2}, {api.Semi{set(nil, api.Bag{far})}, 0, 2},
		{api.Semi{set(nil, x, y, api.Bag{2, 2})}, 0, 3}, {api.Semi{set(nil, x, y, api.Bag{2, 2})}, 1, 3}, {api.Semi{set(nil, x, y, api.Bag{2, 2})}, 2, 1},
		{api.Semi{set(nil), set(x), set(y)}, 0, 3}, {api.Semi{set(nil), set(x), set(y)}, 5, 3},
		// Two that become one were paid for both.
		{api.Semi{set(nil, x), set(x, x)}, 0, 3}, {api.Semi{set(nil, x), set(nil, x, y), set(x, x), set(y, x, api.Bag{2, 1})}, 0, 8},
		{api.Semi{numbered(40)}, 0, 41}, {api.Semi{numbered(40, 1)}, 0, 1}, {api.Semi{numbered(40, 0, 1)}, 0, 41}, {api.Semi{numbered(40)}, 1, 1},
	} {
		told, e := by(c.s, c.tag)(nil)
		if e != api.OK {
			t.Fatal(c.s, c.tag, e)
		}
		expectWork(t, fmt.Sprintf("By(%v, %d)", c.s, c.tag), by(c.s, c.tag), told, api.OK, c.cost)
	}
}

// The first sum that is too much is told, and what was spent till then stays spent, its own 1 too.
func TestByBeyondFar(t *testing.T) {
	for name, c := range map[string]struct {
		s    api.Semi
		tag  int
		cost int
	}{
		"the only one":              {api.Semi{set(api.Bag{0, far}, api.Bag{1, 1})}, 0, 2},
		"by one":                    {api.Semi{set(api.Bag{0, far - 4}, api.Bag{1, 5})}, 0, 2},
		"by much":                   {api.Semi{set(api.Bag{0, far}, api.Bag{1, far})}, 0, 2},
		"the last tag":              {api.Semi{set(last(far), append(api.Bag{1}, last(2)[1:]...))}, 0, 2},
		"the first tag":             {api.Semi{set(api.Bag{far}, append(api.Bag{1}, last(2)[1:]...))}, 11, 2},
		"the first of two":          {api.Semi{set(api.Bag{0, far}, api.Bag{1, 1}, api.Bag{2, 2})}, 0, 2},
		"the second of two":         {api.Semi{set(api.Bag{0, far - 1}, api.Bag{1, 1}, api.Bag{2, 2})}, 0, 3},
		"the third of four":         {api.Semi{set(api.Bag{0, far - 1}, api.Bag{1}, api.Bag{1, 1}, api.Bag{2, 2}, api.Bag{3, 3})}, 0, 4},
		"behind one without it":     {api.Semi{set(api.Bag{0, far}, api.Bag{0, 1}, api.Bag{1, 1})}, 0, 2},
		"the second set":            {api.Semi{set(api.Bag{0, 1}, api.Bag{1}), set(api.Bag{0, far}, api.Bag{1, 1})}, 0, 4},
		"the first set":             {api.Semi{set(api.Bag{0, far - 1}, api.Bag{1, 2}), set(api.Bag{0, far}, api.Bag{1})}, 0, 2},
		"the third set":             {api.Semi{set(api.Bag{5}), set(api.Bag{0, 1}, api.Bag{1}, api.Bag{3}, api.Bag{0, 4}), set(api.Bag{0, far}, api.Bag{0, 1}, api.Bag{1, 1})}, 0, 6},
		"ahead of one that is good": {api.Semi{set(api.Bag{0, far}, api.Bag{1, 1}), set(api.Bag{1, far})}, 0, 2},
	} {
		expectWork(t, name, by(c.s, c.tag), "[]", api.ErrLimit, c.cost)
	}
}

// Just Far is not too much; and what is taken away is taken ahead of the sum.
func TestByOfJustFar(t *testing.T) {
	for _, c := range []struct {
		l    api.Lin
		tag  int
		want api.Lin
	}{
		{set(api.Bag{0, far - 1}, api.Bag{1, 1}), 0, set(api.Bag{0, far}, api.Bag{1, 1})},
		{set(api.Bag{0, far}, api.Bag{2}), 0, set(api.Bag{1, far}, api.Bag{2})},
		{set(api.Bag{0, 3}, api.Bag{far}), 0, set(api.Bag{far - 1, 3}, api.Bag{far})},
		{set(api.Bag{0, far - 3}, api.Bag{far, 3}), 0, set(api.Bag{far - 1, far}, api.Bag{far, 3})},
		// Where Base has it, no sum is made.
		{set(api.Bag{1, far}, api.Bag{1, 1}), 0, set(api.Bag{0, far}, api.Bag{1, 1})},
		{set(api.Bag{1, far}, api.Bag{far, far}), 0, set(api.Bag{0, far}, api.Bag{far, far})},
		{set(api.Bag{1, far}, api.Bag{far, far}), 1, set(api.Bag{1, far - 1}, api.Bag{far, far})},
	} {
		expectBy(t, api.Semi{c.l}, c.tag, api.Semi{c.want})
	}
	// A period without it is not added to.
	expectBy(t, api.Semi{set(api.Bag{0, far}, api.Bag{0, 1})}, 0, nil)
	expectBy(t, api.Semi{set(api.Bag{0, far}, api.Bag{1}, api.Bag{0, 1})}, 0, api.Semi{set(api.Bag{0, far}, api.Bag{1}, api.Bag{0, 1})})
}

// Work is looked at ahead of a sum, and a sum ahead of the work behind it.
func TestByTellsWhatIsFirst(t *testing.T) {
	s := api.Semi{set(api.Bag{0, far}, api.Bag{1}, api.Bag{1, 1}, api.Bag{2, 1}), set(api.Bag{3, far})}
	expectAnswer(t, "work ahead", ask(meter.New(2), by(s, 0)), answer{"[]", api.ErrWork, 2, true})
	expectAnswer(t, "the sum", ask(meter.New(3), by(s, 0)), answer{"[]", api.ErrLimit, 3, false})
	expectAnswer(t, "behind the set, work", ask(meter.New(1), by(s[1:], 0)), answer{"[{[2 1152921504606846976] []}]", api.OK, 1, false})
}

// What was spent ahead of a call is not given back, and counts.
func TestByOfAMeterThatIsUsedAgain(t *testing.T) {
	s := api.Semi{set(nil, api.Bag{1}), set(api.Bag{1}, api.Bag{1})}
	m := meter.New(10)
	expectAnswer(t, "first", ask(m, by(s, 0)), answer{"[{[] [[1]]}]", api.OK, 3, false})
	expectAnswer(t, "refused by its arguments", ask(m, by(s, 12)), answer{"[]", api.ErrArg, 3, false})
	expectAnswer(t, "refused by a sum", ask(m, by(api.Semi{set(api.Bag{0, far}, api.Bag{1, 1})}, 0)), answer{"[]", api.ErrLimit, 5, false})
	expectAnswer(t, "second", ask(m, by(s, 0)), answer{"[{[] [[1]]}]", api.OK, 8, false})
	expectAnswer(t, "third", ask(m, by(s, 0)), answer{"[]", api.ErrWork, 10, true})
	expectAnswer(t, "behind it", ask(m, by(s, 0)), answer{"[]", api.ErrWork, 10, true})
	expectAnswer(t, "behind it, of nothing", ask(m, by(nil, 0)), answer{"[]", api.OK, 10, true})
	expectAnswer(t, "behind it, refused by its arguments", ask(m, by(nil, -1)), answer{"[]", api.ErrArg, 10, true})
	expectAnswer(t, "another meter", ask(meter.New(3), by(s, 0)), answer{"[{[] [[1]]}]", api.OK, 3, false})
}
