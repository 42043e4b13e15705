package lin

import (
	"fmt"
	"math"
	"slices"
	"testing"

	"columbary/api"
	"columbary/bag"
)

const far = api.Far

// lin is a linear set as it is written, Right or not.
func lin(base api.Bag, periods ...api.Bag) api.Lin {
	return api.Lin{Base: base, Periods: periods}
}

// full is a word of just as many numbers as may be, with more behind them.
func full(more ...int) api.Bag {
	b := make(api.Bag, api.MaxMsgs)
	b[api.MaxMsgs-1] = 1
	return append(b, more...)
}

// noWords are lists of numbers that no noughts at their end can make words of.
func noWords() map[string]api.Bag {
	return map[string]api.Bag{
		"below 0":                   {-1},
		"below 0, ahead":            {-1, 2},
		"below 0, between":          {1, -1, 2},
		"below 0, at the end":       {1, -1},
		"below 0, with noughts":     {0, -1, 0},
		"the least":                 {math.MinInt},
		"beyond Far":                {far + 1},
		"beyond Far, ahead":         {far + 1, 1},
		"beyond Far, between":       {1, far + 1, 1},
		"beyond Far, at the end":    {1, far + 1},
		"beyond Far, with noughts":  {far + 1, 0, 0},
		"the greatest":              {math.MaxInt},
		"one more number":           full(1),
		"one more, with a nought":   full(1, 0),
		"one more, behind noughts":  append(make(api.Bag, api.MaxMsgs), 1),
		"many more, behind noughts": append(make(api.Bag, 1000), 1),
		"one more, below 0":         full(-1),
		"one that undoes the other": {-1, 1},
	}
}

// wrongBags are lists of numbers that are not bag.Right, for one reason each.
func wrongBags() map[string]api.Bag {
	wrong := noWords()
	wrong["just a nought"] = api.Bag{0}
	wrong["just noughts"] = api.Bag{0, 0}
	wrong["a nought at the end"] = api.Bag{1, 0}
	wrong["noughts at the end"] = api.Bag{3, 2, 0, 0}
	wrong["a nought behind full"] = full(0)
	wrong["noughts of many tags"] = make(api.Bag, api.MaxMsgs+2)
	return wrong
}

// rightLins are linear sets of all kinds, in the order of Compare.
func rightLins() []api.Lin {
	return []api.Lin{
		lin(nil),
		lin(nil, api.Bag{1}),
		lin(nil, api.Bag{2}),
		lin(nil, api.Bag{far}),
		lin(nil, api.Bag{0, 1}),
		lin(nil, api.Bag{1, 1}),
		lin(nil, full()),
		lin(nil, api.Bag{1}, api.Bag{2}),
		lin(nil, api.Bag{1}, api.Bag{3}),
		lin(nil, api.Bag{1}, api.Bag{0, 1}),
		lin(nil, api.Bag{2}, api.Bag{3}),
		lin(nil, api.Bag{2}, api.Bag{0, 0, 1}),
		lin(nil, api.Bag{0, 1}, api.Bag{0, 2}),
		lin(nil, api.Bag{1}, api.Bag{2}, api.Bag{3}),
		lin(nil, api.Bag{1}, api.Bag{2}, api.Bag{0, 1}),
		lin(api.Bag{1}),
		lin(api.Bag{1}, api.Bag{1}),
		lin(api.Bag{1}, api.Bag{5, 5}),
		lin(api.Bag{1}, api.Bag{1}, api.Bag{2}),
		lin(api.Bag{2}),
		lin(api.Bag{2}, api.Bag{0, 4}, api.Bag{1, 1}, api.Bag{1, 2}, api.Bag{2, 1}),
		lin(api.Bag{far}),
		lin(api.Bag{far}, api.Bag{far}, api.Bag{far, far}),
		lin(api.Bag{0, 1}),
		lin(api.Bag{0, 1}, api.Bag{2}),
		lin(api.Bag{1, 1}),
		lin(api.Bag{1, 1}, api.Bag{1}),
		lin(full()),
		lin(full(), api.Bag{1}, full()),
	}
}

// wrongLins are linear sets that are not Right, for one reason each.
func wrongLins() map[string]api.Lin {
	wrong := map[string]api.Lin{
		"two alike":              lin(nil, api.Bag{1}, api.Bag{1}),
		"two alike, first":       lin(nil, api.Bag{1}, api.Bag{1}, api.Bag{2}),
		"two alike, last":        lin(api.Bag{1}, api.Bag{1}, api.Bag{0, 2}, api.Bag{0, 2}),
		"two alike, apart":       lin(nil, api.Bag{1}, api.Bag{2}, api.Bag{1}),
		"two fall":               lin(nil, api.Bag{2}, api.Bag{1}),
		"two fall by length":     lin(nil, api.Bag{0, 1}, api.Bag{9}),
		"two fall by a last tag": lin(nil, api.Bag{3, 2, 2}, api.Bag{3, 2, 1}),
		"the last two fall":      lin(nil, api.Bag{1}, api.Bag{3}, api.Bag{2}),
		"an empty one alone":     lin(api.Bag{1}, api.Bag{}),
		"none alone":             lin(nil, nil),
		"an empty one first":     lin(nil, api.Bag{}, api.Bag{1}),
		"an empty one between":   lin(nil, api.Bag{1}, nil, api.Bag{2}),
		"an empty one last":      lin(nil, api.Bag{1}, api.Bag{}),
		"empty ones alone":       lin(nil, nil, nil),
	}
	for name, b := range wrongBags() {
		wrong["base "+name] = lin(b)
		wrong["base "+name+", with periods"] = lin(b, api.Bag{1}, api.Bag{0, 1})
		wrong["period "+name+", alone"] = lin(api.Bag{1}, b)
		wrong["period "+name+", first"] = lin(nil, b, api.Bag{9, 9, 9}, full())
		wrong["period "+name+", between"] = lin(nil, api.Bag{1}, b, full())
		wrong["period "+name+", last"] = lin(nil, api.Bag{1}, b)
	}
	return wrong
}

// expectLin takes nil and empty lists as the same, as the answer's text does.
func expectLin(t *testing.T, name string, l api.Lin, ok bool, want api.Lin, wantOK bool) {
	t.Helper()
	if fmt.Sprint(l) != fmt.Sprint(want) || ok != wantOK {
		t.Errorf("%s is %v, %t, want %v, %t", name, l, ok, want, wantOK)
	}
}

func expectOf(t *testing.T, want api.Lin, base api.Bag, periods ...api.Bag) {
	t.Helper()
	l, ok := Of(base, periods...)
	expectLin(t, fmt.Sprintf("Of(%v, %v)", base, periods), l, ok, want, true)
	if !Right(l) {
		t.Errorf("Of(%v, %v) is %v, which is not Right", base, periods, l)
	}
}

func expectNoOf(t *testing.T, name string, base api.Bag, periods ...api.Bag) {
	t.Helper()
	l, ok := Of(base, periods...)
	expectLin(t, name+": Of", l, ok, api.Lin{}, false)
	if l.Base != nil || l.Periods != nil {
		t.Errorf("%s: Of is %#v beside a false", name, l)
	}
}

func TestRightOfLinearSets(t *testing.T) {
	for _, l := range rightLins() {
		if !Right(l) {
			t.Errorf("Right(%v) is false", l)
		}
	}
	for _, l := range []api.Lin{
		{},
		{Base: api.Bag{}, Periods: []api.Bag{}},
		lin(api.Bag{0, 3}),
		lin(api.Bag{3}, api.Bag{3}),
		lin(slices.Repeat(api.Bag{far}, api.MaxMsgs), slices.Repeat(api.Bag{far}, api.MaxMsgs)),
	} {
		if !Right(l) {
			t.Errorf("Right(%v) is false", l)
		}
	}
}

func TestRightOfOthers(t *testing.T) {
	for name, l := range wrongLins() {
		if Right(l) {
			t.Errorf("%s: Right(%v) is true", name, l)
		}
	}
}

func TestRightOfManyPeriods(t *testing.T) {
	periods := rising(100000)
	if !Right(lin(nil, periods...)) {
		t.Error("many that rise are not Right")
	}
	last := len(periods) - 1
	for _, p := range []api.Bag{nil, {0}, {last}, {1}, {-1}, {far + 1}} {
		periods[last] = p
		if Right(lin(nil, periods...)) {
			t.Errorf("many that rise, and %v, are Right", p)
		}
	}
}

// rising are n periods of one tag each.
func rising(n int) []api.Bag {
	var l []api.Bag
	for i := range n {
		l = append(l, api.Bag{i + 1})
	}
	return l
}

func TestOfWithoutPeriods(t *testing.T) {
	expectOf(t, lin(nil), nil)
	expectOf(t, lin(nil), api.Bag{})
	expectOf(t, lin(nil), api.Bag{}, []api.Bag{}...)
	expectOf(t, lin(api.Bag{1}), api.Bag{1})
	expectOf(t, lin(api.Bag{0, 3}), api.Bag{0, 3})
	expectOf(t, lin(api.Bag{0, 3}), api.Bag{0, 3, 0, 0})
	expectOf(t, lin(api.Bag{far}), api.Bag{far})
	expectOf(t, lin(full()), full())
	expectOf(t, lin(full()), full(0, 0, 0))
	expectOf(t, lin(slices.Repeat(api.Bag{far}, api.MaxMsgs)), slices.Repeat(api.Bag{far}, api.MaxMsgs))
}

func TestOfPutsPeriodsInOrder(t *testing.T) {
	a, b, c, d := api.Bag{9}, api.Bag{0, 5}, api.Bag{1, 1}, api.Bag{1, 2}
	want := lin(api.Bag{2}, a, b, c, d)
	expectOf(t, want, api.Bag{2}, a, b, c, d)
	expectOf(t, want, api.Bag{2}, d, c, b, a)
	expectOf(t, want, api.Bag{2}, c, a, d, b)
	expectOf(t, lin(nil, a), nil, a)
	expectOf(t, lin(nil, b, full()), nil, full(), b)
}

func TestOfHasEachPeriodOnce(t *testing.T) {
	expectOf(t, lin(nil, api.Bag{1}), nil, api.Bag{1}, api.Bag{1})
	expectOf(t, lin(nil, api.Bag{1}, api.Bag{2}), nil, api.Bag{1}, api.Bag{2}, api.Bag{1})
	expectOf(t, lin(nil, api.Bag{1}, api.Bag{2}), nil, api.Bag{2}, api.Bag{2}, api.Bag{1}, api.Bag{1}, api.Bag{2})
	// Alike only without their noughts.
	expectOf(t, lin(nil, api.Bag{0, 2}), nil, api.Bag{0, 2, 0}, api.Bag{0, 2})
	expectOf(t, lin(nil, api.Bag{1}), nil, api.Bag{1, 0}, api.Bag{1, 0, 0}, api.Bag{1})
	expectOf(t, lin(nil, full()), nil, full(0), full(), full(0, 0))
	// In order only without their noughts.
	expectOf(t, lin(nil, api.Bag{2}, api.Bag{0, 1}), nil, api.Bag{0, 1}, api.Bag{2, 0, 0})
	// A base is no period, and what others make up is left as it is.
	expectOf(t, lin(api.Bag{1}, api.Bag{1}), api.Bag{1}, api.Bag{1})
	expectOf(t, lin(nil, api.Bag{1}, api.Bag{2}, api.Bag{3}), nil, api.Bag{3}, api.Bag{2}, api.Bag{1})
}

func TestOfLeavesOutEmptyPeriods(t *testing.T) {
	one, two := api.Bag{1}, api.Bag{2}
	for _, n := range []int{0, 1, 2, api.MaxMsgs - 1, api.MaxMsgs, api.MaxMsgs + 1, 1000, 100000} {
		noughts := make(api.Bag, n)
		expectOf(t, lin(nil), nil, noughts)
		expectOf(t, lin(nil), noughts)
		expectOf(t, lin(nil), noughts, noughts, noughts)
		expectOf(t, lin(nil, one), noughts, one)
		expectOf(t, lin(two, one, two), two, noughts, one, two)
		expectOf(t, lin(two, one, two), two, one, noughts, two)
		expectOf(t, lin(two, one, two), two, one, two, noughts)
	}
	expectOf(t, lin(nil), nil, nil)
	expectOf(t, lin(one, two), one, nil, two, nil)
	// Noughts ahead of another number stay.
	expectOf(t, lin(api.Bag{0, 0, 1}, api.Bag{0, 1}), api.Bag{0, 0, 1}, api.Bag{0, 1}, api.Bag{0, 0})
}

func TestOfWhatIsNoWord(t *testing.T) {
	good := []api.Bag{{1}, {0, 2}, nil, {3, 0}}
	for name, b := range noWords() {
		expectNoOf(t, name+", base", b)
		expectNoOf(t, name+", base with periods", b, good...)
		expectNoOf(t, name+", base with itself", b, b)
		expectNoOf(t, name+", the only period", nil, b)
		for at := range len(good) + 1 {
			expectNoOf(t, fmt.Sprint(name, ", period ", at), api.Bag{1}, slices.Insert(slices.Clone(good), at, b)...)
		}
		for other, c := range noWords() {
			expectNoOf(t, name+" and "+other, nil, b, c)
		}
	}
}

func TestOfManyPeriods(t *testing.T) {
	want := rising(50000)
	given := append(slices.Clone(want), want...)
	slices.Reverse(given)
	expectOf(t, lin(api.Bag{1}, want...), api.Bag{1}, given...)
	expectOf(t, lin(nil, api.Bag{1}), nil, slices.Repeat([]api.Bag{{1}}, 100000)...)
	expectNoOf(t, "a wrong one behind many", nil, append(given, api.Bag{-1})...)
}

func TestOfARightOneIsTheSame(t *testing.T) {
	for _, l := range rightLins() {
		expectOf(t, l, l.Base, l.Periods...)
	}
}

func TestPoint(t *testing.T) {
	if !Point(api.Lin{}) {
		t.Error("Point of the zero one is false")
	}
	if !Point(api.Lin{Base: api.Bag{}, Periods: []api.Bag{}}) {
		t.Error("Point of the empty one is false")
	}
	for _, l := range rightLins() {
		if got := Point(l); got != (len(l.Periods) == 0) {
			t.Errorf("Point(%v) is %t", l, got)
		}
	}
	for name, l := range wrongLins() {
		if Point(l) {
			t.Errorf("%s: Point(%v) is true", name, l)
		}
	}
}

// expectCat asks both ways round: the words are the same.
func expectCat(t *testing.T, a, b, want api.Lin, wantOK bool) {
	t.Helper()
	l, ok := Cat(a, b)
	expectLin(t, fmt.Sprintf("Cat(%v, %v)", a, b), l, ok, want, wantOK)
	l, ok = Cat(b, a)
	expectLin(t, fmt.Sprintf("Cat(%v, %v)", b, a), l, ok, want, wantOK)
	if !Right(l) {
		t.Errorf("Cat(%v, %v) is %v, which is not Right", b, a, l)
	}
}

func TestCatOfBases(t *testing.T) {
	expectCat(t, lin(nil), lin(nil), lin(nil), true)
	expectCat(t, lin(nil), lin(api.Bag{0, 2}), lin(api.Bag{0, 2}), true)
	expectCat(t, lin(api.Bag{1}), lin(api.Bag{4}), lin(api.Bag{5}), true)
	expectCat(t, lin(api.Bag{1}), lin(api.Bag{0, 3}), lin(api.Bag{1, 3}), true)
	expectCat(t, lin(api.Bag{1, 1}), lin(api.Bag{0, 3, 0, 7}), lin(api.Bag{1, 4, 0, 7}), true)
	expectCat(t, lin(api.Bag{2}), lin(full()), lin(append(api.Bag{2}, full()[1:]...)), true)
	expectCat(t, lin(full()), lin(full()), lin(bag.One(api.MaxMsgs-1, 2)), true)
}

func TestCatAtFar(t *testing.T) {
	p := api.Bag{far}
	expectCat(t, lin(api.Bag{far}), lin(nil), lin(api.Bag{far}), true)
	expectCat(t, lin(api.Bag{far - 1}), lin(api.Bag{1}), lin(api.Bag{far}), true)
	expectCat(t, lin(api.Bag{far}), lin(api.Bag{1}), api.Lin{}, false)
	expectCat(t, lin(api.Bag{far / 2}), lin(api.Bag{far / 2}), lin(api.Bag{far}), true)
	expectCat(t, lin(api.Bag{far / 2}), lin(api.Bag{far/2 + 1}), api.Lin{}, false)
	expectCat(t, lin(api.Bag{far}), lin(api.Bag{far}), api.Lin{}, false)
	expectCat(t, lin(api.Bag{1, far - 3, 2}), lin(api.Bag{1, 3}), lin(api.Bag{2, far, 2}), true)
	expectCat(t, lin(api.Bag{1, far - 3, 2}), lin(api.Bag{1, 4}), api.Lin{}, false)
	expectCat(t, lin(bag.One(api.MaxMsgs-1, far)), lin(full()), api.Lin{}, false)
	expectCat(t, lin(api.Bag{far}), lin(api.Bag{0, far}), lin(api.Bag{far, far}), true)
	// Periods are not put together, so they are never too many.
	expectCat(t, lin(api.Bag{1}, p), lin(api.Bag{1}, p), lin(api.Bag{2}, p), true)
	expectCat(t, lin(api.Bag{far}, p), lin(nil, p), lin(api.Bag{far}, p), true)
	expectCat(t, lin(api.Bag{far}, p), lin(api.Bag{1}, p), api.Lin{}, false)
	if l, _ := Cat(lin(api.Bag{far}, p), lin(api.Bag{1}, p)); l.Base != nil || l.Periods != nil {
		t.Errorf("Cat is %#v beside a false", l)
	}
}

func TestCatOfPeriods(t *testing.T) {
	a, b, c, d := api.Bag{2}, api.Bag{0, 1}, api.Bag{5, 5}, api.Bag{0, 0, 1}
	expectCat(t, lin(nil, a), lin(nil), lin(nil, a), true)
	expectCat(t, lin(nil, a), lin(nil, a), lin(nil, a), true)
	expectCat(t, lin(nil, a), lin(nil, b), lin(nil, a, b), true)
	expectCat(t, lin(nil, a, b), lin(nil, a, c), lin(nil, a, b, c), true)
	expectCat(t, lin(nil, a, c), lin(nil, b, d), lin(nil, a, b, c, d), true)
	expectCat(t, lin(nil, a, d), lin(nil, b, c), lin(nil, a, b, c, d), true)
	expectCat(t, lin(nil, a, b, c, d), lin(nil, b, d), lin(nil, a, b, c, d), true)
	expectCat(t, lin(nil, a, b, c), lin(nil, a, b, c), lin(nil, a, b, c), true)
	expectCat(t, lin(a, b), lin(b, a), lin(api.Bag{2, 1}, a, b), true)
	// A base is no period, of either.
	expectCat(t, lin(a), lin(nil, a), lin(a, a), true)
	expectCat(t, lin(a), lin(b), lin(api.Bag{2, 1}), true)
}

func TestOthersHaveNoAnswer(t *testing.T) {
	for name, w := range wrongLins() {
		expectNone(t, name+", with itself", w, w)
		for _, r := range rightLins() {
			expectNone(t, name+", ahead", w, r)
			expectNone(t, name+", behind", r, w)
		}
		for other, v := range wrongLins() {
			expectNone(t, name+", "+other, w, v)
		}
	}
}

func expectNone(t *testing.T, name string, a, b api.Lin) {
	t.Helper()
	l, ok := Cat(a, b)
	if l.Base != nil || l.Periods != nil || ok {
		t.Errorf("%s: Cat(%v, %v) is %#v, %t", name, a, b, l, ok)
	}
	if got := Compare(a, b); got != 0 {
		t.Errorf("%s: Compare(%v, %v) is %d", name, a, b, got)
	}
}

func TestCompare(t *testing.T) {
	a, b, c, d := api.Bag{2}, api.Bag{3}, api.Bag{0, 1}, api.Bag{5, 5}
	for _, x := range []struct {
		name string
		a, b api.Lin
		want int
	}{
		{"the zero one", api.Lin{}, api.Lin{}, 0},
		{"nil and empty", api.Lin{}, api.Lin{Base: api.Bag{}, Periods: []api.Bag{}}, 0},
		{"alike", lin(a, b, c), lin(a, b, c), 0},
		{"a lesser base", lin(a), lin(b), -1},
		{"a shorter base", lin(b), lin(c), -1},
		{"no base", lin(nil), lin(a), -1},
		{"the base ahead of how many", lin(a, a, b, c), lin(b), -1},
		{"the base ahead of what they are", lin(a, d), lin(b, a), -1},
		{"fewer, none", lin(a), lin(a, a), -1},
		{"fewer, the other's beginning", lin(a, b), lin(a, b, c), -1},
		{"fewer ahead of what they are", lin(a, d), lin(a, a, b), -1},
		{"the first", lin(a, a), lin(a, b), -1},
		{"the first ahead of the second", lin(a, a, d), lin(a, b, c), -1},
		{"the second", lin(a, a, b), lin(a, a, c), -1},
		{"the last", lin(a, a, b, c), lin(a, a, b, d), -1},
		{"a shorter period", lin(nil, api.Bag{9}), lin(nil, api.Bag{0, 1}), -1},
		{"far apart", lin(api.Bag{1}), lin(api.Bag{far}), -1},
	} {
		if got, back := Compare(x.a, x.b), Compare(x.b, x.a); got != x.want || back != -x.want {
			t.Errorf("%s: %d, and %d the other way round", x.name, got, back)
		}
	}
}
