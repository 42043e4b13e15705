package semi

import (
	"fmt"
	"math"
	"slices"
	"testing"

	"columbary/api"
)

const far = api.Far

// point is a word alone, as it is written, Right or not.
func point(n ...int) api.Lin {
	return api.Lin{Base: n}
}

// set is a linear set as it is written, Right or not.
func set(base api.Bag, periods ...api.Bag) api.Lin {
	return api.Lin{Base: base, Periods: periods}
}

// rising are linear sets of all kinds, in the order of lin.Compare.
func rising() api.Semi {
	return api.Semi{
		point(),
		set(nil, api.Bag{1}),
		set(nil, api.Bag{2}),
		set(nil, api.Bag{0, 1}),
		set(nil, api.Bag{1}, api.Bag{2}),
		set(nil, api.Bag{1}, api.Bag{0, 1}),
		point(1),
		set(api.Bag{1}, api.Bag{1}),
		set(api.Bag{1}, api.Bag{1}, api.Bag{0, 0, 3}),
		point(2),
		point(far),
		set(api.Bag{far}, api.Bag{far}),
		point(0, 1),
		set(api.Bag{0, 1}, api.Bag{5}),
		point(1, 1),
		set(append(make(api.Bag, api.MaxMsgs-1), 1)),
	}
}

// rightSemis are semilinear sets of all kinds, no two alike.
func rightSemis() []api.Semi {
	all := rising()
	l := []api.Semi{nil, all, all[1:], all[:len(all)-1], {all[0], all[len(all)-1]}, {all[1], all[5], all[8]}}
	for i := range all {
		l = append(l, api.Semi{all[i]})
	}
	for i := range len(all) - 2 {
		l = append(l, api.Semi{all[i], all[i+1]})
	}
	return l
}

// wrongLins are linear sets that are not lin.Right, for one reason each.
func wrongLins() map[string]api.Lin {
	long := make(api.Bag, api.MaxMsgs+1)
	long[api.MaxMsgs] = 1
	return map[string]api.Lin{
		"just a nought":         point(0),
		"a nought at the end":   point(1, 0),
		"below 0":               point(-1),
		"below 0, ahead":        point(-1, 1),
		"the least":             point(math.MinInt),
		"beyond Far":            point(far + 1),
		"the greatest":          point(1, math.MaxInt),
		"too many tags":         set(long),
		"an empty period":       set(nil, nil),
		"an empty period first": set(nil, api.Bag{}, api.Bag{1}),
		"a nought as a period":  set(nil, api.Bag{0}),
		"a period with noughts": set(nil, api.Bag{1, 0}),
		"a period below 0":      set(nil, api.Bag{-1}),
		"a period beyond Far":   set(nil, api.Bag{1}, api.Bag{far + 1}),
		"a period too long":     set(api.Bag{1}, long),
		"two periods alike":     set(nil, api.Bag{1}, api.Bag{1}),
		"two periods that fall": set(api.Bag{1}, api.Bag{2}, api.Bag{1}),
		"the last two fall":     set(nil, api.Bag{1}, api.Bag{0, 1}, api.Bag{9}),
	}
}

// wrongSemis are lists of linear sets that are not Right, for one reason each.
func wrongSemis() map[string]api.Semi {
	wrong := map[string]api.Semi{
		"two empty words":        {point(), point()},
		"two alike":              {point(1), point(1)},
		"two alike, first":       {point(1), point(1), point(2)},
		"two alike, last":        {point(1), point(2), point(2)},
		"two alike, apart":       {point(1), point(2), point(1)},
		"two alike with periods": {set(nil, api.Bag{1}), set(nil, api.Bag{1})},
		"two fall":               {point(2), point(1)},
		"two fall, first":        {point(2), point(1), point(3)},
		"two fall, last":         {point(1), point(3), point(2)},
		"two fall by length":     {point(0, 1), point(5)},
		"the empty word behind":  {point(1), point()},
		"two fall by how many":   {set(nil, api.Bag{1}), point()},
		"two fall by a period":   {set(nil, api.Bag{2}), set(nil, api.Bag{1})},
		"two fall by the last":   {set(nil, api.Bag{1}, api.Bag{3}), set(nil, api.Bag{1}, api.Bag{2})},
		"all fall":               {point(0, 1), point(3), point(2), point()},
	}
	for name, l := range wrongLins() {
		wrong[name+", alone"] = api.Semi{l}
		wrong[name+", twice"] = api.Semi{l, l}
		for at := range 3 {
			// Two that rise, whatever stands ahead, between or behind.
			wrong[fmt.Sprint(name, ", place ", at)] = slices.Insert(api.Semi{point(), point(1, 1, 1)}, at, l)
		}
	}
	return wrong
}

// text takes nil and empty lists as the same.
func text(s api.Semi) string {
	return fmt.Sprint(s)
}

func expectSemi(t *testing.T, name string, got, want api.Semi) {
	t.Helper()
	if text(got) != text(want) {
		t.Errorf("%s is %v, want %v", name, got, want)
	}
	if !Right(got) {
		t.Errorf("%s is %v, which is not Right", name, got)
	}
}

func expectOf(t *testing.T, want api.Semi, l ...api.Lin) {
	t.Helper()
	s, ok := Of(l...)
	if !ok {
		t.Errorf("Of(%v) is false", l)
	}
	expectSemi(t, fmt.Sprintf("Of(%v)", l), s, want)
}

func TestRightOfSemilinearSets(t *testing.T) {
	for _, s := range rightSemis() {
		if !Right(s) {
			t.Errorf("Right(%v) is false", s)
		}
	}
	for _, s := range []api.Semi{nil, {}, {{}}, {{Base: api.Bag{}, Periods: []api.Bag{}}}, {{}, point(far)}} {
		if !Right(s) {
			t.Errorf("Right(%#v) is false", s)
		}
	}
}

func TestRightOfOthers(t *testing.T) {
	for name, s := range wrongSemis() {
		if Right(s) {
			t.Errorf("%s: Right(%v) is true", name, s)
		}
	}
}

// numbers are n words of one tag, which rise.
func numbers(n int) api.Semi {
	var s api.Semi
	for i := range n {
		s = append(s, point(i+1))
	}
	return s
}

func TestRightOfMany(t *testing.T) {
	s := numbers(10000)
	if !Right(s) {
		t.Error("many that rise are not Right")
	}
	last := len(s) - 1
	for _, l := range []api.Lin{{}, point(last), point(1), point(0), point(-1), set(api.Bag{last + 1}, nil)} {
		s[last] = l
		if Right(s) {
			t.Errorf("many that rise, and %v, are Right", l)
		}
	}
}

func TestOfNone(t *testing.T) {
	expectOf(t, nil)
	expectOf(t, nil, []api.Lin{}...)
}

func TestOfRightOnesIsTheSame(t *testing.T) {
	for _, s := range rightSemis() {
		expectOf(t, s, s...)
	}
}

func TestOfPutsThemInOrder(t *testing.T) {
	want := rising()
	given := slices.Clone(want)
	slices.Reverse(given)
	expectOf(t, want, given...)
	for turn := range given {
		expectOf(t, want, slices.Concat(given[turn:], given[:turn])...)
		expectOf(t, want, slices.Concat(want[turn:], want[:turn])...)
	}
	a, b, c := point(3), set(api.Bag{3}, api.Bag{1}), point(0, 1)
	for _, l := range [][]api.Lin{{a, b, c}, {a, c, b}, {b, a, c}, {b, c, a}, {c, a, b}, {c, b, a}} {
		expectOf(t, api.Semi{a, b, c}, l...)
	}
}

func TestOfHasEachOnce(t *testing.T) {
	a, b, c := point(3), set(api.Bag{3}, api.Bag{1}), point(0, 1)
	expectOf(t, api.Semi{a}, a, a)
	expectOf(t, api.Semi{b}, b, b, b)
	expectOf(t, api.Semi{{}}, point(), api.Lin{}, set(api.Bag{}), set(nil, []api.Bag{}...))
	expectOf(t, api.Semi{a, b}, a, b, a)
	expectOf(t, api.Semi{a, b}, b, b, a, a, b)
	expectOf(t, api.Semi{a, b, c}, c, b, a, c, b, a)
	expectOf(t, rising(), slices.Concat(rising(), rising())...)
	expectOf(t, numbers(10000), slices.Concat(numbers(10000), numbers(5000), numbers(10000))...)
}

// Of looks at how they are written, not at what words they have.
func TestOfKeepsWhatOthersHold(t *testing.T) {
	expectOf(t, api.Semi{point(), set(nil, api.Bag{1}), point(1)}, point(1), set(nil, api.Bag{1}), point())
	expectOf(t, api.Semi{set(nil, api.Bag{1}), set(nil, api.Bag{1}, api.Bag{2})}, set(nil, api.Bag{1}, api.Bag{2}), set(nil, api.Bag{1}))
}

func expectNoOf(t *testing.T, name string, l ...api.Lin) {
	t.Helper()
	if s, ok := Of(l...); s != nil || ok {
		t.Errorf("%s: Of(%v) is %#v, %t", name, l, s, ok)
	}
}

func TestOfOneThatIsNotRight(t *testing.T) {
	good := []api.Lin{point(2), set(nil, api.Bag{1}), point(2), point()}
	for name, l := range wrongLins() {
		expectNoOf(t, name, l)
		expectNoOf(t, name+", twice", l, l)
		for at := range len(good) + 1 {
			expectNoOf(t, fmt.Sprint(name, ", place ", at), slices.Insert(slices.Clone(good), at, l)...)
		}
		for other, k := range wrongLins() {
			expectNoOf(t, name+" and "+other, l, k)
		}
		expectNoOf(t, name+", behind many", append(numbers(1000), l)...)
	}
}

func TestOne(t *testing.T) {
	for range 3 {
		s := One()
		expectSemi(t, "One", s, api.Semi{{}})
		if len(s) != 1 || len(s[0].Base) != 0 || len(s[0].Periods) != 0 {
			t.Errorf("One is %#v", s)
		}
		s[0] = point(7)
	}
	a, b := One(), One()
	a[0].Base = append(a[0].Base, 1)
	a[0].Periods = append(a[0].Periods, api.Bag{2})
	expectSemi(t, "One beside another", b, api.Semi{{}})
}

func TestSame(t *testing.T) {
	all := rightSemis()
	for i, a := range all {
		for j, b := range all {
			if got := Same(a, b); got != (i == j) {
				t.Errorf("Same(%v, %v) is %t", a, b, got)
			}
		}
	}
}

func expectSame(t *testing.T, a, b api.Semi, want bool) {
	t.Helper()
	if got, back := Same(a, b), Same(b, a); got != want || back != want {
		t.Errorf("Same(%#v, %#v) is %t, and %t the other way round", a, b, got, back)
	}
}

func TestSameOfEmptyLists(t *testing.T) {
	expectSame(t, nil, nil, true)
	expectSame(t, nil, api.Semi{}, true)
	expectSame(t, api.Semi{{}}, api.Semi{{Base: api.Bag{}, Periods: []api.Bag{}}}, true)
	expectSame(t, api.Semi{set(nil, nil)}, api.Semi{set(api.Bag{}, api.Bag{})}, true)
	expectSame(t, nil, One(), false)
	expectSame(t, One(), api.Semi{{}, {}}, false)
	expectSame(t, One(), api.Semi{point(0)}, false)
	expectSame(t, One(), api.Semi{set(nil, nil)}, false)
}

// unlike is a in other memory, with one place of one of its linear sets written anew.
func unlike(a api.Semi, at int, by func(l *api.Lin)) api.Semi {
	b := roomySemi(a)
	by(&b[at])
	return b
}

func TestSameLooksAtEachPlace(t *testing.T) {
	a := api.Semi{
		set(api.Bag{1, 2, 3}, api.Bag{4, 5}, api.Bag{6, 7}),
		set(api.Bag{8, 9, 10}, api.Bag{11, 12}, api.Bag{13, 14}),
		set(api.Bag{1, 2, 3}, api.Bag{4, 5}, api.Bag{6, 7}),
	}
	expectSame(t, a, roomySemi(a), true)
	for at := range a {
		expectSame(t, a, slices.Delete(roomySemi(a), at, at+1), false)
		for i := range a[at].Base {
			expectSame(t, a, unlike(a, at, func(l *api.Lin) { l.Base[i]++ }), false)
			expectSame(t, a, unlike(a, at, func(l *api.Lin) { l.Base[i] = -1 }), false)
		}
		expectSame(t, a, unlike(a, at, func(l *api.Lin) { l.Base = l.Base[:2] }), false)
		expectSame(t, a, unlike(a, at, func(l *api.Lin) { l.Base = append(l.Base, 0) }), false)
		expectSame(t, a, unlike(a, at, func(l *api.Lin) { l.Base = nil }), false)
		expectSame(t, a, unlike(a, at, func(l *api.Lin) { l.Periods = nil }), false)
		expectSame(t, a, unlike(a, at, func(l *api.Lin) { l.Periods = l.Periods[:1] }), false)
		expectSame(t, a, unlike(a, at, func(l *api.Lin) { l.Periods = append(l.Periods, nil) }), false)
		for i, p := range a[at].Periods {
			expectSame(t, a, unlike(a, at, func(l *api.Lin) { l.Periods[i] = nil }), false)
			expectSame(t, a, unlike(a, at, func(l *api.Lin) { l.Periods[i] = append(l.Periods[i], 0) }), false)
			for k := range p {
				expectSame(t, a, unlike(a, at, func(l *api.Lin) { l.Periods[i][k]-- }), false)
			}
		}
	}
	b := slices.Clone(a)
	slices.Reverse(b)
	expectSame(t, a, b, true)
	b[0], b[1] = b[1], b[0]
	expectSame(t, a, b, false)
}

func TestSameOfWhatIsNotRight(t *testing.T) {
	wrong := wrongSemis()
	for name, a := range wrong {
		expectSame(t, a, roomySemi(a), true)
		for _, b := range rightSemis() {
			expectSame(t, a, b, false)
		}
		for other, b := range wrong {
			if got := Same(a, b); got != (text(a) == text(b)) {
				t.Errorf("%s, %s: Same(%v, %v) is %t", name, other, a, b, got)
			}
		}
	}
}

func TestUnion(t *testing.T) {
	for _, s := range rightSemis() {
		expectSemi(t, "Union with none", Union(s, nil), s)
		expectSemi(t, "Union of none", Union(api.Semi{}, s), s)
		expectSemi(t, "Union with itself", Union(s, s), s)
	}
	expectSemi(t, "Union of none with none", Union(nil, nil), nil)
	a, b, c, d := point(3), set(api.Bag{3}, api.Bag{1}), point(0, 1), point(1, 1)
	for _, x := range []struct{ a, b, want api.Semi }{
		{api.Semi{a}, api.Semi{b}, api.Semi{a, b}},
		{api.Semi{b}, api.Semi{a}, api.Semi{a, b}},
		{api.Semi{a, b}, api.Semi{c, d}, api.Semi{a, b, c, d}},
		{api.Semi{c, d}, api.Semi{a, b}, api.Semi{a, b, c, d}},
		{api.Semi{a, c}, api.Semi{b, d}, api.Semi{a, b, c, d}},
		{api.Semi{a, d}, api.Semi{b, c}, api.Semi{a, b, c, d}},
		{api.Semi{a, b, c}, api.Semi{b, c, d}, api.Semi{a, b, c, d}},
		{api.Semi{a, b, c, d}, api.Semi{b}, api.Semi{a, b, c, d}},
		{api.Semi{c}, api.Semi{a, b, c, d}, api.Semi{a, b, c, d}},
		{api.Semi{c}, One(), api.Semi{{}, c}},
	} {
		expectSemi(t, fmt.Sprintf("Union(%v, %v)", x.a, x.b), Union(x.a, x.b), x.want)
	}
}

func TestUnionOfWhatIsNotRight(t *testing.T) {
	for name, w := range wrongSemis() {
		for _, x := range [][2]api.Semi{{w, nil}, {nil, w}, {w, One()}, {One(), w}, {w, rising()}, {rising(), w}, {w, w}} {
			if s := Union(x[0], x[1]); s != nil {
				t.Errorf("%s: Union(%v, %v) is %#v", name, x[0], x[1], s)
			}
		}
	}
}
