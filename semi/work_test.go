package semi

import (
	"fmt"
	"math"
	"slices"
	"testing"

	"columbary/api"
	"columbary/meter"
)

// answer is all that is to be seen of a call with a meter.
type answer struct {
	semi  string
	e     api.Errno
	spent int
	out   bool
}

// calling is a call with a meter.
type calling func(m *meter.Meter) (api.Semi, api.Errno)

func cat(a, b api.Semi) calling {
	return func(m *meter.Meter) (api.Semi, api.Errno) { return Cat(m, a, b) }
}

func star(s api.Semi) calling {
	return func(m *meter.Meter) (api.Semi, api.Errno) { return Star(m, s) }
}

func pow(s api.Semi, n int) calling {
	return func(m *meter.Meter) (api.Semi, api.Errno) { return Pow(m, s, n) }
}

// ask calls with a meter of that budget, of which 0 was spent.
func ask(budget int, call calling) answer {
	m := meter.New(budget)
	s, e := call(m)
	return answer{text(s), e, m.Spent(), m.Out()}
}

func expectAnswer(t *testing.T, name string, got, want answer) {
	t.Helper()
	if got != want {
		t.Errorf("%s is %v, want %v", name, got, want)
	}
}

// expectWork calls with many meters: what is answered costs just that much, and with less there is none. Calls that spend more than once have tests of their own for what stays spent.
func expectWork(t *testing.T, name string, call calling, want api.Semi, cost int) {
	t.Helper()
	for _, budget := range []int{cost, cost + 1, math.MaxInt} {
		expectAnswer(t, name, ask(budget, call), answer{text(want), api.OK, cost, false})
	}
	s, e := call(nil)
	expectAnswer(t, name+", no bound", answer{text(s), e, 0, false}, answer{text(want), api.OK, 0, false})
	if !Right(s) {
		t.Errorf("%s is %v, which is not Right", name, s)
	}
	if cost > 0 {
		expectAnswer(t, name+", one less", ask(cost-1, call), answer{"[]", api.ErrWork, 0, true})
		expectAnswer(t, name+", no budget", ask(0, call), answer{"[]", api.ErrWork, 0, true})
	}
	expectAnswer(t, name+", out already", askOut(call), answer{"[]", api.ErrWork, 3, true})
}

// askOut calls with a meter that is out, though it has 7 left.
func askOut(call calling) answer {
	m := meter.New(10)
	m.Spend(3)
	m.Spend(8)
	s, e := call(m)
	return answer{text(s), e, m.Spent(), m.Out()}
}

// expectRefused calls with many meters: none is spent, whatever it has.
func expectRefused(t *testing.T, name string, call calling, want api.Errno) {
	t.Helper()
	for _, budget := range []int{math.MaxInt, 100, 1, 0, -1} {
		expectAnswer(t, name, ask(budget, call), answer{"[]", want, 0, false})
	}
	expectAnswer(t, name+", out already", askOut(call), answer{"[]", want, 3, true})
	if s, e := call(nil); s != nil || e != want {
		t.Errorf("%s, no bound, is %#v, %d, want none, %d", name, s, e, want)
	}
}

func TestCat(t *testing.T) {
	p1, p2 := api.Bag{1}, api.Bag{0, 2}
	for _, x := range []struct{ a, b, want api.Semi }{
		{One(), One(), One()},
		{api.Semi{point(1)}, api.Semi{point(1)}, api.Semi{point(2)}},
		{api.Semi{point(1)}, api.Semi{point(0, 1)}, api.Semi{point(1, 1)}},
		{api.Semi{point(1), point(2)}, api.Semi{point(0, 1)}, api.Semi{point(1, 1), point(2, 1)}},
		{api.Semi{point(1), point(0, 1)}, api.Semi{point(0, 0, 1), point(0, 0, 5)}, api.Semi{point(0, 1, 1), point(0, 1, 5), point(1, 0, 1), point(1, 0, 5)}},
		{api.Semi{set(nil, p1)}, api.Semi{set(nil, p2)}, api.Semi{set(nil, p1, p2)}},
		{api.Semi{point(), set(nil, p1)}, api.Semi{set(nil, p2), point(3)}, api.Semi{set(nil, p2), set(nil, p1, p2), point(3), set(api.Bag{3}, p1)}},
		// Out of order as they come, one by one.
		{api.Semi{point(2), point(0, 1)}, api.Semi{point(), point(0, 0, 1)}, api.Semi{point(2), point(0, 1), point(0, 1, 1), point(2, 0, 1)}},
		// Two sums, or more, that are one linear set.
		{api.Semi{point(1), point(2)}, api.Semi{point(1), point(2)}, api.Semi{point(2), point(3), point(4)}},
		{api.Semi{point(), point(1)}, api.Semi{point(), point(1)}, api.Semi{point(), point(1), point(2)}},
		{numbers(10), numbers(20), numbers(30)[1:]},
		{api.Semi{set(nil, p1), set(nil, p1, p2)}, api.Semi{set(nil, p1), set(nil, p2)}, api.Semi{set(nil, p1), set(nil, p1, p2)}},
	} {
		cost := len(x.a) * len(x.b)
		expectWork(t, fmt.Sprintf("Cat(%v, %v)", x.a, x.b), cat(x.a, x.b), x.want, cost)
		expectWork(t, fmt.Sprintf("Cat(%v, %v)", x.b, x.a), cat(x.b, x.a), x.want, cost)
	}
}

func TestCatWithNone(t *testing.T) {
	for _, s := range rightSemis() {
		expectWork(t, fmt.Sprintf("Cat(%v, none)", s), cat(s, nil), nil, 0)
		expectWork(t, fmt.Sprintf("Cat(none, %v)", s), cat(api.Semi{}, s), nil, 0)
	}
}

func TestCatWithOne(t *testing.T) {
	for _, s := range rightSemis() {
		expectWork(t, fmt.Sprintf("Cat(%v, one)", s), cat(s, One()), s, len(s))
		expectWork(t, fmt.Sprintf("Cat(one, %v)", s), cat(One(), s), s, len(s))
	}
}

// What one call spent stays spent, and what a call that is refused would have spent is not.
func TestCatSpendsAtOnce(t *testing.T) {
	m := meter.New(20)
	a, b := numbers(3), numbers(4)
	for i, want := range []answer{{text(numbers(7)[1:]), api.OK, 12, false}, {"[]", api.ErrWork, 12, true}} {
		s, e := Cat(m, a, b)
		expectAnswer(t, fmt.Sprint("Cat ", i), answer{text(s), e, m.Spent(), m.Out()}, want)
	}
	s, e := Cat(m, nil, nil)
	expectAnswer(t, "Cat of none, out", answer{text(s), e, m.Spent(), m.Out()}, answer{"[]", api.ErrWork, 12, true})
}

// expectTooMuch calls where a sum goes beyond its bound: all was spent ahead of that, and where it can't be, that is told.
func expectTooMuch(t *testing.T, name string, call calling, cost int) {
	t.Helper()
	for _, budget := range []int{cost, cost + 1, math.MaxInt} {
		expectAnswer(t, name, ask(budget, call), answer{"[]", api.ErrLimit, cost, false})
	}
	expectAnswer(t, name+", one less", ask(cost-1, call), answer{"[]", api.ErrWork, 0, true})
	if s, e := call(nil); s != nil || e != api.ErrLimit {
		t.Errorf("%s, no bound, is %#v, %d", name, s, e)
	}
}

func TestCatBeyondFar(t *testing.T) {
	// One of the sums alone is beyond Far, at each place of both.
	for at := range 4 {
		a := api.Semi{point(0, 1), point(0, 2), point(0, 3), point(0, 4)}
		a[at].Base = append(a[at].Base, far)
		a, _ = Of(a...)
		for place := range 3 {
			b := api.Semi{point(1), point(2), point(3)}
			b[place].Base = append(b[place].Base, 0, 1)
			b, _ = Of(b...)
			expectTooMuch(t, fmt.Sprint("Cat, ", at, " and ", place), cat(a, b), 12)
			expectTooMuch(t, fmt.Sprint("Cat, ", place, " and ", at), cat(b, a), 12)
		}
	}
	expectTooMuch(t, "Cat of far", cat(api.Semi{point(far)}, api.Semi{point(1)}), 1)
	expectTooMuch(t, "Cat of far with periods", cat(api.Semi{set(api.Bag{far}, api.Bag{1})}, api.Semi{point(), set(api.Bag{1}, api.Bag{1})}), 2)
	expectWork(t, "Cat just at far", cat(api.Semi{point(far - 1)}, api.Semi{point(1)}), api.Semi{point(far)}, 1)
	expectWork(t, "Cat of periods at far", cat(api.Semi{set(nil, api.Bag{far})}, api.Semi{set(nil, api.Bag{far})}), api.Semi{set(nil, api.Bag{far})}, 1)
}

// Each sum is refused, of very many.
func TestCatOfManyBeyondFar(t *testing.T) {
	s := numbers(3000)
	for i := range s {
		s[i].Base[0] += far - len(s)
	}
	expectTooMuch(t, "Cat of very many", cat(s, s), 9000000)
}

func TestCatOfWhatIsNotRight(t *testing.T) {
	for name, w := range wrongSemis() {
		for _, s := range []api.Semi{nil, One(), rising(), {point(far)}, w} {
			expectRefused(t, name+", ahead", cat(w, s), api.ErrArg)
			expectRefused(t, name+", behind", cat(s, w), api.ErrArg)
		}
	}
}

func TestStar(t *testing.T) {
	expectWork(t, "Star of nothing", star(nil), One(), 0)
	expectWork(t, "Star of no list", star(api.Semi{}), One(), 0)
	expectWork(t, "Star of the empty word", star(One()), One(), 1)
	a, b, c := api.Bag{2}, api.Bag{4}, api.Bag{0, 0, far}
	for _, x := range []struct{ s, want api.Semi }{
		{api.Semi{set(a)}, api.Semi{set(nil, a)}},
		{api.Semi{set(a), set(b)}, api.Semi{set(nil, a, b)}},
		{api.Semi{set(a), set(c)}, api.Semi{set(nil, a, c)}},
		{api.Semi{set(a), set(b), set(c)}, api.Semi{set(nil, a, b, c)}},
		{api.Semi{{}, set(a)}, api.Semi{set(nil, a)}},
		{api.Semi{{}, set(a), set(b), set(c)}, api.Semi{set(nil, a, b, c)}},
		{api.Semi{{Periods: []api.Bag{}}, {Base: c, Periods: []api.Bag{}}}, api.Semi{set(nil, c)}},
	} {
		expectWork(t, fmt.Sprintf("Star(%v)", x.s), star(x.s), x.want, len(x.s))
	}
	many := numbers(1000)
	all := api.Lin{}
	for _, l := range many {
		all.Periods = append(all.Periods, l.Base)
	}
	expectWork(t, "Star of many", star(many), api.Semi{all}, 1000)
	expectWork(t, "Star of many and the empty word", star(append(One(), many...)), api.Semi{all}, 1001)
}

func TestStarOfPeriods(t *testing.T) {
	words := api.Semi{point(), point(2), point(0, 2)}
	for _, l := range []api.Lin{set(nil, api.Bag{1}), set(api.Bag{1}, api.Bag{1}), set(api.Bag{3}, api.Bag{1}, api.Bag{2}), set(api.Bag{1, 1}, api.Bag{far})} {
		expectRefused(t, "Star of periods alone", star(api.Semi{l}), api.ErrArg)
		s := Union(words, api.Semi{l})
		expectRefused(t, "Star of periods and words", star(s), api.ErrArg)
	}
	for at := range 3 {
		s := slices.Clone(words)
		s[at].Periods = []api.Bag{{5}}
		expectRefused(t, fmt.Sprint("Star of periods, place ", at), star(s), api.ErrArg)
	}
	expectRefused(t, "Star of a star", star(api.Semi{set(nil, api.Bag{1})}), api.ErrArg)
}

func TestStarOfWhatIsNotRight(t *testing.T) {
	for name, w := range wrongSemis() {
		expectRefused(t, name, star(w), api.ErrArg)
	}
}

func TestPow(t *testing.T) {
	p, q := api.Bag{1}, api.Bag{0, 2}
	two := api.Semi{point(1), point(0, 1)}
	for _, x := range []struct {
		s    api.Semi
		n    int
		want api.Semi
		cost int
	}{
		{two, 1, two, 2},
		{two, 2, api.Semi{point(2), point(0, 2), point(1, 1)}, 2 + 4},
		{two, 3, api.Semi{point(3), point(0, 3), point(1, 2), point(2, 1)}, 2 + 4 + 6},
		{two, 4, api.Semi{point(4), point(0, 4), point(1, 3), point(2, 2), point(3, 1)}, 2 + 4 + 6 + 8},
		{numbers(3), 2, numbers(6)[1:], 3 + 9},
		{numbers(3), 3, numbers(9)[2:], 3 + 9 + 15},
		{api.Semi{point(), point(1)}, 5, append(One(), numbers(5)...), 2 + 4 + 6 + 8 + 10},
		{One(), 4, One(), 4},
		{One(), api.MaxLoop, One(), api.MaxLoop},
		{api.Semi{point(2)}, api.MaxLoop, api.Semi{point(2 * api.MaxLoop)}, api.MaxLoop},
		{nil, 1, nil, 0},
		{nil, 2, nil, 0},
		{api.Semi{}, api.MaxLoop, nil, 0},
		{api.Semi{set(nil, p)}, 3, api.Semi{set(nil, p)}, 3},
		{api.Semi{set(api.Bag{1}, p, q)}, 3, api.Semi{set(api.Bag{3}, p, q)}, 3},
		{api.Semi{set(nil, p), set(nil, q)}, 2, api.Semi{set(nil, p), set(nil, q), set(nil, p, q)}, 2 + 4},
		{api.Semi{set(nil, p), set(nil, q)}, 3, api.Semi{set(nil, p), set(nil, q), set(nil, p, q)}, 2 + 4 + 6},
		{api.Semi{point(far / 4)}, 4, api.Semi{point(far)}, 4},
	} {
		name := fmt.Sprintf("Pow(%v, %d)", x.s, x.n)
		for _, budget := range []int{x.cost, x.cost + 1, math.MaxInt} {
			expectAnswer(t, name, ask(budget, pow(x.s, x.n)), answer{text(x.want), api.OK, x.cost, false})
		}
		if s, e := Pow(nil, x.s, x.n); text(s) != text(x.want) || e != api.OK || !Right(s) {
			t.Errorf("%s, no bound, is %v, %d", name, s, e)
		}
	}
}

func TestPowOfNoTimes(t *testing.T) {
	for _, s := range rightSemis() {
		name := fmt.Sprintf("Pow(%v, 0)", s)
		for _, budget := range []int{-1, 0, 1, 100} {
			expectAnswer(t, name, ask(budget, pow(s, 0)), answer{text(One()), api.OK, 0, false})
		}
		// Nothing is spent, so a meter that is out is no bar.
		expectAnswer(t, name+", out already", askOut(pow(s, 0)), answer{text(One()), api.OK, 3, true})
		if got, e := Pow(nil, s, 0); !Same(got, One()) || e != api.OK {
			t.Errorf("%s, no bound, is %v, %d", name, got, e)
		}
	}
}

func TestPowOfTimesThatMayNotBe(t *testing.T) {
	for _, n := range []int{-1, -2, math.MinInt, api.MaxLoop + 1, api.MaxLoop + 2, math.MaxInt} {
		for _, s := range rightSemis() {
			expectRefused(t, fmt.Sprintf("Pow(%v, %d)", s, n), pow(s, n), api.ErrArg)
		}
		expectRefused(t, fmt.Sprint("Pow of a wrong one, ", n), pow(api.Semi{point(0)}, n), api.ErrArg)
	}
}

func TestPowOfWhatIsNotRight(t *testing.T) {
	for name, w := range wrongSemis() {
		for _, n := range []int{0, 1, 2, api.MaxLoop} {
			expectRefused(t, fmt.Sprint(name, ", ", n), pow(w, n), api.ErrArg)
		}
	}
}

// What one Cat after the other spent stays spent, up to the one that is refused.
func TestPowOutOnTheWay(t *testing.T) {
	two := api.Semi{point(1), point(0, 1)}
	for _, x := range []struct{ budget, spent int }{
		{-1, 0}, {0, 0}, {1, 0}, {2, 2}, {5, 2}, {6, 6}, {11, 6}, {12, 12}, {19, 12},
	} {
		expectAnswer(t, fmt.Sprint("Pow of 4 by ", x.budget), ask(x.budget, pow(two, 4)), answer{"[]", api.ErrWork, x.spent, true})
	}
	if a := ask(20, pow(two, 4)); a.e != api.OK || a.spent != 20 {
		t.Errorf("Pow of 4 by 20 is %v", a)
	}
	expectAnswer(t, "Pow of 99", ask(98, pow(One(), 99)), answer{"[]", api.ErrWork, 98, true})
	expectAnswer(t, "Pow of 1, out already", askOut(pow(two, 1)), answer{"[]", api.ErrWork, 3, true})
	expectAnswer(t, "Pow of none, out already", askOut(pow(nil, 1)), answer{"[]", api.ErrWork, 3, true})
	for budget := range 20 {
		if s, e := Pow(meter.New(budget), two, 4); s != nil || e != api.ErrWork {
			t.Errorf("Pow of 4 by %d is %#v, %d", budget, s, e)
		}
	}
}

func TestPowBeyondFar(t *testing.T) {
	half := api.Semi{point(), point(far/2 + 1)}
	expectAnswer(t, "Pow of half, 1", ask(100, pow(half, 1)), answer{text(half), api.OK, 2, false})
	expectAnswer(t, "Pow of half, 2", ask(100, pow(half, 2)), answer{"[]", api.ErrLimit, 6, false})
	expectAnswer(t, "Pow of half, 99", ask(100, pow(half, 99)), answer{"[]", api.ErrLimit, 6, false})
	expectAnswer(t, "Pow of half, too little for it", ask(5, pow(half, 2)), answer{"[]", api.ErrWork, 2, true})
	fifth := api.Semi{point(far / 5)}
	expectAnswer(t, "Pow of a fifth, 5", ask(100, pow(fifth, 5)), answer{text(api.Semi{point(far / 5 * 5)}), api.OK, 5, false})
	expectAnswer(t, "Pow of a fifth, 6", ask(100, pow(fifth, 6)), answer{"[]", api.ErrLimit, 6, false})
	if s, e := Pow(nil, fifth, 6); s != nil || e != api.ErrLimit {
		t.Errorf("Pow of a fifth, no bound, is %#v, %d", s, e)
	}
}
