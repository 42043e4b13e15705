package auto

import (
	"fmt"
	"math"
	"testing"

	"columbary/api"
	"columbary/meter"
)

// numbered is a linear set of so many Periods: 1, 2, 3, .. of one tag.
func numbered(periods int) (l api.Lin) {
	for i := range periods {
		l.Periods = append(l.Periods, api.Bag{i + 1})
	}
	return l
}

// answer is all that is to be seen of a call; nil and empty lists are the same.
type answer struct {
	items string
	e     api.Errno
	spent int
	out   bool
}

func ask(m *meter.Meter, s api.Semi, l []api.Item, letter uint) answer {
	next, e := Next(m, s, l, letter)
	return answer{fmt.Sprint(next), e, m.Spent(), m.Out()}
}

func expectAnswer(t *testing.T, name string, got, want answer) {
	t.Helper()
	if got != want {
		t.Errorf("%s is %v, want %v", name, got, want)
	}
}

// expectNext asks without a bound.
func expectNext(t *testing.T, s api.Semi, l []api.Item, letter uint, want string) {
	t.Helper()
	expectAnswer(t, fmt.Sprint("Next of ", s, ", ", l, ", ", letter), ask(nil, s, l, letter), answer{items: want})
}

func TestNextOfABaseAlone(t *testing.T) {
	s := api.Semi{set(api.Bag{9})}
	for _, x := range []struct {
		carry  api.Bag
		letter uint
		want   string
	}{
		{nil, 0, "[{0 []}]"},
		{nil, 1, "[]"},
		{api.Bag{1}, 1, "[{0 []}]"},
		{api.Bag{1}, 0, "[]"},
		{api.Bag{2}, 0, "[{0 [1]}]"},
		{api.Bag{2}, 1, "[]"},
		{api.Bag{3}, 1, "[{0 [1]}]"},
		{api.Bag{5}, 1, "[{0 [2]}]"},
		{api.Bag{far}, 0, "[{0 [576460752303423488]}]"},
		{api.Bag{far - 1}, 1, "[{0 [576460752303423487]}]"},
		{api.Bag{4, 3}, 2, "[{0 [2 1]}]"},
		{api.Bag{4, 3}, 0, "[]"},
		{api.Bag{4, 3}, 1, "[]"},
		{api.Bag{4, 3}, 3, "[]"},
		{api.Bag{5, 3}, 3, "[{0 [2 1]}]"},
		{api.Bag{1, 2}, 1, "[{0 [0 1]}]"},
		// What is half of 1 is not there: no noughts stand at the end.
		{api.Bag{2, 1}, 2, "[{0 [1]}]"},
		{api.Bag{0, 1}, 2, "[{0 []}]"},
		{api.Bag{0, 2, 1, 1}, 12, "[{0 [0 1]}]"},
		{last(1), 1 << 11, "[{0 []}]"},
		{last(3), 1 << 11, "[{0 [0 0 0 0 0 0 0 0 0 0 0 1]}]"},
	} {
		expectNext(t, s, []api.Item{{Carry: x.carry}}, x.letter, x.want)
	}
}

// The Base is in Start's Carry, and not looked at again.
func TestNextTakesTheCarryForTheBase(t *testing.T) {
	s := api.Semi{set(api.Bag{9}, api.Bag{2})}
	expectNext(t, s, []api.Item{item(0)}, 0, "[{0 []} {0 [1]}]")
	expectNext(t, s, Start(s), 1, "[{0 [4]} {0 [5]}]")
}

// Each choice, each period once, or not.
func TestNextOfEachChoice(t *testing.T) {
	apart := api.Semi{set(nil, api.Bag{2}, api.Bag{20}, api.Bag{200})}
	expectNext(t, apart, []api.Item{item(0)}, 0, "[{0 []} {0 [1]} {0 [10]} {0 [11]} {0 [100]} {0 [101]} {0 [110]} {0 [111]}]")
	expectNext(t, apart, []api.Item{item(0, 2000)}, 0, "[{0 [1000]} {0 [1001]} {0 [1010]} {0 [1011]} {0 [1100]} {0 [1101]} {0 [1110]} {0 [1111]}]")
	odd := api.Semi{set(nil, api.Bag{1}, api.Bag{10}, api.Bag{101})}
	expectNext(t, odd, []api.Item{item(0)}, 0, "[{0 []} {0 [5]} {0 [51]} {0 [56]}]")
	expectNext(t, odd, []api.Item{item(0)}, 1, "[{0 []} {0 [5]} {0 [50]} {0 [55]}]")
	expectNext(t, odd, []api.Item{item(0, 1)}, 0, "[{0 [1]} {0 [6]} {0 [51]} {0 [56]}]")
	tags := api.Semi{set(nil, api.Bag{1}, api.Bag{0, 1}, api.Bag{0, 0, 1})}
	for letter := range uint(8) {
		expectNext(t, tags, []api.Item{item(0)}, letter, "[{0 []}]")
	}
	two := api.Semi{set(nil, api.Bag{1}, api.Bag{1, 1})}
	for letter, want := range []string{"[{0 []}]", "[{0 []}]", "[{0 [1]}]", "[{0 []}]", "[]"} {
		expectNext(t, two, []api.Item{item(0)}, uint(letter), want)
	}
}

func TestNextOfSameCarries(t *testing.T) {
	// 1 and 2, or 3; 1 and 4, or 2 and 3, or 5.
	expectNext(t, api.Semi{numbered(5)}, []api.Item{item(0)}, 1, "[{0 []} {0 [1]} {0 [2]} {0 [3]} {0 [4]} {0 [5]} {0 [6]} {0 [7]}]")
	// Two items come to the same.
	s := api.Semi{set(nil, api.Bag{1}, api.Bag{2})}
	expectNext(t, s, []api.Item{item(0, 1), item(0, 2)}, 0, "[{0 [1]} {0 [2]}]")
	expectNext(t, s, []api.Item{item(0, 1), item(0, 2)}, 1, "[{0 []} {0 [1]} {0 [2]}]")
	expectNext(t, s, []api.Item{item(0), item(0, 1), item(0, 2), item(0, 3)}, 0, "[{0 []} {0 [1]} {0 [2]} {0 [3]}]")
	// Of two sets they stay two.
	both := api.Semi{set(nil), set(nil, api.Bag{2})}
	expectNext(t, both, []api.Item{item(0, 2), item(1), item(1, 2)}, 0, "[{0 [1]} {1 []} {1 [1]} {1 [2]}]")
}

// A Carry that is ahead of another may come behind it, by a longer or a greater period.
func TestNextInOrder(t *testing.T) {
	s := api.Semi{set(nil, api.Bag{2}), set(nil, api.Bag{2}, api.Bag{4, 4}), set(api.Bag{1})}
	l := []api.Item{item(0), item(0, 0, 2), item(1, 2), item(1, 0, 2), item(1, 6, 2), item(2, 8), item(2, 4, 4)}
	first := "{0 []} {0 [1]} {0 [0 1]} {0 [1 1]}"
	second := "{1 [1]} {1 [2]} {1 [0 1]} {1 [1 1]} {1 [2 3]} {1 [3 1]} {1 [3 2]} {1 [3 3]} {1 [4 1]} {1 [4 2]} {1 [5 3]} {1 [6 3]}"
	third := "{2 [4]} {2 [2 2]}"
	expectNext(t, s, l, 0, "["+first+" "+second+" "+third+"]")
	expectNext(t, s, l[2:5], 0, "["+second+"]")
	expectNext(t, s, l[5:], 0, "["+third+"]")
}

func TestNextOfOtherLetters(t *testing.T) {
	s := three()
	for _, letter := range []uint{4, 5, 7, 8, 1 << 11, 1 << 12, 1<<12 + 1, 1 << 31, 1 << 32, 1 << 62, 1 << 63, 1<<63 + 1, math.MaxUint} {
		expectNext(t, s, Start(s), letter, "[]")
		expectNext(t, s, nil, letter, "[]")
	}
	// None of the items goes on, but of some.
	expectNext(t, s, Start(s), 0, "[{0 []} {2 [0 1]} {2 [1 1]}]")
	expectNext(t, s, Start(s), 1, "[{0 []} {1 [1]}]")
	expectNext(t, s, Start(s), 2, "[{0 [1]}]")
	expectNext(t, s, Start(s), 3, "[{0 []}]")
	expectNext(t, s, []api.Item{item(1, 2), item(2, 4)}, 1, "[]")
}

func TestNextOfNoItems(t *testing.T) {
	for _, s := range []api.Semi{nil, {}, {set(nil)}, three(), {numbered(21)}} {
		for _, budget := range []int{-1, 0, 1, math.MaxInt} {
			for letter := range uint(3) {
				expectAnswer(t, "no items", ask(meter.New(budget), s, nil, letter), answer{items: "[]"})
			}
		}
		expectAnswer(t, "no items, out already", ask(outAlready(), s, []api.Item{}, 0), answer{"[]", api.OK, 3, true})
	}
}

// expectNumber is of a Carry of the first set, n of tag 0.
func expectNumber(t *testing.T, it api.Item, n int) {
	t.Helper()
	if it.J != 0 || len(it.Carry) != min(n, 1) || n > 0 && it.Carry[0] != n {
		t.Fatalf("%v is not %d of the first set", it, n)
	}
}

func TestNextOfManyPeriods(t *testing.T) {
	s := api.Semi{numbered(20)}
	for letter, end := range []int{105, 104} {
		m := meter.New(1 << 20)
		next, e := Next(m, s, []api.Item{item(0)}, uint(letter))
		if e != api.OK || len(next) != end+1 || m.Spent() != 1<<20 {
			t.Fatalf("%d items, %d, spent %d", len(next), e, m.Spent())
		}
		for i, it := range next {
			expectNumber(t, it, i)
		}
	}
	expectAnswer(t, "20, one less", ask(meter.New(1<<20-1), s, []api.Item{item(0)}, 0), answer{"[]", api.ErrWork, 0, true})
}

// As many Carries as there are choices of an odd sum.
func TestNextOfManyCarries(t *testing.T) {
	var doubled api.Lin
	for i := range 20 {
		doubled.Periods = append(doubled.Periods, api.Bag{1 << i})
	}
	next, e := Next(nil, api.Semi{doubled}, []api.Item{item(0)}, 1)
	if e != api.OK || len(next) != 1<<19 {
		t.Fatalf("%d items, %d", len(next), e)
	}
	for i, it := range next {
		expectNumber(t, it, i)
	}
}

func TestNextOfTooManyPeriods(t *testing.T) {
	s := api.Semi{set(nil, api.Bag{1}, api.Bag{2}), numbered(21), set(api.Bag{1}, api.Bag{1}), numbered(22)}
	s[3].Base = api.Bag{7}
	limit := func(spent int) answer { return answer{"[]", api.ErrLimit, spent, false} }
	for _, carry := range [][]int{nil, {1}, {far}} {
		l := []api.Item{item(1, carry...)}
		for letter := range uint(3) {
			expectAnswer(t, "21", ask(meter.New(math.MaxInt), s, l, letter), limit(0))
			expectAnswer(t, "21 by 0", ask(meter.New(0), s, l, letter), limit(0))
			expectAnswer(t, "21, out already", ask(outAlready(), s, l, letter), answer{"[]", api.ErrLimit, 3, true})
			expectAnswer(t, "21, no bound", ask(nil, s, l, letter), limit(0))
		}
	}
	expectAnswer(t, "22", ask(meter.New(99), s, []api.Item{item(3)}, 0), limit(0))
	// What stands ahead has been spent; by less than that it isn't met.
	ahead := []api.Item{item(0), item(0, 1), item(1), item(2)}
	expectAnswer(t, "ahead", ask(meter.New(99), s, ahead, 0), limit(8))
	expectAnswer(t, "ahead, just enough", ask(meter.New(8), s, ahead, 0), limit(8))
	expectAnswer(t, "ahead, one less", ask(meter.New(7), s, ahead, 0), answer{"[]", api.ErrWork, 4, true})
	expectAnswer(t, "behind", ask(meter.New(99), s, []api.Item{item(2), item(3)}, 0), limit(2))
	// Where no item is of it, there may be more.
	expectAnswer(t, "none of it", ask(meter.New(99), s, []api.Item{item(0), item(2)}, 1), answer{"[{0 []} {0 [1]} {2 []}]", api.OK, 6, false})
}

func TestNextBeyondFar(t *testing.T) {
	s := api.Semi{set(nil, api.Bag{1}), set(nil, api.Bag{3}, api.Bag{0, far}), set(api.Bag{1}, api.Bag{1, 1})}
	limit := func(spent int) answer { return answer{"[]", api.ErrLimit, spent, false} }
	half := far / 2
	for _, x := range []struct {
		l    []api.Item
		want answer
	}{
		{[]api.Item{item(0, far-1)}, answer{fmt.Sprint([]api.Item{item(0, half)}), api.OK, 2, false}},
		{[]api.Item{item(0, far)}, limit(2)},
		{[]api.Item{item(0, far, 1)}, limit(2)},
		{[]api.Item{item(1)}, answer{fmt.Sprint([]api.Item{item(1), item(1, 0, half)}), api.OK, 4, false}},
		{[]api.Item{item(1, 0, 1)}, limit(4)},
		{[]api.Item{item(1, far-3)}, answer{fmt.Sprint([]api.Item{item(1, half), item(1, half, half)}), api.OK, 4, false}},
		{[]api.Item{item(1, far-2)}, limit(4)},
		{[]api.Item{item(2, 7, far)}, limit(2)},
		// Another tag's number may be Far.
		{[]api.Item{item(0, 2, far)}, answer{fmt.Sprint([]api.Item{item(0, 1, half)}), api.OK, 2, false}},
		// What stands ahead has been spent, what stands behind has not.
		{[]api.Item{item(0), item(0, far), item(2)}, limit(4)},
		{[]api.Item{item(0, 5), item(1, 4), item(1, 0, 2), item(2)}, limit(10)},
	} {
		expectAnswer(t, fmt.Sprint(x.l), ask(meter.New(99), s, x.l, 0), x.want)
		expectAnswer(t, fmt.Sprint(x.l, ", just enough"), ask(meter.New(x.want.spent), s, x.l, 0), x.want)
	}
	// A choice is too much even if its letter would be another, and if others come to nothing.
	for letter := range uint(4) {
		expectAnswer(t, "any letter", ask(nil, s, []api.Item{item(0, far)}, letter), limit(0))
	}
	// Two of the periods together are too much, none alone.
	pair := api.Semi{set(nil, api.Bag{half}, api.Bag{half + 1})}
	expectAnswer(t, "a pair", ask(nil, pair, []api.Item{item(0)}, 0), limit(0))
	pair = api.Semi{set(nil, api.Bag{half - 1}, api.Bag{half + 1})}
	expectAnswer(t, "a pair that fits", ask(nil, pair, []api.Item{item(0)}, 0), answer{items: fmt.Sprint([]api.Item{item(0), item(0, half)})})
	expectAnswer(t, "a pair and a carry", ask(nil, pair, []api.Item{item(0, 1)}, 0), limit(0))
	// All three of the periods are wanted for it, whichever tag it is of.
	many := api.Semi{set(nil, api.Bag{1, 1, 1}, api.Bag{1, 1, 2}, api.Bag{2, 2, 3})}
	for tag := range 3 {
		w := api.Bag{far - 4, far - 4, far - 6}
		expectAnswer(t, "just Far", ask(nil, many, []api.Item{{Carry: w}}, 0), answer{items: fmt.Sprint([]api.Item{item(0, half-2, half-2, half-3), item(0, half, half, half)})})
		w[tag]++
		expectAnswer(t, "one more", ask(nil, many, []api.Item{{Carry: w}}, 0), limit(0))
	}
}

func TestNextRefuses(t *testing.T) {
	expectRefused := func(name string, s api.Semi, l []api.Item) {
		for _, letter := range []uint{0, 1, math.MaxUint} {
			for _, budget := range []int{math.MaxInt, 100, 1, 0, -1} {
				expectAnswer(t, name, ask(meter.New(budget), s, l, letter), answer{"[]", api.ErrArg, 0, false})
			}
			expectAnswer(t, name+", out already", ask(outAlready(), s, l, letter), answer{"[]", api.ErrArg, 3, true})
			expectAnswer(t, name+", no bound", ask(nil, s, l, letter), answer{items: "[]", e: api.ErrArg})
		}
	}
	for name, s := range wrongSemis() {
		expectRefused(name, s, nil)
		expectRefused(name, s, []api.Item{item(0)})
	}
	s := append(three(), api.Lin{Base: api.Bag{0, 3}, Periods: numbered(21).Periods})
	for name, w := range wrongWords() {
		expectRefused(name, s, []api.Item{{Carry: w}})
		// The last item is wrong; those ahead would be too much.
		expectRefused(name, s, []api.Item{item(0), item(0, far), {J: 3, Carry: w}})
	}
	expectRefused("two alike", s, []api.Item{item(0, far), item(0, far)})
	expectRefused("two that fall", s, []api.Item{item(3), item(0)})
	expectRefused("J below 0", s, []api.Item{item(-1)})
	expectRefused("J just how many", s, []api.Item{item(3), item(4)})
	expectRefused("of no set", nil, []api.Item{item(0)})
}

func TestNextBesideErrors(t *testing.T) {
	s := api.Semi{set(nil, api.Bag{1}), numbered(21)}
	for e, l := range map[api.Errno][]api.Item{
		api.ErrArg:   {item(0), item(2)},
		api.ErrLimit: {item(0), item(0, far)},
		api.ErrWork:  {item(0), item(0, 1), item(0, 2)},
	} {
		if next, got := Next(meter.New(5), s, l, 0); len(next) != 0 || got != e {
			t.Errorf("Next of %v is %v, %d", l, next, got)
		}
	}
	if next, e := Next(meter.New(5), s, []api.Item{item(0), item(1)}, 0); len(next) != 0 || e != api.ErrLimit {
		t.Errorf("Next is %v, %d", next, e)
	}
}
