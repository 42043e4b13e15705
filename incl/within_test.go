package incl

import (
	"fmt"
	"slices"
	"testing"

	"columbary/api"
	"columbary/semi"
)

// expectWithin asks without a bound.
func expectWithin(t *testing.T, a, b api.Semi, want string) {
	t.Helper()
	expectTold(t, fmt.Sprintf("Within(%v, %v)", a, b), inside(a, b), want)
}

func TestWithin(t *testing.T) {
	for _, x := range []struct{ a, b, want string }{
		{"1", "1", "true []"},
		{"1", "1 + a", "true []"},
		{"1", "*a", "true []"},
		{"1", "0", "false []"},
		{"1", "a", "false []"},
		{"a", "a", "true []"},
		{"a", "a + b", "true []"},
		{"a", "*a", "true []"},
		{"a", "1", "false [1]"},
		{"a", "b", "false [1]"},
		{"b", "a", "false [0 1]"},
		{"a", "a^2", "false [1]"},
		{"a", "a . b", "false [1]"},
		{"a . b", "b . a", "true []"},
		{"a . b", "a + b", "false [1 1]"},
		{"a + b", "a", "false [0 1]"},
		{"a + b", "b", "false [1]"},
		{"*a", "*a", "true []"},
		{"*a", "1 + a . *a", "true []"},
		{"*a", "a . *a", "false []"},
		{"a . *a", "*a", "true []"},
		{"*a", "*(a^2)", "false [1]"},
		{"*(a^2)", "*a", "true []"},
		{"*a", "*(a^2) + a . *(a^2)", "true []"},
		{"*a", "*(a^2 + a^3)", "false [1]"},
		{"a^2 . *a", "*(a^2 + a^3)", "true []"},
		{"a^6 . *(a^6)", "*(a^2 + a^3)", "true []"},
		{"*(a^3 + a^5)", "1 + a^3 + a^5 + a^6 + a^8 . *a", "true []"},
		{"1 + a^3 + a^5 + a^6 + a^8 . *a", "*(a^3 + a^5)", "true []"},
		{"*(a^6)", "*(a^2 + b)", "true []"},
		{"*(a + b)", "*a . *b", "true []"},
		{"*a . *b", "*(a + b)", "true []"},
		{"*(a . b)", "*a . *b", "true []"},
		{"*a . *b", "*(a . b)", "false [1]"},
		{"*(a + b + c)", "*a . *b + *a . *c + *b . *c", "false [1 1 1]"},
		{"*(a . b + c)", "*(a + b + c)", "true []"},
		{"c . *(a . b^2) . *b", "c . *a . *b", "true []"},
	} {
		expectTold(t, x.a+" in "+x.b, inside(of(t, x.a), of(t, x.b)), x.want)
	}
}

// No set has no words, so each of them is a word of any.
func TestWithinOfNothing(t *testing.T) {
	for _, b := range append(rightSemis(), smallSemis()...) {
		expectWork(t, fmt.Sprintf("Within(none, %v)", b), inside(nil, b), "true []", api.OK)
		expectWork(t, fmt.Sprintf("Within(empty, %v)", b), inside(api.Semi{}, b), "true []", api.OK)
	}
}

// Of a set of words alone the first is told; with Periods one may be found ahead of it.
func TestWithinNothing(t *testing.T) {
	for _, x := range []struct {
		a    api.Semi
		want string
	}{
		{semi.One(), "false []"},
		{word(1), "false [1]"},
		{word(6, 0, 3), "false [6 0 3]"},
		{api.Semi{set(api.Bag{3}), set(api.Bag{0, 1})}, "false [3]"},
		{api.Semi{numbered(21)}, "false []"},
		{api.Semi{set(api.Bag{2}, api.Bag{1})}, "false [2]"},
		{api.Semi{set(api.Bag{2}, api.Bag{0, 1})}, "false [2]"},
		// Words of fewer letters are met first, and of those the one with the choice of the lower number.
		{api.Semi{set(api.Bag{3}, api.Bag{1})}, "false [3]"},
		{api.Semi{set(api.Bag{6}, api.Bag{1})}, "false [6]"},
		{api.Semi{set(api.Bag{3}, api.Bag{5})}, "false [3]"},
		{api.Semi{{Base: last(5)}}, "false [0 0 0 0 0 0 0 0 0 0 0 5]"},
	} {
		expectWithin(t, x.a, nil, x.want)
		expectWithin(t, x.a, api.Semi{}, x.want)
	}
}

func TestWithinRefuses(t *testing.T) {
	for name, wrong := range wrongSemis() {
		for _, right := range rightSemis() {
			expectRefused(t, fmt.Sprint("Within of ", name, ", in ", right), inside(wrong, right))
			expectRefused(t, fmt.Sprint("Within of ", right, ", in ", name), inside(right, wrong))
		}
		for other, too := range wrongSemis() {
			expectRefused(t, "Within of "+name+", in "+other, inside(wrong, too))
		}
	}
}

// The sets of a are searched one by one, in order: the first that has a word that is none of b's, or an error, ends it.
func TestWithinTellsOfTheFirstSet(t *testing.T) {
	far1 := set(api.Bag{far}, api.Bag{1})
	for _, x := range []struct {
		a, b api.Semi
		want string
		e    api.Errno
	}{
		{api.Semi{set(nil), set(api.Bag{1}), set(api.Bag{3})}, semi.One(), "false [1]", api.OK},
		{api.Semi{set(nil), set(api.Bag{1}), set(api.Bag{3})}, api.Semi{set(nil), set(api.Bag{1})}, "false [3]", api.OK},
		{api.Semi{set(nil), set(api.Bag{1}), set(api.Bag{3})}, word(1), "false []", api.OK},
		// The second has the shorter word.
		{api.Semi{set(nil, api.Bag{9}), set(api.Bag{1})}, semi.One(), "false [9]", api.OK},
		{api.Semi{set(api.Bag{64}), set(api.Bag{0, 1})}, nil, "false [64]", api.OK},
		{api.Semi{set(api.Bag{64}), set(api.Bag{0, 1})}, word(64), "false [0 1]", api.OK},
		{api.Semi{set(nil, api.Bag{1}), set(nil, api.Bag{0, 1}), set(nil, api.Bag{0, 0, 1})}, api.Semi{set(nil, api.Bag{1}), set(nil, api.Bag{0, 0, 1})}, "false [0 1]", api.OK},
		// 6 is put in behind 7.
		{api.Semi{set(api.Bag{5}), set(api.Bag{5}, api.Bag{1})}, word(5), "false [7]", api.OK},
		// An error behind a word is not met.
		{api.Semi{set(api.Bag{1}), numbered(21, 2)}, semi.One(), "false [1]", api.OK},
		{api.Semi{set(api.Bag{1}), far1}, semi.One(), "false [1]", api.OK},
		{api.Semi{set(api.Bag{1}), numbered(21, 2)}, word(1), "false []", api.ErrLimit},
		// A word behind an error is not, either.
		{api.Semi{numbered(21), set(api.Bag{1})}, semi.One(), "false []", api.ErrLimit},
		{api.Semi{far1, set(api.Bag{0, 1})}, semi.One(), "false []", api.ErrLimit},
		{api.Semi{numbered(21), set(api.Bag{1})}, nil, "false []", api.OK},
	} {
		expectAnswer(t, fmt.Sprintf("Within(%v, %v)", x.a, x.b), ask(nil, inside(x.a, x.b)), answer{told: x.want, e: x.e})
	}
}

// Which of the words is told hangs on the order in which pairs are put in, and on what was met.
func TestWithinTellsTheWordThatIsMetFirst(t *testing.T) {
	p1, p2 := api.Bag{1}, api.Bag{2}
	for _, x := range []struct {
		a, b api.Semi
		want string
	}{
		// The first of the periods is the choice of number 1, the second of number 2, both are 3.
		{api.Semi{set(nil, p1, api.Bag{0, 1})}, semi.One(), "false [1]"},
		{api.Semi{set(nil, p1, api.Bag{0, 1}, api.Bag{0, 0, 1})}, semi.One(), "false [1]"},
		{api.Semi{set(nil, p1, api.Bag{0, 1})}, api.Semi{set(nil, p1)}, "false [0 1]"},
		{api.Semi{set(nil, p1, api.Bag{0, 1})}, api.Semi{set(nil, p1), set(nil, api.Bag{0, 1})}, "false [1 1]"},
		{api.Semi{set(nil, p1, api.Bag{0, 1}, api.Bag{0, 0, 1})}, api.Semi{set(nil, p1), set(nil, api.Bag{0, 1})}, "false [1 1]"},
		{api.Semi{set(nil, p1, api.Bag{0, 1}, api.Bag{0, 0, 1})}, api.Semi{set(nil, p1), set(nil, api.Bag{0, 1}), set(api.Bag{1, 1})}, "false [0 0 1]"},
		{api.Semi{set(nil, p1, api.Bag{0, 1}, api.Bag{0, 0, 1})}, api.Semi{set(nil, api.Bag{0, 0, 1}), set(nil, p1, api.Bag{0, 1})}, "false [1 0 1]"},
		// 1 and 2 come to a carry of 1 and none of b's; 1 is put in ahead of 2, and then 3 behind it.
		{api.Semi{set(p1, p1)}, word(1), "false [3]"},
		{api.Semi{set(p1, p2)}, word(1), "false [3]"},
		// 0 is put in ahead of 1, so 2 ahead of 3.
		{api.Semi{set(nil, p1)}, api.Semi{set(nil), set(p1)}, "false [2]"},
		{api.Semi{set(nil, p1)}, api.Semi{set(nil), set(p1), set(p2)}, "false [3]"},
		{api.Semi{set(nil, p1)}, api.Semi{set(nil), set(p1), set(p2), set(api.Bag{3})}, "false [4]"},
		// 2 is put in first, but goes on; a letter of b is an end.
		{api.Semi{set(nil, p2, api.Bag{0, 1})}, semi.One(), "false [0 1]"},
		{api.Semi{set(nil, p2, api.Bag{3})}, semi.One(), "false [2]"},
		{api.Semi{set(nil, api.Bag{4}, api.Bag{0, 2}, api.Bag{0, 0, 1})}, semi.One(), "false [0 0 1]"},
		{api.Semi{set(nil, api.Bag{4}, api.Bag{0, 4}, api.Bag{0, 0, 4})}, semi.One(), "false [4]"},
		{api.Semi{set(nil, api.Bag{7}, api.Bag{0, 4}, api.Bag{0, 0, 5})}, semi.One(), "false [7]"},
		{api.Semi{set(nil, api.Bag{8}, api.Bag{0, 7}, api.Bag{0, 0, 5})}, semi.One(), "false [0 7]"},
	} {
		expectWithin(t, x.a, x.b, x.want)
		expectModel(t, x.a, x.b)
	}
}

func TestWithinTellsWordsOfManyLetters(t *testing.T) {
	for _, w := range []api.Bag{
		{2}, {3}, {4}, {5}, {6}, {1000}, {1023}, {1024}, {0, 77}, {77, 0, 5}, {1, 2, 4, 8, 16, 32}, {64, 32, 16, 8, 4, 2, 1}, last(100), {999999999, 1, 999999998},
		{1<<59 - 1}, {1 << 59}, {far - 1}, {1, far - 1, 1 << 59}, last(far - 1), slices.Repeat(api.Bag{far - 1}, api.MaxMsgs), slices.Repeat(api.Bag{1 << 59}, api.MaxMsgs),
	} {
		told := fmt.Sprint("false ", []int(w))
		expectWithin(t, api.Semi{set(w)}, nil, told)
		expectWithin(t, api.Semi{set(w)}, semi.One(), told)
		less, more := slices.Clone(w), slices.Clone(w)
		less[0], more[len(w)-1] = max(0, w[0]-1), w[len(w)-1]+1
		expectWithin(t, api.Semi{set(w)}, api.Semi{set(more)}, told)
		if w[0] > 1 {
			expectWithin(t, api.Semi{set(w)}, api.Semi{set(less)}, told)
			expectWithin(t, api.Semi{set(w)}, api.Semi{set(less), set(more)}, told)
		}
	}
}

func TestWithinItself(t *testing.T) {
	sets := append(smallSemis(), of(t, "*(a^3 + a^5) + b . *c"), of(t, "c . *(a . b^2) . *b"), of(t, "1 + a + b + c^9 + *(a . b . c)"))
	for i, s := range sets {
		if len(s) > 1 && i%4 > 0 {
			continue
		}
		expectWithin(t, s, s, "true []")
		if i%9 == 0 {
			other := sets[(i+70)%len(sets)]
			expectWithin(t, s, semi.Union(s, other), "true []")
			expectWithin(t, s, semi.Union(other, s), "true []")
		}
		for _, l := range s {
			expectWithin(t, api.Semi{l}, s, "true []")
			expectWithin(t, api.Semi{set(l.Base)}, s, "true []")
		}
	}
}

func TestWithinOfGreatNumbers(t *testing.T) {
	const n = 999999999
	for _, x := range []struct {
		a, b api.Semi
		want string
	}{
		{word(n), word(n), "true []"},
		{word(n), api.Semi{set(api.Bag{n}), set(api.Bag{n + 1})}, "true []"},
		{word(n), word(n + 1), "false [999999999]"},
		{word(n + 1), word(n), "false [1000000000]"},
		{word(n, n), word(n, n), "true []"},
		{word(n, n), word(n, n+1), "false [999999999 999999999]"},
		{word(n), api.Semi{set(nil, api.Bag{1})}, "true []"},
		{word(n), api.Semi{set(nil, api.Bag{3})}, "true []"},
		{word(n + 1), api.Semi{set(nil, api.Bag{3})}, "false [1000000000]"},
		{word(n), api.Semi{set(nil, api.Bag{n})}, "true []"},
		{word(3 * n), api.Semi{set(nil, api.Bag{n})}, "true []"},
		{word(3*n + 1), api.Semi{set(nil, api.Bag{n})}, "false [2999999998]"},
		// The highest digit of n that is 0 becomes 1: up to there both sets have the same letters.
		{api.Semi{set(api.Bag{n}, api.Bag{1})}, word(n), "false [1067108863]"},
		{api.Semi{set(api.Bag{n}, api.Bag{1})}, api.Semi{set(nil, api.Bag{1})}, "true []"},
		{api.Semi{set(nil, api.Bag{1000})}, api.Semi{set(nil, api.Bag{8})}, "true []"},
		{api.Semi{set(nil, api.Bag{1000})}, api.Semi{set(nil, api.Bag{125})}, "true []"},
		{api.Semi{set(nil, api.Bag{1000})}, api.Semi{set(nil, api.Bag{1000})}, "true []"},
		{api.Semi{set(nil, api.Bag{1000})}, api.Semi{set(nil, api.Bag{1001})}, "false [1000]"},
		{api.Semi{set(nil, api.Bag{1001})}, api.Semi{set(nil, api.Bag{7}), set(nil, api.Bag{1001})}, "true []"},
		{api.Semi{set(nil, api.Bag{65537})}, api.Semi{set(nil, api.Bag{1})}, "true []"},
		{api.Semi{set(api.Bag{1}, api.Bag{1000})}, api.Semi{set(api.Bag{1}, api.Bag{500})}, "true []"},
		{api.Semi{set(last(n))}, api.Semi{set(last(n), last(n))}, "true []"},
	} {
		expectWithin(t, x.a, x.b, x.want)
	}
}

// Numbers of more than one figure that stand in unlike places, so that pairs are alike in their figures, and only there.
func TestWithinOfNumbersOfManyFigures(t *testing.T) {
	var sets []api.Semi
	for _, base := range []api.Bag{nil, {1}, {11}, {111}, {1, 1}, {1, 11}, {11, 1}, {111, 1}, {1, 111}, {22, 2}, {2, 22}} {
		sets = append(sets, api.Semi{set(base)}, api.Semi{set(base, api.Bag{1, 11})}, api.Semi{set(base, api.Bag{22, 2})}, api.Semi{set(base, api.Bag{10}, api.Bag{0, 10})})
	}
	for i, a := range sets {
		for j, b := range sets {
			both := semi.Union(b, sets[(i*5+j*3)%len(sets)])
			expectModel(t, a, b)
			expectModel(t, a, both)
		}
	}
}

// An item of set 1 that carries 12 is no item of set 11 that carries 2, behind another letter.
func TestWithinOfManySets(t *testing.T) {
	b := api.Semi{set(api.Bag{2}), set(api.Bag{25})}
	for n := range 9 {
		b = append(b, set(api.Bag{1, 2*n + 1}))
	}
	b = append(b, set(api.Bag{4, 1}))
	expectModel(t, api.Semi{set(api.Bag{0, 0, 2}, api.Bag{1}, api.Bag{0, 1})}, b)
	expectModel(t, api.Semi{set(nil, api.Bag{1}, api.Bag{0, 1})}, append(api.Semi{set(nil)}, b...))
	expectModel(t, b, b)
}
