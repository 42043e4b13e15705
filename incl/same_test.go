package incl

import (
	"fmt"
	"testing"

	"columbary/api"
	"columbary/meter"
	"columbary/semi"
)

func TestSame(t *testing.T) {
	for _, x := range []struct {
		a, b string
		want bool
	}{
		{"0", "0", true},
		{"0", "a . 0", true},
		{"1", "1", true},
		{"1", "*0", true},
		{"a", "a", true},
		{"a . b", "b . a", true},
		// Written otherwise.
		{"a . *a", "*a . a", true},
		{"*a", "1 + a . *a", true},
		{"*a", "*(a^2) + a . *(a^2)", true},
		{"*a", "*(a + a^2)", true},
		{"*(a + b)", "*a . *b", true},
		{"*(a^3 + a^5)", "1 + a^3 + a^5 + a^6 + a^8 . *a", true},
		{"*(a^2 + a^3)", "1 + a^2 . *a", true},
		// One is within the other alone.
		{"0", "1", false},
		{"1", "*a", false},
		{"a", "a + b", false},
		{"*a", "a . *a", false},
		{"*(a^2)", "*a", false},
		{"*(a . b)", "*a . *b", false},
		{"*(a^2 + a^3)", "*a", false},
		// Neither is within the other.
		{"1", "a", false},
		{"a", "b", false},
		{"a . b", "a + b", false},
		{"*a", "*b", false},
		{"*(a^2)", "*(a^3)", false},
	} {
		a, b := of(t, x.a), of(t, x.b)
		expectTold(t, x.a+" and "+x.b, same(a, b), fmt.Sprint(x.want))
		expectTold(t, x.b+" and "+x.a, same(b, a), fmt.Sprint(x.want))
	}
}

// Both ways are paid, the second one behind the first; where the first says no, the second is not asked.
func TestSameWork(t *testing.T) {
	for _, x := range []struct {
		a, b   string
		want   string
		spends []int
	}{
		{"0", "0", "true", nil},
		{"1", "1", "true", []int{1, 1, 1, 1}},
		{"a", "a", "true", []int{1, 1, 1, 1, 1, 1, 1, 1}},
		{"*a", "*a", "true", []int{1, 2, 2, 1, 2, 2}},
		{"1", "*a", "false", []int{1, 2, 1, 1, 1, 1}},
		{"*a", "1", "false", []int{1, 1, 1, 1}},
		{"0", "a", "false", []int{1, 1}},
		{"a", "0", "false", []int{1, 1}},
		{"1", "0", "false", []int{1}},
		{"0", "1", "false", []int{1}},
		{"a", "b", "false", []int{1, 1, 1}},
	} {
		expectWork(t, x.a+" and "+x.b, same(of(t, x.a), of(t, x.b)), x.want, api.OK, x.spends...)
	}
	for _, x := range [][2]string{{"*a", "*(a^2) + a . *(a^2)"}, {"*a . *b", "*(a + b)"}, {"*(a^2 + a^3)", "1 + a^2 . *a"}} {
		a, b := of(t, x[0]), of(t, x[1])
		_, _, first := modelWithin(a, b)
		_, _, second := modelWithin(b, a)
		expectWork(t, x[0]+" and "+x[1], same(a, b), "true", api.OK, append(first, second...)...)
	}
}

func TestSameRefuses(t *testing.T) {
	for name, wrong := range wrongSemis() {
		for _, right := range rightSemis() {
			expectRefused(t, fmt.Sprint("Same of ", name, " and ", right), same(wrong, right))
			expectRefused(t, fmt.Sprint("Same of ", right, " and ", name), same(right, wrong))
		}
		expectRefused(t, "Same of "+name+", twice", same(wrong, wrong))
	}
}

func TestSameTellsErrors(t *testing.T) {
	many, far1 := api.Semi{numbered(21, 1)}, api.Semi{set(api.Bag{far}, api.Bag{1})}
	// Of the first; the second is not asked.
	expectWork(t, "many, nothing", same(many, nil), "false", api.ErrLimit, 1)
	expectWork(t, "too much, nothing", same(far1, nil), "false", api.ErrLimit, 1, 1)
	expectWork(t, "many, twice", same(many, many), "false", api.ErrLimit, 1)
	expectWork(t, "too many letters", same(word(far), word(far)), "false", api.ErrLimit, append(turns(60, 1, 1), 1)...)
	// Of the second.
	expectWork(t, "nothing, many", same(nil, many), "false", api.ErrLimit, 1)
	expectWork(t, "nothing, too much", same(nil, far1), "false", api.ErrLimit, 1, 1)
	expectWork(t, "nothing, too many letters", same(nil, word(far)), "false", api.ErrLimit, turns(61, 1)...)
	// The first says no where the second would tell an error.
	expectWork(t, "one, many", same(semi.One(), many), "false", api.OK, 1)
	expectWork(t, "one, too much", same(semi.One(), far1), "false", api.OK, 1)
}

// What was spent ahead of a call is not given back, and counts.
func TestSameOfAMeterThatIsUsedAgain(t *testing.T) {
	a := word(1)
	m := meter.New(23)
	expectAnswer(t, "first", ask(m, same(a, a)), answer{"true", api.OK, 8, false})
	expectAnswer(t, "refused by its arguments", ask(m, same(a, word(0))), answer{"false", api.ErrArg, 8, false})
	expectAnswer(t, "no", ask(m, same(a, nil)), answer{"false", api.OK, 10, false})
	expectAnswer(t, "second", ask(m, same(a, a)), answer{"true", api.OK, 18, false})
	expectAnswer(t, "third, out behind the first way", ask(m, same(a, a)), answer{"false", api.ErrWork, 23, true})
	expectAnswer(t, "behind it", ask(m, same(a, a)), answer{"false", api.ErrWork, 23, true})
	expectAnswer(t, "behind it, of nothing", ask(m, same(nil, nil)), answer{"true", api.OK, 23, true})
	expectAnswer(t, "behind it, refused by its arguments", ask(m, same(word(0), nil)), answer{"false", api.ErrArg, 23, true})
	expectAnswer(t, "another meter", ask(meter.New(8), same(a, a)), answer{"true", api.OK, 8, false})
}
