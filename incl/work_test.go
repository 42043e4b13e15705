package incl

import (
	"fmt"
	"math"
	"slices"
	"testing"

	"columbary/api"
	"columbary/meter"
	"columbary/semi"
)

// turns are so many times these, one after the other.
func turns(times int, spends ...int) []int {
	return slices.Repeat(spends, times)
}

// A pair that is put in costs 1, and auto.Next what it costs; a pair that was met costs no 1 of its own.
func TestWithinWork(t *testing.T) {
	for _, x := range []struct {
		a, b   string
		want   string
		spends []int
	}{
		{"0", "0", "true []", nil},
		{"0", "*a", "true []", nil},
		// Put in, and a word that is none.
		{"1", "0", "false []", []int{1}},
		{"1", "a", "false []", []int{1}},
		{"1", "*a . b", "false []", []int{1}},
		// Put in; a letter; met.
		{"1", "1", "true []", []int{1, 1}},
		{"1", "*a", "true []", []int{1, 2}},
		{"1", "*(a + b + c)", "true []", []int{1, 8}},
		// Put in; a letter; put in; and so on. Of no items a letter costs nothing.
		{"a", "0", "false [1]", []int{1, 1}},
		{"a^8", "0", "false [8]", []int{1, 1, 1, 1, 1}},
		{"a", "1", "false [1]", []int{1, 1, 1}},
		{"a", "a", "true []", []int{1, 1, 1, 1}},
		{"a", "b", "false [1]", []int{1, 1, 1}},
		{"a^2", "a", "false [2]", []int{1, 1, 1, 1}},
		{"a", "a^2", "false [1]", []int{1, 1, 1}},
		{"a^5", "a^5", "true []", []int{1, 1, 1, 1, 1, 1, 1, 1}},
		{"a^5", "a + a^4 + a^5", "true []", []int{1, 1, 1, 1, 1, 1, 1, 1, 1, 1, 1, 1}},
		// Both choices of one period; both of the pairs behind it were met.
		{"*a", "1", "false [1]", []int{1, 1, 1, 1}},
		{"*a", "*a", "true []", []int{1, 2, 2}},
		{"a . *a", "a", "false [3]", []int{1, 1, 1, 1, 1, 1, 1, 1}},
		// 0 and 3 put in 0 (met), 1; 1 and 4 put in 0 (met), 2; 2 and 5 put in 1 (met), 2 (met).
		{"*(a^3)", "*a", "true []", []int{1, 2, 2, 1, 2, 2, 1, 2, 2}},
		{"*(a + b)", "*a", "false [0 1]", []int{1, 2, 2, 2, 1, 2}},
		{"*(a + b)", "*(a + b)", "true []", []int{1, 4, 4, 4, 4}},
		{"*(a + b + c)", "*(a + b + c)", "true []", turns(1, 1, 8, 8, 8, 8, 8, 8, 8, 8)},
		// Two sets of a, each with a search of its own; what was met in the first is put in again.
		{"1 + *a", "*a", "true []", []int{1, 2, 1, 2, 2}},
		{"1 + a", "1", "false [1]", []int{1, 1, 1, 1, 1}},
		{"1 + a", "1 + a", "true []", []int{1, 1, 1, 1, 1, 1, 1, 1, 1, 1}},
	} {
		expectWork(t, x.a+" in "+x.b, inside(of(t, x.a), of(t, x.b)), x.want, api.OK, x.spends...)
	}
}

// With each budget up to what it costs, as the chapter says step by step.
func TestWithinByEachBudget(t *testing.T) {
	for _, x := range [][2]string{
		{"*a", "*(a^2) + a . *(a^4)"}, {"*a", "*(a^2) + a . *(a^2)"}, {"*(a^3 + a^5)", "1 + a^3 + a^5 + a^6 + a^8 . *a"}, {"c . *(a . b^2) . *b", "c . *a . *b"}, {"*(a + b)", "*(a . b) + a . *a + b . *b"},
	} {
		a, b := of(t, x[0]), of(t, x[1])
		told, e, spends := modelWithin(a, b)
		expectWork(t, x[0]+" in "+x[1], inside(a, b), told, e, spends...)
		told, e, spends = modelWithin(b, a)
		expectWork(t, x[1]+" in "+x[0], inside(b, a), told, e, spends...)
	}
}

func TestWithinOfManyPeriods(t *testing.T) {
	m := meter.New(math.MaxInt)
	// All choices come to 0 to 105 behind a letter, without items of b: of that 1 was met, as the first pair.
	expectAnswer(t, "20 in nothing", ask(m, inside(api.Semi{numbered(20, 1)}, nil)), answer{"false [1]", api.OK, 106, false})
	// Each choice is a letter. Even sums come to 0, which was met, to 105, odd ones to 0 to 104 without items.
	cost := 1 + 1<<20 + 105 + 105
	many := inside(api.Semi{numbered(20)}, semi.One())
	expectAnswer(t, "20", ask(meter.New(cost), many), answer{"false [1]", api.OK, cost, false})
	expectAnswer(t, "20, one less", ask(meter.New(cost-1), many), answer{"false []", api.ErrWork, cost - 1, true})

	for _, periods := range []int{21, 22, 40} {
		one := api.Semi{numbered(periods, 1)}
		expectWork(t, "many in nothing", inside(one, nil), "false []", api.ErrLimit, 1)
		expectWork(t, "many in many", inside(one, one), "false []", api.ErrLimit, 1)
		expectWork(t, "many in one", inside(api.Semi{numbered(periods)}, semi.One()), "false []", api.ErrLimit, 1)
		// A word that is none is told ahead of that.
		expectWork(t, "nothing of many in nothing", inside(api.Semi{numbered(periods)}, nil), "false []", api.OK, 1)
		expectWork(t, "nothing of many in a", inside(api.Semi{numbered(periods)}, word(1)), "false []", api.OK, 1)
		expectWork(t, "a set behind", inside(api.Semi{set(nil), numbered(periods, 1)}, semi.One()), "false []", api.ErrLimit, 1, 1, 1)
		expectWork(t, "a set ahead", inside(api.Semi{numbered(periods, 1), set(api.Bag{2})}, word(2)), "false []", api.ErrLimit, 1)
	}
}

// What auto.Next tells of b is told.
func TestWithinTellsNextsErrors(t *testing.T) {
	many, tooMuch := numbered(21), set(api.Bag{far}, api.Bag{1})
	for name, x := range map[string]struct {
		a, b   api.Semi
		spends []int
	}{
		"many":               {semi.One(), api.Semi{many}, []int{1}},
		"many, a word":       {word(3), api.Semi{many}, []int{1}},
		"many, behind":       {semi.One(), api.Semi{set(nil), many}, []int{1, 1}},
		"too much":           {word(1), api.Semi{tooMuch}, []int{1, 2}},
		"too much, behind":   {semi.One(), api.Semi{set(nil), tooMuch}, []int{1, 1, 2}},
		"too much, twice":    {semi.One(), api.Semi{set(nil), tooMuch, set(api.Bag{far}, api.Bag{2})}, []int{1, 1, 2}},
		"too much, at last":  {word(3), api.Semi{set(nil, api.Bag{far - 1})}, []int{1, 2, 1, 2}},
		"too much, a period": {api.Semi{set(nil, api.Bag{1})}, api.Semi{set(nil, api.Bag{1}), set(nil, api.Bag{far - 1})}, []int{1, 2, 2, 2, 2, 1, 2, 2}},
		"many, a set behind": {api.Semi{set(nil), set(api.Bag{1})}, api.Semi{set(nil), many}, []int{1, 1}},
	} {
		expectWork(t, name, inside(x.a, x.b), "false []", api.ErrLimit, x.spends...)
	}
	// A word that is none is told ahead of that.
	expectWork(t, "too much, nothing", inside(semi.One(), api.Semi{tooMuch}), "false []", api.OK, 1)
	expectWork(t, "too much, behind a word", inside(api.Semi{set(nil, api.Bag{1})}, api.Semi{set(nil, api.Bag{far - 1})}), "false [1]", api.OK, 1, 2, 2, 1)
	expectWork(t, "many and one", inside(semi.One(), api.Semi{numbered(21, 1)}), "false []", api.OK, 1)
}

// A sum of a's own is looked at choice by choice: what is ahead of it was spent.
func TestWithinBeyondFar(t *testing.T) {
	half := far / 2
	for name, x := range map[string]struct {
		a, b   api.Semi
		spends []int
	}{
		"the only period":      {api.Semi{set(api.Bag{far}, api.Bag{1})}, semi.One(), []int{1, 1, 1}},
		"in nothing":           {api.Semi{set(api.Bag{far}, api.Bag{1})}, nil, []int{1, 1}},
		"another tag":          {api.Semi{set(api.Bag{2, far}, api.Bag{1, 1})}, semi.One(), []int{1, 1, 1}},
		"the second alone":     {api.Semi{set(api.Bag{0, far}, api.Bag{2}, api.Bag{0, 1})}, nil, []int{1, 1, 1}},
		"the first alone":      {api.Semi{set(api.Bag{far}, api.Bag{2}, api.Bag{0, 1})}, nil, []int{1, 1}},
		"both, neither alone":  {api.Semi{set(nil, api.Bag{half}, api.Bag{half + 1})}, semi.One(), []int{1, 1, 1, 1, 1, 1}},
		"with the base":        {api.Semi{set(api.Bag{2}, api.Bag{half - 1}, api.Bag{half})}, nil, []int{1, 1, 1, 1}},
		"three":                {api.Semi{set(nil, api.Bag{1, 1}, api.Bag{1, half}, api.Bag{2, half})}, semi.One(), turns(13, 1)},
		"at the second letter": {api.Semi{set(nil, api.Bag{far - 1})}, semi.One(), []int{1, 1, 1, 1, 1}},
	} {
		told, e, spends := modelWithin(x.a, x.b)
		if told != "false []" || e != api.ErrLimit || !slices.Equal(spends, x.spends) {
			t.Errorf("%s: the model is %s, %d, %v", name, told, e, spends)
		}
		expectWork(t, name, inside(x.a, x.b), "false []", api.ErrLimit, x.spends...)
	}
	// A word may be told ahead of a sum that is too much; just Far is not.
	expectWork(t, "ahead of it", inside(api.Semi{set(nil, api.Bag{far})}, nil), "false []", api.OK, 1)
	expectWork(t, "just Far", inside(api.Semi{set(api.Bag{1}, api.Bag{far - 1})}, nil), "false [1]", api.OK, 1, 1, 1)
	expectWork(t, "one more", inside(api.Semi{set(api.Bag{1}, api.Bag{far})}, nil), "false []", api.ErrLimit, 1, 1)
}

// 60 letters may be read, and no more.
func TestWithinOfManyLetters(t *testing.T) {
	const high = 1 << 59
	for _, x := range []struct {
		a, b   api.Semi
		want   string
		e      api.Errno
		spends []int
	}{
		// Behind 59 letters nothing is left; the 60th leads to what was met.
		{word(high - 1), word(high - 1), "true []", api.OK, turns(60, 1, 1)},
		// Behind 60 letters nothing is left: a word that is none is told, else one more letter is wanted.
		{word(high), nil, "false [576460752303423488]", api.OK, turns(61, 1)},
		{word(high), word(high), "false []", api.ErrLimit, append(turns(60, 1, 1), 1)},
		{word(high), word(high + 1), "false [576460752303423488]", api.OK, turns(62, 1)},
		{word(far - 1), nil, "false [1152921504606846975]", api.OK, turns(61, 1)},
		{word(far - 1), word(far - 1), "false []", api.ErrLimit, append(turns(60, 1, 1), 1)},
		{word(far - 1), word(far - 2), "false [1152921504606846975]", api.OK, turns(62, 1)},
		{api.Semi{set(last(high))}, nil, "false [0 0 0 0 0 0 0 0 0 0 0 576460752303423488]", api.OK, turns(61, 1)},
		// Behind 60 letters something is left.
		{word(far), nil, "false []", api.ErrLimit, turns(61, 1)},
		{word(far), word(far), "false []", api.ErrLimit, append(turns(60, 1, 1), 1)},
		{word(far), semi.One(), "false []", api.ErrLimit, turns(121, 1)},
		{word(1, far), nil, "false []", api.ErrLimit, turns(61, 1)},
		{api.Semi{set(last(far))}, nil, "false []", api.ErrLimit, turns(61, 1)},
		// Two sets, each of which reads its own letters.
		{api.Semi{set(api.Bag{high - 2}), set(api.Bag{high - 1})}, api.Semi{set(api.Bag{high - 2}), set(api.Bag{high - 1})}, "true []", api.OK, nil},
	} {
		told, e, spends := modelWithin(x.a, x.b)
		if told != x.want || e != x.e || len(x.spends) > 0 && !slices.Equal(spends, x.spends) {
			t.Errorf("%v in %v: the model is %s, %d, %v", x.a, x.b, told, e, spends)
		}
		expectWork(t, fmt.Sprint(x.a, " in ", x.b), inside(x.a, x.b), x.want, x.e, spends...)
	}
}

// Of one step the first that is wrong is told: Periods or letters, then, choice by choice, the sum, auto.Next's, the work for the pair.
func TestWithinTellsTheFirstError(t *testing.T) {
	far1, many := set(api.Bag{far}, api.Bag{1}), numbered(21)
	for name, x := range map[string]struct {
		a, b   api.Semi
		budget int
		want   answer
	}{
		"no work to put in, many":         {api.Semi{many}, semi.One(), 0, answer{"false []", api.ErrWork, 0, true}},
		"no work to put in, a word":       {semi.One(), nil, 0, answer{"false []", api.ErrWork, 0, true}},
		"many, b's many":                  {api.Semi{many}, api.Semi{many}, 1, answer{"false []", api.ErrLimit, 1, false}},
		"no work for the letter":          {semi.One(), semi.One(), 1, answer{"false []", api.ErrWork, 1, true}},
		"b's many, no work for it":        {semi.One(), api.Semi{many}, 1, answer{"false []", api.ErrLimit, 1, false}},
		"the first choice, no work":       {api.Semi{far1}, word(far), 1, answer{"false []", api.ErrWork, 1, true}},
		"the first choice, no work to go": {api.Semi{far1}, word(far), 2, answer{"false []", api.ErrWork, 2, true}},
		"the second choice, no work":      {api.Semi{far1}, word(far), 3, answer{"false []", api.ErrLimit, 3, false}},
		"the first choice, b's sum":       {api.Semi{far1}, api.Semi{far1}, 3, answer{"false []", api.ErrLimit, 3, false}},
		"b's sum, no work":                {api.Semi{far1}, api.Semi{far1}, 2, answer{"false []", api.ErrWork, 1, true}},
		"wrong, and no work":              {api.Semi{many}, word(0), 0, answer{"false []", api.ErrArg, 0, false}},
	} {
		expectAnswer(t, name, ask(meter.New(x.budget), inside(x.a, x.b)), x.want)
	}
}

// What was spent ahead of a call is not given back, and counts.
func TestWithinOfAMeterThatIsUsedAgain(t *testing.T) {
	a := word(1)
	m := meter.New(13)
	expectAnswer(t, "first", ask(m, inside(a, a)), answer{"true []", api.OK, 4, false})
	expectAnswer(t, "refused by its arguments", ask(m, inside(a, word(0))), answer{"false []", api.ErrArg, 4, false})
	expectAnswer(t, "refused by its periods", ask(m, inside(api.Semi{numbered(21)}, semi.One())), answer{"false []", api.ErrLimit, 5, false})
	expectAnswer(t, "a word", ask(m, inside(a, nil)), answer{"false [1]", api.OK, 7, false})
	expectAnswer(t, "of nothing", ask(m, inside(nil, a)), answer{"true []", api.OK, 7, false})
	expectAnswer(t, "second", ask(m, inside(a, a)), answer{"true []", api.OK, 11, false})
	expectAnswer(t, "third", ask(m, inside(a, a)), answer{"false []", api.ErrWork, 13, true})
	expectAnswer(t, "behind it", ask(m, inside(a, nil)), answer{"false []", api.ErrWork, 13, true})
	expectAnswer(t, "behind it, of nothing", ask(m, inside(nil, a)), answer{"true []", api.OK, 13, true})
	expectAnswer(t, "behind it, refused by its arguments", ask(m, inside(word(0), a)), answer{"false []", api.ErrArg, 13, true})
	expectAnswer(t, "another meter", ask(meter.New(4), inside(a, a)), answer{"true []", api.OK, 4, false})
}
