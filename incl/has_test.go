package incl

import (
	"fmt"
	"slices"
	"testing"

	"columbary/api"
	"columbary/meter"
)

func expectHas(t *testing.T, s api.Semi, w api.Bag, want bool) {
	t.Helper()
	expectTold(t, fmt.Sprintf("Has(%v, %v)", s, w), has(s, w), fmt.Sprint(want))
}

func TestHas(t *testing.T) {
	for _, x := range []struct {
		text string
		yes  []api.Bag
		no   []api.Bag
	}{
		{"0", nil, []api.Bag{nil, {1}, {0, 1}}},
		{"1", []api.Bag{nil, {}}, []api.Bag{{1}, {0, 1}, {0, 0, 1}}},
		{"a", []api.Bag{{1}}, []api.Bag{nil, {2}, {3}, {0, 1}, {1, 1}}},
		{"b^6", []api.Bag{{0, 6}}, []api.Bag{{6}, {0, 2}, {0, 4}, {0, 5}, {0, 7}, {0, 12}, {0, 14}, {1, 6}, {0, 6, 1}}},
		{"a . b", []api.Bag{{1, 1}}, []api.Bag{{1}, {0, 1}, {2, 1}, {1, 2}, {2, 2}}},
		{"a + b", []api.Bag{{1}, {0, 1}}, []api.Bag{nil, {1, 1}, {2}}},
		{"1 + a^3", []api.Bag{nil, {3}}, []api.Bag{{1}, {2}, {6}}},
		{"*a", []api.Bag{nil, {1}, {2}, {999}}, []api.Bag{{0, 1}, {999, 1}}},
		{"*(a^3)", []api.Bag{nil, {3}, {6}, {300}}, []api.Bag{{1}, {2}, {4}, {301}, {3, 3}}},
		{"a . *(a^2)", []api.Bag{{1}, {3}, {77}}, []api.Bag{nil, {2}, {78}}},
		{"*(a . b)", []api.Bag{nil, {1, 1}, {9, 9}}, []api.Bag{{1}, {9, 8}, {8, 9}}},
		{"*(a + b)", []api.Bag{nil, {7}, {0, 7}, {6, 7}}, []api.Bag{{0, 0, 1}, {6, 7, 1}}},
		{"*(a^2 + b^3)", []api.Bag{{4, 9}, {0, 3}}, []api.Bag{{4, 8}, {3, 9}}},
		{"*(a^3 + a^5)", []api.Bag{nil, {3}, {5}, {8}, {9}, {10}, {11}}, []api.Bag{{1}, {2}, {4}, {7}}},
		{"c . *(a . b^2) . *b", []api.Bag{{0, 0, 1}, {3, 6, 1}, {3, 9, 1}}, []api.Bag{{3, 5, 1}, {3, 9}, {3, 9, 2}}},
		{"a . *b + b . *a", []api.Bag{{1}, {1, 5}, {5, 1}, {0, 1}}, []api.Bag{nil, {2}, {2, 2}}},
	} {
		for _, w := range x.yes {
			expectHas(t, of(t, x.text), w, true)
		}
		for _, w := range x.no {
			expectHas(t, of(t, x.text), w, false)
		}
	}
}

// The empty word has no letters: it is asked of Start alone, and costs nothing.
func TestHasTheEmptyWord(t *testing.T) {
	for _, s := range rightSemis() {
		want := "false"
		if len(s) > 0 && len(s[0].Base) == 0 {
			want = "true"
		}
		expectWork(t, fmt.Sprintf("Has(%v, nothing)", s), has(s, nil), want, api.OK)
		expectWork(t, fmt.Sprintf("Has(%v, empty)", s), has(s, api.Bag{}), want, api.OK)
	}
}

func TestHasOfNoSet(t *testing.T) {
	for _, w := range []api.Bag{nil, {1}, {0, 1}, {far}, last(far), slices.Repeat(api.Bag{far}, api.MaxMsgs)} {
		expectWork(t, fmt.Sprintf("Has(none, %v)", w), has(nil, w), "false", api.OK)
		expectWork(t, fmt.Sprintf("Has(empty, %v)", w), has(api.Semi{}, w), "false", api.OK)
	}
}

func TestHasRefuses(t *testing.T) {
	for name, s := range wrongSemis() {
		for _, w := range []api.Bag{nil, {1}, {far}} {
			expectRefused(t, fmt.Sprint("Has of ", name, ", ", w), has(s, w))
		}
		for other, w := range wrongWords() {
			expectRefused(t, "Has of "+name+", "+other, has(s, w))
		}
	}
	for name, w := range wrongWords() {
		for _, s := range rightSemis() {
			expectRefused(t, fmt.Sprint("Has of ", s, ", ", name), has(s, w))
		}
	}
}

func TestHasOfGreatNumbers(t *testing.T) {
	const odd = 1<<40 + 1
	s := api.Semi{set(nil, api.Bag{3}), set(nil, api.Bag{10, 7}), set(api.Bag{far}), set(api.Bag{5, 999999999}, api.Bag{0, odd}), set(last(far))}
	for _, x := range []struct {
		w    api.Bag
		want bool
	}{
		{api.Bag{far - 1}, true}, // divided by 3, far leaves 1
		{api.Bag{far - 2}, false},
		{api.Bag{far - 3}, false},
		{api.Bag{far - 4}, true},
		{api.Bag{far}, true},
		{api.Bag{far / 2}, false},
		{api.Bag{0, far}, false},
		{api.Bag{far, 0, 1}, false},
		{api.Bag{10_000_000_000_000_000, 7_000_000_000_000_000}, true},
		{api.Bag{10_000_000_000_000_000, 7_000_000_000_000_001}, false},
		{api.Bag{5, 999999999}, true},
		{api.Bag{5, 999999999 + 77*odd}, true},
		{api.Bag{5, 999999999 + 77*odd + 1}, false},
		{api.Bag{6, 999999999 + 77*odd}, false},
		{last(far), true},
		{last(far - 1), false},
		{last(far / 2), false},
	} {
		expectHas(t, s, x.w, x.want)
	}
	all := slices.Repeat(api.Bag{far}, api.MaxMsgs)
	expectHas(t, api.Semi{set(all)}, all, true)
	expectHas(t, api.Semi{set(nil, slices.Repeat(api.Bag{1}, api.MaxMsgs))}, all, true)
	one := slices.Clone(all)
	one[3]--
	expectHas(t, api.Semi{set(all)}, one, false)
	expectHas(t, api.Semi{set(nil, slices.Repeat(api.Bag{1}, api.MaxMsgs))}, one, false)
}

// Of a base alone each letter costs 1, while it may still be that word: so what is spent is how many letters are read.
func TestHasReadsAsManyLettersAsThereAreDigits(t *testing.T) {
	for _, x := range []struct {
		w       api.Bag
		letters int
	}{
		{api.Bag{1}, 1}, {api.Bag{2}, 2}, {api.Bag{3}, 2}, {api.Bag{4}, 3}, {api.Bag{5}, 3}, {api.Bag{7}, 3}, {api.Bag{8}, 4}, {api.Bag{1023}, 10}, {api.Bag{1024}, 11},
		{api.Bag{0, 1}, 1}, {api.Bag{0, 2}, 2}, {api.Bag{4, 1}, 3}, {api.Bag{1, 4}, 3}, {api.Bag{1, 2, 4}, 3}, {api.Bag{4, 2, 1}, 3}, {api.Bag{2, 9, 2}, 4}, {last(1), 1}, {last(6), 3},
		{api.Bag{999999999}, 30}, {api.Bag{1<<31 - 1}, 31}, {api.Bag{1 << 31}, 32}, {api.Bag{1 << 32}, 33}, {api.Bag{far/2 - 1}, 59}, {api.Bag{far / 2}, 60}, {api.Bag{far - 1}, 60}, {api.Bag{far}, 61}, {api.Bag{1, far}, 61}, {last(far), 61},
		{slices.Repeat(api.Bag{far}, api.MaxMsgs), 61},
	} {
		name := fmt.Sprint("Has of ", x.w, " alone")
		expectWork(t, name, has(api.Semi{set(x.w)}, x.w), "true", api.OK, slices.Repeat([]int{1}, x.letters)...)
		// A base that goes on behind the word's highest digit is not it, and none of the letters behind is read.
		tag := len(x.w) - 1
		if x.w[tag] < far/16 {
			more := slices.Clone(x.w)
			more[tag] += 8 << x.letters
			expectWork(t, name+" and more", has(api.Semi{set(more)}, x.w), "false", api.OK, slices.Repeat([]int{1}, x.letters)...)
		}
	}
}

// Each letter costs what auto.Next spends for the items that are left.
func TestHasWork(t *testing.T) {
	for _, x := range []struct {
		s      api.Semi
		w      api.Bag
		want   string
		spends []int
	}{
		{word(4), api.Bag{4}, "true", []int{1, 1, 1}},
		// Behind the first letter no item is left, and the others cost nothing.
		{word(4), api.Bag{5}, "false", []int{1}},
		{word(4), api.Bag{6}, "false", []int{1, 1}},
		{word(4), api.Bag{0, 4}, "false", []int{1, 1, 1}},
		{word(4), api.Bag{12}, "false", []int{1, 1, 1, 1}},
		{word(4), api.Bag{4 + 64}, "false", []int{1, 1, 1, 1, 1, 1, 1}},
		{api.Semi{set(api.Bag{1}), set(api.Bag{2}), set(api.Bag{4})}, api.Bag{4}, "true", []int{1, 1, 1, 1, 1, 1}},
		{api.Semi{set(nil, api.Bag{1})}, api.Bag{5}, "true", []int{2, 2, 2}},
		{api.Semi{set(nil, api.Bag{1})}, api.Bag{0, 5}, "false", []int{2}},
		// Without a, or with one and one that is carried.
		{api.Semi{set(nil, api.Bag{1}, api.Bag{2})}, api.Bag{3}, "true", []int{4, 4, 4}},
		{api.Semi{set(nil, api.Bag{1}, api.Bag{2})}, api.Bag{2}, "true", []int{4, 4, 4}},
		{api.Semi{set(nil), set(nil, api.Bag{1}, api.Bag{0, 1}, api.Bag{0, 0, 1}), set(api.Bag{5})}, api.Bag{5}, "true", []int{1, 8, 1, 8, 1, 8, 1}},
	} {
		expectWork(t, fmt.Sprintf("Has(%v, %v)", x.s, x.w), has(x.s, x.w), x.want, api.OK, x.spends...)
	}
}

// What auto.Next tells is told, with what was spent till then.
func TestHasTellsNextsErrors(t *testing.T) {
	many, tooMuch := numbered(21), set(api.Bag{far}, api.Bag{1})
	for name, x := range map[string]struct {
		s      api.Semi
		w      api.Bag
		spends []int
	}{
		"many":             {api.Semi{many}, api.Bag{1}, nil},
		"many, far":        {api.Semi{many}, last(far), nil},
		"many, behind":     {api.Semi{set(nil, api.Bag{1}, api.Bag{2}), many}, api.Bag{6}, []int{4}},
		"too much":         {api.Semi{tooMuch}, api.Bag{1}, []int{2}},
		"too much, far":    {api.Semi{tooMuch}, api.Bag{far}, []int{2}},
		"too much, behind": {api.Semi{set(nil), tooMuch}, api.Bag{2}, []int{1, 2}},
		"too much, twice":  {api.Semi{tooMuch, set(api.Bag{far}, api.Bag{2})}, api.Bag{1}, []int{2}},
		"too much, many":   {api.Semi{many, tooMuch}, api.Bag{1}, nil},
	} {
		expectWork(t, name, has(x.s, x.w), "false", api.ErrLimit, x.spends...)
		// Of the empty word no letter is read, so nothing is wrong.
		expectWork(t, name+", nothing", has(x.s, nil), fmt.Sprint(len(x.s[0].Base) == 0), api.OK)
	}
}

// A sum may be too much at a letter that isn't the first: then all ahead of it was spent.
func TestHasTellsErrorsOfLaterLetters(t *testing.T) {
	s := api.Semi{set(nil, api.Bag{far - 1})}
	// Behind a letter of 1 half of far, less 1, is carried: that and far - 1 are too much.
	expectWork(t, "one letter", has(s, api.Bag{1}), "false", api.OK, 2)
	expectWork(t, "two letters", has(s, api.Bag{2}), "false", api.OK, 2, 2)
	expectWork(t, "at the second", has(s, api.Bag{3}), "false", api.ErrLimit, 2, 2)
	expectWork(t, "at the third", has(s, api.Bag{6}), "false", api.ErrLimit, 2, 2, 2)
	expectWork(t, "of one of its words", has(s, api.Bag{far - 1}), "false", api.ErrLimit, 2, 2)
	two := api.Semi{set(nil, api.Bag{1, far}), set(api.Bag{2})}
	expectWork(t, "none too much", has(two, api.Bag{2}), "true", api.OK, 2, 1, 2, 1)
	expectWork(t, "too much, ahead of the second", has(two, api.Bag{6}), "false", api.ErrLimit, 2, 1, 2, 1, 2)
}

// What was spent ahead of a call is not given back, and counts.
func TestHasOfAMeterThatIsUsedAgain(t *testing.T) {
	s := api.Semi{set(nil, api.Bag{1}), set(api.Bag{far}, api.Bag{0, 1})}
	m := meter.New(11)
	expectAnswer(t, "first", ask(m, has(s[:1], api.Bag{3})), answer{"true", api.OK, 4, false})
	expectAnswer(t, "refused by its arguments", ask(m, has(s, api.Bag{0})), answer{"false", api.ErrArg, 4, false})
	expectAnswer(t, "refused by a sum", ask(m, has(api.Semi{set(nil, api.Bag{far}), set(api.Bag{0, far}, api.Bag{0, 1})}, api.Bag{1})), answer{"false", api.ErrLimit, 8, false})
	expectAnswer(t, "second", ask(m, has(s[:1], api.Bag{1})), answer{"true", api.OK, 10, false})
	expectAnswer(t, "third", ask(m, has(s, api.Bag{1})), answer{"false", api.ErrWork, 10, true})
	expectAnswer(t, "behind it", ask(m, has(word(1), api.Bag{1})), answer{"false", api.ErrWork, 10, true})
	expectAnswer(t, "behind it, of nothing", ask(m, has(word(1), nil)), answer{"false", api.OK, 10, true})
	expectAnswer(t, "behind it, refused by its arguments", ask(m, has(word(0), nil)), answer{"false", api.ErrArg, 10, true})
	expectAnswer(t, "another meter", ask(meter.New(1), has(word(1), api.Bag{1})), answer{"true", api.OK, 1, false})
}
