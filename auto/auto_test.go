package auto

import (
	"fmt"
	"math"
	"slices"
	"testing"

	"columbary/api"
)

const far = api.Far

// set is a linear set as it is written, Right or not.
func set(base api.Bag, periods ...api.Bag) api.Lin {
	return api.Lin{Base: base, Periods: periods}
}

// item is one as it is written, Right or not.
func item(j int, carry ...int) api.Item {
	return api.Item{J: j, Carry: carry}
}

// last is n of the last tag that there may be.
func last(n int) api.Bag {
	return append(make(api.Bag, api.MaxMsgs-1), n)
}

// rightWords are words of all kinds, in the order of bag.Compare.
func rightWords() []api.Bag {
	return []api.Bag{
		nil, {1}, {2}, {3}, {far - 1}, {far}, {0, 1}, {1, 1}, {5, 7}, {far, far}, {0, 0, 1}, {5, 0, 6}, last(1), last(far),
		slices.Repeat(api.Bag{1}, api.MaxMsgs), slices.Repeat(api.Bag{far - 1}, api.MaxMsgs), slices.Repeat(api.Bag{far}, api.MaxMsgs),
	}
}

// wrongWords are lists that are not bag.Right, for one reason each.
func wrongWords() map[string]api.Bag {
	return map[string]api.Bag{
		"just a nought":        {0},
		"a nought at the end":  {1, 0},
		"many noughts":         make(api.Bag, api.MaxMsgs),
		"below 0":              {-1},
		"below 0, ahead":       {-1, 1},
		"below 0, behind":      {1, -2},
		"the least":            {1, math.MinInt},
		"beyond Far":           {far + 1},
		"beyond Far, ahead":    {far + 1, 1},
		"beyond Far, behind":   {3, far + 1},
		"the greatest":         {math.MaxInt},
		"too many tags":        append(make(api.Bag, api.MaxMsgs), 1),
		"too many tags, alike": slices.Repeat(api.Bag{1}, api.MaxMsgs+1),
	}
}

// wrongSemis are lists that are not semi.Right, for one reason each.
func wrongSemis() map[string]api.Semi {
	all := map[string]api.Semi{
		"two alike":       {set(nil), set(nil)},
		"two that fall":   {set(api.Bag{1}), set(nil)},
		"fewer behind":    {set(nil, api.Bag{1}), set(nil)},
		"periods fall":    {set(nil, api.Bag{2}, api.Bag{1})},
		"periods alike":   {set(nil, api.Bag{1}, api.Bag{1})},
		"an empty period": {set(nil, nil)},
	}
	for name, w := range wrongWords() {
		all["a base: "+name] = api.Semi{set(w)}
		all["a base behind: "+name] = api.Semi{set(nil), set(w)}
		all["a period: "+name] = api.Semi{set(nil, w)}
		all["a period behind: "+name] = api.Semi{set(nil, api.Bag{1}, w)}
	}
	return all
}

// three is a set of as many linear sets, of one and two tags, with and without periods.
func three() api.Semi {
	return api.Semi{set(nil, api.Bag{1}, api.Bag{1, 1}), set(api.Bag{3}), set(api.Bag{0, 2}, api.Bag{2})}
}

func expectLetter(t *testing.T, w api.Bag, digit int, want uint) {
	t.Helper()
	if got := Letter(w, digit); got != want {
		t.Errorf("Letter(%v, %d) is %b, want %b", w, digit, got, want)
	}
}

func TestLetter(t *testing.T) {
	w := api.Bag{5, 0, 6}
	for digit, want := range []uint{0b001, 0b100, 0b101, 0, 0} {
		expectLetter(t, w, digit, want)
	}
	for digit, want := range []uint{0b10, 0b01, 0b11, 0b10, 0b00, 0b01} {
		expectLetter(t, api.Bag{2 + 4 + 32, 1 + 4 + 8}, digit, want)
	}
	// Tag 0 is the lowest.
	for tag := range api.MaxMsgs {
		w := append(make(api.Bag, tag), 2)
		expectLetter(t, w, 0, 0)
		expectLetter(t, w, 1, 1<<tag)
		expectLetter(t, w, 2, 0)
	}
	all := slices.Repeat(api.Bag{8}, api.MaxMsgs)
	expectLetter(t, all, 3, 1<<api.MaxMsgs-1)
	expectLetter(t, all, 2, 0)
}

func TestLetterOfNoTags(t *testing.T) {
	for digit := -2; digit < 70; digit++ {
		expectLetter(t, nil, digit, 0)
		expectLetter(t, api.Bag{}, digit, 0)
	}
}

func TestLetterOfGreatNumbers(t *testing.T) {
	for digit := range 63 {
		want := uint(0)
		if digit == 60 {
			want = 1
		}
		expectLetter(t, api.Bag{far}, digit, want)
		expectLetter(t, last(far), digit, want<<(api.MaxMsgs-1))
		want = 0
		if digit < 60 {
			want = 0b10
		}
		expectLetter(t, api.Bag{0, far - 1}, digit, want)
	}
}

func TestLetterOfWrongDigits(t *testing.T) {
	for _, w := range rightWords() {
		for _, digit := range []int{-1, -2, -64, math.MinInt, 63, 64, 65, 128, math.MaxInt, 61, 62} {
			expectLetter(t, w, digit, 0)
		}
	}
}

func TestLetterOfWrongWords(t *testing.T) {
	for _, w := range wrongWords() {
		for digit := -1; digit <= 64; digit++ {
			expectLetter(t, w, digit, 0)
		}
	}
}

// A word's letters, put together, are the word.
func TestLettersAreTheWord(t *testing.T) {
	for _, w := range rightWords() {
		whole := make(api.Bag, len(w))
		for digit := range 63 {
			letter := Letter(w, digit)
			for tag := range whole {
				whole[tag] += int(letter>>tag&1) << digit
			}
			if letter>>len(w) != 0 {
				t.Errorf("Letter(%v, %d) has tags behind its end: %b", w, digit, letter)
			}
		}
		if !slices.Equal(whole, w) {
			t.Errorf("the letters of %v are %v", w, whole)
		}
	}
}

func expectStart(t *testing.T, s api.Semi, want string) {
	t.Helper()
	got := Start(s)
	if fmt.Sprint(got) != want || !Right(s, got) {
		t.Errorf("Start(%v) is %v, want %s", s, got, want)
	}
}

func TestStart(t *testing.T) {
	expectStart(t, nil, "[]")
	expectStart(t, api.Semi{}, "[]")
	expectStart(t, api.Semi{set(nil)}, "[{0 []}]")
	expectStart(t, api.Semi{set(api.Bag{}, api.Bag{1})}, "[{0 []}]")
	expectStart(t, api.Semi{set(api.Bag{3}, api.Bag{5})}, "[{0 [3]}]")
	expectStart(t, three(), "[{0 []} {1 [3]} {2 [0 2]}]")
	// Two of one Base are two items.
	expectStart(t, api.Semi{set(api.Bag{2}), set(api.Bag{2}, api.Bag{1}), set(api.Bag{2}, api.Bag{4})}, "[{0 [2]} {1 [2]} {2 [2]}]")
	expectStart(t, api.Semi{set(last(far))}, "[{0 [0 0 0 0 0 0 0 0 0 0 0 1152921504606846976]}]")
	// How many Periods there are is not asked yet.
	expectStart(t, api.Semi{numbered(21)}, "[{0 []}]")
}

func TestStartOfWrongSets(t *testing.T) {
	for name, s := range wrongSemis() {
		if got := Start(s); len(got) != 0 {
			t.Errorf("%s: Start is %v", name, got)
		}
	}
}

func TestFinal(t *testing.T) {
	for _, x := range []struct {
		l    []api.Item
		want bool
	}{
		{nil, false},
		{[]api.Item{}, false},
		{[]api.Item{{}}, true},
		{[]api.Item{{Carry: api.Bag{}}}, true},
		{[]api.Item{item(0, 1)}, false},
		{[]api.Item{item(7)}, true},
		{[]api.Item{item(0, 1), item(1)}, true},
		{[]api.Item{item(0, 1), item(1, 2), item(2)}, true},
		{[]api.Item{item(0, 1), item(1), item(2, 3)}, true},
		{[]api.Item{item(0), item(1, 2)}, true},
		{[]api.Item{item(0, 1), item(0, 2), item(1, 0, 1)}, false},
		// Of noughts it is not empty.
		{[]api.Item{item(0, 0)}, false},
		{[]api.Item{item(0, 0, 0, 0), item(1, 0)}, false},
		{[]api.Item{item(0, 0), item(0)}, true},
		// Whether they are Right is not asked.
		{[]api.Item{item(1), item(0)}, true},
		{[]api.Item{item(-1)}, true},
		{[]api.Item{item(math.MaxInt, -1), item(math.MinInt)}, true},
		{[]api.Item{item(0, -1), item(0, far+1)}, false},
	} {
		if got := Final(x.l); got != x.want {
			t.Errorf("Final(%v) is %t", x.l, got)
		}
	}
}

// expectRight asks Right, and that Next refuses just what is not.
func expectRight(t *testing.T, name string, s api.Semi, l []api.Item, want bool) {
	t.Helper()
	if got := Right(s, l); got != want {
		t.Errorf("%s: Right(%v, %v) is %t", name, s, l, got)
	}
	if _, e := Next(nil, s, l, 0); (e == api.ErrArg) == want {
		t.Errorf("%s: Next(%v, %v) is %d", name, s, l, e)
	}
}

func TestRight(t *testing.T) {
	for name, l := range map[string][]api.Item{
		"none":               nil,
		"an empty list":      {},
		"each one's":         Start(three()),
		"the first":          {item(0)},
		"the last":           {item(2)},
		"not the first":      {item(1), item(2, 5)},
		"a great one":        {item(1, far)},
		"many tags":          {{J: 1, Carry: last(1)}},
		"two of one":         {item(1), item(1, 1)},
		"less first":         {item(1, 1), item(1, 2)},
		"shorter first":      {item(1, 9), item(1, 0, 1)},
		"the first unlike":   {item(1, 1, 9), item(1, 2, 1)},
		"alike of two":       {item(0, 5), item(1, 5)},
		"falling, of two":    {item(0, 5), item(1, 2), item(2)},
		"longer, of two":     {item(0, 0, 0, 1), item(1, 9)},
		"many":               {item(0), item(0, 1), item(0, 0, 1), item(1), item(1, 7), item(2, 1), item(2, 3)},
		"greater than bases": {item(0, 100, 100, 100)},
	} {
		expectRight(t, name, three(), l, true)
	}
	expectRight(t, "of no set", nil, nil, true)
	expectRight(t, "of no set, empty", api.Semi{}, []api.Item{}, true)
}

func TestRightOfWrongItems(t *testing.T) {
	for name, l := range map[string][]api.Item{
		"J below 0":             {item(-1)},
		"the least J":           {item(math.MinInt)},
		"just how many":         {item(3)},
		"one more":              {item(4, 1)},
		"the greatest J":        {item(math.MaxInt)},
		"just how many, behind": {item(0), item(2), item(3)},
		"J below 0, ahead":      {item(-1), item(0)},
		"two alike":             {item(1, 2), item(1, 2)},
		"two alike, empty":      {item(0), item(0)},
		"two alike, behind":     {item(0), item(1, 0, 3), item(1, 0, 3)},
		"more first":            {item(1, 2), item(1, 1)},
		"longer first":          {item(1, 0, 1), item(1, 9)},
		"empty behind":          {item(1, 1), item(1)},
		"the first unlike":      {item(1, 2, 1), item(1, 1, 9)},
		"J falls":               {item(1), item(0)},
		"J falls, carry rises":  {item(1, 1), item(0, 2)},
		"J falls, alike":        {item(2, 1), item(1, 1)},
		"J falls, behind":       {item(0), item(2), item(1)},
		"back to the first":     {item(0), item(1), item(0, 1)},
	} {
		expectRight(t, name, three(), l, false)
	}
	expectRight(t, "of no set", nil, []api.Item{item(0)}, false)
	expectRight(t, "of no set, J below 0", nil, []api.Item{item(-1)}, false)
	for name, w := range wrongWords() {
		expectRight(t, name, three(), []api.Item{{J: 1, Carry: w}}, false)
		expectRight(t, name+", ahead", three(), []api.Item{{J: 1, Carry: w}, item(2, 3)}, false)
		expectRight(t, name+", behind", three(), []api.Item{item(0), {J: 1, Carry: w}}, false)
		expectRight(t, name+", behind, of one J", three(), []api.Item{item(1), {J: 1, Carry: w}}, false)
	}
}

func TestRightOfWrongSets(t *testing.T) {
	for name, s := range wrongSemis() {
		expectRight(t, name, s, nil, false)
		expectRight(t, name, s, []api.Item{item(0)}, false)
		expectRight(t, name, s, []api.Item{item(1)}, false)
	}
}

// Of all lists of up to three of a few items just those are Right that rise.
func TestRightIsJustWhatRises(t *testing.T) {
	var rising []api.Item
	for j := range 2 {
		for _, w := range rightWords()[:8] {
			rising = append(rising, api.Item{J: j, Carry: w})
		}
	}
	s := three()[1:]
	for i, a := range rising {
		for j, b := range rising {
			for k, c := range rising {
				l := []api.Item{a, b, c}
				if Right(s, l) != (i < j && j < k) {
					t.Fatalf("Right of %v is %t", l, Right(s, l))
				}
			}
			if l := []api.Item{a, b}; Right(s, l) != (i < j) {
				t.Fatalf("Right of %v is %t", l, Right(s, l))
			}
		}
	}
}
