package bag

import (
	"cmp"
	"math"
	"math/big"
	"slices"
	"testing"

	"columbary/api"
)

const far = api.Far

// full is a word of just as many numbers as may be, with more behind them.
func full(more ...int) api.Bag {
	b := make(api.Bag, api.MaxMsgs)
	b[api.MaxMsgs-1] = 1
	return append(b, more...)
}

// wrong are lists of numbers that are not Right, for one reason each.
func wrong() map[string]api.Bag {
	return map[string]api.Bag{
		"just a nought":           {0},
		"just noughts":            {0, 0},
		"a nought at the end":     {1, 0},
		"noughts at the end":      {3, 2, 0, 0},
		"a nought behind full":    full(0),
		"one more number":         full(1),
		"two more numbers":        full(1, 1),
		"below 0":                 {-1},
		"below 0, ahead":          {-1, 2},
		"below 0, between":        {1, -1, 2},
		"below 0, at the end":     {1, -1},
		"the least":               {math.MinInt, 1},
		"beyond Far":              {far + 1},
		"beyond Far, ahead":       {far + 1, 1},
		"beyond Far, at the end":  {1, far + 1},
		"the greatest":            {math.MaxInt},
		"below 0, and a nought":   {-1, 0},
		"beyond Far, and noughts": {far + 1, 0, 0},
	}
}

// right are words of all kinds, in the order of Compare.
func right() []api.Bag {
	return []api.Bag{
		nil, {1}, {2}, {3}, {far - 1}, {far},
		{0, 1}, {0, 3}, {0, far}, {1, 1}, {1, 2}, {2, 1}, {far, 1}, {far, far},
		{0, 0, 1}, {0, 5, 1}, {1, 0, 1}, {1, 0, 2}, {1, 1, 1}, {4, 1, 1}, {4, 4, 1},
		full(), One(api.MaxMsgs-1, far),
	}
}

func expectBag(t *testing.T, name string, got, want api.Bag) {
	t.Helper()
	if !slices.Equal(got, want) {
		t.Errorf("%s is %v, want %v", name, got, want)
	}
}

func expectCall(t *testing.T, name string, s api.Bag, ok bool, want api.Bag, wantOK bool) {
	t.Helper()
	if !slices.Equal(s, want) || ok != wantOK {
		t.Errorf("%s: %v, %t, want %v, %t", name, s, ok, want, wantOK)
	}
}

func TestRightOfWords(t *testing.T) {
	for _, b := range right() {
		if !Right(b) {
			t.Errorf("Right(%v) is false", b)
		}
	}
	if !Right(api.Bag{}) {
		t.Error("an empty word that is not nil")
	}
	if b := slices.Repeat(api.Bag{far}, api.MaxMsgs); !Right(b) {
		t.Errorf("Right(%v) is false", b)
	}
}

func TestRightOfOthers(t *testing.T) {
	for name, b := range wrong() {
		if Right(b) {
			t.Errorf("%s: Right(%v) is true", name, b)
		}
	}
}

func TestNormOfWordsIsTheSame(t *testing.T) {
	for _, b := range right() {
		expectBag(t, "Norm", Norm(b), b)
	}
	expectBag(t, "Norm of an empty one", Norm(api.Bag{}), nil)
}

func TestNormLeavesOutNoughtsAtTheEnd(t *testing.T) {
	for _, b := range right() {
		for _, noughts := range []int{1, 2, api.MaxMsgs, 1000} {
			expectBag(t, "Norm", Norm(append(slices.Clone(b), make(api.Bag, noughts)...)), b)
		}
	}
	expectBag(t, "noughts alone", Norm(make(api.Bag, 1000)), nil)
	expectBag(t, "noughts ahead and between", Norm(api.Bag{0, 3, 0, 1, 0}), api.Bag{0, 3, 0, 1})
}

func TestNormOfOthersIsNone(t *testing.T) {
	for _, b := range []api.Bag{
		{-1}, {-1, 0}, {-1, 2}, {1, -1, 2, 0}, {1, -1}, {math.MinInt, 0},
		{far + 1}, {far + 1, 0}, {1, far + 1, 0}, {far + 1, 1}, {math.MaxInt, 0, 0},
		full(1), full(1, 0), full(0, 1), full(0, 0, 1, 0), full(-1), full(far + 1),
	} {
		expectBag(t, "Norm", Norm(b), nil)
	}
}

func TestOne(t *testing.T) {
	expectBag(t, "the chapter's example", One(1, 3), api.Bag{0, 3})
	for tag := range api.MaxMsgs {
		for _, n := range []int{1, 2, far - 1, far} {
			want := make(api.Bag, tag+1)
			want[tag] = n
			expectBag(t, "One", One(tag, n), want)
			if !Right(One(tag, n)) {
				t.Errorf("One(%d, %d) is not Right", tag, n)
			}
		}
	}
}

func TestOneOfNoSuchWord(t *testing.T) {
	for _, tag := range []int{math.MinInt, -1, api.MaxMsgs, api.MaxMsgs + 1, math.MaxInt} {
		expectBag(t, "a tag that is none", One(tag, 1), nil)
	}
	for _, n := range []int{math.MinInt, -1, 0, far + 1, math.MaxInt} {
		expectBag(t, "a number that is none", One(0, n), nil)
		expectBag(t, "a number that is none", One(api.MaxMsgs-1, n), nil)
	}
}

// expectPair holds both Add and Sub, which are asked of the same words.
func expectPair(t *testing.T, a, b, sum api.Bag, sumOK bool, rest api.Bag, restOK bool) {
	t.Helper()
	s, ok := Add(a, b)
	expectCall(t, "Add", s, ok, sum, sumOK)
	s, ok = Add(b, a)
	expectCall(t, "Add, the other way round", s, ok, sum, sumOK)
	s, ok = Sub(a, b)
	expectCall(t, "Sub", s, ok, rest, restOK)
}

func TestAddAndSub(t *testing.T) {
	for _, x := range []struct {
		a, b   api.Bag
		sum    api.Bag
		sumOK  bool
		rest   api.Bag
		restOK bool
	}{
		{nil, nil, nil, true, nil, true},
		{api.Bag{}, nil, nil, true, nil, true},
		{api.Bag{5}, nil, api.Bag{5}, true, api.Bag{5}, true},
		{nil, api.Bag{5}, api.Bag{5}, true, nil, false},
		{api.Bag{3, 2}, api.Bag{1, 1}, api.Bag{4, 3}, true, api.Bag{2, 1}, true},
		{api.Bag{0, 2}, api.Bag{1}, api.Bag{1, 2}, true, nil, false},
		{api.Bag{1, 2}, api.Bag{1}, api.Bag{2, 2}, true, api.Bag{0, 2}, true},
		{api.Bag{1}, api.Bag{1, 2}, api.Bag{2, 2}, true, nil, false},
		{api.Bag{9}, api.Bag{0, 0, 1}, api.Bag{9, 0, 1}, true, nil, false},
		{api.Bag{2, 7}, api.Bag{2, 7}, api.Bag{4, 14}, true, nil, true},
		{api.Bag{2, 7}, api.Bag{1, 7}, api.Bag{3, 14}, true, api.Bag{1}, true},
		{api.Bag{2, 7}, api.Bag{2, 8}, api.Bag{4, 15}, true, nil, false},
		{api.Bag{2, 7}, api.Bag{3, 1}, api.Bag{5, 8}, true, nil, false},
		{api.Bag{5, 0, 2, 3}, api.Bag{1, 0, 2, 3}, api.Bag{6, 0, 4, 6}, true, api.Bag{4}, true},
		{api.Bag{0, 5, 0, 3}, api.Bag{0, 5, 0, 1}, api.Bag{0, 10, 0, 4}, true, api.Bag{0, 0, 0, 2}, true},
		{full(), full(), One(api.MaxMsgs-1, 2), true, nil, true},
	} {
		expectPair(t, x.a, x.b, x.sum, x.sumOK, x.rest, x.restOK)
	}
}

func TestAddAndSubAtFar(t *testing.T) {
	expectPair(t, api.Bag{far - 1}, api.Bag{1}, api.Bag{far}, true, api.Bag{far - 2}, true)
	expectPair(t, api.Bag{far}, api.Bag{1}, nil, false, api.Bag{far - 1}, true)
	expectPair(t, api.Bag{far}, api.Bag{far}, nil, false, nil, true)
	expectPair(t, api.Bag{far / 2}, api.Bag{far / 2}, api.Bag{far}, true, nil, true)
	expectPair(t, api.Bag{far / 2}, api.Bag{far/2 + 1}, nil, false, nil, false)
	expectPair(t, api.Bag{far, 1}, api.Bag{0, far}, nil, false, nil, false)
	expectPair(t, api.Bag{far}, api.Bag{0, far}, api.Bag{far, far}, true, nil, false)
	expectPair(t, api.Bag{1, 1, far}, api.Bag{1, 1, 1}, nil, false, api.Bag{0, 0, far - 1}, true)
}

// Against each other: whatever is put together can be taken apart again.
func TestSubUndoesAdd(t *testing.T) {
	for _, a := range right() {
		for _, b := range right() {
			s, ok := Add(a, b)
			if !ok {
				continue
			}
			if !Right(s) {
				t.Errorf("Add(%v, %v) is %v, which is not Right", a, b, s)
			}
			rest, ok := Sub(s, b)
			expectCall(t, "Sub of Add", rest, ok, a, true)
		}
	}
}

func TestOthersHaveNoAnswer(t *testing.T) {
	for name, w := range wrong() {
		expectNone(t, name+", itself", w, w)
		for _, r := range right() {
			expectNone(t, name+", ahead", w, r)
			expectNone(t, name+", behind", r, w)
		}
		for other, v := range wrong() {
			expectNone(t, name+", "+other, w, v)
		}
		if n, ok := Total(w); n != 0 || ok {
			t.Errorf("%s: Total is %d, %t", name, n, ok)
		}
	}
}

func expectNone(t *testing.T, name string, a, b api.Bag) {
	t.Helper()
	s, ok := Add(a, b)
	expectCall(t, name+": Add", s, ok, nil, false)
	s, ok = Sub(a, b)
	expectCall(t, name+": Sub", s, ok, nil, false)
	if got := Compare(a, b); got != 0 {
		t.Errorf("%s: Compare(%v, %v) is %d", name, a, b, got)
	}
}

func TestCompareByOrder(t *testing.T) {
	words := right()
	for i, a := range words {
		for j, b := range words {
			if got := Compare(a, b); got != cmp.Compare(i, j) {
				t.Errorf("Compare(%v, %v) is %d", a, b, got)
			}
		}
	}
}

func TestCompare(t *testing.T) {
	for _, x := range []struct {
		name string
		a, b api.Bag
		want int
	}{
		{"both empty", nil, api.Bag{}, 0},
		{"the same", api.Bag{1, 2}, api.Bag{1, 2}, 0},
		{"shorter, though it has more", api.Bag{far}, api.Bag{0, 1}, -1},
		{"shorter, and the other's beginning", api.Bag{1, 2}, api.Bag{1, 2, 3}, -1},
		{"the first tag counts, not the last", api.Bag{1, 9}, api.Bag{2, 1}, -1},
		{"a tag between", api.Bag{1, 3, 1}, api.Bag{1, 2, 9}, 1},
		{"the last tag", api.Bag{1, 2, 1}, api.Bag{1, 2, 2}, -1},
		{"far apart", api.Bag{0, 1}, api.Bag{far, 1}, -1},
	} {
		if got, back := Compare(x.a, x.b), Compare(x.b, x.a); got != x.want || back != -x.want {
			t.Errorf("%s: %d, and %d the other way round", x.name, got, back)
		}
	}
}

func TestTotal(t *testing.T) {
	for _, x := range []struct {
		b  api.Bag
		n  int
		ok bool
	}{
		{nil, 0, true},
		{api.Bag{}, 0, true},
		{api.Bag{1}, 1, true},
		{api.Bag{1, 2, 3}, 6, true},
		{api.Bag{0, 0, 4}, 4, true},
		{slices.Repeat(api.Bag{2}, api.MaxMsgs), 2 * api.MaxMsgs, true},
		{api.Bag{far}, far, true},
		{api.Bag{far - 1, 1}, far, true},
		{api.Bag{1, far - 1}, far, true},
		{api.Bag{0, far}, far, true},
		{api.Bag{far / 2, far / 2}, far, true},
		{api.Bag{far, 1}, 0, false},
		{api.Bag{1, far}, 0, false},
		{api.Bag{far / 2, far / 2, 1}, 0, false},
		{api.Bag{far, far, far, far}, 0, false},
		{slices.Repeat(api.Bag{far}, api.MaxMsgs), 0, false},
	} {
		if n, ok := Total(x.b); n != x.n || ok != x.ok {
			t.Errorf("Total(%v) is %d, %t, want %d, %t", x.b, n, ok, x.n, x.ok)
		}
	}
}

// roomy is b with memory behind its end, which an append would write into.
func roomy(b api.Bag) api.Bag {
	room := slices.Repeat(api.Bag{7}, len(b)+3)
	copy(room, b)
	return room[:len(b)]
}

// expectApart calls, and writes over all memory of the answer and then of what was handed in: neither may show the other's.
func expectApart(t *testing.T, name string, call func(in []api.Bag) api.Bag, args ...api.Bag) {
	t.Helper()
	var in, was []api.Bag
	for _, b := range args {
		in = append(in, roomy(b))
		was = append(was, slices.Clone(in[len(in)-1][:len(b)+3]))
	}
	got := call(in)
	want := slices.Clone(got)
	fill(got[:cap(got)], -99)
	for i, b := range in {
		expectBag(t, name+": what was handed in", b[:cap(b)], was[i])
	}
	copy(got, want)
	for _, b := range in {
		fill(b[:cap(b)], -98)
	}
	expectBag(t, name+": what was answered", got, want)
}

func fill(b api.Bag, n int) {
	for i := range b {
		b[i] = n
	}
}

func TestAnswersAreNewMemory(t *testing.T) {
	norm := func(in []api.Bag) api.Bag { return Norm(in[0]) }
	add := func(in []api.Bag) api.Bag { s, _ := Add(in[0], in[1]); return s }
	sub := func(in []api.Bag) api.Bag { s, _ := Sub(in[0], in[1]); return s }
	for _, b := range append(right(), api.Bag{}, api.Bag{0}, api.Bag{1, 0, 0}, api.Bag{-1, 0}, full(0), full(1)) {
		expectApart(t, "Norm", norm, b)
		for _, a := range append(right(), api.Bag{1, 0}) {
			expectApart(t, "Add", add, a, b)
			expectApart(t, "Sub", sub, a, b)
		}
	}
	first, second := One(2, 5), One(2, 5)
	fill(first[:cap(first)], -99)
	expectBag(t, "One, again", second, api.Bag{0, 0, 5})
	expectBag(t, "One, once more", One(2, 5), api.Bag{0, 0, 5})
}

func TestAWordWithItself(t *testing.T) {
	a := roomy(api.Bag{1, 0, 2})
	s, ok := Add(a, a)
	expectCall(t, "Add", s, ok, api.Bag{2, 0, 4}, true)
	s, ok = Sub(a, a)
	expectCall(t, "Sub", s, ok, nil, true)
	if got := Compare(a, a); got != 0 {
		t.Error("Compare", got)
	}
	expectBag(t, "the word", a[:cap(a)], api.Bag{1, 0, 2, 7, 7, 7})
}

// every calls do with every list of at most three of the numbers, which are within the bound, at it and beyond it.
func every(do func(b api.Bag)) {
	numbers := []int{math.MinInt, -1, 0, 1, 2, far / 2, far - 1, far, far + 1, math.MaxInt}
	do(nil)
	for _, x := range numbers {
		do(api.Bag{x})
		for _, y := range numbers {
			do(api.Bag{x, y})
			for _, z := range []int{-1, 0, 1, far} {
				do(api.Bag{x, y, z})
			}
		}
	}
}

// exact is how many b has of a tag, and none behind its end.
func exact(b api.Bag, tag int) *big.Int {
	if tag >= len(b) {
		return new(big.Int)
	}
	return big.NewInt(int64(b[tag]))
}

// model is a word that is worked out tag by tag without any bound, if each number of it may be.
func model(a, b api.Bag, by func(z, x, y *big.Int) *big.Int) (s api.Bag, ok bool) {
	for tag := range api.MaxMsgs {
		n := by(new(big.Int), exact(a, tag), exact(b, tag))
		if n.Sign() < 0 || n.Cmp(big.NewInt(far)) > 0 {
			return nil, false
		}
		s = append(s, int(n.Int64()))
	}
	for len(s) > 0 && s[len(s)-1] == 0 {
		s = s[:len(s)-1]
	}
	return s, true
}

func TestAddAndSubAgainstExactNumbers(t *testing.T) {
	every(func(a api.Bag) {
		if !Right(a) {
			return
		}
		every(func(b api.Bag) {
			if !Right(b) {
				return
			}
			want, wantOK := model(a, b, (*big.Int).Add)
			s, ok := Add(a, b)
			expectCall(t, "Add", s, ok, want, wantOK)
			want, wantOK = model(a, b, (*big.Int).Sub)
			s, ok = Sub(a, b)
			expectCall(t, "Sub", s, ok, want, wantOK)
		})
	})
}

func TestRightNormAndTotalAgainstTheirWords(t *testing.T) {
	every(func(b api.Bag) {
		end, each, sum := len(b), true, new(big.Int)
		for end > 0 && b[end-1] == 0 {
			end--
		}
		for tag, n := range b {
			each = each && 0 <= n && n <= far
			sum.Add(sum, exact(b, tag))
		}
		isRight := each && end == len(b)
		if Right(b) != isRight {
			t.Errorf("Right(%v) is %t", b, Right(b))
		}
		var norm api.Bag
		if each {
			norm = b[:end]
		}
		expectBag(t, "Norm", Norm(b), norm)
		wantOK := isRight && sum.Cmp(big.NewInt(far)) <= 0
		n, ok := Total(b)
		if ok != wantOK || ok && big.NewInt(int64(n)).Cmp(sum) != 0 || !ok && n != 0 {
			t.Errorf("Total(%v) is %d, %t", b, n, ok)
		}
	})
}
