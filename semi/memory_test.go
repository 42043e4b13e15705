package semi

import (
	"fmt"
	"slices"
	"testing"

	"columbary/api"
	"columbary/meter"
)

// roomy is b in new memory, with more behind its end, which an append would write into.
func roomy(b api.Bag) api.Bag {
	room := slices.Repeat(api.Bag{7}, len(b)+3)
	copy(room, b)
	return room[:len(b)]
}

// roomySemi is s in new memory, each list of it with memory behind its end.
func roomySemi(s api.Semi) api.Semi {
	room := make(api.Semi, len(s)+2)
	for i, l := range append(slices.Clone(s), api.Lin{}) {
		periods := make([]api.Bag, len(l.Periods)+2)
		for k, p := range append(slices.Clone(l.Periods), api.Bag{8}) {
			periods[k] = roomy(p)
		}
		room[i] = api.Lin{Base: roomy(l.Base), Periods: periods[:len(l.Periods)]}
	}
	return room[:len(s)]
}

// bags are all words in the memory of s, what is behind the ends of lists too.
func bags(s api.Semi) (l []api.Bag) {
	for _, x := range s[:cap(s)] {
		l = append(l, x.Base)
		l = append(l, x.Periods[:cap(x.Periods)]...)
	}
	return l
}

// whole tells all that stands in the memory of s, what is behind the ends of lists too.
func whole(s api.Semi) string {
	told := fmt.Sprint(len(s), cap(s))
	for _, x := range s[:cap(s)] {
		told += fmt.Sprint(" / ", len(x.Base), len(x.Periods), cap(x.Periods))
	}
	for _, b := range bags(s) {
		told += fmt.Sprint(" ", len(b), b[:cap(b)])
	}
	return told
}

// fill writes over all memory of a word.
func fill(b api.Bag, n int) {
	for i := range b[:cap(b)] {
		b[:cap(b)][i] = n
	}
}

// spoil writes over all memory of s.
func spoil(s api.Semi, n int) {
	for _, b := range bags(s) {
		fill(b, n)
	}
	for i, x := range s[:cap(s)] {
		for k := range x.Periods[:cap(x.Periods)] {
			x.Periods[:cap(x.Periods)][k] = api.Bag{n}
		}
		s[:cap(s)][i] = api.Lin{Base: api.Bag{n}}
	}
}

// expectOwnLists writes over one list of an answer after the other, and looks at all the others.
func expectOwnLists(t *testing.T, name string, s api.Semi) {
	t.Helper()
	all := bags(s)
	for i, b := range all {
		others := func() string { return fmt.Sprint(all[:i], all[i+1:]) }
		want := others()
		fill(b, -100-i)
		if got := others(); got != want {
			t.Errorf("%s: writing into word %d made %s of %s", name, i, got, want)
		}
	}
	for i, l := range s {
		others := func() string { return fmt.Sprint(s[:i], s[i+1:]) }
		want := others()
		for k := range l.Periods[:cap(l.Periods)] {
			l.Periods[:cap(l.Periods)][k] = api.Bag{-100 - i}
		}
		if got := others(); got != want {
			t.Errorf("%s: writing into periods %d made %s of %s", name, i, got, want)
		}
	}
}

// expectApart calls with the same memory again and again: what is done to one answer may be seen neither in what was handed in nor in the other answers, and what is done to what was handed in may not be seen in them.
func expectApart(t *testing.T, name string, call func(in []api.Semi) api.Semi, in ...api.Semi) {
	t.Helper()
	var was []string
	for _, s := range in {
		was = append(was, whole(s))
	}
	expectKept := func(doing string) {
		t.Helper()
		for i, s := range in {
			if whole(s) != was[i] {
				t.Errorf("%s: %s made %s of %s", name, doing, whole(s), was[i])
			}
		}
	}
	one, two, three := call(in), call(in), call(in)
	expectKept("the call")
	want := text(two)
	expectOwnLists(t, name, three)
	spoil(one, -99)
	expectKept("writing into the answer")
	for _, s := range in {
		spoil(s, -98)
	}
	if text(two) != want {
		t.Errorf("%s: writing into what was handed in made %v of %s", name, two, want)
	}
}

func callOf(in []api.Semi) api.Semi {
	s, _ := Of(in[0]...)
	return s
}

func callUnion(in []api.Semi) api.Semi {
	return Union(in[0], in[1])
}

func callCat(in []api.Semi) api.Semi {
	s, _ := Cat(nil, in[0], in[1])
	return s
}

func callStar(in []api.Semi) api.Semi {
	s, _ := Star(nil, in[0])
	return s
}

// callPow is of so many times as the second set has linear sets.
func callPow(in []api.Semi) api.Semi {
	s, _ := Pow(nil, in[0], len(in[1]))
	return s
}

// callOutOfWork is refused on the way, where there is anything to spend.
func callOutOfWork(in []api.Semi) api.Semi {
	Cat(meter.New(0), in[0], in[1])
	Star(meter.New(0), in[0])
	Pow(meter.New(len(in[0])), in[0], 3)
	return nil
}

// callAsking asks all that tells no list, and that is no reason to change one.
func callAsking(in []api.Semi) api.Semi {
	Right(in[0])
	Same(in[0], in[1])
	return nil
}

// expectAllApart hands each call a and b, in memory of their own.
func expectAllApart(t *testing.T, name string, a, b api.Semi) {
	t.Helper()
	for kind, call := range map[string]func(in []api.Semi) api.Semi{
		"Of": callOf, "Union": callUnion, "Cat": callCat, "Star": callStar, "Pow": callPow,
		"out of work": callOutOfWork, "asking": callAsking,
	} {
		expectApart(t, name+": "+kind, call, roomySemi(a), roomySemi(b))
	}
}

// fewSemis are sets of all kinds, of which all calls have an answer soon.
func fewSemis() []api.Semi {
	p, q := api.Bag{1}, api.Bag{0, 2}
	return []api.Semi{
		nil, One(), {point(1)}, {point(1), point(0, 1)}, {{}, point(2), point(1, 1)}, numbers(4),
		{set(nil, p)}, {set(nil, p, q), set(p, q), set(q, p)}, {{}, set(nil, p), point(3), set(q, p, q)},
	}
}

func TestAnswersAreNewMemory(t *testing.T) {
	for _, a := range fewSemis() {
		for _, b := range fewSemis() {
			expectAllApart(t, "right", a, b)
		}
		expectApart(t, "itself: Union", callUnion, twice(a)...)
		expectApart(t, "itself: Cat", callCat, twice(a)...)
	}
	for name, w := range wrongSemis() {
		expectAllApart(t, name, w, numbers(2))
		expectAllApart(t, name, numbers(2), w)
	}
}

// twice is one set in memory of its own, two times.
func twice(s api.Semi) []api.Semi {
	own := roomySemi(s)
	return []api.Semi{own, own}
}

func TestOfIsNewMemory(t *testing.T) {
	p, q := api.Bag{1}, api.Bag{0, 2}
	for _, s := range []api.Semi{
		{point(2), point(1), point(2), {}},
		{set(q, p, q), set(nil, p), set(q, p, q), set(nil, p), set(nil, p)},
		{point(3), point(2), point(0)},
	} {
		expectApart(t, "Of", callOf, roomySemi(s))
	}
}

func TestListsThatShareMemory(t *testing.T) {
	word := api.Bag{1, 2, 3}
	periods := []api.Bag{word[:1], word[:2], word}
	s := api.Semi{set(word, periods[1:]...), set(word[:1], periods[:1]...), set(word[:0], periods...), set(word[:2]), set(word, periods[:2]...)}
	expectApart(t, "Of pieces of one list", callOf, slices.Clone(s))

	word = api.Bag{1, 2, 3, 4}
	s = api.Semi{{}, set(word[:1]), set(word[:2]), set(word[:3])}
	expectApart(t, "Star of pieces of one list", callStar, slices.Clone(s))

	word = api.Bag{1, 2, 3, 4}
	s = api.Semi{set(word[:1]), set(word[:2]), set(word[:3]), set(word[:4])}
	expectApart(t, "Union of pieces of one set", callUnion, s[:2], s[1:3])

	word = api.Bag{1, 2, 3, 4}
	s = api.Semi{set(word[:1]), set(word[:2]), set(word[:3]), set(word[:4])}
	expectApart(t, "Cat of pieces of one set", callCat, s[:2], s[1:3])
}

func TestOneIsNewMemory(t *testing.T) {
	expectApart(t, "One", func([]api.Semi) api.Semi { return One() })
}

// What is kept from call to call would be seen in the answers of a second round.
func TestAnswersHangOnArgumentsAlone(t *testing.T) {
	round := func() (told string) {
		for _, a := range fewSemis() {
			for _, b := range fewSemis() {
				in := []api.Semi{a, b}
				told += fmt.Sprint(Right(a), Same(a, b))
				for _, s := range []api.Semi{One(), callOf(in), callUnion(in), callCat(in), callStar(in), callPow(in)} {
					told += whole(s)
					spoil(s, -99)
				}
			}
		}
		return told
	}
	if round() != round() {
		t.Error("a second round has other answers")
	}
}
