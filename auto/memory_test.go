package auto

import (
	"fmt"
	"slices"
	"testing"

	"columbary/api"
	"columbary/meter"
)

// roomy is w in new memory, with more behind its end, which an append would write into.
func roomy(w api.Bag) api.Bag {
	room := slices.Repeat(api.Bag{7}, len(w)+3)
	copy(room, w)
	return room[:len(w)]
}

// roomyItems are l in new memory, each list with memory behind its end.
func roomyItems(l []api.Item) []api.Item {
	room := []api.Item{}
	for _, it := range l {
		room = append(room, api.Item{J: it.J, Carry: roomy(it.Carry)})
	}
	return append(room, item(-5, 8), item(-6, 9))[:len(l)]
}

// roomySemi is s in new memory, each list with memory behind its end.
func roomySemi(s api.Semi) api.Semi {
	room := api.Semi{}
	for _, l := range s {
		var periods []api.Bag
		for _, p := range l.Periods {
			periods = append(periods, roomy(p))
		}
		periods = append(periods, api.Bag{5}, api.Bag{6})[:len(l.Periods)]
		room = append(room, api.Lin{Base: roomy(l.Base), Periods: periods})
	}
	return append(room, set(api.Bag{8}), set(api.Bag{9}))[:len(s)]
}

// carries are all words in the memory of l, what is behind the ends of lists too.
func carries(l []api.Item) (all []api.Bag) {
	for _, it := range l[:cap(l)] {
		all = append(all, it.Carry)
	}
	return all
}

// bags are all words in the memory of s, what is behind the ends of lists too.
func bags(s api.Semi) (all []api.Bag) {
	for _, l := range s[:cap(s)] {
		all = append(all, l.Base)
		all = append(all, l.Periods[:cap(l.Periods)]...)
	}
	return all
}

// whole tells all that stands in the memory of words, what is behind their ends too.
func whole(all []api.Bag) (told string) {
	for _, w := range all {
		told += fmt.Sprint(len(w), w[:cap(w)])
	}
	return told
}

// places tells the items' J, those behind the end too.
func places(l []api.Item) (told string) {
	for _, it := range l[:cap(l)] {
		told += fmt.Sprint(it.J, " ")
	}
	return told
}

// fill writes over all memory of words.
func fill(all []api.Bag, n int) {
	for _, w := range all {
		for i := range w[:cap(w)] {
			w[:cap(w)][i] = n
		}
	}
}

// spoil writes over all memory of l.
func spoil(l []api.Item, n int) {
	fill(carries(l), n)
	for i := range l[:cap(l)] {
		l[:cap(l)][i] = item(n, n)
	}
}

// expectOwnLists writes over one list of an answer after the other, and looks at all the others.
func expectOwnLists(t *testing.T, name string, l []api.Item) {
	t.Helper()
	all := carries(l)
	for i, w := range all {
		others := whole(slices.Concat(all[:i], all[i+1:]))
		fill([]api.Bag{w}, -100-i)
		if got := whole(slices.Concat(all[:i], all[i+1:])); got != others {
			t.Errorf("%s: writing into word %d made %s of %s", name, i, got, others)
		}
	}
}

// expectApart calls with the same memory again and again: what is done to one answer may be seen neither in what was handed in nor in the other answers, and what is done to what was handed in may not be seen in them.
func expectApart(t *testing.T, name string, s api.Semi, l []api.Item, call func(s api.Semi, l []api.Item) []api.Item) {
	t.Helper()
	handed := func() string {
		return fmt.Sprint(len(s), whole(bags(s)), len(l), places(l), whole(carries(l)))
	}
	was := handed()
	one, two, three := call(s, l), call(s, l), call(s, l)
	if handed() != was {
		t.Errorf("%s: the call made %s of %s", name, handed(), was)
	}
	want := fmt.Sprint(two)
	expectOwnLists(t, name, three)
	spoil(one, -99)
	if handed() != was {
		t.Errorf("%s: writing into the answer made %s of %s", name, handed(), was)
	}
	fill(bags(s), -98)
	spoil(l, -98)
	if got := fmt.Sprint(two); got != want {
		t.Errorf("%s: writing into what was handed in made %s of %s", name, got, want)
	}
}

func callStart(s api.Semi, _ []api.Item) []api.Item {
	return Start(s)
}

// callNext is by a letter that many go on by.
func callNext(s api.Semi, l []api.Item) []api.Item {
	next, _ := Next(nil, s, l, 0)
	return next
}

// callOutOfWork is refused on the way, where there is anything to spend.
func callOutOfWork(s api.Semi, l []api.Item) []api.Item {
	for budget := range 9 {
		Next(meter.New(budget), s, l, 1)
	}
	return nil
}

// callAsking asks all that tells no list, and that is no reason to change one.
func callAsking(s api.Semi, l []api.Item) []api.Item {
	Right(s, l)
	Final(l)
	for _, it := range l {
		Letter(it.Carry, 0)
	}
	return nil
}

// expectAllApart hands each call s and l, in memory of their own.
func expectAllApart(t *testing.T, name string, s api.Semi, l []api.Item) {
	t.Helper()
	for kind, call := range map[string]func(api.Semi, []api.Item) []api.Item{
		"Start": callStart, "Next": callNext, "out of work": callOutOfWork, "asking": callAsking,
	} {
		expectApart(t, name+": "+kind, roomySemi(s), roomyItems(l), call)
	}
}

func TestAnswersAreNewMemory(t *testing.T) {
	for i, s := range smallSemis(t) {
		for k, l := range someItems(s) {
			expectAllApart(t, fmt.Sprint("set ", i, ", items ", k), s, l)
		}
	}
}

func TestWrongOnesAreAsTheyWere(t *testing.T) {
	for name, s := range wrongSemis() {
		expectAllApart(t, name, s, []api.Item{item(0)})
	}
	for name, w := range wrongWords() {
		expectAllApart(t, name, three(), []api.Item{item(0), {J: 1, Carry: w}})
	}
	expectAllApart(t, "falling", three(), []api.Item{item(2), item(1, 3), item(1), item(1)})
	expectAllApart(t, "no such set", three(), []api.Item{item(-1), item(3)})
	expectAllApart(t, "beyond Far", three(), []api.Item{item(0), item(0, far)})
	expectAllApart(t, "too many periods", api.Semi{set(nil), numbered(21)}, []api.Item{item(0, 2), item(1)})
}

func TestListsThatShareMemory(t *testing.T) {
	word := api.Bag{2, 4, 6}
	s := api.Semi{set(word[:1], word[:1], word[:2]), set(word[:2], word[:1], word), set(word)}
	expectApart(t, "Start of pieces of one list", s, nil, callStart)

	word = api.Bag{2, 4, 6}
	l := []api.Item{{Carry: word[:0]}, {Carry: word[:1]}, {Carry: word}, {J: 1, Carry: word[:2]}, {J: 2, Carry: word}}
	expectApart(t, "Next of pieces of one list", three(), l, callNext)

	word = api.Bag{2, 4, 6}
	s = api.Semi{set(word[:1], word[:1], word[:2]), set(word[:2], word[:1], word), set(word)}
	l = []api.Item{{Carry: word[:1]}, {J: 1, Carry: word[:2]}, {J: 2, Carry: word}}
	expectApart(t, "Next of pieces of the set", s, l, callNext)
}

// What Start answers may be handed to Next, and what that answers again; what is done to them behind that changes nothing.
func TestAnswersHandedOn(t *testing.T) {
	s := three()
	start := Start(s)
	next, _ := Next(nil, s, start, 0)
	behind, _ := Next(nil, s, next, 1)
	want := fmt.Sprint(s, next, behind)
	spoil(start, -99)
	if got := fmt.Sprint(s, next, behind); got != want {
		t.Errorf("writing into Start's made %s of %s", got, want)
	}
	want = fmt.Sprint(s, behind)
	spoil(next, -99)
	if got := fmt.Sprint(s, behind); got != want {
		t.Errorf("writing into Next's made %s of %s", got, want)
	}
}

// What is kept from call to call would be seen in the answers of a second round.
func TestAnswersHangOnArgumentsAlone(t *testing.T) {
	round := func() (told string) {
		for _, s := range smallSemis(t)[:80] {
			for _, l := range someItems(s) {
				told += fmt.Sprint(Right(s, l), Final(l), ask(meter.New(20), s, l, 1))
				for _, made := range [][]api.Item{Start(s), callNext(s, l)} {
					told += fmt.Sprint(made)
					spoil(made, -99)
				}
			}
		}
		return told
	}
	if round() != round() {
		t.Error("a second round has other answers")
	}
}
