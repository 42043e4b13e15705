package lin

import (
	"fmt"
	"slices"
	"testing"

	"columbary/api"
)

// roomy is b with memory behind its end, which an append would write into.
func roomy(b api.Bag) api.Bag {
	room := slices.Repeat(api.Bag{7}, len(b)+3)
	copy(room, b)
	return room[:len(b)]
}

// roomyLin is l in new memory, each list of it with memory behind its end.
func roomyLin(l api.Lin) api.Lin {
	room := make([]api.Bag, len(l.Periods)+2)
	for i, p := range l.Periods {
		room[i] = roomy(p)
	}
	room[len(l.Periods)] = roomy(api.Bag{8})
	return api.Lin{Base: roomy(l.Base), Periods: room[:len(l.Periods)]}
}

// whole tells all that stands in the memory of l, what is behind the ends too.
func whole(l api.Lin) string {
	s := fmt.Sprint(len(l.Base), l.Base[:cap(l.Base)])
	for _, p := range l.Periods[:cap(l.Periods)] {
		s += fmt.Sprint(" ", len(p), p[:cap(p)])
	}
	return s
}

// spoil writes over all memory of l.
func spoil(l api.Lin, n int) {
	periods := l.Periods[:cap(l.Periods)]
	for _, b := range append([]api.Bag{l.Base}, periods...) {
		for i := range b[:cap(b)] {
			b[:cap(b)][i] = n
		}
	}
	for i := range periods {
		periods[i] = api.Bag{n}
	}
}

// expectApart calls twice with the same memory: what is done to one answer may be seen neither in what was handed in nor in the other answer, and what is done to what was handed in may not be seen in that one.
func expectApart(t *testing.T, name string, call func(in []api.Lin) api.Lin, in ...api.Lin) {
	t.Helper()
	var was []string
	for _, l := range in {
		was = append(was, whole(l))
	}
	one, two := call(in), call(in)
	want := fmt.Sprint(two)
	for i, l := range in {
		if whole(l) != was[i] {
			t.Errorf("%s: the call made %s of %s", name, whole(l), was[i])
		}
	}
	expectOwnLists(t, name, call(in))
	spoil(one, -99)
	for i, l := range in {
		if whole(l) != was[i] {
			t.Errorf("%s: writing into the answer made %s of %s", name, whole(l), was[i])
		}
	}
	for _, l := range in {
		spoil(l, -98)
	}
	if fmt.Sprint(two) != want {
		t.Errorf("%s: writing into what was handed in made %v of %s", name, two, want)
	}
}

// expectOwnLists writes over one list of an answer after the other, and looks at those behind it.
func expectOwnLists(t *testing.T, name string, l api.Lin) {
	t.Helper()
	lists := append([]api.Bag{l.Base}, l.Periods...)
	for i, b := range lists {
		want := fmt.Sprint(lists[i+1:])
		for k := range b[:cap(b)] {
			b[:cap(b)][k] = -97
		}
		if got := fmt.Sprint(lists[i+1:]); got != want {
			t.Errorf("%s: writing into list %d made %s of %s", name, i, got, want)
		}
	}
}

func callOf(in []api.Lin) api.Lin {
	l, _ := Of(in[0].Base, in[0].Periods...)
	return l
}

func callCat(in []api.Lin) api.Lin {
	l, _ := Cat(in[0], in[1])
	return l
}

// callAsking asks all that tells no list, and that is no reason to change one.
func callAsking(in []api.Lin) api.Lin {
	Right(in[0])
	Point(in[0])
	Compare(in[0], in[1])
	return api.Lin{}
}

func TestOfIsNewMemory(t *testing.T) {
	for _, l := range rightLins() {
		expectApart(t, "Of", callOf, roomyLin(l))
	}
	for name, l := range wrongLins() {
		expectApart(t, name+": Of", callOf, roomyLin(l))
	}
	for _, l := range []api.Lin{
		lin(api.Bag{1, 0}, api.Bag{0, 2}, api.Bag{3}, api.Bag{0, 2, 0}, api.Bag{0}, nil),
		lin(api.Bag{0, 0}, api.Bag{3, 0}, api.Bag{2, 0}, api.Bag{1, 0}, api.Bag{2}),
		lin(nil, api.Bag{5}, api.Bag{4}, api.Bag{-1}),
	} {
		expectApart(t, "Of", callOf, roomyLin(l))
	}
}

func TestOfListsThatShareMemory(t *testing.T) {
	one := api.Bag{1, 2, 3}
	expectApart(t, "a base that is a period", callOf, lin(one, one, api.Bag{1}, one))
	all := api.Bag{1, 2, 3, 4}
	expectApart(t, "pieces of one list", callOf, lin(all[:1], all[:2], all[1:2], all[:4], all[2:]))
	empty := api.Bag{1, 2}
	expectApart(t, "an empty piece", callOf, lin(empty[:0], empty[:0], empty[:1]))
}

func TestCatIsNewMemory(t *testing.T) {
	for _, a := range rightLins() {
		for _, b := range rightLins() {
			expectApart(t, "Cat", callCat, roomyLin(a), roomyLin(b))
		}
		itself := roomyLin(a)
		expectApart(t, "Cat with itself", callCat, itself, itself)
		wrong := lin(api.Bag{1, 0}, api.Bag{2}, api.Bag{1})
		expectApart(t, "Cat with a wrong one", callCat, roomyLin(a), roomyLin(wrong))
		expectApart(t, "Cat of a wrong one", callCat, roomyLin(wrong), roomyLin(a))
	}
	periods := []api.Bag{{1}, {0, 1}, {1, 1}}
	expectApart(t, "pieces of one list", callCat, lin(periods[0], periods[:1]...), lin(periods[0], periods[1:]...))
}

func TestAskingChangesNothing(t *testing.T) {
	for _, a := range rightLins() {
		for _, b := range rightLins() {
			expectApart(t, "asking", callAsking, roomyLin(a), roomyLin(b))
		}
		for name, b := range wrongLins() {
			expectApart(t, name, callAsking, roomyLin(a), roomyLin(b))
			expectApart(t, name, callAsking, roomyLin(b), roomyLin(a))
		}
	}
}

// What is kept from call to call would be seen in the answers of a second round.
func TestAnswersHangOnArgumentsAlone(t *testing.T) {
	round := func() (s string) {
		for _, a := range rightLins() {
			for _, b := range rightLins() {
				l, ok := Cat(a, b)
				s += fmt.Sprint(Right(a), Point(a), Compare(a, b), l, ok)
				spoil(l, -99)
			}
		}
		return s
	}
	if round() != round() {
		t.Error("a second round has other answers")
	}
}
