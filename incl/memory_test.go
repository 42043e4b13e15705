package incl

import (
	"fmt"
	"slices"
	"testing"

	"columbary/api"
	"columbary/meter"
)

// roomy is w in new memory, with more behind its end, which an append would write into.
func roomy(w api.Bag) api.Bag {
	room := slices.Repeat(api.Bag{7}, len(w)+3)
	copy(room, w)
	return room[:len(w)]
}

// roomySemi is s in new memory, each list with memory behind its end.
func roomySemi(s api.Semi) api.Semi {
	room := api.Semi{}
	for _, l := range s {
		var periods []api.Bag
		for _, p := range l.Periods {
			periods = append(periods, roomy(p))
		}
		periods = append(periods, api.Bag{5}, api.Bag{6})[:len(l.Periods)]
		room = append(room, api.Lin{Base: roomy(l.Base), Periods: periods})
	}
	return append(room, set(api.Bag{8}), set(api.Bag{9}))[:len(s)]
}

// bags are all words in the memory of s, what is behind the ends of lists too.
func bags(s api.Semi) (all []api.Bag) {
	for _, l := range s[:cap(s)] {
		all = append(all, l.Base)
		all = append(all, l.Periods[:cap(l.Periods)]...)
	}
	return all
}

// whole tells all that stands in the memory of words, what is behind their ends too.
func whole(all ...api.Bag) (told string) {
	for _, w := range all {
		told += fmt.Sprint(len(w), w[:cap(w)])
	}
	return told
}

// shape tells where in a set its words stand.
func shape(s api.Semi) (told string) {
	for _, l := range s[:cap(s)] {
		told += fmt.Sprint(len(l.Periods), cap(l.Periods), " ")
	}
	return fmt.Sprint(len(s), ": ", told)
}

// fill writes over all memory of words.
func fill(n int, all ...api.Bag) {
	for _, w := range all {
		for i := range w[:cap(w)] {
			w[:cap(w)][i] = n
		}
	}
}

// callAll calls all that there is, with meters that are refused on the way, too, and tells the words that Within tells.
func callAll(a, b api.Semi, w api.Bag) (words []api.Bag) {
	for _, budget := range []int{0, 1, 2, 3, 5, 8, 13, 21, 1 << 20} {
		Has(meter.New(budget), a, w)
		Has(meter.New(budget), b, w)
		Same(meter.New(budget), a, b)
		for _, x := range [][2]api.Semi{{a, b}, {b, a}, {a, nil}, {b, nil}} {
			_, told, _ := Within(meter.New(budget), x[0], x[1])
			words = append(words, told)
		}
	}
	return words
}

// expectApart calls with the same memory again and again: what is done to one answer may be seen neither in what was handed in nor in the other answers, and what is done to what was handed in may not be seen in them.
func expectApart(t *testing.T, name string, a, b api.Semi, w api.Bag) {
	t.Helper()
	handed := func() string {
		return shape(a) + whole(bags(a)...) + shape(b) + whole(bags(b)...) + whole(w)
	}
	was := handed()
	one, two := callAll(a, b, w), callAll(a, b, w)
	if handed() != was {
		t.Fatalf("%s: the calls made %s of %s", name, handed(), was)
	}
	want := whole(two...)
	for i, told := range one {
		others := whole(slices.Concat(one[:i], one[i+1:])...)
		fill(-100-i, told)
		if handed() != was || whole(two...) != want || whole(slices.Concat(one[:i], one[i+1:])...) != others {
			t.Fatalf("%s: writing into word %d wrote into more", name, i)
		}
	}
	fill(-98, bags(a)...)
	fill(-98, bags(b)...)
	fill(-98, w)
	if got := whole(two...); got != want {
		t.Fatalf("%s: writing into what was handed in made %s of %s", name, got, want)
	}
}

func TestAnswersAreNewMemory(t *testing.T) {
	lins := smallLins()
	for i, l := range lins {
		for j, more := range lins {
			a, b := roomySemi(api.Semi{l}), roomySemi(api.Semi{more})
			expectApart(t, fmt.Sprint("sets ", i, " and ", j), a, b, roomy(api.Bag{i, j + 1}))
		}
	}
	sets := smallSemis()
	for i, s := range sets {
		if i%11 == 0 {
			expectApart(t, fmt.Sprint("sets of more ", i), roomySemi(s), roomySemi(sets[(i+60)%len(sets)]), roomy(api.Bag{3, i + 1}))
		}
	}
	expectApart(t, "great numbers", roomySemi(word(1<<59)), roomySemi(api.Semi{set(last(far - 1))}), roomy(api.Bag{far}))
}

func TestWrongOnesAreAsTheyWere(t *testing.T) {
	right := api.Semi{set(nil, api.Bag{1}), set(api.Bag{3})}
	for name, s := range wrongSemis() {
		expectApart(t, name, roomySemi(s), roomySemi(right), roomy(api.Bag{1}))
		expectApart(t, name+", behind", roomySemi(right), roomySemi(s), roomy(api.Bag{1}))
	}
	for name, w := range wrongWords() {
		expectApart(t, name, roomySemi(right), roomySemi(right), roomy(w))
	}
	expectApart(t, "too many periods", roomySemi(api.Semi{numbered(21, 1)}), roomySemi(right), roomy(api.Bag{1}))
	expectApart(t, "beyond Far", roomySemi(api.Semi{set(api.Bag{far}, api.Bag{1})}), roomySemi(right), roomy(api.Bag{1}))
}

func TestListsThatShareMemory(t *testing.T) {
	w := api.Bag{2, 4, 6}
	s := api.Semi{set(w[:1], w[:1], w[:2]), set(w[:2], w[:1], w), set(w)}
	expectApart(t, "pieces of one list", s, s, w)
	w = api.Bag{2, 4, 6}
	expectApart(t, "pieces of one list, in less", api.Semi{set(w[:2], w[:1]), set(w)}, api.Semi{set(w[:2])}, w[:2])
}

// What is told is no piece of a set, even where it is a base, or a period.
func TestTheWordIsNoPieceOfASet(t *testing.T) {
	for _, a := range []api.Semi{word(5), word(1), {set(api.Bag{5, 1}, api.Bag{1})}, {set(nil, api.Bag{4, 4})}, {set(nil), set(api.Bag{7, 9})}} {
		a = roomySemi(a)
		was := whole(bags(a)...)
		_, w, _ := Within(nil, a, roomySemi(api.Semi{set(nil)}))
		if len(w) == 0 {
			t.Errorf("%v has no word", a)
		}
		fill(-99, w)
		if got := whole(bags(a)...); got != was {
			t.Errorf("writing into the word made %s of %s", got, was)
		}
	}
}

// What is kept from call to call would be seen in the answers of a second round.
func TestAnswersHangOnArgumentsAlone(t *testing.T) {
	sets := smallSemis()
	round := func() (told string) {
		for i, s := range sets[:90] {
			b := sets[(i*7+3)%len(sets)]
			for _, call := range []calling{inside(s, b), has(s, api.Bag{i % 5, 1}), same(s, b), inside(s, nil)} {
				told += fmt.Sprint(ask(meter.New(400), call))
			}
			_, w, _ := Within(nil, s, b)
			told += fmt.Sprint(w)
			fill(-99, w)
		}
		return told
	}
	if round() != round() {
		t.Error("a second round has other answers")
	}
}
