package resid

import (
	"fmt"
	"slices"
	"testing"

	"columbary/api"
	"columbary/meter"
)

// roomy is w in new memory, with more behind its end, which an append would write into.
func roomy(w api.Bag) api.Bag {
	room := slices.Repeat(api.Bag{7}, len(w)+3)
	copy(room, w)
	return room[:len(w)]
}

// roomySemi is s in new memory, each list with memory behind its end.
func roomySemi(s api.Semi) api.Semi {
	room := api.Semi{}
	for _, l := range s {
		var periods []api.Bag
		for _, p := range l.Periods {
			periods = append(periods, roomy(p))
		}
		periods = append(periods, api.Bag{5}, api.Bag{6})[:len(l.Periods)]
		room = append(room, api.Lin{Base: roomy(l.Base), Periods: periods})
	}
	return append(room, set(api.Bag{8}), set(api.Bag{9}))[:len(s)]
}

// bags are all words in the memory of s, what is behind the ends of lists too.
func bags(s api.Semi) (all []api.Bag) {
	for _, l := range s[:cap(s)] {
		all = append(all, l.Base)
		all = append(all, l.Periods[:cap(l.Periods)]...)
	}
	return all
}

// whole tells all that stands in the memory of words, what is behind their ends too.
func whole(all ...api.Bag) (told string) {
	for _, w := range all {
		told += fmt.Sprint(len(w), w[:cap(w)])
	}
	return told
}

// shape tells where in a set its words stand.
func shape(s api.Semi) (told string) {
	for _, l := range s[:cap(s)] {
		told += fmt.Sprint(len(l.Periods), cap(l.Periods), " ")
	}
	return fmt.Sprint(len(s), ": ", told)
}

// fill writes over all memory of words.
func fill(n int, all ...api.Bag) {
	for _, w := range all {
		for i := range w[:cap(w)] {
			w[:cap(w)][i] = n
		}
	}
}

// fillTags writes over a list of tags.
func fillTags(n int, tags []int) {
	for i := range tags[:cap(tags)] {
		tags[:cap(tags)][i] = n
	}
}

// callAll calls all that there is, with meters that are refused on the way, too, and tells all sets and words that are answered.
func callAll(s api.Semi, tags []int) (sets []api.Semi, words []api.Bag) {
	for tag := -1; tag <= api.MaxMsgs; tag++ {
		for _, budget := range []int{0, 1, 2, 3, 5, 8, 1 << 20} {
			left, _ := By(meter.New(budget), s, tag)
			sets = append(sets, left)
		}
	}
	for _, free := range []bool{false, true} {
		for k := range len(tags) + 1 {
			_, w := Cover(s, free, tags[:k]...)
			words = append(words, w)
		}
	}
	return sets, words
}

// expectApart calls with the same memory again and again: what is done to one list of an answer may be seen neither in what was handed in nor in any other list, and what is done to what was handed in may not be seen in them.
func expectApart(t *testing.T, name string, s api.Semi, tags []int) {
	t.Helper()
	handed := func() string {
		return shape(s) + whole(bags(s)...) + fmt.Sprint(tags[:cap(tags)])
	}
	was := handed()
	sets, words := callAll(s, tags)
	lists := words
	for _, left := range sets {
		lists = append(lists, bags(left)...)
	}
	otherSets, otherWords := callAll(s, tags)
	others := fmt.Sprint(otherSets, otherWords)
	if handed() != was {
		t.Fatalf("%s: the calls made %s of %s", name, handed(), was)
	}
	for i, list := range lists {
		apart := slices.Concat(lists[:i], lists[i+1:])
		want := whole(apart...)
		fill(-100-i, list)
		if handed() != was || whole(apart...) != want || fmt.Sprint(otherSets, otherWords) != others {
			t.Fatalf("%s: writing into list %d wrote into more", name, i)
		}
	}
	for _, left := range sets {
		for i := range left {
			for k := range left[i].Periods {
				left[i].Periods[k] = api.Bag{-5}
			}
			left[i].Base = api.Bag{-6}
		}
	}
	if handed() != was || fmt.Sprint(otherSets, otherWords) != others {
		t.Fatalf("%s: putting lists into an answer put them into more", name)
	}
	fill(-98, bags(s)...)
	fillTags(-98, tags)
	for i := range s {
		s[i] = set(api.Bag{-7})
	}
	if got := fmt.Sprint(otherSets, otherWords); got != others {
		t.Fatalf("%s: writing into what was handed in made %s of %s", name, got, others)
	}
}

// someTags are tags with memory behind their end.
func someTags() []int {
	return []int{4, -1, 1, 0, 99, 2, 7, 7}[:6]
}

func TestAnswersAreNewMemory(t *testing.T) {
	sets := smallSemis()
	for i, s := range sets {
		if i < 30 || i%17 == 0 && len(s) < 6 {
			expectApart(t, fmt.Sprint("set ", i), roomySemi(s), someTags())
		}
	}
	for i, s := range rightSemis() {
		if i != 9 {
			expectApart(t, fmt.Sprint("set of more ", i), roomySemi(s), someTags())
		}
	}
}

// Each set that is made of one has Periods of its own.
func TestPeriodsAreNotShared(t *testing.T) {
	s := api.Semi{set(nil, api.Bag{1}, api.Bag{2}, api.Bag{1, 1})}
	left, _ := By(nil, s, 0)
	if len(left) != 3 {
		t.Fatal(left)
	}
	left[0].Periods[0][0] = 50
	left[1].Periods[1] = api.Bag{60}
	want := "[{[] [[50] [2] [1 1]]} {[1] [[1] [60] [1 1]]} {[0 1] [[1] [2] [1 1]]}]"
	if got := fmt.Sprint(left); got != want || fmt.Sprint(s) != "[{[] [[1] [2] [1 1]]}]" {
		t.Errorf("written: %s, %v", got, s)
	}
}

func TestWrongOnesAreAsTheyWere(t *testing.T) {
	for name, s := range wrongSemis() {
		expectApart(t, name, roomySemi(s), someTags())
	}
	expectApart(t, "beyond Far", roomySemi(api.Semi{set(api.Bag{0, far}, api.Bag{1}, api.Bag{1, 1})}), someTags())
}

func TestListsThatShareMemory(t *testing.T) {
	w := api.Bag{2, 4, 6}
	expectApart(t, "pieces of one list", api.Semi{set(w[:1], w[:1], w[:2]), set(w[:2], w[:1], w), set(w)}, someTags())
	w = api.Bag{2, 4, 6}
	periods := []api.Bag{w[:1], w[:2], w}
	expectApart(t, "pieces of one list of periods", api.Semi{{Periods: periods[:2]}, {Base: w[:1], Periods: periods[:1]}, {Base: w[:2], Periods: periods}}, someTags())
	periods = []api.Bag{{1}, {2}, {0, 1}}
	expectApart(t, "the same periods", api.Semi{{Periods: periods}, {Base: periods[0], Periods: periods}, {Base: periods[2], Periods: periods}}, someTags())
}

// What Cover tells is no piece of the set.
func TestTheWordIsNoPieceOfTheSet(t *testing.T) {
	for _, s := range []api.Semi{word(5), {set(api.Bag{5, 1}, api.Bag{1})}, {set(nil, api.Bag{4, 4})}, {set(nil), set(nil, api.Bag{0, 0, 3})}} {
		s = roomySemi(s)
		was := whole(bags(s)...)
		ok, w := Cover(s, true, 7)
		if ok || len(w) == 0 {
			t.Errorf("Cover(%v) has no word", s)
		}
		fill(-99, w)
		if got := whole(bags(s)...); got != was {
			t.Errorf("writing into the word made %s of %s", got, was)
		}
	}
}

// What is kept from call to call would be seen in the answers of a second round.
func TestAnswersHangOnArgumentsAlone(t *testing.T) {
	round := func() (told string) {
		for i, s := range smallSemis() {
			for tag := -1; tag < 4; tag++ {
				told += fmt.Sprint(ask(meter.New(1+i%9), by(s, tag)))
				left, _ := By(nil, s, tag)
				told += fmt.Sprint(left)
				fill(-99, bags(left)...)
				ok, w := Cover(s, i%2 == 0, tag)
				told += fmt.Sprint(ok, w)
				fill(-99, w)
			}
		}
		return told
	}
	if round() != round() {
		t.Error("a second round has other answers")
	}
}
