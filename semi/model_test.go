package semi

import (
	"fmt"
	"maps"
	"slices"
	"testing"

	"columbary/api"
)

// side is how many of a tag the words have that are held against each other: from 0 up to one less.
const side = 5

// word is a word of two tags.
type word [2]int

// language is the words within the side that there are.
type language map[word]int

func asWord(b api.Bag) (w word) {
	copy(w[:], b)
	return w
}

// together are each word of one with each of the other.
func (l language) together(k language) language {
	all := language{}
	for w := range l {
		for v := range k {
			u := word{w[0] + v[0], w[1] + v[1]}
			if u[0] < side && u[1] < side {
				all[u] = 1
			}
		}
	}
	return all
}

// both are the words of either.
func (l language) both(k language) language {
	all := maps.Clone(l)
	maps.Copy(all, k)
	return all
}

// times are n words together.
func (l language) times(n int) language {
	all := language{{}: 1}
	for range n {
		all = all.together(l)
	}
	return all
}

// anyNumber is as many times as is wanted; within the side no word has more others in it than it has messages.
func (l language) anyNumber() language {
	all := language{}
	for n := range 2 * side {
		all = all.both(l.times(n))
	}
	return all
}

// words are the words of s, as DOC.md and the chapters below say what they are.
func words(s api.Semi) language {
	all := language{}
	for _, l := range s {
		some := language{}
		for _, p := range l.Periods {
			some[asWord(p)] = 1
		}
		all = all.both(some.anyNumber().together(language{asWord(l.Base): 1}))
	}
	return all
}

// smallLins are a few linear sets of two tags, in no order that counts.
func smallLins() []api.Lin {
	x, y, xy := api.Bag{1}, api.Bag{0, 1}, api.Bag{1, 1}
	return []api.Lin{
		point(), point(1), point(2), point(0, 1), point(1, 1), point(2, 1),
		set(nil, x), set(nil, y), set(nil, xy), set(nil, x, y), set(x, x), set(y, x, xy), set(api.Bag{0, 2}, api.Bag{2}),
	}
}

// smallSemis are all of at most two of these, and some of more.
func smallSemis() []api.Semi {
	lins := smallLins()
	l := []api.Semi{nil}
	for i := range lins {
		l = append(l, ordering(lins[i]))
		for j := range i {
			l = append(l, ordering(lins[i], lins[j]))
		}
	}
	return append(l, ordering(lins[:4]...), ordering(lins[:6]...), ordering(lins[3:9]...), ordering(lins...))
}

// ordering lays one after the other in at its place, if it is not there.
func ordering(l ...api.Lin) (s api.Semi) {
	for _, x := range l {
		at, there := slices.BinarySearchFunc(s, x, order)
		if !there {
			s = slices.Insert(s, at, x)
		}
	}
	return s
}

// order is what the chapters say of two linear sets: by Base, by how many Periods, by the first that are unlike.
func order(a, b api.Lin) int {
	if c := bagOrder(a.Base, b.Base); c != 0 {
		return c
	}
	if len(a.Periods) != len(b.Periods) {
		return len(a.Periods) - len(b.Periods)
	}
	for i := range a.Periods {
		if c := bagOrder(a.Periods[i], b.Periods[i]); c != 0 {
			return c
		}
	}
	return 0
}

// bagOrder is what chapter 3 says of two words: the shorter one, then the first tag of which one has less.
func bagOrder(a, b api.Bag) int {
	for i := range a {
		if len(a) == len(b) && a[i] != b[i] {
			return a[i] - b[i]
		}
	}
	return len(a) - len(b)
}

func expectWords(t *testing.T, name string, s api.Semi, e api.Errno, want language) {
	t.Helper()
	if e != api.OK || !Right(s) {
		t.Fatalf("%s is %v, %d", name, s, e)
	}
	if !maps.Equal(words(s), want) {
		t.Fatalf("%s is %v, which has other words", name, s)
	}
}

func TestRightIsJustWhatOfLeavesAsItIs(t *testing.T) {
	lins := append(smallLins(), point(0), set(nil, nil))
	for _, a := range lins {
		for _, b := range lins {
			for _, c := range lins {
				given := api.Semi{a, b, c}
				s, ok := Of(given...)
				if Right(given) != (ok && Same(s, given)) {
					t.Fatalf("Right(%v) is %t", given, Right(given))
				}
				if ok && text(s) != text(ordering(given...)) {
					t.Fatalf("Of(%v) is %v", given, s)
				}
			}
		}
	}
}

func TestUnionAndCatAgainstTheirWords(t *testing.T) {
	semis := smallSemis()
	var all []language
	for _, s := range semis {
		all = append(all, words(s))
	}
	for i, a := range semis {
		for j, b := range semis {
			both := Union(a, b)
			expectWords(t, fmt.Sprintf("Union(%v, %v)", a, b), both, api.OK, all[i].both(all[j]))
			if text(both) != text(ordering(slices.Concat(a, b)...)) {
				t.Fatalf("Union(%v, %v) is %v", a, b, both)
			}
			s, e := Cat(nil, a, b)
			expectWords(t, fmt.Sprintf("Cat(%v, %v)", a, b), s, e, all[i].together(all[j]))
		}
	}
}

func TestStarAgainstItsWords(t *testing.T) {
	for _, s := range smallSemis() {
		star, e := Star(nil, s)
		if slices.ContainsFunc(s, func(l api.Lin) bool { return len(l.Periods) > 0 }) {
			if star != nil || e != api.ErrArg {
				t.Fatalf("Star(%v) is %v, %d", s, star, e)
			}
			continue
		}
		expectWords(t, fmt.Sprintf("Star(%v)", s), star, e, words(s).anyNumber())
		if len(star) != 1 || len(star[0].Base) > 0 {
			t.Fatalf("Star(%v) is %v", s, star)
		}
	}
}

func TestPowAgainstItsWords(t *testing.T) {
	for _, s := range smallSemis() {
		for n := range 4 {
			pow, e := Pow(nil, s, n)
			expectWords(t, fmt.Sprintf("Pow(%v, %d)", s, n), pow, e, words(s).times(n))
		}
	}
}

// Pow is one Cat after the other, with One at first: so it answers, and so it spends.
func TestPowAgainstCats(t *testing.T) {
	for _, s := range smallSemis() {
		sum, spent := One(), 0
		for n := range 5 {
			got := ask(1000000, pow(s, n))
			expectAnswer(t, fmt.Sprintf("Pow(%v, %d)", s, n), got, answer{text(sum), api.OK, spent, false})
			spent += len(sum) * len(s)
			sum, _ = Cat(nil, sum, s)
		}
	}
}
