package lin

import (
	"cmp"
	"fmt"
	"maps"
	"slices"
	"testing"

	"columbary/api"
)

// side is how many of a tag the words have that are held against each other: from 0 up to one less.
const side = 5

// word is a word of two tags.
type word [2]int

func asWord(b api.Bag) (w word) {
	copy(w[:], b)
	return w
}

// with is both words together, if none of its numbers goes beyond the side.
func (w word) with(v word) (word, bool) {
	for i := range w {
		w[i] += v[i]
	}
	return w, w[0] < side && w[1] < side
}

// words are all words within the side that are the base with any number of each of the periods.
func words(base api.Bag, periods []api.Bag) map[word]int {
	first := asWord(base)
	all := map[word]int{first: 1}
	for todo := []word{first}; len(todo) > 0; {
		w := todo[0]
		todo = todo[1:]
		for _, p := range periods {
			v, in := w.with(asWord(p))
			if in && all[v] == 0 {
				all[v] = 1
				todo = append(todo, v)
			}
		}
	}
	return all
}

// smallBags are lists of at most two numbers of 0 to 2, with noughts at their end or not.
func smallBags() []api.Bag {
	l := []api.Bag{nil}
	for x := range 3 {
		l = append(l, api.Bag{x})
		for y := range 3 {
			l = append(l, api.Bag{x, y})
		}
	}
	return l
}

// everyGiven calls do with each small base and each two small periods, in each order, or fewer, or one more.
func everyGiven(do func(base api.Bag, periods ...api.Bag)) {
	bags := smallBags()
	for _, base := range bags {
		do(base)
		for _, p := range bags {
			do(base, p)
			for _, q := range bags {
				do(base, p, q)
				do(base, p, q, api.Bag{1, 1})
				do(base, p, api.Bag{2, 0}, q)
			}
		}
	}
}

// order is what the chapters say of two lists of numbers, in their words: the shorter one, then the first that is less.
func order(a, b api.Bag) int {
	for i := range a {
		if len(a) == len(b) && a[i] != b[i] {
			return cmp.Compare(a[i], b[i])
		}
	}
	return cmp.Compare(len(a), len(b))
}

// short is b without the noughts at its end.
func short(b api.Bag) api.Bag {
	for len(b) > 0 && b[len(b)-1] == 0 {
		b = b[:len(b)-1]
	}
	return b
}

// written is how the base and the periods are to be written: each period is laid in at its place, if it is not there.
func written(base api.Bag, periods []api.Bag) api.Lin {
	l := api.Lin{Base: short(base)}
	for _, p := range periods {
		at, there := slices.BinarySearchFunc(l.Periods, short(p), order)
		if !there && len(short(p)) > 0 {
			l.Periods = slices.Insert(l.Periods, at, short(p))
		}
	}
	return l
}

func TestOfAgainstItsWords(t *testing.T) {
	everyGiven(func(base api.Bag, periods ...api.Bag) {
		l, ok := Of(base, periods...)
		name := fmt.Sprintf("Of(%v, %v)", base, periods)
		expectLin(t, name, l, ok, written(base, periods), true)
		if !maps.Equal(words(l.Base, l.Periods), words(base, periods)) {
			t.Errorf("%s is %v, which has other words", name, l)
		}
	})
}

func TestRightIsJustWhatOfLeavesAsItIs(t *testing.T) {
	everyGiven(func(base api.Bag, periods ...api.Bag) {
		given := lin(base, periods...)
		want := fmt.Sprint(written(base, periods)) == fmt.Sprint(given)
		if Right(given) != want {
			t.Errorf("Right(%v) is %t", given, !want)
		}
		if Point(given) != (want && len(periods) == 0) {
			t.Errorf("Point(%v) is %t", given, Point(given))
		}
	})
}

// smallLins are Right ones of words of two tags, each once, in no order that counts.
func smallLins() []api.Lin {
	seen := map[string]api.Lin{}
	everyGiven(func(base api.Bag, periods ...api.Bag) {
		if l := written(base, periods); len(l.Periods) < 3 {
			seen[fmt.Sprint(l)] = l
		}
	})
	return slices.Collect(maps.Values(seen))
}

func TestCatAgainstItsWords(t *testing.T) {
	lins := smallLins()
	var all []map[word]int
	for _, l := range lins {
		all = append(all, words(l.Base, l.Periods))
	}
	for i, a := range lins {
		for j, b := range lins {
			l, ok := Cat(a, b)
			if !ok || !Right(l) {
				t.Fatalf("Cat(%v, %v) is %v, %t", a, b, l, ok)
			}
			if !maps.Equal(words(l.Base, l.Periods), together(all[i], all[j])) {
				t.Fatalf("Cat(%v, %v) is %v, which has other words", a, b, l)
			}
		}
	}
}

// together are each word of a with each of b.
func together(a, b map[word]int) map[word]int {
	all := map[word]int{}
	for w := range a {
		for v := range b {
			if u, in := w.with(v); in {
				all[u] = 1
			}
		}
	}
	return all
}

func TestCompareByOrder(t *testing.T) {
	lins := rightLins()
	for i, a := range lins {
		for j, b := range lins {
			if got := Compare(a, b); got != cmp.Compare(i, j) {
				t.Errorf("Compare(%v, %v) is %d", a, b, got)
			}
		}
	}
}

// ahead is what the chapter says of two linear sets, one step after the other.
func ahead(a, b api.Lin) int {
	if c := order(a.Base, b.Base); c != 0 {
		return c
	}
	if len(a.Periods) != len(b.Periods) {
		return cmp.Compare(len(a.Periods), len(b.Periods))
	}
	for i := range a.Periods {
		if c := order(a.Periods[i], b.Periods[i]); c != 0 {
			return c
		}
	}
	return 0
}

func TestCompareAgainstItsSteps(t *testing.T) {
	lins := smallLins()
	for i, a := range lins {
		for j, b := range lins {
			got := Compare(a, b)
			if got != ahead(a, b) || (got == 0) != (i == j) {
				t.Fatalf("Compare(%v, %v) is %d", a, b, got)
			}
		}
	}
}
