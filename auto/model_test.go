package auto

import (
	"cmp"
	"fmt"
	"slices"
	"testing"

	"columbary/api"
	"columbary/meter"
	"columbary/semi"
)

// numbers is how many there are of each tag that there may be.
type numbers [api.MaxMsgs]int

func asNumbers(w api.Bag) (n numbers) {
	copy(n[:], w)
	return n
}

// asWord is without the noughts at the end.
func (n numbers) asWord() (w api.Bag) {
	for tag, many := range n {
		if many > 0 {
			w = append(w, make(api.Bag, tag-len(w))...)
			w = append(w, many)
		}
	}
	return w
}

// plus is n and the k-th of the periods for each binary digit k of which that is 1.
func (n numbers) plus(periods []api.Bag, which int) numbers {
	for k, p := range periods {
		for tag, many := range p {
			n[tag] += many * (which >> k % 2)
		}
	}
	return n
}

// halved is what is odd, as a letter, and half of all.
func (n numbers) halved() (letter uint, half numbers) {
	for tag, many := range n {
		half[tag] = many / 2
		if many != 2*half[tag] {
			letter += 1 << tag
		}
	}
	return letter, half
}

// wordOrder is what chapter 3 says of two words: the shorter one, then the first tag of which one has less.
func wordOrder(a, b api.Bag) int {
	return cmp.Or(len(a)-len(b), slices.Compare(a, b))
}

// modelNext is what chapter 9 says, choice by choice, where no sum is too much.
func modelNext(s api.Semi, l []api.Item, letter uint) (next []api.Item) {
	for _, it := range l {
		periods := s[it.J].Periods
		for which := range 1 << len(periods) {
			odd, half := asNumbers(it.Carry).plus(periods, which).halved()
			if odd != letter {
				continue
			}
			at, there := slices.BinarySearchFunc(next, api.Item{J: it.J, Carry: half.asWord()}, func(a, b api.Item) int {
				return cmp.Or(a.J-b.J, wordOrder(a.Carry, b.Carry))
			})
			if !there {
				next = slices.Insert(next, at, api.Item{J: it.J, Carry: half.asWord()})
			}
		}
	}
	return next
}

// cost is what chapter 9 says is spent.
func cost(s api.Semi, l []api.Item) (n int) {
	for _, it := range l {
		n += 1 << len(s[it.J].Periods)
	}
	return n
}

// smallLins are linear sets of two tags, of all kinds.
func smallLins() []api.Lin {
	x, y, xy, two := api.Bag{1}, api.Bag{0, 1}, api.Bag{1, 1}, api.Bag{2}
	return []api.Lin{
		set(nil), set(x), set(y), set(two), set(xy), set(api.Bag{3, 2}),
		set(nil, x), set(nil, y), set(nil, xy), set(nil, two), set(nil, x, y), set(nil, two, api.Bag{3}), set(nil, x, two, xy),
		set(x, two), set(y, x, xy), set(two, api.Bag{0, 2}), set(api.Bag{0, 2}, api.Bag{3}, api.Bag{2, 1}),
		set(xy, x, two, api.Bag{3}, y), set(api.Bag{1, 3}, api.Bag{1, 2}, api.Bag{2, 1}),
	}
}

// smallSemis are all of at most two of these, and some of more.
func smallSemis(t *testing.T) []api.Semi {
	lins := smallLins()
	l := []api.Semi{nil}
	add := func(some ...api.Lin) {
		s, ok := semi.Of(some...)
		if !ok {
			t.Fatalf("%v is no set", some)
		}
		l = append(l, s)
	}
	for i := range lins {
		add(lins[i])
		for j := range i {
			add(lins[i], lins[j])
		}
	}
	add(lins[:4]...)
	add(lins[5:9]...)
	add(lins[12:]...)
	add(lins...)
	return l
}

// someItems are lists of items of s: each alone, all, and every other one.
func someItems(s api.Semi) [][]api.Item {
	var all, some []api.Item
	l := [][]api.Item{nil, Start(s)}
	for j := range s {
		for i, w := range []api.Bag{nil, {1}, {2}, {5}, {0, 1}, {0, 4}, {3, 3}, {1, 0, 1}} {
			it := api.Item{J: j, Carry: w}
			all = append(all, it)
			l = append(l, []api.Item{it})
			if (i+j)%2 == 0 {
				some = append(some, it)
			}
		}
	}
	return append(l, all, some)
}

func TestNextAgainstTheModel(t *testing.T) {
	for _, s := range smallSemis(t) {
		for _, l := range someItems(s) {
			for letter := range uint(9) {
				want := fmt.Sprint(modelNext(s, l, letter))
				expectAnswer(t, fmt.Sprint(s, l, letter), ask(meter.New(cost(s, l)), s, l, letter), answer{want, api.OK, cost(s, l), false})
				next, _ := Next(nil, s, l, letter)
				if fmt.Sprint(next) != want || !Right(s, next) {
					t.Fatalf("Next of %v, %v, %d is %v", s, l, letter, next)
				}
			}
		}
	}
}

// read is whether the items are Final, so many digits of w being read.
func read(t *testing.T, s api.Semi, w api.Bag, digits int) bool {
	t.Helper()
	l := Start(s)
	for digit := range digits {
		next, e := Next(nil, s, l, Letter(w, digit))
		if e != api.OK {
			t.Fatalf("digit %d of %v is refused by %v: %d", digit, w, s, e)
		}
		l = next
	}
	return Final(l)
}

// made tells whether any number of each of the periods make up n.
func made(n numbers, periods []api.Bag) bool {
	if n == (numbers{}) {
		return true
	}
	return slices.ContainsFunc(periods, func(p api.Bag) bool {
		rest, ok := n.without(p)
		return ok && made(rest, periods)
	})
}

// without is n less w; not ok, if w has more.
func (n numbers) without(w api.Bag) (rest numbers, ok bool) {
	for tag, many := range w {
		n[tag] -= many
	}
	return n, slices.Min(n[:]) >= 0
}

// has tells whether w is a word of s, as chapter 6 says what its words are.
func has(s api.Semi, w api.Bag) bool {
	return slices.ContainsFunc(s, func(l api.Lin) bool {
		rest, ok := asNumbers(w).without(l.Base)
		return ok && made(rest, l.Periods)
	})
}

// A word is one of the set just if, all its digits read, the items are Final.
func TestWordsOfSmallSets(t *testing.T) {
	for _, s := range smallSemis(t) {
		for i := range 7 * 7 {
			w := numbers{i / 7, i % 7}.asWord()
			want := has(s, w)
			// Up to the highest digit that is 1, and with noughts behind it.
			for digits := 3; digits <= 5; digits++ {
				if read(t, s, w, digits) != want {
					t.Fatalf("%v has %v: %t, but not by %d digits", s, w, want, digits)
				}
			}
		}
		if has(s, nil) != Final(Start(s)) {
			t.Fatalf("%v: Start is %v", s, Start(s))
		}
	}
}

func TestWordsOfMoreTags(t *testing.T) {
	s := api.Semi{
		set(nil, api.Bag{1, 1, 1}, api.Bag{0, 0, 0, 2}),
		set(api.Bag{0, 0, 1}, api.Bag{2}, api.Bag{0, 3}, api.Bag{0, 0, 0, 1}),
		set(api.Bag{1, 0, 0, 1}, api.Bag{0, 1, 1}),
	}
	for i := range 4 * 4 * 4 * 4 {
		w := numbers{i % 4, i / 4 % 4, i / 16 % 4, i / 64}.asWord()
		if read(t, s, w, 2) != has(s, w) || read(t, s, w, 63) != has(s, w) {
			t.Fatalf("%v: has it %v? %t", s, w, has(s, w))
		}
	}
	whole := api.Semi{set(last(5), slices.Repeat(api.Bag{1}, api.MaxMsgs))}
	for n := range 9 {
		w := append(slices.Repeat(api.Bag{n}, api.MaxMsgs-1), n+5)
		if !read(t, whole, w, 4) {
			t.Errorf("%v has not %v", whole, w)
		}
		w[api.MaxMsgs-1]++
		if read(t, whole, w, 4) {
			t.Errorf("%v has %v", whole, w)
		}
	}
}

// Each period has an odd number, so that each letter leaves one choice: of even ones there would be too many items.
func TestWordsOfGreatNumbers(t *testing.T) {
	const odd = 1<<40 + 1
	s := api.Semi{set(nil, api.Bag{3}), set(nil, api.Bag{10, 7}), set(api.Bag{far}), set(api.Bag{5, 999999999}, api.Bag{0, odd})}
	for _, x := range []struct {
		w    api.Bag
		want bool
	}{
		{api.Bag{far - 1}, true}, // divided by 3, far leaves 1
		{api.Bag{far - 2}, false},
		{api.Bag{far - 3}, false},
		{api.Bag{far - 4}, true},
		{api.Bag{far}, true},
		{api.Bag{10_000_000_000_000_000, 7_000_000_000_000_000}, true},
		{api.Bag{10_000_000_000_000_000, 7_000_000_000_000_001}, false},
		{api.Bag{5, 999999999}, true},
		{api.Bag{5, 999999999 + 77*odd}, true},
		{api.Bag{5, 999999999 + 77*odd + 1}, false},
		{api.Bag{6, 999999999 + 77*odd}, false},
		{api.Bag{far, 0, 1}, false},
	} {
		if read(t, s, x.w, 61) != x.want || read(t, s, x.w, 63) != x.want {
			t.Errorf("%v: has it %v? Not %t", s, x.w, x.want)
		}
	}
}
