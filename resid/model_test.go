package resid

import (
	"fmt"
	"slices"
	"testing"

	"columbary/api"
	"columbary/meter"
	"columbary/semi"
)

// numbers is how many there are of each tag that there may be.
type numbers [api.MaxMsgs]int

func asNumbers(w api.Bag) (n numbers) {
	copy(n[:], w)
	return n
}

// asWord is without the noughts at the end.
func (n numbers) asWord() (w api.Bag) {
	for tag, many := range n {
		if many > 0 {
			w = append(w, make(api.Bag, tag-len(w))...)
			w = append(w, many)
		}
	}
	return w
}

// less is n without w; not ok, if w has more.
func (n numbers) less(w api.Bag) (rest numbers, ok bool) {
	for tag, many := range w {
		n[tag] -= many
	}
	return n, slices.Min(n[:]) >= 0
}

// made tells whether any number of each of the periods make up n, tried one by one.
func made(n numbers, periods []api.Bag) bool {
	if n == (numbers{}) {
		return true
	}
	for k, p := range periods {
		if rest, ok := n.less(p); ok && made(rest, periods[k:]) {
			return true
		}
	}
	return false
}

// isWord tells whether n is a word of s, as chapter 6 says what its words are.
func isWord(s api.Semi, n numbers) bool {
	return slices.ContainsFunc(s, func(l api.Lin) bool {
		rest, ok := n.less(l.Base)
		return ok && made(rest, l.Periods)
	})
}

// smallLins are linear sets of two tags and three, of all kinds.
func smallLins() []api.Lin {
	x, y, xy, two := api.Bag{1}, api.Bag{0, 1}, api.Bag{1, 1}, api.Bag{2}
	return []api.Lin{
		set(nil), set(x), set(y), set(two), set(xy), set(api.Bag{3, 2}), set(api.Bag{0, 0, 1}), set(api.Bag{1, 0, 2}),
		set(nil, x), set(nil, y), set(nil, xy), set(nil, two), set(nil, x, y), set(nil, two, api.Bag{3}), set(nil, x, two, xy), set(nil, y, api.Bag{2, 0, 1}),
		set(x, x), set(x, two), set(y, x, xy), set(two, api.Bag{0, 2}), set(api.Bag{0, 2}, api.Bag{3}, api.Bag{2, 1}),
		set(xy, x, two, api.Bag{3}, y), set(api.Bag{1, 3}, api.Bag{1, 2}, api.Bag{2, 1}), set(api.Bag{4}, two), set(api.Bag{2, 1}, api.Bag{4}, api.Bag{0, 3}), set(api.Bag{0, 0, 1}, xy, api.Bag{0, 2, 1}),
	}
}

// smallSemis are all of at most two of these, and some of more.
func smallSemis() []api.Semi {
	lins := smallLins()
	l := []api.Semi{nil}
	add := func(some ...api.Lin) {
		s, ok := semi.Of(some...)
		if !ok {
			panic(fmt.Sprint("no set: ", some))
		}
		l = append(l, s)
	}
	for i := range lins {
		add(lins[i])
		for j := range i {
			add(lins[i], lins[j])
		}
	}
	for i := range lins[3:] {
		add(lins[i : i+3]...)
		add(lins[i], lins[i+1], lins[i+3], lins[(i*7+5)%len(lins)])
	}
	add(lins...)
	return l
}

// smallWords are all words of three tags with few of each.
func smallWords() (all []numbers) {
	for i := range 6 * 6 * 4 {
		all = append(all, numbers{i % 6, i / 6 % 6, i / 36})
	}
	return all
}

// modelBy is what chapter 11 says of By, step by step, with what it costs; no number of these is too much.
func modelBy(s api.Semi, tag int) (left []string, cost int) {
	put := func(base numbers, periods []api.Bag) {
		told := fmt.Sprint(api.Lin{Base: base.asWord(), Periods: periods})
		if !slices.Contains(left, told) {
			left = append(left, told)
		}
	}
	for _, l := range s {
		cost++
		base := asNumbers(l.Base)
		if base[tag] > 0 {
			base[tag]--
			put(base, l.Periods)
			continue
		}
		for _, p := range l.Periods {
			sum := asNumbers(p)
			if sum[tag] == 0 {
				continue
			}
			cost++
			for k := range sum {
				sum[k] += base[k]
			}
			sum[tag]--
			put(sum, l.Periods)
		}
	}
	slices.Sort(left)
	return left, cost
}

// told is each linear set of s as a text, in the order of the texts.
func told(s api.Semi) (all []string) {
	for _, l := range s {
		all = append(all, fmt.Sprint(l))
	}
	slices.Sort(all)
	return all
}

func TestByOfSmallSets(t *testing.T) {
	for _, s := range smallSemis() {
		for tag := range 4 {
			name := fmt.Sprintf("By(%v, %d)", s, tag)
			want, cost := modelBy(s, tag)
			m := meter.New(cost)
			left, e := By(m, s, tag)
			if e != api.OK || m.Spent() != cost || m.Out() || !semi.Right(left) || !slices.Equal(told(left), want) {
				t.Fatalf("%s is %v, %d, by %d, want %v, by %d", name, left, e, m.Spent(), want, cost)
			}
			if cost > 0 {
				expectAnswer(t, name+", one less", ask(meter.New(cost-1), by(s, tag)), answer{"[]", api.ErrWork, cost - 1, true})
			}
		}
	}
}

// A word is one of the answer just if with one more of the tag it is one of the set.
func TestByOfTheWordsThemselves(t *testing.T) {
	words := smallWords()
	for i, s := range smallSemis() {
		for tag := range 3 {
			left, e := By(nil, s, tag)
			if e != api.OK {
				t.Fatal(s, tag, e)
			}
			for _, w := range words {
				more := w
				more[tag]++
				if isWord(left, w) != isWord(s, more) {
					t.Fatalf("set %d, %v: %v by %d: %v is one of %v: %v", i, s, w.asWord(), tag, w.asWord(), left, isWord(left, w))
				}
			}
		}
	}
}

// covered is what Cover asks of a word.
func covered(w numbers, free bool, tags []int) bool {
	if w == (numbers{}) && free {
		return true
	}
	return slices.ContainsFunc(tags, func(tag int) bool { return w[tag] > 0 })
}

// subsets are all lists of some of three tags, one of them in another order.
func subsets() [][]int {
	return [][]int{nil, {0}, {1}, {2}, {1, 0}, {0, 2}, {1, 2}, {2, 0, 1}}
}

// What is told is one of the set's words, and is none such; where none is told, no small word is.
func TestCoverOfSmallSets(t *testing.T) {
	words := smallWords()
	for _, s := range smallSemis() {
		var in []numbers
		for _, w := range words {
			if isWord(s, w) {
				in = append(in, w)
			}
		}
		for _, tags := range subsets() {
			for _, free := range []bool{false, true} {
				ok, w := Cover(s, free, tags...)
				name := fmt.Sprintf("Cover(%v, %v, %v) is %v, %v", s, free, tags, ok, w)
				if !ok && (!isWord(s, asNumbers(w)) || covered(asNumbers(w), free, tags)) {
					t.Fatal(name)
				}
				wrong := slices.IndexFunc(in, func(n numbers) bool { return !covered(n, free, tags) })
				if ok && (len(w) > 0 || wrong >= 0) {
					t.Fatal(name, wrong)
				}
				if modelOK, model := modelCover(s, free, tags); ok != modelOK || !slices.Equal(w, model) {
					t.Fatal(name, model)
				}
			}
		}
	}
}

// modelCover goes by what may be told, in its order, and takes the first that is not covered.
func modelCover(s api.Semi, free bool, tags []int) (ok bool, w api.Bag) {
	for _, l := range s {
		told := []api.Bag{l.Base}
		if len(l.Base) == 0 {
			told = append(told, l.Periods...)
		}
		for _, w := range told {
			if !covered(asNumbers(w), free, tags) {
				return false, w
			}
		}
	}
	return true, nil
}

// Something is left by a tag just if a base or a period has it; and of all tags together only the empty word is not covered.
func TestByAndCover(t *testing.T) {
	for _, s := range smallSemis() {
		for tag := range 3 {
			left, _ := By(nil, s, tag)
			ok, _ := Cover(s, false, 0, 1, 2)
			if _, free := Cover(s, true, 0, 1, 2); len(free) > 0 {
				t.Fatalf("%v has a word of no tag: %v", s, free)
			}
			has := slices.ContainsFunc(s, func(l api.Lin) bool {
				return asNumbers(l.Base)[tag] > 0 || slices.ContainsFunc(l.Periods, func(p api.Bag) bool { return asNumbers(p)[tag] > 0 })
			})
			if has != (len(left) > 0) || ok != !isWord(s, numbers{}) {
				t.Fatalf("%v by %d is %v; covered: %v", s, tag, left, ok)
			}
		}
	}
}
