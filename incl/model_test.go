package incl

import (
	"cmp"
	"fmt"
	"math/bits"
	"slices"
	"testing"

	"columbary/api"
	"columbary/meter"
	"columbary/semi"
)

// numbers is how many there are of each tag that there may be.
type numbers [api.MaxMsgs]int

func asNumbers(w api.Bag) (n numbers) {
	copy(n[:], w)
	return n
}

// asWord is without the noughts at the end.
func (n numbers) asWord() (w api.Bag) {
	for tag, many := range n {
		if many > 0 {
			w = append(w, make(api.Bag, tag-len(w))...)
			w = append(w, many)
		}
	}
	return w
}

// plus is n and the k-th of the periods for each binary digit k of which that is 1; not ok, if that is too much.
func (n numbers) plus(periods []api.Bag, which int) (sum numbers, ok bool) {
	for k, p := range periods {
		for tag, many := range p {
			n[tag] += many * (which >> k % 2)
			if n[tag] > far {
				return numbers{}, false
			}
		}
	}
	return n, true
}

// halved is what is odd, as 0 and 1, and half of all.
func (n numbers) halved() (odd, half numbers) {
	for tag, many := range n {
		half[tag] = many / 2
		odd[tag] = many - 2*half[tag]
	}
	return odd, half
}

// modelItem is where one of b's linear sets stands.
type modelItem struct {
	j     int
	carry numbers
}

// modelPair is where a search stands behind so many letters.
type modelPair struct {
	carry   numbers
	items   []modelItem
	word    numbers
	letters int
}

// model is what chapter 10 says of Within, step by step, by chapter 9 for b's items.
type model struct {
	b      api.Semi
	spends []int
	met    map[string]bool
	queue  []modelPair
}

// next is what chapter 9 says of auto.Next.
func (x *model) next(items []modelItem, letter numbers) (next []modelItem, e api.Errno) {
	for _, it := range items {
		periods := x.b[it.j].Periods
		if len(periods) > 20 {
			return nil, api.ErrLimit
		}
		x.spends = append(x.spends, 1<<len(periods))
		for which := range 1 << len(periods) {
			sum, ok := it.carry.plus(periods, which)
			if !ok {
				return nil, api.ErrLimit
			}
			odd, half := sum.halved()
			if odd == letter && !slices.Contains(next, modelItem{it.j, half}) {
				next = append(next, modelItem{it.j, half})
			}
		}
	}
	return next, api.OK
}

// put is of a pair that may have been met; the order of its items is no part of it.
func (x *model) put(p modelPair) {
	slices.SortFunc(p.items, func(a, b modelItem) int {
		return cmp.Or(a.j-b.j, slices.Compare(a.carry[:], b.carry[:]))
	})
	name := fmt.Sprint(p.carry, p.items)
	if x.met[name] {
		return
	}
	x.met[name] = true
	x.spends = append(x.spends, 1)
	x.queue = append(x.queue, p)
}

// take goes on from a pair.
func (x *model) take(p modelPair, periods []api.Bag) api.Errno {
	if len(periods) > 20 || p.letters == 60 {
		return api.ErrLimit
	}
	for which := range 1 << len(periods) {
		sum, ok := p.carry.plus(periods, which)
		if !ok {
			return api.ErrLimit
		}
		letter, half := sum.halved()
		items, e := x.next(p.items, letter)
		if e != api.OK {
			return e
		}
		more := p.word
		for tag, digit := range letter {
			more[tag] += digit << p.letters
		}
		x.put(modelPair{half, items, more, p.letters + 1})
	}
	return api.OK
}

// search is of one linear set.
func (x *model) search(l api.Lin) (ok bool, w numbers, e api.Errno) {
	x.met, x.queue = map[string]bool{}, nil
	var items []modelItem
	for j, set := range x.b {
		items = append(items, modelItem{j, asNumbers(set.Base)})
	}
	x.put(modelPair{carry: asNumbers(l.Base), items: items})
	for len(x.queue) > 0 {
		p := x.queue[0]
		x.queue = x.queue[1:]
		final := slices.ContainsFunc(p.items, func(it modelItem) bool { return it.carry == numbers{} })
		if p.carry == (numbers{}) && !final {
			return false, p.word, api.OK
		}
		if e := x.take(p, l.Periods); e != api.OK {
			return false, numbers{}, e
		}
	}
	return true, numbers{}, api.OK
}

// modelWithin is what Within tells, and what it spends, one after the other.
func modelWithin(a, b api.Semi) (told string, e api.Errno, spends []int) {
	x := &model{b: b}
	for _, l := range a {
		ok, w, e := x.search(l)
		if !ok {
			return fmt.Sprint(ok, " ", w.asWord()), e, x.spends
		}
	}
	return "true []", api.OK, x.spends
}

// modelHas is what Has tells, and what it spends.
func modelHas(s api.Semi, w api.Bag) (told string, e api.Errno, spends []int) {
	x := &model{b: s}
	var items []modelItem
	for j, set := range s {
		items = append(items, modelItem{j, asNumbers(set.Base)})
	}
	for rest := asNumbers(w); rest != (numbers{}); {
		odd, half := rest.halved()
		if items, e = x.next(items, odd); e != api.OK {
			return "false", e, x.spends
		}
		rest = half
	}
	return fmt.Sprint(slices.ContainsFunc(items, func(it modelItem) bool { return it.carry == numbers{} })), api.OK, x.spends
}

// without is n less w; not ok, if w has more.
func (n numbers) without(w api.Bag) (rest numbers, ok bool) {
	for tag, many := range w {
		n[tag] -= many
	}
	return n, slices.Min(n[:]) >= 0
}

// made tells whether any number of each of the periods make up n, tried one by one.
func made(n numbers, periods []api.Bag) bool {
	if n == (numbers{}) {
		return true
	}
	for k, p := range periods {
		if rest, ok := n.without(p); ok && made(rest, periods[k:]) {
			return true
		}
	}
	return false
}

// isWord tells whether w is a word of s, as chapter 6 says what its words are.
func isWord(s api.Semi, w api.Bag) bool {
	return slices.ContainsFunc(s, func(l api.Lin) bool {
		rest, ok := asNumbers(w).without(l.Base)
		return ok && made(rest, l.Periods)
	})
}

// smallLins are linear sets of two tags, of all kinds.
func smallLins() []api.Lin {
	x, y, xy, two := api.Bag{1}, api.Bag{0, 1}, api.Bag{1, 1}, api.Bag{2}
	return []api.Lin{
		set(nil), set(x), set(y), set(two), set(xy), set(api.Bag{3, 2}),
		set(nil, x), set(nil, y), set(nil, xy), set(nil, two), set(nil, x, y), set(nil, two, api.Bag{3}), set(nil, x, two, xy),
		set(x, x), set(x, two), set(y, x, xy), set(two, api.Bag{0, 2}), set(api.Bag{0, 2}, api.Bag{3}, api.Bag{2, 1}),
		set(xy, x, two, api.Bag{3}, y), set(api.Bag{1, 3}, api.Bag{1, 2}, api.Bag{2, 1}), set(api.Bag{4}, two), set(api.Bag{2, 1}, api.Bag{4}, api.Bag{0, 3}),
	}
}

// smallSemis are all of at most two of these, and some of more.
func smallSemis() []api.Semi {
	lins := smallLins()
	l := []api.Semi{nil}
	add := func(some ...api.Lin) {
		s, ok := semi.Of(some...)
		if !ok {
			panic(fmt.Sprint("no set: ", some))
		}
		l = append(l, s)
	}
	for i := range lins {
		add(lins[i])
		for j := range i {
			add(lins[i], lins[j])
		}
	}
	add(lins[:4]...)
	add(lins[5:9]...)
	add(lins[12:]...)
	add(lins...)
	return l
}

const side = 8

// smallWords are all words of two tags with less than side of each, and some greater ones.
func smallWords() (l []api.Bag) {
	for i := range side * side {
		l = append(l, numbers{i / side, i % side}.asWord())
	}
	return append(l, api.Bag{20}, api.Bag{17, 12}, api.Bag{1, 1, 1}, api.Bag{0, 0, 2}, api.Bag{16, 1})
}

// A word is one of a set just if so many of its Periods, tried one by one, make it.
func TestHasOfSmallSets(t *testing.T) {
	for _, s := range smallSemis() {
		for _, w := range smallWords() {
			told, e, spends := modelHas(s, w)
			if told != fmt.Sprint(isWord(s, w)) || e != api.OK {
				t.Fatalf("the model of Has(%v, %v) is %s", s, w, told)
			}
			cost, _ := paid(far, spends)
			name := fmt.Sprintf("Has(%v, %v)", s, w)
			expectAnswer(t, name, ask(meter.New(cost), has(s, w)), answer{told, api.OK, cost, false})
			if cost > 0 {
				spent, _ := paid(cost-1, spends)
				expectAnswer(t, name+", one less", ask(meter.New(cost-1), has(s, w)), answer{"false", api.ErrWork, spent, true})
			}
		}
	}
}

func TestHasOfMoreTags(t *testing.T) {
	s := api.Semi{
		set(nil, api.Bag{1, 1, 1}, api.Bag{0, 0, 0, 2}),
		set(api.Bag{0, 0, 1}, api.Bag{2}, api.Bag{0, 3}, api.Bag{0, 0, 0, 1}),
		set(api.Bag{1, 0, 0, 1}, api.Bag{0, 1, 1}),
	}
	for i := range 4 * 4 * 4 * 4 {
		w := numbers{i % 4, i / 4 % 4, i / 16 % 4, i / 64}.asWord()
		expectHas(t, s, w, isWord(s, w))
	}
	whole := api.Semi{set(last(5), slices.Repeat(api.Bag{1}, api.MaxMsgs))}
	for n := range 9 {
		w := append(slices.Repeat(api.Bag{n}, api.MaxMsgs-1), n+5)
		expectHas(t, whole, w, true)
		w[api.MaxMsgs-1]++
		expectHas(t, whole, w, false)
	}
}

// expectModel asks Within with just enough work, and with less.
func expectModel(t *testing.T, a, b api.Semi) (told string) {
	t.Helper()
	told, e, spends := modelWithin(a, b)
	cost, _ := paid(far, spends)
	name := fmt.Sprintf("Within(%v, %v)", a, b)
	expectAnswer(t, name, ask(meter.New(cost), inside(a, b)), answer{told, e, cost, false})
	for _, less := range []int{1, cost / 2} {
		if 0 < less && less <= cost {
			spent, _ := paid(cost-less, spends)
			expectAnswer(t, fmt.Sprint(name, ", ", less, " less"), ask(meter.New(cost-less), inside(a, b)), answer{"false []", api.ErrWork, spent, true})
		}
	}
	return told
}

// box are the small words of two tags that are words of s, one bit each.
func box(s api.Semi) (all uint64) {
	for i, w := range smallWords()[:side*side] {
		if isWord(s, w) {
			all |= 1 << i
		}
	}
	return all
}

// What is told is so of the words themselves, and is what the chapter says, word and work.
func TestWithinOfSmallSets(t *testing.T) {
	sets := smallSemis()
	var boxes []uint64
	for _, s := range sets {
		boxes = append(boxes, box(s))
	}
	for i, a := range sets {
		for j, b := range sets {
			if (i+2*j)%67 != 0 && (len(a) > 1 || len(b) > 1) {
				continue
			}
			_, w, e := Within(nil, a, b)
			told := expectModel(t, a, b)
			more := boxes[i] &^ boxes[j]
			if told == "true []" && more != 0 {
				t.Fatalf("%v is not within %v: %v", a, b, smallWords()[bits.TrailingZeros64(more)])
			}
			if told != "true []" && (e != api.OK || !isWord(a, w) || isWord(b, w)) {
				t.Fatalf("%v, within %v or not: %v is no word that tells", a, b, w)
			}
		}
	}
}

// Same is both ways, the second one only behind the first.
func TestSameOfSmallSets(t *testing.T) {
	sets := smallSemis()
	for i, a := range sets {
		for j, b := range sets {
			if (i+3*j)%131 != 0 && (i != j || i%5 > 0) {
				continue
			}
			told, e, spends := modelWithin(a, b)
			if told == "true []" {
				other, oe, more := modelWithin(b, a)
				told, e, spends = other, oe, append(spends, more...)
			}
			want := "false"
			if told == "true []" {
				want = "true"
			}
			cost, _ := paid(far, spends)
			expectAnswer(t, fmt.Sprintf("Same(%v, %v)", a, b), ask(meter.New(cost), same(a, b)), answer{want, e, cost, false})
			if want == "true" && box(a) != box(b) {
				t.Fatalf("%v and %v are not the same", a, b)
			}
		}
	}
}
