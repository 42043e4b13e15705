package norm

import (
	"fmt"
	"maps"
	"slices"
	"strings"
	"testing"

	"columbary/api"
	"columbary/lin"
)

// texts are those of all patterns of so many nodes, of a few leaves; without stars, if none may stand there.
func texts(nodes int, stars bool) (l []string) {
	if nodes == 1 {
		return []string{"0", "1", "a", "b", "a^2"}
	}
	if stars {
		for _, a := range texts(nodes-1, false) {
			l = append(l, "*("+a+")")
		}
	}
	for first := 1; first < nodes-1; first++ {
		for _, a := range texts(first, stars) {
			for _, b := range texts(nodes-1-first, stars) {
				l = append(l, "("+a+") + ("+b+")", "("+a+") . ("+b+")")
			}
		}
	}
	return l
}

// greatTexts are of as many nodes as may be, or nearly so.
func greatTexts() []string {
	return []string{
		"(a + b + c) . (d + e + f) . (g + h + i) . (j + k + l)",
		"(1 + a) . (1 + a) . (1 + a) . (1 + b) . (1 + b) . (1 + b)",
		"(*a + *b + c) . (*a + *c + b) . (*d + e + 1)",
		"*((1 + a + b) . (1 + c + d) . (1 + e + f) . (g + h)) + 0",
		"*(a + b . (c + d . (e + f . (g + h . (i + j . (k + l))))))",
	}
}

// put lays l in at its place, if it is not there.
func put(s api.Semi, l api.Lin) api.Semi {
	at, there := slices.BinarySearchFunc(s, l, lin.Compare)
	if there {
		return s
	}
	return slices.Insert(s, at, l)
}

// model is what the part that ends there stands for, and what is spent for it, one by one: found from its end, as chapters 7 and 8 say it.
func model(p api.Pattern, end int) (s api.Semi, spends []int) {
	var a, b api.Semi
	n := p[end]
	if n.Kind >= api.PSum {
		a, spends = model(p, n.A)
	}
	if n.Kind == api.PSum || n.Kind == api.PCat {
		var more []int
		b, more = model(p, n.B)
		spends = append(spends, more...)
	}
	spends = append(spends, 1)
	switch n.Kind {
	case api.POne:
		s = put(s, api.Lin{})
	case api.PTag:
		s = put(s, api.Lin{Base: append(make(api.Bag, n.N), n.A)})
	case api.PSum:
		for _, l := range slices.Concat(a, b) {
			s = put(s, l)
		}
	case api.PCat:
		for _, x := range a {
			for _, y := range b {
				both, _ := lin.Cat(x, y)
				s = put(s, both)
			}
		}
		spends = append(spends, len(a)*len(b))
	case api.PStar:
		star := api.Lin{}
		for _, l := range a {
			star, _ = lin.Of(nil, append(star.Periods, l.Base)...)
		}
		s = put(s, star)
		spends = append(spends, len(a))
	}
	return s, spends
}

func expectModel(t *testing.T, text string) {
	t.Helper()
	p := parse(t, text)
	s, spends := model(p, len(p)-1)
	expectWork(t, text, p, fmt.Sprint(s), spends)
}

func TestOfAgainstTheModel(t *testing.T) {
	for nodes := 1; nodes <= 6; nodes++ {
		for _, text := range texts(nodes, true) {
			expectModel(t, text)
		}
	}
	for _, text := range greatTexts() {
		expectModel(t, text)
	}
}

// side is how many of a tag the words have that are held against each other: from 0 up to one less.
const side = 6

// word2 is a word of two tags.
type word2 [2]int

// words are those within the side that the part that ends there stands for, as chapter 5 says it.
func words(p api.Pattern, end int) map[word2]int {
	n := p[end]
	switch n.Kind {
	case api.POne:
		return map[word2]int{{}: 1}
	case api.PTag:
		w := word2{}
		w[n.N] = n.A
		return map[word2]int{w: 1}
	case api.PSum:
		l := words(p, n.A)
		maps.Copy(l, words(p, n.B))
		return l
	case api.PCat:
		return together(words(p, n.A), words(p, n.B))
	case api.PStar:
		some := words(p, n.A)
		l := map[word2]int{{}: 1}
		for {
			more := together(l, some)
			maps.Copy(more, l)
			if len(more) == len(l) {
				return l
			}
			l = more
		}
	}
	return map[word2]int{}
}

// together are each word of one with each of the other, within the side.
func together(a, b map[word2]int) map[word2]int {
	l := map[word2]int{}
	for v := range a {
		for w := range b {
			if u := (word2{v[0] + w[0], v[1] + w[1]}); u[0] < side && u[1] < side {
				l[u] = 1
			}
		}
	}
	return l
}

// without is w less b; not ok, if b has more.
func without(w word2, b api.Bag) (rest word2, ok bool) {
	for i, n := range b {
		w[i] -= n
	}
	return w, w[0] >= 0 && w[1] >= 0
}

// made tells whether any number of each of the periods make up w.
func made(w word2, periods []api.Bag) bool {
	return w == word2{} || slices.ContainsFunc(periods, func(p api.Bag) bool {
		rest, ok := without(w, p)
		return ok && made(rest, periods)
	})
}

// has tells whether w is a word of s.
func has(s api.Semi, w word2) bool {
	return slices.ContainsFunc(s, func(l api.Lin) bool {
		rest, ok := without(w, l.Base)
		return ok && made(rest, l.Periods)
	})
}

func TestOfAgainstTheWords(t *testing.T) {
	for nodes := 1; nodes <= 6; nodes++ {
		for _, text := range texts(nodes, true) {
			p := parse(t, text)
			s, e := Of(nil, p, 2)
			if e != api.OK {
				t.Fatalf("%s is %d", text, e)
			}
			all := words(p, len(p)-1)
			for i := range side * side {
				w := word2{i / side, i % side}
				if _, there := all[w]; has(s, w) != there {
					t.Fatalf("%s is %v; has it %v? %t", text, s, w, there)
				}
			}
		}
	}
}

// textOf is the text of a pattern that stands for s.
func textOf(s api.Semi) string {
	var sums []string
	for _, l := range s {
		sums = append(sums, wordText(l.Base)+starText(l.Periods))
	}
	return joined(sums, " + ", "0")
}

// starText is what stands behind the text of a base.
func starText(periods []api.Bag) string {
	if len(periods) == 0 {
		return ""
	}
	var sums []string
	for _, p := range periods {
		sums = append(sums, wordText(p))
	}
	return " . *(" + joined(sums, " + ", "0") + ")"
}

func wordText(b api.Bag) string {
	var cats []string
	for i, n := range b {
		if n > 0 {
			cats = append(cats, fmt.Sprint(letters()[i], "^", n))
		}
	}
	return joined(cats, " . ", "1")
}

// joined is none where there are no parts.
func joined(parts []string, between, none string) string {
	if len(parts) == 0 {
		return none
	}
	return strings.Join(parts, between)
}

// Each semilinear set has a pattern without stars within stars.
func TestEachSetHasAPattern(t *testing.T) {
	l := api.Semi{
		{},
		{Periods: []api.Bag{{1}}},
		{Periods: []api.Bag{{2}, {0, 1}}},
		{Base: api.Bag{1}},
		{Base: api.Bag{1}, Periods: []api.Bag{{2}}},
		{Base: api.Bag{0, 3}, Periods: []api.Bag{{0, 1}, {1, 1}}},
		{Base: api.Bag{1, 1}},
		{Base: api.Bag{0, 0, 0, 0, 0, 0, 0, 0, 0, 0, 0, 999999999}},
	}
	expectOf(t, textOf(nil), "[]")
	for i := range l {
		for j := range i + 1 {
			s := put(api.Semi{l[i]}, l[j])
			expectOf(t, textOf(s), fmt.Sprint(s))
		}
	}
	expectOf(t, textOf(l[:5]), fmt.Sprint(l[:5]))
}
