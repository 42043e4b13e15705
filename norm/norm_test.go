package norm

import (
	"fmt"
	"math"
	"slices"
	"strings"
	"testing"

	"columbary/api"
	"columbary/meter"
	"columbary/pat"
)

// letters are the names of as many tags as there may be.
func letters() []string {
	return strings.Split("abcdefghijkl", "")
}

// parse is the pattern of a text over all letters.
func parse(t *testing.T, text string) api.Pattern {
	t.Helper()
	p, e := pat.Parse(text, letters()...)
	if e != api.OK {
		t.Fatalf("%q is no pattern: %d", text, e)
	}
	return p
}

// answer is all that is to be seen of a call; nil and empty lists are the same.
type answer struct {
	semi  string
	e     api.Errno
	spent int
	out   bool
}

func ask(m *meter.Meter, p api.Pattern, tags int) answer {
	s, e := Of(m, p, tags)
	return answer{fmt.Sprint(s), e, m.Spent(), m.Out()}
}

func expectAnswer(t *testing.T, name string, got, want answer) {
	t.Helper()
	if got != want {
		t.Errorf("%s is %v, want %v", name, got, want)
	}
}

// expectOf asks of a text over all letters, without a bound.
func expectOf(t *testing.T, text, want string) {
	t.Helper()
	expectAnswer(t, text, ask(nil, parse(t, text), api.MaxMsgs), answer{semi: want})
}

func TestOfEachKindAlone(t *testing.T) {
	expectOf(t, "0", "[]")
	expectOf(t, "1", "[{[] []}]")
	expectOf(t, "a", "[{[1] []}]")
	expectOf(t, "b^3", "[{[0 3] []}]")
	expectOf(t, "c^999999999", "[{[0 0 999999999] []}]")
	expectOf(t, "l^2", "[{[0 0 0 0 0 0 0 0 0 0 0 2] []}]")
	expectOf(t, "a + b", "[{[1] []} {[0 1] []}]")
	expectOf(t, "b + a", "[{[1] []} {[0 1] []}]")
	expectOf(t, "a . b", "[{[1 1] []}]")
	expectOf(t, "b . a", "[{[1 1] []}]")
	expectOf(t, "*a", "[{[] [[1]]}]")
	expectOf(t, "*b^3", "[{[] [[0 3]]}]")
}

func TestOfEachKindInASum(t *testing.T) {
	for inner, want := range map[string]string{
		"0":     "[{[0 0 1] []}]",
		"1":     "[{[] []} {[0 0 1] []}]",
		"a":     "[{[1] []} {[0 0 1] []}]",
		"a + b": "[{[1] []} {[0 1] []} {[0 0 1] []}]",
		"a . b": "[{[1 1] []} {[0 0 1] []}]",
		"*a":    "[{[] [[1]]} {[0 0 1] []}]",
	} {
		expectOf(t, "("+inner+") + c", want)
		expectOf(t, "c + ("+inner+")", want)
	}
}

func TestOfEachKindInACat(t *testing.T) {
	for inner, want := range map[string]string{
		"0":     "[]",
		"1":     "[{[0 0 1] []}]",
		"a":     "[{[1 0 1] []}]",
		"a + b": "[{[0 1 1] []} {[1 0 1] []}]",
		"a . b": "[{[1 1 1] []}]",
		"*a":    "[{[0 0 1] [[1]]}]",
	} {
		expectOf(t, "("+inner+") . c", want)
		expectOf(t, "c . ("+inner+")", want)
	}
}

func TestOfEachKindInAStar(t *testing.T) {
	expectOf(t, "*0", "[{[] []}]")
	expectOf(t, "*1", "[{[] []}]")
	expectOf(t, "*a", "[{[] [[1]]}]")
	expectOf(t, "*(a + b)", "[{[] [[1] [0 1]]}]")
	expectOf(t, "*(a . b)", "[{[] [[1 1]]}]")
	// A star may stand in none, but in all that isn't one.
	p := parse(t, "*a")
	expectRefused(t, "a star in a star", append(p, api.PNode{Kind: api.PStar, A: 1}), 12)
}

func TestOfNoWords(t *testing.T) {
	expectOf(t, "0 + 0", "[]")
	expectOf(t, "0 + 1", "[{[] []}]")
	expectOf(t, "1 + 0", "[{[] []}]")
	expectOf(t, "0 . 0", "[]")
	expectOf(t, "0 . 1", "[]")
	expectOf(t, "0 . *a", "[]")
	expectOf(t, "*a . 0", "[]")
	expectOf(t, "*(0 + 0)", "[{[] []}]")
	expectOf(t, "*(a . 0)", "[{[] []}]")
	expectOf(t, "*(a + 0)", "[{[] [[1]]}]")
	expectOf(t, "*0 . a", "[{[1] []}]")
	expectOf(t, "*0 + a", "[{[] []} {[1] []}]")
	expectOf(t, "(a + 0) . (0 + b)", "[{[1 1] []}]")
	expectOf(t, "a . 0 + b", "[{[0 1] []}]")
}

func TestOfWhatIsAlike(t *testing.T) {
	expectOf(t, "a + a", "[{[1] []}]")
	expectOf(t, "1 + 1", "[{[] []}]")
	expectOf(t, "*a + *a", "[{[] [[1]]}]")
	expectOf(t, "(a + b) + (b + a)", "[{[1] []} {[0 1] []}]")
	expectOf(t, "a . b + b . a", "[{[1 1] []}]")
	expectOf(t, "a . a + a^2", "[{[2] []}]")
	expectOf(t, "*0 + 1 + *1", "[{[] []}]")
	expectOf(t, "(1 + a) . (1 + a)", "[{[] []} {[1] []} {[2] []}]")
	expectOf(t, "(a + b) . (a + b)", "[{[2] []} {[0 2] []} {[1 1] []}]")
	expectOf(t, "(a + a^2) . (a^3 + a^2)", "[{[3] []} {[4] []} {[5] []}]")
	expectOf(t, "*a . *a", "[{[] [[1]]}]")
	expectOf(t, "(*a + *b) . (*b + *a)", "[{[] [[1]]} {[] [[0 1]]} {[] [[1] [0 1]]}]")
	expectOf(t, "*(1 + 1)", "[{[] []}]")
	expectOf(t, "*(1 . 1)", "[{[] []}]")
	expectOf(t, "*(a + a)", "[{[] [[1]]}]")
	expectOf(t, "*(1 + a)", "[{[] [[1]]}]")
	// Other texts of the same words stay apart: chapters 6 and 7 leave out just what stands twice.
	expectOf(t, "1 + *a", "[{[] []} {[] [[1]]}]")
	expectOf(t, "*(a + a^2)", "[{[] [[1] [2]]}]")
}

func TestOfOrdinaryOnes(t *testing.T) {
	expectOf(t, "*a . (1 + b)", "[{[] [[1]]} {[0 1] [[1]]}]")
	expectOf(t, "a + b . c", "[{[1] []} {[0 1 1] []}]")
	expectOf(t, "(a + b) . c", "[{[0 1 1] []} {[1 0 1] []}]")
	expectOf(t, "(1 + a) . *b . c", "[{[0 0 1] [[0 1]]} {[1 0 1] [[0 1]]}]")
	expectOf(t, "*(a . b + c^2) . b^2", "[{[0 2] [[1 1] [0 0 2]]}]")
	expectOf(t, "*(b + a) . *(c + a)", "[{[] [[1] [0 1] [0 0 1]]}]")
	expectOf(t, "a^2 . (b^3 + 1) + *c", "[{[] [[0 0 1]]} {[2] []} {[2 3] []}]")
}

// No pattern has a word that is beyond its bound: this is the greatest there is.
func TestOfTheGreatestCounts(t *testing.T) {
	p := parse(t, strings.Repeat("a^999999999 . ", 11)+"a^999999999")
	expectAnswer(t, "twelve times a^999999999", ask(nil, p, 1), answer{semi: "[{[11999999988] []}]"})
	expectOf(t, "*(a^999999999 . a^999999999)", "[{[] [[1999999998]]}]")
}

func TestOfAsManyNodesAsMayBe(t *testing.T) {
	all := strings.Join(letters(), " + ")
	p := parse(t, all)
	var words []string
	for i := range api.MaxMsgs {
		words = append(words, fmt.Sprint(append(make(api.Bag, i), 1)))
	}
	expectAnswer(t, all, ask(nil, p, 12), answer{semi: "[{" + strings.Join(words, " []} {") + " []}]"})

	q := parse(t, "*("+all+")")
	if len(q) != api.MaxPat {
		t.Fatalf("there are %d nodes", len(q))
	}
	expectAnswer(t, "a star of "+all, ask(nil, q, 12), answer{semi: "[{[] [" + strings.Join(words, " ") + "]}]"})

	// One more, with a tag and without any.
	last := len(p)
	more := append(slices.Clone(p), api.PNode{Kind: api.POne}, api.PNode{Kind: api.PSum, A: last - 1, B: last})
	if len(more) != api.MaxPat+1 {
		t.Fatalf("there are %d nodes", len(more))
	}
	expectRefused(t, "one node more", more, 12)
	for i, n := range more {
		if n.Kind == api.PTag {
			more[i] = api.PNode{Kind: api.POne}
		}
	}
	expectRefused(t, "one node more, no tags", more, 12)
	expectRefused(t, "very many nodes", slices.Repeat(api.Pattern{{Kind: api.POne}}, 1<<20), 12)
}

func TestOfManyTags(t *testing.T) {
	for _, text := range []string{"0", "1", "*(1 + 0)", "1 . *1"} {
		p := parse(t, text)
		for _, tags := range []int{0, 1, 2, api.MaxMsgs - 1, api.MaxMsgs} {
			if s, e := Of(nil, p, tags); e != api.OK || (len(s) == 1) == (text == "0") {
				t.Errorf("%s for %d tags is %v, %d", text, tags, s, e)
			}
		}
	}
	for _, tags := range []int{math.MinInt, -api.MaxMsgs, -2, -1, api.MaxMsgs + 1, api.MaxMsgs + 2, 1 << 32, math.MaxInt} {
		for _, text := range []string{"0", "1", "a", "l", "*(1 + 0)", "a . 1 + *b"} {
			expectRefused(t, fmt.Sprint(text, " for ", tags), parse(t, text), tags)
		}
	}
	// Just below tags, just tags, and more.
	for tags := range api.MaxMsgs + 1 {
		for n := range api.MaxMsgs + 2 {
			p := api.Pattern{{Kind: api.POne}, {Kind: api.PTag, A: 5, N: n}, {Kind: api.PCat, A: 0, B: 1}}
			if n >= tags {
				expectRefused(t, fmt.Sprint("tag ", n, " of ", tags), p, tags)
				continue
			}
			want := fmt.Sprint(api.Semi{{Base: append(make(api.Bag, n), 5)}})
			expectAnswer(t, fmt.Sprint("tag ", n, " of ", tags), ask(nil, p, tags), answer{semi: want})
		}
	}
}

func TestOfDoesNotAskNames(t *testing.T) {
	text := "*(a + b) . (1 + c^2) + 0"
	want := ask(meter.New(99), parse(t, text), 3)
	for _, name := range []string{"", "a", "msg", "A b", "\xff", strings.Repeat("x", 1000)} {
		p := parse(t, text)
		for i := range p {
			p[i].Name = name
			expectAnswer(t, fmt.Sprintf("%s with %q at %d", text, name, i), ask(meter.New(99), p, 3), want)
		}
	}
}
