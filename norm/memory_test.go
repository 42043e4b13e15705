package norm

import (
	"fmt"
	"slices"
	"testing"

	"columbary/api"
	"columbary/meter"
	"columbary/semi"
)

// manyTexts are of all kinds of last nodes, and of nodes below them.
func manyTexts() []string {
	return slices.Concat(texts(1, true), texts(2, true), texts(3, true), greatTexts(), []string{
		"(a + *b) . (1 + c) . *(a + c)", "*(a . b + c) + *a . b^2", "0 + (a + b)", "(1 + a) . 1", "0 . 0 + *0 . 1", "*((a + b) . c)",
	})
}

// lists are all lists of numbers in the memory of s, what is behind the ends of its lists too.
func lists(s api.Semi) (all []api.Bag) {
	for _, l := range s[:cap(s)] {
		all = append(all, l.Base)
		all = append(all, l.Periods[:cap(l.Periods)]...)
	}
	return all
}

// turn writes over all memory of s.
func turn(s api.Semi) {
	for _, b := range lists(s) {
		for i := range b[:cap(b)] {
			b[:cap(b)][i] = -99
		}
	}
	for i, l := range s[:cap(s)] {
		for k := range l.Periods[:cap(l.Periods)] {
			l.Periods[:cap(l.Periods)][k] = api.Bag{-98}
		}
		s[:cap(s)][i] = api.Lin{Base: api.Bag{-97}}
	}
}

// roomy is p in new memory, each node with a name, and a node behind its end, which an append would write over.
func roomy(p api.Pattern) api.Pattern {
	more := append(slices.Clone(p), api.PNode{Kind: -5})
	for i := range more {
		more[i].Name = fmt.Sprint("name", i)
	}
	return more[:len(p)]
}

// expectAsItWas asks of p by many meters, for all tags and for none, whole and in part.
func expectAsItWas(t *testing.T, p api.Pattern) {
	t.Helper()
	p = roomy(p)
	was := slices.Clone(p[:len(p)+1])
	for _, m := range []*meter.Meter{nil, meter.New(0), meter.New(4), meter.New(1000)} {
		Of(m, p, api.MaxMsgs)
		Of(m, p, 0)
		Of(m, p[:len(p)-1], api.MaxMsgs)
		if !slices.Equal(p[:len(p)+1], was) {
			t.Fatalf("%v became %v", was, p[:len(p)+1])
		}
	}
}

func TestPatternIsAsItWas(t *testing.T) {
	for _, text := range manyTexts() {
		expectAsItWas(t, parse(t, text))
	}
	for _, p := range []api.Pattern{
		{one, one},
		{one, star(0), star(1)},
		{one, zero, sum(1, 0)},
		{tag(-1, 1)},
		{tag(0, 1), {Kind: 9, A: -1, B: 7, N: 8}},
	} {
		expectAsItWas(t, p)
	}
}

func TestAnswersAreNewMemory(t *testing.T) {
	for _, text := range manyTexts() {
		p := parse(t, text)
		kept := slices.Clone(p)
		first, _ := Of(nil, p, api.MaxMsgs)
		second, _ := Of(nil, p, api.MaxMsgs)
		want := fmt.Sprint(first)
		turn(first)
		if !slices.Equal(p, kept) {
			t.Fatalf("turning the answer of %s made %v of it", text, p)
		}
		third, _ := Of(nil, p, api.MaxMsgs)
		// The pattern that was handed in is turned, too: none of it is in the answers.
		clear(p)
		for _, s := range []api.Semi{second, third} {
			if fmt.Sprint(s) != want || !semi.Right(s) {
				t.Fatalf("beside what was turned %s is %v, want %s", text, s, want)
			}
		}
	}
}

func TestNoTwoListsOfAnAnswerShareMemory(t *testing.T) {
	for _, text := range manyTexts() {
		s, _ := Of(nil, parse(t, text), api.MaxMsgs)
		all := lists(s)
		for i, b := range all {
			others := fmt.Sprint(all[:i], all[i+1:])
			for k := range b[:cap(b)] {
				b[:cap(b)][k] = -100 - i
			}
			if fmt.Sprint(all[:i], all[i+1:]) != others {
				t.Fatalf("%s: list %d is in another, too", text, i)
			}
		}
		for i, l := range s {
			others := fmt.Sprint(s[:i], s[i+1:])
			clear(l.Periods[:cap(l.Periods)])
			if fmt.Sprint(s[:i], s[i+1:]) != others {
				t.Fatalf("%s: the periods of %d are another's, too", text, i)
			}
		}
	}
}

// What is kept from call to call would be seen in a second round, or in one that goes the other way.
func TestAnswersHangOnArgumentsAlone(t *testing.T) {
	all := manyTexts()
	round := func() map[string]answer {
		told := map[string]answer{}
		for _, text := range all {
			told[text] = ask(meter.New(20), parse(t, text), api.MaxMsgs)
		}
		return told
	}
	first := round()
	slices.Reverse(all)
	for text, again := range round() {
		expectAnswer(t, text, again, first[text])
	}
}
