package pat

import (
	"runtime"
	"slices"
	"strconv"
	"strings"
	"testing"

	"columbary/api"
)

func expectPrint(t *testing.T, want string, p ...api.PNode) {
	t.Helper()
	if s, e := Print(p, "a", "b"); s != want || e != api.OK {
		t.Errorf("Print(%v) is %q, error %v, want %q", p, s, e, want)
	}
	if q, e := Parse(want, "a", "b"); e != api.OK || !Same(p, q) {
		t.Errorf("%q is read as %v, error %v, want %v", want, q, e, p)
	}
}

func expectNoPrint(t *testing.T, p api.Pattern, names ...string) {
	t.Helper()
	if s, e := Print(p, names...); s != "" || e != api.ErrArg {
		t.Errorf("Print(%v, %q) is %q, error %v, want error %v", p, names, s, e, api.ErrArg)
	}
}

func TestPrintOfLeaves(t *testing.T) {
	expectPrint(t, "0", zero)
	expectPrint(t, "1", one)
	expectPrint(t, "a", tag(0, 1))
	expectPrint(t, "b", tag(1, 1))
}

func TestPrintOfCounts(t *testing.T) {
	expectPrint(t, "b", tag(1, 1))
	expectPrint(t, "b^2", tag(1, 2))
	expectPrint(t, "b^10", tag(1, 10))
	expectPrint(t, "b^999999999", tag(1, api.MaxCount))
	expectPrint(t, "*a^3", tag(0, 3), star(0))
	expectPrint(t, "a^2 . b", tag(0, 2), tag(1, 1), cat(0, 1))
}

func TestPrintOfBrackets(t *testing.T) {
	a, b := tag(0, 1), tag(1, 1)
	// Around a sum.
	expectPrint(t, "a + b + 1", a, b, sum(0, 1), one, sum(2, 3))
	expectPrint(t, "a + (b + 1)", a, b, one, sum(1, 2), sum(0, 3))
	expectPrint(t, "(a + b) . 1", a, b, sum(0, 1), one, cat(2, 3))
	expectPrint(t, "a . (b + 1)", a, b, one, sum(1, 2), cat(0, 3))
	expectPrint(t, "*(a + b)", a, b, sum(0, 1), star(2))
	// Around a cat.
	expectPrint(t, "a . b + 1", a, b, cat(0, 1), one, sum(2, 3))
	expectPrint(t, "a + b . 1", a, b, one, cat(1, 2), sum(0, 3))
	expectPrint(t, "a . b . 1", a, b, cat(0, 1), one, cat(2, 3))
	expectPrint(t, "a . (b . 1)", a, b, one, cat(1, 2), cat(0, 3))
	expectPrint(t, "*(a . b)", a, b, cat(0, 1), star(2))
	// Around a star, or a leaf: none.
	expectPrint(t, "*a + b", a, star(0), b, sum(1, 2))
	expectPrint(t, "a + *b", a, b, star(1), sum(0, 2))
	expectPrint(t, "*a . b", a, star(0), b, cat(1, 2))
	expectPrint(t, "a . *b", a, b, star(1), cat(0, 2))
	expectPrint(t, "*0", zero, star(0))
	expectPrint(t, "*1", one, star(0))
	expectPrint(t, "0 . 1", zero, one, cat(0, 1))
	// Around several.
	expectPrint(t, "(a + b) . (0 + 1)", a, b, sum(0, 1), zero, one, sum(3, 4), cat(2, 5))
	expectPrint(t, "a . b + (0 + *(a . (b . 1)))", a, b, cat(0, 1), zero, a, b, one, cat(5, 6), cat(4, 7), star(8), sum(3, 9), sum(2, 10))
	expectPrint(t, "a + (b + (0 + 1))", a, b, zero, one, sum(2, 3), sum(1, 4), sum(0, 5))
}

func TestPrintDropsWhatNeedNotStand(t *testing.T) {
	for text, want := range map[string]string{
		"((a))": "a", "a^1": "a", " ( a + b )\n+1 #": "a + b + 1", "(a.b)+(0.1)": "a . b + 0 . 1", "*(a)": "*a", "(*a)+(*(b^1))": "*a + *b", "(a.b).1": "a . b . 1",
	} {
		p, _ := Parse(text, "a", "b")
		expectPrint(t, want, p...)
	}
}

func TestPrintOfWhatCheckDoesNotTake(t *testing.T) {
	for _, p := range []api.Pattern{
		nil, {}, {{}}, {tag(2, 1)}, {tag(-1, 1)}, {tag(0, 0)}, {tag(0, api.MaxCount+1)}, {one, one}, {one, one, sum(1, 0)}, {star(0)},
		{one, star(0), star(1)}, {one, {Kind: api.PStar, N: 1}}, {{Kind: api.POne, B: 1}}, {{Kind: 7}}, row(api.PSum, api.MaxPat, one),
	} {
		expectNoPrint(t, p, "a", "b")
	}
	expectNoPrint(t, api.Pattern{tag(0, 1)})
	expectNoPrint(t, api.Pattern{tag(1, 1)}, "a")
	expectNoPrint(t, nil)
}

func TestPrintOfNames(t *testing.T) {
	long := strings.Repeat("n", api.MaxName)
	a, b := tag(0, 1), tag(1, 1)
	for _, name := range []string{"", "A", "msg", "tag", "a b", " a", "a ", "0", "1", "_a", "1a", "a^2", "a+b", "a.", "é", "\xff", "a\x00", long + "n"} {
		// Used by the pattern.
		expectNoPrint(t, api.Pattern{a}, name)
		expectNoPrint(t, api.Pattern{b}, "a", name)
		expectNoPrint(t, api.Pattern{a, b, sum(0, 1), star(2)}, "a", name)
		expectNoPrint(t, api.Pattern{b, a, cat(0, 1)}, name, "b")
		// Not used by it.
		for _, l := range [][]string{{"a", name}, {"a", name, name}} {
			if s, e := Print(api.Pattern{a}, l...); s != "a" || e != api.OK {
				t.Errorf("Print of a is %q, error %v, by names %q", s, e, l)
			}
		}
		if s, e := Print(api.Pattern{b}, name, "b", name); s != "b" || e != api.OK {
			t.Errorf("Print of b is %q, error %v, where tag 0 is %q", s, e, name)
		}
		if s, e := Print(api.Pattern{one}, name, name); s != "1" || e != api.OK {
			t.Errorf("Print of 1 is %q, error %v, by names %q", s, e, name)
		}
	}
	if s, e := Print(api.Pattern{b}, "a", long); s != long || e != api.OK {
		t.Errorf("Print is %q, error %v", s, e)
	}
	if s, e := Print(api.Pattern{one}); s != "1" || e != api.OK {
		t.Errorf("Print of 1 without names is %q, error %v", s, e)
	}
}

func TestPrintOfEqualNames(t *testing.T) {
	a, b, c := tag(0, 1), tag(1, 1), tag(2, 1)
	// The later one is used.
	expectNoPrint(t, api.Pattern{b}, "x", "x")
	expectNoPrint(t, api.Pattern{c}, "x", "y", "x")
	expectNoPrint(t, api.Pattern{c}, "y", "x", "x")
	expectNoPrint(t, api.Pattern{a, c, sum(0, 1)}, "x", "y", "x")
	expectNoPrint(t, api.Pattern{a, b, cat(0, 1)}, "x", "x", "z")
	// Just the earlier one is.
	for _, x := range []struct {
		p     api.Pattern
		names []string
		want  string
	}{
		{api.Pattern{a}, []string{"x", "x"}, "x"},
		{api.Pattern{b}, []string{"y", "x", "x", "x"}, "x"},
		{api.Pattern{a, b, sum(0, 1)}, []string{"x", "y", "x", "y"}, "x + y"},
		{api.Pattern{c}, []string{"x", "x", "y"}, "y"},
		{api.Pattern{a, a, cat(0, 1)}, []string{"x", "x"}, "x . x"},
	} {
		if s, e := Print(x.p, x.names...); s != x.want || e != api.OK {
			t.Errorf("Print(%v, %q) is %q, error %v, want %q", x.p, x.names, s, e, x.want)
		}
	}
}

// TestPrintDoesNotAskNamesOfNodes: they are not printed, either.
func TestPrintDoesNotAskNamesOfNodes(t *testing.T) {
	p := api.Pattern{tag(0, 1), tag(1, 2), sum(0, 1), star(2)}
	for i := range p {
		p[i].Name = []string{"b", "msg", "A", ""}[i]
	}
	if s, e := Print(p, "a", "b"); s != "*(a + b^2)" || e != api.OK {
		t.Errorf("Print is %q, error %v", s, e)
	}
}

// bare is the text of p with brackets around all parts but those that are named by the list of places.
func bare(p api.Pattern, i int, without []int) string {
	s := ""
	switch n := p[i]; n.Kind {
	case api.PZero, api.POne:
		return strconv.Itoa(n.Kind - api.PZero)
	case api.PTag:
		return "ab"[n.N : n.N+1]
	case api.PSum:
		s = bare(p, n.A, without) + " + " + bare(p, n.B, without)
	case api.PCat:
		s = bare(p, n.A, without) + " . " + bare(p, n.B, without)
	case api.PStar:
		s = "*" + bare(p, n.A, without)
	}
	if slices.Contains(without, i) {
		return s
	}
	return "(" + s + ")"
}

// needed is the text of p with brackets just around those parts that would be read otherwise without them.
func needed(p api.Pattern) string {
	var without []int
	for i := range p {
		if q, e := Parse(bare(p, len(p)-1, append(without[:len(without):len(without)], i)), "a", "b"); e == api.OK && Same(p, q) {
			without = append(without, i)
		}
	}
	return bare(p, len(p)-1, without)
}

// TestPrintOfAllTrees: brackets stand just where a reader needs them.
func TestPrintOfAllTrees(t *testing.T) {
	for n := 1; n <= 7; n++ {
		for _, p := range trees(n, tag(0, 1)) {
			if nested(p) {
				expectNoPrint(t, p, "a", "b")
				continue
			}
			expectPrint(t, needed(p), p...)
			if t.Failed() {
				return
			}
		}
	}
	for n := 1; n <= 5; n++ {
		for _, p := range trees(n, zero, one, tag(0, 1), tag(1, 1)) {
			if !nested(p) {
				expectPrint(t, needed(p), p...)
			}
			if t.Failed() {
				return
			}
		}
	}
}

func TestPrintOfSomeGreatTreesIsReadAsTheSame(t *testing.T) {
	pick := random()
	names := []string{"a", "b", "x_1", strings.Repeat("n", api.MaxName)}
	for range 20000 {
		p := someTree(pick, 1+pick(api.MaxPat), len(names), false)
		s, e := Print(p, names...)
		q, f := Parse(s, names...)
		if e != api.OK || f != api.OK || !Same(p, q) {
			t.Fatalf("Print(%v) is %q, error %v, and read as %v, error %v", p, s, e, q, f)
		}
	}
}

// TestPrintAsDeepAsMayBe: no pattern is so deep that its text could not be read.
func TestPrintAsDeepAsMayBe(t *testing.T) {
	p := api.Pattern{tag(0, api.MaxCount)}
	for len(p)+2 < api.MaxPat {
		p = join(api.PCat, api.Pattern{tag(0, api.MaxCount)}, p)
	}
	p = stars(p)
	if len(p) != api.MaxPat {
		t.Fatalf("there are %d nodes", len(p))
	}
	many := api.MaxPat/2 - 1
	expectPrint(t, "*("+strings.Repeat("a^999999999 . (", many-1)+"a^999999999 . a^999999999"+strings.Repeat(")", many), p...)
}

// TestNamesAreNotKept: the text of a tag alone is no piece of the name that was handed in.
func TestNamesAreNotKept(t *testing.T) {
	const many, long = 1000, 16384
	kept := make([]string, 0, many)
	before := inUse()
	for range many {
		s, _ := Print(api.Pattern{tag(0, 1)}, strings.Repeat("a", long)[:api.MaxName])
		kept = append(kept, s)
	}
	if grown := inUse() - before; grown > many*long/4 {
		t.Errorf("%d texts hold %d bytes", many, grown)
	}
	if last := kept[many-1]; last != strings.Repeat("a", api.MaxName) {
		t.Errorf("the last text is %q", last)
	}
}

// inUse is how many bytes there are that something still holds.
func inUse() int {
	runtime.GC()
	var m runtime.MemStats
	runtime.ReadMemStats(&m)
	return int(m.HeapAlloc)
}
