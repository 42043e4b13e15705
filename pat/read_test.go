package pat

import (
	"slices"
	"strings"
	"testing"

	"columbary/api"
	"columbary/lex"
)

// names are what most tests read by: b is tag 1, and a is tag 0, not tag 2.
func names() []string {
	return []string{"a", "b", "a"}
}

func expectParse(t *testing.T, text string, want ...api.PNode) {
	t.Helper()
	p, e := Parse(text, names()...)
	if e != api.OK || !slices.Equal(p, want) {
		t.Errorf("Parse(%s) is %v, error %v, want %v", short(text), p, e, want)
	}
	if !Check(p, 2) {
		t.Errorf("Check does not take what Parse(%s) is: %v", short(text), p)
	}
}

func expectError(t *testing.T, want api.Errno, texts ...string) {
	t.Helper()
	for _, text := range texts {
		if p, e := Parse(text, names()...); e != want || len(p) != 0 {
			t.Errorf("Parse(%s) is %v, error %v, want error %v", short(text), p, e, want)
		}
	}
}

// deep is text in so many brackets.
func deep(n int, text string) string {
	return strings.Repeat("(", n) + text + strings.Repeat(")", n)
}

func TestParseOfEachForm(t *testing.T) {
	expectParse(t, "0", zero)
	expectParse(t, "1", one)
	expectParse(t, "a", tag(0, 1))
	expectParse(t, "b", tag(1, 1))
	expectParse(t, "b^7", tag(1, 7))
	expectParse(t, "a + b", tag(0, 1), tag(1, 1), sum(0, 1))
	expectParse(t, "a . b", tag(0, 1), tag(1, 1), cat(0, 1))
	expectParse(t, "*a", tag(0, 1), star(0))
	expectParse(t, "(a)", tag(0, 1))
	expectParse(t, "*(a + b)", tag(0, 1), tag(1, 1), sum(0, 1), star(2))
	expectParse(t, "0 + 1", zero, one, sum(0, 1))
}

func TestParseTakesTheLeftFirst(t *testing.T) {
	expectParse(t, "a + b + 1", tag(0, 1), tag(1, 1), sum(0, 1), one, sum(2, 3))
	expectParse(t, "a . b . 1", tag(0, 1), tag(1, 1), cat(0, 1), one, cat(2, 3))
	expectParse(t, "0+1+a+b", zero, one, sum(0, 1), tag(0, 1), sum(2, 3), tag(1, 1), sum(4, 5))
	expectParse(t, "a + (b + 1)", tag(0, 1), tag(1, 1), one, sum(1, 2), sum(0, 3))
	expectParse(t, "a . (b . 1)", tag(0, 1), tag(1, 1), one, cat(1, 2), cat(0, 3))
	expectParse(t, "(a + b) + 1", tag(0, 1), tag(1, 1), sum(0, 1), one, sum(2, 3))
}

func TestParseTakesCatsAheadOfSums(t *testing.T) {
	expectParse(t, "a + b . 1", tag(0, 1), tag(1, 1), one, cat(1, 2), sum(0, 3))
	expectParse(t, "a . b + 1", tag(0, 1), tag(1, 1), cat(0, 1), one, sum(2, 3))
	expectParse(t, "a . b + 1 . 0", tag(0, 1), tag(1, 1), cat(0, 1), one, zero, cat(3, 4), sum(2, 5))
	expectParse(t, "(a + b) . 1", tag(0, 1), tag(1, 1), sum(0, 1), one, cat(2, 3))
	expectParse(t, "a . (b + 1)", tag(0, 1), tag(1, 1), one, sum(1, 2), cat(0, 3))
}

func TestParseOfStars(t *testing.T) {
	expectParse(t, "*a", tag(0, 1), star(0))
	expectParse(t, "*b^3", tag(1, 3), star(0))
	expectParse(t, "*0", zero, star(0))
	expectParse(t, "*1", one, star(0))
	expectParse(t, "*(a)", tag(0, 1), star(0))
	expectParse(t, "*((a))", tag(0, 1), star(0))
	expectParse(t, "(*a)", tag(0, 1), star(0))
	expectParse(t, "*a + b", tag(0, 1), star(0), tag(1, 1), sum(1, 2))
	expectParse(t, "*a . b", tag(0, 1), star(0), tag(1, 1), cat(1, 2))
	expectParse(t, "a . *b", tag(0, 1), tag(1, 1), star(1), cat(0, 2))
	expectParse(t, "*a . *b", tag(0, 1), star(0), tag(1, 1), star(2), cat(1, 3))
	expectParse(t, "*(a . b) + *b", tag(0, 1), tag(1, 1), cat(0, 1), star(2), tag(1, 1), star(4), sum(3, 5))
	expectParse(t, "(*a + 1) . *(b)", tag(0, 1), star(0), one, sum(1, 2), tag(1, 1), star(4), cat(3, 5))
	expectParse(t, "*(a) . *(b)", tag(0, 1), star(0), tag(1, 1), star(2), cat(1, 3))
}

func TestParseOfStarsThatMayNotBe(t *testing.T) {
	expectError(t, api.ErrForm, "*", "* ", "**a", "***a", "*+", "*.", "*)", "*^2", "*2", "*msg", "a*", "a *b", "a**", "*a*b", "1*", "(a)*",
		"*(*a)", "*((*a))", "*(a . *b)", "*(a + *b)", "*(*a + b)", "*(*a . b)", "*(a + (b . (1 + *a)))", "*((a) . *b)", "*(a . b) . *(a . *b)", "*(a + *", "*(*", "a + **b")
	// Ahead of the second star another token may not stand.
	expectError(t, api.ErrNone, "*(c . *b)", "*c*", "*(a + c) . **a", "*c")
	// Behind it another one may not.
	expectError(t, api.ErrForm, "*(a . *c)", "**c", "*(*c)")
}

func TestParseOfCounts(t *testing.T) {
	expectParse(t, "a^1", tag(0, 1))
	expectParse(t, "a^2", tag(0, 2))
	expectParse(t, "a^10", tag(0, 10))
	expectParse(t, "a^999999998", tag(0, api.MaxCount-1))
	expectParse(t, "a^999999999", tag(0, api.MaxCount))
	expectParse(t, "(a^2 + b^3) . a", tag(0, 2), tag(1, 3), sum(0, 1), tag(0, 1), cat(2, 3))
	expectParse(t, "a ^ 2", tag(0, 2))
	expectParse(t, "a\n^\t2 # of a\n", tag(0, 2))
	expectError(t, api.ErrForm,
		"a^0", "a^00", "a^01", "a^1000000000", "a^9999999999", "a^-1", "a^",
		"a^b", "a^a", "a^c", "a^msg", "a^(2)", "a^*", "a^+", "a^^2", "a^2^2", "a^2^", "a^2 3", "a^2b", "a^)", "(a^)", "a^ + b",
		"0^2", "1^2", "0^1", "(a)^2", "(a + b)^2", "^2", "^", "a + ^2", "*^2", "*(a)^2", "2^2", "msg^2")
	expectError(t, api.ErrNone, "c^0", "c^", "c^b", "a + c^0", "c^2")
}

func TestParseOfNames(t *testing.T) {
	long := strings.Repeat("n", api.MaxName)
	for _, x := range []struct {
		text  string
		names []string
		want  api.Pattern
	}{
		{"a", []string{"a"}, api.Pattern{tag(0, 1)}},
		{"b", []string{"a", "b"}, api.Pattern{tag(1, 1)}},
		{"b", []string{"b", "b"}, api.Pattern{tag(0, 1)}},
		{"b", []string{"a", "b", "a", "b", "b"}, api.Pattern{tag(1, 1)}},
		{"a + b", []string{"b", "a", "b"}, api.Pattern{tag(1, 1), tag(0, 1), sum(0, 1)}},
		{"a . c", []string{"", "msg", "A", "a b", "\xff", "0", "a", "c"}, api.Pattern{tag(6, 1), tag(7, 1), cat(0, 1)}},
		{long, []string{long + "n", long}, api.Pattern{tag(1, 1)}},
		{"a_1", []string{"a", "a_", "a_1", "a_12"}, api.Pattern{tag(2, 1)}},
		{"1", nil, api.Pattern{one}},
		{"0", []string{"0", "1"}, api.Pattern{zero}},
		{"msgs", []string{"msg", "msgs"}, api.Pattern{tag(1, 1)}},
	} {
		if p, e := Parse(x.text, x.names...); e != api.OK || !slices.Equal(p, x.want) {
			t.Errorf("Parse(%q, %q) is %v, error %v, want %v", x.text, x.names, p, e, x.want)
		}
	}
}

func TestParseOfNamesThatAreNone(t *testing.T) {
	for _, x := range []struct {
		text  string
		names []string
		want  api.Errno
	}{
		{"a", nil, api.ErrNone},
		{"a", []string{}, api.ErrNone},
		{"a", []string{""}, api.ErrNone},
		{"a", []string{"b", "A", " a", "a ", "aa", "a^1"}, api.ErrNone},
		{"ab", []string{"a", "b"}, api.ErrNone},
		{"", []string{""}, api.ErrForm},
		{"*", []string{"*"}, api.ErrForm},
		{"2", []string{"2"}, api.ErrForm},
		{"(a", []string{"(a"}, api.ErrNone},
		{"A", []string{"A"}, api.ErrForm},
		{"_a", []string{"_a"}, api.ErrForm},
		{"msg", nil, api.ErrForm},
		{"msg", []string{"msg"}, api.ErrForm},
		{"a + tag", []string{"a", "tag"}, api.ErrForm},
		{"*done^2", []string{"done"}, api.ErrForm},
		{strings.Repeat("n", api.MaxName+1), []string{strings.Repeat("n", api.MaxName+1)}, api.ErrForm},
	} {
		if p, e := Parse(x.text, x.names...); e != x.want || len(p) != 0 {
			t.Errorf("Parse(%q, %q) is %v, error %v, want error %v", x.text, x.names, p, e, x.want)
		}
	}
}

func TestParseOfBrackets(t *testing.T) {
	expectParse(t, "((a))", tag(0, 1))
	expectParse(t, "((a) + ((b)))", tag(0, 1), tag(1, 1), sum(0, 1))
	expectParse(t, "(*a)", tag(0, 1), star(0))
	expectParse(t, "(0)", zero)
	expectParse(t, "(1) . (a^2)", one, tag(0, 2), cat(0, 1))
	expectError(t, api.ErrForm,
		"(", ")", "()", "(a", "a)", "((a)", "(a))", ")a(", "(a)(b)", "a(b)", "a (", "(a) b", "()a", "a + ()", "*()", "(a + )", "( + a)", "(.)", "(a b)", "(a; b)", "[a]", "{a}", "(a]", "<a", "(a + b", "*(a", "*a)")
	// Whether they are closed is seen behind what is in them.
	expectError(t, api.ErrNone, "(c", "(a + (c", "((((c))", "(c))")
	expectError(t, api.ErrForm, "(a) c", "(a))c", "()c", "a)c")
}

func TestParseAsDeepAsMayBe(t *testing.T) {
	for n := range api.MaxDepth + 1 {
		expectParse(t, deep(n, "a"), tag(0, 1))
		expectParse(t, "*"+deep(n, "a"), tag(0, 1), star(0))
		expectParse(t, deep(n, "*a"), tag(0, 1), star(0))
		expectParse(t, deep(n, "a")+"+"+deep(n, "b"), tag(0, 1), tag(1, 1), sum(0, 1))
	}
	max := api.MaxDepth
	expectParse(t, deep(max-1, deep(1, "a")+".(b)"), tag(0, 1), tag(1, 1), cat(0, 1))
	expectError(t, api.ErrLimit,
		deep(max+1, "a"), deep(max+2, "a"), deep(100, "a"), deep(8000, "a"), "*"+deep(max+1, "a"), "a + "+deep(max+1, "a"),
		deep(max-1, deep(1, "a")+".((b))"), deep(max, "a + (b)"), deep(max, "*(b)"),
		// It is told ahead of what stands behind it.
		strings.Repeat("(", max+1), strings.Repeat("(", max+1)+")", strings.Repeat("(", max+1)+"c", deep(max+1, "")+" c", deep(max+1, "**a"), "a."+strings.Repeat("(", 10000))
	expectError(t, api.ErrForm,
		strings.Repeat("(", max), deep(max, ""), deep(max, "a(b)"), deep(max, "a")+"(a)", deep(max, "a b"), "a"+deep(max+1, "a"), strings.Repeat("(", max)+"a((")
	expectError(t, api.ErrNone, deep(max, "c"), deep(max, "c + (a)"), "c + "+deep(max+1, "a"))
}

func TestParseOfEmptyTexts(t *testing.T) {
	expectError(t, api.ErrForm, "", " ", "\n", "\t \n ", "#", "# a", "#a\n", strings.Repeat(" ", api.MaxText))
}

func TestParseOfWhatStandsBehind(t *testing.T) {
	expectError(t, api.ErrForm, "a b", "a a", "a 1", "0 1", "1 a", "a msg", "a c", "a;", "a,", "a:", "a = b", "a - b", "a < b", "a !", "a ?", "a + b c", "(a) 0", "*a b", "a + b)", "a]")
}

func TestParseOfOtherTokens(t *testing.T) {
	for _, s := range strings.Fields("2 3 10 999999999 ) { } [ ] , ; : = . + - < ^ ! ? msg int tag again") {
		expectError(t, api.ErrForm, s, s+" a", "a + "+s, "a ."+s, "*"+s, "("+s, "("+s+")", "a "+s+" "+s+" a", s+" c", s+strings.Repeat("(", 20))
	}
}

func TestParseOfBlanks(t *testing.T) {
	expectParse(t, " \t*\n( a# x\n+b ^ 2 )#", tag(0, 1), tag(1, 2), sum(0, 1), star(2))
	expectParse(t, "a+b.1", tag(0, 1), tag(1, 1), one, cat(1, 2), sum(0, 3))
	expectParse(t, strings.Repeat(" ", api.MaxText-1)+"a", tag(0, 1))
}

func TestParseTellsErrorsOfTokensFirst(t *testing.T) {
	expectError(t, api.ErrForm, "A", "a A", "a 01", "a + 1234567890", "c + A", "c é", deep(13, "a")+"_", strings.Repeat("a.", 30)+"a A", "c abcdefghijklmnopq")
	expectError(t, api.ErrLimit, strings.Repeat(" ", api.MaxText+1), "c"+strings.Repeat(" ", api.MaxText), "a b"+strings.Repeat(" ", api.MaxText), "A"+strings.Repeat(")", api.MaxText))
}

func TestParseTellsTheFirstToken(t *testing.T) {
	expectError(t, api.ErrNone, "c", "c c", "c )", "a + c + msg", "a + c )", "(c", "c + "+deep(20, "a"), "a . c^0", "c^0", "c msg")
	expectError(t, api.ErrForm, "a b + c", ") c", "msg + c", "a + + c", "a^0 + c", "(a + ) . c", "2 + "+deep(20, "a"), "a c", "1 c")
	expectError(t, api.ErrLimit, deep(13, "c"), deep(13, "msg"), deep(13, ""), "a + "+deep(13, "a")+" . c")
}

func TestParseOfManyNodes(t *testing.T) {
	half := api.MaxPat / 2
	for _, x := range []struct {
		sign string
		kind int
	}{{"+", api.PSum}, {" . ", api.PCat}} {
		text := strings.Repeat("a"+x.sign, half-1) + "a"
		expectParse(t, text, row(x.kind, half, tag(0, 1))...)
		// A star makes as many nodes as may be, another makes one more.
		expectParse(t, "*("+text+")", stars(row(x.kind, half, tag(0, 1)))...)
		expectError(t, api.ErrLimit, text+x.sign+"a", "*"+strings.TrimSuffix(text, "a")+"*a", text+x.sign+"*a", text+strings.Repeat(x.sign+"1", 2000))
		// It is told behind all others.
		expectError(t, api.ErrForm, text+x.sign+"a c", text+x.sign+"a)", text+x.sign+"("+text, text+x.sign+"a^0", text+x.sign, text+text+"+ A", text+x.sign+"a+msg")
		expectError(t, api.ErrNone, text+x.sign+"c", text+x.sign+text+x.sign+"c^0")
	}
	// Brackets, counts and blanks are no nodes.
	expectParse(t, "*(("+strings.Repeat("((a^1)) + ", half-1)+" a))", stars(row(api.PSum, half, tag(0, 1)))...)
	expectError(t, api.ErrLimit, strings.Repeat("(a)+", half)+"1")
}

// priority is how early a sign is taken.
func priority(sign string) int {
	return strings.Index("(+.*", sign)
}

// model reads by signs that wait, and parts that are whole: another way than Parse goes.
type model struct {
	nodes api.Pattern
	whole []int
	wait  []string
}

func (m *model) leaf(n api.PNode) {
	m.nodes = append(m.nodes, n)
	m.whole = append(m.whole, len(m.nodes)-1)
}

// settle makes nodes of those signs that wait behind the last bracket and are taken ahead of one of the priority.
func (m *model) settle(least int) {
	for len(m.wait) > 0 && priority(m.wait[len(m.wait)-1]) >= least {
		sign, n := m.wait[len(m.wait)-1], len(m.whole)
		m.wait = m.wait[:len(m.wait)-1]
		var node api.PNode
		if sign == "*" {
			node = star(m.whole[n-1])
			m.whole = m.whole[:n-1]
		} else {
			node = sum(m.whole[n-2], m.whole[n-1])
			if sign == "." {
				node.Kind = api.PCat
			}
			m.whole = m.whole[:n-2]
		}
		m.leaf(node)
	}
}

// opened is how many brackets wait.
func (m *model) opened() int {
	n := 0
	for _, s := range m.wait {
		if s == "(" {
			n++
		}
	}
	return n
}

// begin takes the token t where a part begins.
func (m *model) begin(t api.Token, names []string) api.Errno {
	switch {
	case t.Text == "(" && m.opened() == 12:
		return api.ErrLimit
	case t.Text == "(", t.Text == "*" && !slices.Contains(m.wait, "*"):
		m.wait = append(m.wait, t.Text)
	case t.Text == "0":
		m.leaf(zero)
	case t.Text == "1":
		m.leaf(one)
	case lex.Name(t.Text) && !slices.Contains(names, t.Text):
		return api.ErrNone
	case lex.Name(t.Text):
		m.leaf(tag(slices.Index(names, t.Text), 1))
	default:
		return api.ErrForm
	}
	return api.OK
}

// modelParse is Parse by model. A token is held against the one ahead of it alone, and against the signs that wait.
func modelParse(text string, names []string) (api.Pattern, api.Errno) {
	tokens, _, _, e := lex.Tokens(text)
	if e != api.OK {
		return nil, e
	}
	m := model{}
	ahead := api.Token{Kind: api.TokSign, Text: "("}
	for i, t := range tokens {
		begins := strings.Contains("(*+.", ahead.Text)
		switch {
		case ahead.Text == "^":
			if t.Kind != api.TokNumber || t.N == 0 {
				return nil, api.ErrForm
			}
			m.nodes[len(m.nodes)-1].A = t.N
		case begins:
			if e := m.begin(t, names); e != api.OK {
				return nil, e
			}
		case t.Text == "+" || t.Text == ".":
			m.settle(priority(t.Text))
			m.wait = append(m.wait, t.Text)
		case t.Text == "^" && ahead.Kind == api.TokWord:
		case t.Text == ")" && m.opened() > 0:
			m.settle(1)
			m.wait = m.wait[:len(m.wait)-1]
			// The star that stood ahead of the brackets is not open any more.
			m.settle(3)
		case t.Kind == api.TokEnd && m.opened() == 0:
			m.settle(1)
		default:
			return nil, api.ErrForm
		}
		// Nor is one ahead of what is no bracket, but a count may still follow.
		if i+1 < len(tokens) && tokens[i+1].Text != "^" && t.Text != "^" && !strings.Contains("(*+.", t.Text) {
			m.settle(3)
		}
		ahead = t
	}
	if len(m.nodes) > 24 {
		return nil, api.ErrLimit
	}
	return m.nodes, api.OK
}

// expectModel asks no more once a text was told: thousands would be wrong for the same reason.
func expectModel(t *testing.T, text string) {
	t.Helper()
	if t.Failed() {
		return
	}
	want, e := modelParse(text, names())
	if e != api.OK {
		expectError(t, e, text)
		return
	}
	expectParse(t, text, want...)
}

// eachText hands on every text of up to n of the pieces.
func eachText(pieces []string, n int, use func(text string)) {
	var grow func(text string, n int)
	grow = func(text string, n int) {
		use(text)
		for i := 0; i < len(pieces) && n > 0; i++ {
			grow(text+pieces[i], n-1)
		}
	}
	grow("", n)
}

func TestAllShortTexts(t *testing.T) {
	eachText(strings.SplitAfter("a b c msg 0 1 2 + . * ( ) ^ ;", " "), 4, func(text string) { expectModel(t, text) })
	eachText(strings.SplitAfter("a + . * ( ) ", " ")[:6], 7, func(text string) { expectModel(t, text) })
	eachText(strings.SplitAfter("b ^ 3 * ( ) ", " ")[:6], 6, func(text string) { expectModel(t, text) })
}

// someText is a text of up to n parts, most of which may stand where they do.
func someText(pick func(n int) int, n int) string {
	switch k := pick(8); {
	case n > 1 && k < 5:
		left := 1 + pick(n-1)
		return someText(pick, left) + []string{"+", ".", " + ", " . "}[pick(4)] + someText(pick, n-left)
	case n > 1, k == 0:
		return []string{"", "", "", "", "*"}[pick(5)] + deep(1+pick(3), someText(pick, n))
	}
	return []string{"a", "b", "a^2", "0", "1", "*a", "*b^3", "*0", "( a )", "b^999999999"}[pick(10)]
}

func TestManyLongTexts(t *testing.T) {
	pick := random()
	var told [api.ErrNone + 1]int
	for range 50000 {
		text := someText(pick, 1+pick(15))
		// Something else at some place is mostly wrong there.
		if pick(3) == 0 {
			at := pick(len(text) + 1)
			text = text[:at] + []string{"c", "+c.", "a", "1", "(", ")", "^", "^2", "*", "+", ".", "msg", "A", " "}[pick(14)] + text[min(len(text), at+pick(2)):]
		}
		expectModel(t, text)
		_, e := Parse(text, names()...)
		told[e]++
	}
	if told[api.OK] < 1000 || told[api.ErrForm] < 1000 || told[api.ErrNone] < 1000 || told[api.ErrLimit] < 1000 {
		t.Errorf("so many texts of each error were asked: %v", told)
	}
}
