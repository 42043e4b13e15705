package lex

import (
	"regexp"
	"runtime"
	"slices"
	"strconv"
	"strings"
	"testing"

	"columbary/api"
)

// keys are the key words, in the document's order.
const keys = "msg rec def actor on let new start get set swap recover give loop spawn call again guard free as if else done move int arr iso val ref tag"

func word(s string, line, col int) api.Token {
	return api.Token{Kind: api.TokWord, Text: s, Line: line, Col: col}
}

func num(n int, s string, line, col int) api.Token {
	return api.Token{Kind: api.TokNumber, N: n, Text: s, Line: line, Col: col}
}

func mark(s string, line, col int) api.Token {
	return api.Token{Kind: api.TokSign, Text: s, Line: line, Col: col}
}

func end(line, col int) api.Token {
	return api.Token{Kind: api.TokEnd, Line: line, Col: col}
}

// short is text, or its beginning, for telling it.
func short(text string) string {
	return strconv.Quote(text[:min(len(text), 40)])
}

func expectTokens(t *testing.T, text string, want ...api.Token) {
	t.Helper()
	l, line, col, e := Tokens(text)
	if e != api.OK || line != 0 || col != 0 {
		t.Errorf("Tokens(%s) tells %v at %d, %d, want no error at 0, 0", short(text), e, line, col)
	}
	if !slices.Equal(l, want) {
		t.Errorf("Tokens(%s) is %v, want %v", short(text), l, want)
	}
}

func expectError(t *testing.T, text string, wantLine, wantCol int, want api.Errno) {
	t.Helper()
	l, line, col, e := Tokens(text)
	if e != want || line != wantLine || col != wantCol {
		t.Errorf("Tokens(%s) tells %v at %d, %d, want %v at %d, %d", short(text), e, line, col, want, wantLine, wantCol)
	}
	if len(l) != 0 {
		t.Errorf("Tokens(%s) has %d tokens beside its error", short(text), len(l))
	}
}

func expectForm(t *testing.T, text string, line, col int) {
	t.Helper()
	expectError(t, text, line, col, api.ErrForm)
}

// expectKinds asks Word, Key and Name of s at once.
func expectKinds(t *testing.T, s string, word, key, name bool) {
	t.Helper()
	if Word(s) != word || Key(s) != key || Name(s) != name {
		t.Errorf("of %q Word is %v, Key %v, Name %v, want %v, %v, %v", s, Word(s), Key(s), Name(s), word, key, name)
	}
}

func TestWordsThatAreNames(t *testing.T) {
	for _, s := range []string{"a", "z", "m", "a0", "a9", "z_", "a_9", "a__", "self", "main", "x1y2z3", "abcdefghijklm", "nopqrstuvwxyz", "w0123456789"} {
		expectKinds(t, s, true, false, true)
	}
}

func TestTextsThatAreNoWords(t *testing.T) {
	for _, s := range []string{
		"", " ", "0", "9", "12", "_", "__", "0a", "9a", "_a", "_9", "A", "Z", "aB", "Ab", "MSG", "Msg",
		" a", "a ", "a b", "a\n", "\na", "a\t", "a-b", "a.", "a#", "a\x00", "\x00a", "`", "{", "a`", "a{", "a/", "a:", "a@", "a[",
		"é", "aé", "a\x80", "\xffa", "ａ",
	} {
		expectKinds(t, s, false, false, false)
	}
}

func TestWordIsAsLongAsMayBe(t *testing.T) {
	for n := 1; n <= 3*api.MaxName; n++ {
		for _, tail := range []string{"a", "z", "0", "_"} {
			may := n <= api.MaxName
			expectKinds(t, "q"+strings.Repeat(tail, n-1), may, false, may)
		}
	}
	expectKinds(t, strings.Repeat("a", 1<<20), false, false, false)
	expectKinds(t, strings.Repeat("a", api.MaxName)+"é", false, false, false)
}

func TestEachByteInAWord(t *testing.T) {
	for c := range 256 {
		b := string([]byte{byte(c)})
		small := 'a' <= c && c <= 'z'
		later := small || '0' <= c && c <= '9' || c == '_'
		expectKinds(t, b, small, false, small)
		expectKinds(t, b+"xy", small, false, small)
		expectKinds(t, "xy"+b, later, false, later)
		expectKinds(t, "x"+b+"y", later, false, later)
	}
}

func TestEachKeyWord(t *testing.T) {
	l := strings.Fields(keys)
	if len(l) != 30 {
		t.Fatalf("there are %d key words", len(l))
	}
	for _, s := range l {
		expectKinds(t, s, true, true, false)
	}
}

// TestNextToAKeyWord: with a letter more or less, or another letter, a key word is none, unless it is another one.
func TestNextToAKeyWord(t *testing.T) {
	l := strings.Fields(keys)
	letters := "abcdefghijklmnopqrstuvwxyz"
	for _, s := range l {
		for i := range len(s) + 1 {
			for _, c := range strings.Split(letters, "") {
				more := s[:i] + c + s[i:]
				expectKinds(t, more, true, slices.Contains(l, more), !slices.Contains(l, more))
				if i < len(s) {
					other := s[:i] + c + s[i+1:]
					expectKinds(t, other, true, slices.Contains(l, other), !slices.Contains(l, other))
				}
			}
			if i < len(s) {
				less := s[:i] + s[i+1:]
				expectKinds(t, less, true, slices.Contains(l, less), !slices.Contains(l, less))
			}
		}
		expectKinds(t, s+"_", true, false, true)
		expectKinds(t, s+"0", true, false, true)
		expectKinds(t, "_"+s, false, false, false)
		expectKinds(t, "0"+s, false, false, false)
		expectKinds(t, " "+s, false, false, false)
		expectKinds(t, s+" ", false, false, false)
		expectKinds(t, strings.ToUpper(s), false, false, false)
		expectKinds(t, s+s, true, false, true)
	}
	expectKinds(t, keys, false, false, false)
	expectKinds(t, "msg rec", false, false, false)
}

// TestKeyWordsAmongShortTexts asks every text of up to three small letters.
func TestKeyWordsAmongShortTexts(t *testing.T) {
	l := strings.Fields(keys)
	for a := 'a'; a <= 'z'; a++ {
		for b := 'a'; b <= 'z'; b++ {
			two := string([]rune{a, b})
			expectKinds(t, two, true, slices.Contains(l, two), !slices.Contains(l, two))
			for c := 'a'; c <= 'z'; c++ {
				three := string([]rune{a, b, c})
				expectKinds(t, three, true, slices.Contains(l, three), !slices.Contains(l, three))
			}
		}
	}
}

func TestEmptyTextIsJustItsEnd(t *testing.T) {
	expectTokens(t, "", end(1, 1))
}

func TestTheDocumentsExample(t *testing.T) {
	expectTokens(t, "a1 12", word("a1", 1, 1), num(12, "12", 1, 4), end(1, 6))
}

func TestTokensOfAProgram(t *testing.T) {
	text := "msg inc(int); # one more\n" +
		"actor sum(n: int) : *inc . (1 + ask) {\n" +
		"\ton inc(k) { let m = n + k; again(m) }\n" +
		"}\n"
	expectTokens(t, text,
		word("msg", 1, 1), word("inc", 1, 5), mark("(", 1, 8), word("int", 1, 9), mark(")", 1, 12), mark(";", 1, 13),
		word("actor", 2, 1), word("sum", 2, 7), mark("(", 2, 10), word("n", 2, 11), mark(":", 2, 12), word("int", 2, 14), mark(")", 2, 17),
		mark(":", 2, 19), mark("*", 2, 21), word("inc", 2, 22), mark(".", 2, 26),
		mark("(", 2, 28), num(1, "1", 2, 29), mark("+", 2, 31), word("ask", 2, 33), mark(")", 2, 36), mark("{", 2, 38),
		word("on", 3, 2), word("inc", 3, 5), mark("(", 3, 8), word("k", 3, 9), mark(")", 3, 10), mark("{", 3, 12),
		word("let", 3, 14), word("m", 3, 18), mark("=", 3, 20), word("n", 3, 22), mark("+", 3, 24), word("k", 3, 26), mark(";", 3, 27),
		word("again", 3, 29), mark("(", 3, 34), word("m", 3, 35), mark(")", 3, 36), mark("}", 3, 38),
		mark("}", 4, 1), end(5, 1))
}

func TestTextAsLongAsMayBe(t *testing.T) {
	n := api.MaxText
	expectTokens(t, strings.Repeat(" ", n), end(1, n+1))
	expectTokens(t, strings.Repeat("\n", n), end(n+1, 1))
	expectTokens(t, "#"+strings.Repeat("é", n/2-1)+"x", end(1, n+1))
	expectTokens(t, strings.Repeat(" ", n-1)+"7", num(7, "7", 1, n), end(1, n+1))
	l, _, _, e := Tokens(strings.Repeat(";", n))
	if e != api.OK || len(l) != n+1 || l[n-1] != mark(";", 1, n) || l[n] != end(1, n+1) {
		t.Errorf("of %d signs there are %d tokens, error %v", n, len(l), e)
	}
	expectForm(t, strings.Repeat(" ", n-1)+"A", 1, n)
}

func TestTextThatIsTooLong(t *testing.T) {
	for _, n := range []int{api.MaxText + 1, api.MaxText + 2, 2 * api.MaxText, 1 << 20} {
		for _, s := range []string{" ", "\n", "#", "a", "1", "0", "A", "\xff", ";"} {
			expectError(t, strings.Repeat(s, n), 0, 0, api.ErrLimit)
		}
	}
	// Its length is told ahead of what is wrong in it.
	expectError(t, "A"+strings.Repeat(" ", api.MaxText), 0, 0, api.ErrLimit)
	// Bytes count, not letters.
	expectError(t, "#"+strings.Repeat("é", api.MaxText/2), 0, 0, api.ErrLimit)
}

func TestWordTokenIsAsLongAsMayBe(t *testing.T) {
	for _, tail := range []string{"a", "z", "0", "9", "_"} {
		s := "k" + strings.Repeat(tail, api.MaxName-1)
		n := len(s)
		expectTokens(t, s, word(s, 1, 1), end(1, n+1))
		expectTokens(t, s+";", word(s, 1, 1), mark(";", 1, n+1), end(1, n+2))
		expectForm(t, s+"a", 1, 1)
		expectForm(t, s+"_", 1, 1)
		expectForm(t, s+"0", 1, 1)
		expectForm(t, "x\n x "+s+tail+" A", 2, 4)
		expectForm(t, s+strings.Repeat(tail, 1000), 1, 1)
		// A byte that no word has is behind the word, which is right.
		expectForm(t, s+"A", 1, n+1)
	}
}

func TestKeyWordsAreWordTokens(t *testing.T) {
	for _, s := range strings.Fields(keys) {
		expectTokens(t, s, word(s, 1, 1), end(1, len(s)+1))
	}
}

func TestNumbers(t *testing.T) {
	for _, n := range []int{0, 1, 2, 3, 4, 5, 6, 7, 8, 9, 10, 11, 19, 90, 99, 100, 101, 1000, 12345678, 99999999, 100000000, 123456789, 987654321, 999999999} {
		s := strconv.Itoa(n)
		expectTokens(t, s, num(n, s, 1, 1), end(1, len(s)+1))
		expectTokens(t, " "+s+")", num(n, s, 1, 2), mark(")", 1, len(s)+2), end(1, len(s)+3))
	}
}

func TestNumbersThatAreTooLong(t *testing.T) {
	for _, s := range []string{"1000000000", "1234567890", "9999999999", "2147483648", "18446744073709551616", strings.Repeat("1", 1000)} {
		expectForm(t, s, 1, 1)
		expectForm(t, "a "+s, 1, 3)
		expectForm(t, "a\n\t("+s+" é", 2, 3)
	}
}

func TestNoughtAheadOfDigits(t *testing.T) {
	for _, s := range []string{"00", "01", "09", "000", "007", "010", "012345678", "0123456789", "0000000000", "00000000001"} {
		expectForm(t, s, 1, 1)
		expectForm(t, "x"+"-"+s, 1, 3)
	}
	expectTokens(t, "0", num(0, "0", 1, 1), end(1, 2))
	expectTokens(t, "0 0", num(0, "0", 1, 1), num(0, "0", 1, 3), end(1, 4))
	expectTokens(t, "0.1", num(0, "0", 1, 1), mark(".", 1, 2), num(1, "1", 1, 3), end(1, 4))
	expectTokens(t, "-0", mark("-", 1, 1), num(0, "0", 1, 2), end(1, 3))
	expectTokens(t, "10", num(10, "10", 1, 1), end(1, 3))
}

func TestEachSign(t *testing.T) {
	for _, s := range strings.Fields("( ) { } [ ] , ; : = . + - * < ^ ! ?") {
		expectTokens(t, s, mark(s, 1, 1), end(1, 2))
		expectTokens(t, s+s, mark(s, 1, 1), mark(s, 1, 2), end(1, 3))
		expectTokens(t, "a"+s+"1", word("a", 1, 1), mark(s, 1, 2), num(1, "1", 1, 3), end(1, 4))
	}
}

// TestEachByteAlone: what a token may begin with, what parts tokens, and no other byte.
func TestEachByteAlone(t *testing.T) {
	for c := range 256 {
		s := string([]byte{byte(c)})
		switch {
		case 'a' <= c && c <= 'z':
			expectTokens(t, s, word(s, 1, 1), end(1, 2))
		case '0' <= c && c <= '9':
			expectTokens(t, s, num(c-'0', s, 1, 1), end(1, 2))
		case strings.Contains("(){}[],;:=.+-*<^!?", s):
			expectTokens(t, s, mark(s, 1, 1), end(1, 2))
		case c == ' ', c == '\t', c == '#':
			expectTokens(t, s, end(1, 2))
		case c == '\n':
			expectTokens(t, s, end(2, 1))
		default:
			expectForm(t, s, 1, 1)
			expectForm(t, ";"+s+"b", 1, 2)
			expectForm(t, "(\n7 "+s, 2, 3)
		}
	}
}

// TestTokensWithNothingBetween: each token takes as many bytes as it can, and the next begins right behind it.
func TestTokensWithNothingBetween(t *testing.T) {
	expectTokens(t, "12ab", num(12, "12", 1, 1), word("ab", 1, 3), end(1, 5))
	expectTokens(t, "0a0", num(0, "0", 1, 1), word("a0", 1, 2), end(1, 4))
	expectTokens(t, "0x00", num(0, "0", 1, 1), word("x00", 1, 2), end(1, 5))
	expectTokens(t, "ab12", word("ab12", 1, 1), end(1, 5))
	expectTokens(t, "a=1", word("a", 1, 1), mark("=", 1, 2), num(1, "1", 1, 3), end(1, 4))
	expectTokens(t, "(a)1", mark("(", 1, 1), word("a", 1, 2), mark(")", 1, 3), num(1, "1", 1, 4), end(1, 5))
	expectTokens(t, "==", mark("=", 1, 1), mark("=", 1, 2), end(1, 3))
	expectTokens(t, "msgrec", word("msgrec", 1, 1), end(1, 7))
	expectTokens(t, "999999999a", num(999999999, "999999999", 1, 1), word("a", 1, 10), end(1, 11))
	expectForm(t, "12_", 1, 3)
	expectForm(t, "1_a", 1, 2)
	expectForm(t, "aB", 1, 2)
	expectForm(t, "1A", 1, 2)
	expectForm(t, "a=_", 1, 3)
}

func TestWhatPartsTokens(t *testing.T) {
	expectTokens(t, "   ", end(1, 4))
	expectTokens(t, "\t\t", end(1, 3))
	expectTokens(t, "\n\n", end(3, 1))
	expectTokens(t, "a b", word("a", 1, 1), word("b", 1, 3), end(1, 4))
	expectTokens(t, "a\tb", word("a", 1, 1), word("b", 1, 3), end(1, 4))
	expectTokens(t, "a\nb", word("a", 1, 1), word("b", 2, 1), end(2, 2))
	expectTokens(t, "1 2", num(1, "1", 1, 1), num(2, "2", 1, 3), end(1, 4))
	expectTokens(t, "1\n2", num(1, "1", 1, 1), num(2, "2", 2, 1), end(2, 2))
	expectTokens(t, " \t \n\t a \t\n\n ", word("a", 2, 3), end(4, 2))
	expectTokens(t, "a ", word("a", 1, 1), end(1, 3))
	expectTokens(t, "a\n", word("a", 1, 1), end(2, 1))
	expectTokens(t, "a\n ", word("a", 1, 1), end(2, 2))
	expectTokens(t, "+\n\t\t-", mark("+", 1, 1), mark("-", 2, 3), end(2, 4))
	expectForm(t, "a\r\nb", 1, 2)
	expectForm(t, "a\vb", 1, 2)
	expectForm(t, "a\fb", 1, 2)
	expectForm(t, "a\u00a0b", 1, 2)
	expectForm(t, "\ufeffa", 1, 1)
}

func TestRemarks(t *testing.T) {
	expectTokens(t, "#", end(1, 2))
	expectTokens(t, "# a", end(1, 4))
	expectTokens(t, "#\n", end(2, 1))
	expectTokens(t, "# a\nb", word("b", 2, 1), end(2, 2))
	expectTokens(t, "a # b\nc", word("a", 1, 1), word("c", 2, 1), end(2, 2))
	expectTokens(t, "a#b\nc", word("a", 1, 1), word("c", 2, 1), end(2, 2))
	expectTokens(t, "1#2\n3", num(1, "1", 1, 1), num(3, "3", 2, 1), end(2, 2))
	expectTokens(t, "a\n# b", word("a", 1, 1), end(2, 4))
	expectTokens(t, "a # b", word("a", 1, 1), end(1, 6))
	expectTokens(t, "## # x\n\n # y\n", end(4, 1))
	expectTokens(t, "#\n#\na", word("a", 3, 1), end(3, 2))
	expectTokens(t, "# A _ 01 \" \x00 \r \xff ü 12345678901 abcdefghijklmnopqrst\n?", mark("?", 2, 1), end(2, 2))
	// Columns are bytes: ü is two of them.
	expectTokens(t, "#ü", end(1, 4))
	expectForm(t, "# a\n b A", 2, 4)
	expectForm(t, "#\r\n\r", 2, 1)
}

func TestPlacesOfErrors(t *testing.T) {
	expectForm(t, "A", 1, 1)
	expectForm(t, "a A", 1, 3)
	expectForm(t, "x\n  _a", 2, 3)
	expectForm(t, "x\n\n\n\t\t01", 4, 3)
	expectForm(t, "x # y\n\n12 = abcdefghijklmnopq", 3, 6)
	expectForm(t, "x\ny\n1234567890", 3, 1)
	expectForm(t, "a\n\xc3\xbc", 2, 1)
}

// TestFirstErrorIsTold: of several that are wrong, the one that stands first.
func TestFirstErrorIsTold(t *testing.T) {
	expectForm(t, "A B", 1, 1)
	expectForm(t, "a 01 B", 1, 3)
	expectForm(t, "a\n>\n01", 2, 1)
	expectForm(t, "abcdefghijklmnopq A", 1, 1)
	expectForm(t, "# A\n1234567890 _", 2, 1)
}

// pieces is a second way to say what a token is, for holding Tokens against.
var pieces = regexp.MustCompile(`^(?:([a-z][a-z0-9_]*)|([0-9]+)|([(){}\[\],;:=.+*<^!?-])|([ \t\n]|#[^\n]*))`)

// place is where text[at:] begins.
func place(text string, at int) (line, col int) {
	return 1 + strings.Count(text[:at], "\n"), at - strings.LastIndex(text[:at], "\n")
}

// model is Tokens by pieces.
func model(text string) (l []api.Token, line, col int, e api.Errno) {
	at := 0
	for at < len(text) {
		line, col := place(text, at)
		m := pieces.FindStringSubmatch(text[at:])
		if m == nil {
			return nil, line, col, api.ErrForm
		}
		n, err := strconv.Atoi(m[2])
		switch {
		case len(m[1]) > 16, m[2] != "" && (err != nil || n > 999999999 || strconv.Itoa(n) != m[2]):
			return nil, line, col, api.ErrForm
		case m[1] != "":
			l = append(l, word(m[1], line, col))
		case m[2] != "":
			l = append(l, num(n, m[2], line, col))
		case m[3] != "":
			l = append(l, mark(m[3], line, col))
		}
		at += len(m[0])
	}
	return append(l, end(place(text, at))), 0, 0, api.OK
}

// expectModel asks no more once a text was told: thousands would be wrong for the same reason.
func expectModel(t *testing.T, text string) {
	t.Helper()
	if t.Failed() {
		return
	}
	l, line, col, e := model(text)
	if e != api.OK {
		expectError(t, text, line, col, e)
		return
	}
	expectTokens(t, text, l...)
}

// eachText hands on every text of up to n of the bytes.
func eachText(bytes string, n int, use func(text string)) {
	var grow func(text string)
	grow = func(text string) {
		use(text)
		for i := 0; i < len(bytes) && len(text) < n; i++ {
			grow(text + bytes[i:i+1])
		}
	}
	grow("")
}

func TestAllShortTexts(t *testing.T) {
	eachText("a0 7_\n#+", 5, func(text string) { expectModel(t, text) })
	eachText("z9\t\n#A\xff(", 4, func(text string) { expectModel(t, text) })
}

// TestManyLongTexts strings pieces together by a rule of its own, so that each run has the same ones.
func TestManyLongTexts(t *testing.T) {
	some := []string{
		"a", "z_9", "msg", "abcdefghijklmnop", "abcdefgh", "ijklmnop", "0", "7", "12", "999999999", "12345", " ", "  ", "\t", "\n", "\n\n",
		"#", "# x ü", "(", ")", "{", "}", "[", "]", ",", ";", ":", "=", ".", "+", "-", "*", "<", "^", "!", "?", "_", "A", "\x80",
	}
	state := uint32(1)
	for range 20000 {
		text := ""
		for range 12 {
			state = state*1664525 + 1013904223
			text += some[int(state>>8)%len(some)]
			// Blanks between most of them let texts without an error be long.
			if state>>28 != 0 {
				text += " "
			}
		}
		expectModel(t, text)
	}
}

// TestAnswersAreNew: what is done to one answer is not seen in another.
func TestAnswersAreNew(t *testing.T) {
	text := "a 12;\n"
	want, _, _, _ := model(text)
	one, _, _, _ := Tokens(text)
	one = one[:cap(one)]
	for i := range one {
		one[i] = word("gone", 9, 9)
	}
	expectTokens(t, text, want...)
}

// TestTextIsNotKept: tokens that are kept hold no more than themselves, however long the text was.
func TestTextIsNotKept(t *testing.T) {
	const many = 1000
	kept := make([][]api.Token, 0, many)
	before := inUse()
	for range many {
		l, _, _, _ := Tokens("word 123 ;" + strings.Repeat(" ", api.MaxText-10))
		kept = append(kept, l)
	}
	if grown := inUse() - before; grown > many*api.MaxText/4 {
		t.Errorf("the tokens of %d texts hold %d bytes", many, grown)
	}
	if len(kept) != many || len(kept[many-1]) != 4 {
		t.Errorf("the last of %d texts has tokens %v", len(kept), kept[many-1])
	}
}

// inUse is how many bytes there are that something still holds.
func inUse() int {
	runtime.GC()
	var m runtime.MemStats
	runtime.ReadMemStats(&m)
	return int(m.HeapAlloc)
}
