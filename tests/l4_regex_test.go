package tests

import (
	"strings"
	"testing"

	"loop.example/s01854/impl"
)

func wantFault(t *testing.T, p string, err, at int64) {
	t.Helper()
	if got := impl.CheckRegex(p); got != (impl.RegexRes{Err: err, At: at}) {
		t.Errorf("CheckRegex of %q: %+v, want %d at %d", p, got, err, at)
	}
	if err == impl.RegexOk {
		return
	}
	for _, s := range []string{"", "a", p} {
		if impl.MatchRegex(p, s) {
			t.Errorf("%q has a fault and matches %q", p, s)
		}
	}
	if got := impl.PrefixOf(p); got != (impl.Prefix{}) {
		t.Errorf("%q has a fault and the prefix %+v", p, got)
	}
}

func TestCheckRegexSyntax(t *testing.T) {
	for p, at := range map[string]int64{
		"*": 0, "+": 0, "?": 0, "a|*": 2, "(+a)": 1, "|?": 1, "(a|+)": 3, "()?(?": 4,
		")": 0, "a)": 1, "(a))": 3, "a|)": 2, "()*)*": 3,
		"]": 0, "a]": 1, "[a]]": 3, "(]": 1,
		"[]": 1, "[]a]": 1, "[^]": 2, "[^]a]": 2,
		"[-a]": 1, "[^-a]": 2, "[a-]": 3, "[a-b-c]": 4, "[a-b-]": 4, "[ab-]": 4, "[a--]": 3, "[--a]": 1, "[\\a-]": 4, "[a-\\b-c]": 5, "[a]-b]": 5,
		"\\": 1, "a\\": 2, "(\\": 2, "a\\\\\\": 4, "[\\": 2, "[a-\\": 4, "[^\\": 3,
		"[": 1, "[^": 2, "[a": 2, "[a-": 3, "[a-b": 4, "[\\]": 3, "[(": 2, "[^^": 3,
		"(": 1, "(a": 2, "((a)": 4, "(|": 2, "a(b|[c]": 7, "(a*": 3, "(\\)": 3, "([)]": 4,
	} {
		wantFault(t, p, impl.RegexSyntax, at)
	}
}

func TestCheckRegexNoFault(t *testing.T) {
	for _, p := range []string{
		"", "|", "||", "()", "(|)", "()*", "(())", "a", "a|", "|a", "a**+?", ".", "..*", "\\*", "\\\\", "\\(", "\\]", "\\a", "\\\x00", "-", "^", "^a", "a^", "{}", "$",
		"\x00", "\xff", "\n", "[a]", "[^a]", "[^^]", "[a^]", "[\\^]", "[\\]]", "[\\-]", "[\\\\]", "[a-a]", "[a-b]", "[a-bc-d]", "[a-b\\-]", "[(]", "[)]", "[|]", "[*]", "[[]", "[.]",
		"[\x00-\xff]", "[^\x00-\xff]", "[\\a-\\b]", "[*-.]", "[^^-a]", "[\\^-\\^]", "[a]*[b]+", "([)])", "[!-\\]]", "(a)(b)|(c)",
	} {
		wantFault(t, p, impl.RegexOk, 0)
	}
}

func TestCheckRegexRange(t *testing.T) {
	for p, at := range map[string]int64{
		"[b-a]": 1, "[^b-a]": 2, "[ab-a]": 2, "[a-bd-c]": 4, "[\\b-a]": 1, "[b-\\a]": 1, "[x\\b-\\a]": 2, "[\xff-\x00]": 1, "[\x80-\x7f]": 1, "x(y[b-a])": 4, "[a-\\\\]": 1, "[b-^]": 1,
	} {
		wantFault(t, p, impl.RegexRange, at)
	}
}

func TestCheckRegexFirstFault(t *testing.T) {
	deep := strings.Repeat("(", 20)
	for _, r := range []struct {
		p   string
		err int64
		at  int64
	}{
		{"[b-a", impl.RegexRange, 1}, {"[b-a-", impl.RegexRange, 1}, {"[b-a*]*)", impl.RegexRange, 1}, {"[c-b][b-a]", impl.RegexRange, 1}, {"[c-bb-a]", impl.RegexRange, 1},
		{"[b-", impl.RegexSyntax, 3}, {"[b-]", impl.RegexSyntax, 3}, {"[b-\\", impl.RegexSyntax, 4}, {"[b--a]", impl.RegexSyntax, 3}, {"[a-]b-a]", impl.RegexSyntax, 3}, {"*[b-a]", impl.RegexSyntax, 0}, {")(", impl.RegexSyntax, 0},
		{deep + "(", impl.RegexDeep, 20}, {deep + "(*", impl.RegexDeep, 20}, {deep + "*(", impl.RegexSyntax, 20}, {deep + "[b-a](", impl.RegexRange, 21}, {deep + "([b-a]", impl.RegexDeep, 20},
		{deep + "a", impl.RegexSyntax, 21}, {deep + ")(" + "(", impl.RegexDeep, 22}, {"*" + deep + "(", impl.RegexSyntax, 0},
	} {
		wantFault(t, r.p, r.err, r.at)
	}
}

func TestCheckRegexDeep(t *testing.T) {
	deep := strings.Repeat("(", 20)
	wantFault(t, deep+strings.Repeat(")", 20), impl.RegexOk, 0)
	wantFault(t, deep+")()"+strings.Repeat(")", 19), impl.RegexOk, 0)
	wantFault(t, deep+"[(]\\("+strings.Repeat(")", 20), impl.RegexOk, 0)
	wantFault(t, strings.Repeat("()", 100), impl.RegexOk, 0)
	wantFault(t, strings.Repeat("(", 21), impl.RegexDeep, 20)
	wantFault(t, "a|b"+strings.Repeat("(", 21)+strings.Repeat(")", 21), impl.RegexDeep, 23)
	wantFault(t, strings.Repeat("a(", 40), impl.RegexDeep, 41)
	wantFault(t, strings.Repeat("(", 200), impl.RegexDeep, 20)
}

func TestCheckRegexLong(t *testing.T) {
	wantFault(t, strings.Repeat("a", 200), impl.RegexOk, 0)
	wantFault(t, strings.Repeat("\\", 200), impl.RegexOk, 0)
	wantFault(t, strings.Repeat("\\", 199), impl.RegexSyntax, 199)
	wantFault(t, strings.Repeat("a", 199)+"(", impl.RegexSyntax, 200)
	wantFault(t, strings.Repeat("a", 201), impl.RegexLong, 0)
	wantFault(t, "*"+strings.Repeat("a", 200), impl.RegexLong, 0)
	wantFault(t, strings.Repeat("(", 201), impl.RegexLong, 0)
	wantFault(t, strings.Repeat("a", 100000), impl.RegexLong, 0)
}

func TestCheckRegexEveryShortText(t *testing.T) {
	g := newGrammarModel()
	check := func(p string) {
		err, at := modelFault(p)
		if got := impl.CheckRegex(p); got != (impl.RegexRes{Err: err, At: at}) {
			t.Fatalf("CheckRegex of %q: %+v, want %d at %d", p, got, err, at)
		}
		// What the grammar says of syntax holds unless a range has ended the reading.
		if syntax := g.syntaxFault(p); err != impl.RegexRange && (syntax >= 0) != (err != 0) || err == impl.RegexSyntax && syntax != at {
			t.Fatalf("%q: the grammar has its first fault at %d, the machine %d at %d", p, syntax, err, at)
		}
	}
	everyText("ab*?|()[]^-\\.", 4, check)
	everyText("a*|()", 6, check)
	everyText("ba]^-\\[", 6, func(p string) { check("[" + p) })
}

func TestCheckRegexAnyBytes(t *testing.T) {
	d := &dice{state: 41}
	for range 60000 {
		var p []byte
		for range d.roll(30) {
			if d.roll(12) == 0 {
				p = append(p, byte(d.roll(256)))
			} else {
				p = append(p, "ab*+?|(((((())[[]]^--\\.cz"[d.roll(25)])
			}
		}
		err, at := modelFault(string(p))
		if got := impl.CheckRegex(string(p)); got != (impl.RegexRes{Err: err, At: at}) {
			t.Fatalf("CheckRegex of %q: %+v, want %d at %d", p, got, err, at)
		}
	}
}

func wantMatch(t *testing.T, p, s string, want bool) {
	t.Helper()
	if got := impl.MatchRegex(p, s); got != want {
		t.Errorf("%q on %q: %v", p, s, got)
	}
}

func TestMatchRegexByHand(t *testing.T) {
	for _, r := range []struct{ p, yes, no string }{
		{"", "", "a"}, {"a", "a", "aa"}, {"b", "b", "abc"}, {"ab", "ab", "abc"}, {"bc", "bc", "abc"}, {"()", "", "a"}, {"(|a)", "", "b"}, {"a|", "", "aa"}, {"|a", "a", "|"}, {"|", "", "|"}, {"a||b", "", "ab"},
		{"ab|cd", "cd", "abd"}, {"ab|cd", "ab", "acd"}, {"a(b|c)d", "acd", "ab"}, {"a*", "", "b"}, {"a*", "aaa", "aab"}, {"a+", "a", ""}, {"a?", "", "aa"}, {"(ab)+", "abab", "aba"}, {"ab*", "abb", "abab"},
		{"a?+", "aaa", "b"}, {"a+?", "", "b"}, {"a+?", "aaa", "ab"}, {"a??", "", "aa"}, {"a++", "aa", ""}, {"a*+", "", "b"}, {"a+*", "", "b"}, {"(a?b?)+", "ba", "c"}, {"(a*)*", "aaaa", "b"}, {"(a*b*)*c", "babac", "bab"}, {"()*", "", "a"}, {"(|a)+", "aa", "b"}, {"(a+)?b", "b", "a"},
		{"a*a", "a", ""}, {"a*b?a*", "aba", "bb"}, {"(a|b*)c", "c", "abc"}, {"(ab?)*", "aab", "abb"}, {"(a(b)?)+c", "abac", "bac"},
		{".", "\n", ""}, {"..", "\x00\xff", "a"}, {".*", "", strings.Repeat("a", 201)}, {"\\.", ".", "a"}, {"\\a", "a", "\\a"}, {"\\\\", "\\", "\\\\"}, {"\\\x00", "\x00", ""}, {"\\|", "|", ""}, {"^a", "^a", "a"}, {"a-b", "a-b", "ab"}, {"a$", "a$", "a"}, {"a{2}", "a{2}", "aa"},
		{"[ab]", "b", "ab"}, {"[^ab]", "c", "a"}, {"[^^]", "a", "^"}, {"[a^]", "^", "b"}, {"[\\^a]", "^", "b"}, {"[^^a]", "b", "a"}, {"[a-c]", "b", "d"}, {"[a-a]", "a", "b"}, {"[a-cx]", "x", "-"}, {"[\\]]", "]", "\\"}, {"[\\-a]", "-", "\\"}, {"[a\\-c]", "-", "b"}, {"[[]", "[", "]"}, {"[.]", ".", "a"}, {"[(|)]", "|", "a"}, {"[*-,]", "+", "-"}, {"[\\a-\\c]", "b", "\\"},
		{"[^a]", "\xff", ""}, {"[\x80-\xff]", "\xc3", "\x7f"}, {"\xc3.", "\xc3\xa4", "\xc3"},
	} {
		wantMatch(t, r.p, r.yes, true)
		wantMatch(t, r.p, r.no, false)
	}
	wantMatch(t, "[^\x00-\xff]", "", false)
	wantMatch(t, "[^\x00-\xff]*", "", true)
	wantMatch(t, "[^\x00-\xff]?a", "a", true)
}

func TestMatchRegexAllBytes(t *testing.T) {
	for b := range 256 {
		s := string([]byte{byte(b)})
		wantMatch(t, ".", s, true)
		wantMatch(t, "[\x00-\xff]", s, true)
		wantMatch(t, "[^\x00-\xff]", s, false)
		wantMatch(t, "[^m]", s, b != 'm')
		wantMatch(t, "[^m-z0]", s, !(b >= 'm' && b <= 'z' || b == '0'))
		wantMatch(t, "[m-z0]", s, b >= 'm' && b <= 'z' || b == '0')
		wantMatch(t, "[^^]", s, b != '^')
		for _, o := range []int{0, b, b ^ 1, 255} {
			same := string([]byte{byte(o)})
			wantMatch(t, "\\"+same, s, o == b)
			if !strings.Contains(modelPlainNot, same) {
				wantMatch(t, same, s, o == b)
			}
		}
	}
}

func TestMatchRegexLengths(t *testing.T) {
	for n, want := range map[int]bool{0: true, 1: true, 63: true, 64: true, 65: true, 127: true, 128: true, 199: true, 200: true, 201: false, 5000: false} {
		s := strings.Repeat("a", n)
		wantMatch(t, ".*", s, want)
		wantMatch(t, "(a|b)*", s, want)
		wantMatch(t, "(b*a*)+", s, want)
		if n <= 200 {
			wantMatch(t, s, s, true)
			wantMatch(t, s, s+"a", false)
			wantMatch(t, s, strings.Repeat("a", max(0, n-1)), n == 0)
		}
	}
	for _, n := range []int{1, 62, 63, 64, 65, 126, 127, 128, 129, 191, 192, 193, 199} {
		p := strings.Repeat("a", n) + strings.Repeat("b", 200-n)
		wantMatch(t, p, p, true)
		wantMatch(t, p, p[1:]+"b", false)
		wantMatch(t, p, p[:199]+"a", false)
	}
}

func TestMatchRegexTakesNotLong(t *testing.T) {
	as := strings.Repeat("a", 199)
	for _, p := range []string{"(a*)*b", "(a|a)*b", "(a+)+b", "(a?)*b", "((a*)*)*b", "(a|aa)*b", "(.*)*.*.*.*b", "(a*a*a*a*)*b", strings.Repeat("(", 20) + "a" + strings.Repeat("*)", 20) + "b"} {
		wantMatch(t, p, as+"b", true)
		wantMatch(t, p, as+"a", false)
		wantMatch(t, p, as+"c", false)
	}
	p := strings.Repeat("a?", 66) + strings.Repeat("a", 66)
	wantMatch(t, p, strings.Repeat("a", 65), false)
	wantMatch(t, p, strings.Repeat("a", 66), true)
	wantMatch(t, p, strings.Repeat("a", 132), true)
	wantMatch(t, p, strings.Repeat("a", 133), false)
	wantMatch(t, "a"+strings.Repeat("*", 199), as, true)
	wantMatch(t, "a"+strings.Repeat("+", 199), "", false)
	wantMatch(t, "a"+strings.Repeat("?", 199), "aa", false)
	d := &dice{state: 17}
	for range 200 {
		var s []byte
		for range 200 {
			s = append(s, "ab"[d.roll(2)])
		}
		wantMatch(t, "(.|a)*a"+strings.Repeat(".", 100), string(s), s[99] == 'a')
	}
}

func TestMatchRegexEveryShortText(t *testing.T) {
	g := newGrammarModel()
	check := func(p, letters string, length int) {
		if err, _ := modelFault(p); err != 0 {
			return
		}
		prefix := impl.PrefixOf(p)
		text, exact := modelPrefix(p)
		if prefix != (impl.Prefix{Text: text, Exact: exact}) {
			t.Fatalf("PrefixOf %q: %+v, want %q, %v", p, prefix, text, exact)
		}
		if exact && !impl.MatchRegex(p, text) {
			t.Fatalf("%q does not match its text %q", p, text)
		}
		everyText(letters, length, func(s string) {
			got := impl.MatchRegex(p, s)
			if got != g.altMatches(p, s) {
				t.Fatalf("%q on %q: %v", p, s, got)
			}
			if got && (!strings.HasPrefix(s, text) || exact && s != text) {
				t.Fatalf("%q matches %q, and its prefix is %q, %v", p, s, text, exact)
			}
		})
	}
	everyText("ab*+?|()[]^-\\.", 3, func(p string) { check(p, "ab^|", 2) })
	everyText("ab*+?|()", 5, func(p string) { check(p, "ab", 2) })
	everyText("ab^-\\]", 4, func(p string) { check("["+p+"]", "ab^-\\]`c", 1) })
	everyText("a*?+b", 3, func(p string) { check("(a"+p+")*b", "ab", 4) })
	everyText("a*?+b|", 3, func(p string) { check("(a"+p+")+", "ab", 4) })
}

func TestMatchRegexDrawn(t *testing.T) {
	d := &dice{state: 99}
	matched, refused := 0, 0
	for range 4000 {
		p := drawPattern(d, 3)
		if len(p.text) > 200 {
			continue
		}
		wantFault(t, p.text, impl.RegexOk, 0)
		text, exact := modelPrefix(p.text)
		if got := impl.PrefixOf(p.text); got != (impl.Prefix{Text: text, Exact: exact}) {
			t.Fatalf("PrefixOf %q: %+v, want %q, %v", p.text, got, text, exact)
		}
		for i := range 12 {
			s := p.sample(d)
			if i%2 == 1 {
				s = changed(d, s)
			}
			want := len(s) <= 200 && p.matches(s)
			if got := impl.MatchRegex(p.text, s); got != want {
				t.Fatalf("%q on %q: %v", p.text, s, got)
			}
			if want && (!strings.HasPrefix(s, text) || exact && s != text) {
				t.Fatalf("%q matches %q, and its prefix is %q, %v", p.text, s, text, exact)
			}
			if want {
				matched++
			} else {
				refused++
			}
		}
	}
	if matched < 10000 || refused < 5000 {
		t.Errorf("too few of one sort: %d matched, %d not", matched, refused)
	}
}

// changed puts a byte in, takes one out or sets another one.
func changed(d *dice, s string) string {
	at := d.roll(len(s) + 1)
	b := string([]byte{drawByte(d)})
	switch {
	case d.roll(3) == 0 || at == len(s):
		return s[:at] + b + s[at:]
	case d.roll(2) == 0:
		return s[:at] + s[at+1:]
	}
	return s[:at] + b + s[at+1:]
}

func TestPrefixOf(t *testing.T) {
	long := strings.Repeat("a", 200)
	for p, want := range map[string]impl.Prefix{
		"": {Exact: true}, "a": {Text: "a", Exact: true}, "abc": {Text: "abc", Exact: true}, "ab.": {Text: "ab"}, ".ab": {}, "ab.c": {Text: "ab"},
		"ab*": {Text: "a"}, "ab+": {Text: "a"}, "ab?": {Text: "a"}, "ab*c": {Text: "a"}, "a*": {}, "abc+?": {Text: "ab"},
		"a\\.b": {Text: "a.b", Exact: true}, "a\\.*b": {Text: "a"}, "a\\.+": {Text: "a"}, "a\\.?": {Text: "a"}, "\\*\\*": {Text: "**", Exact: true}, "\\\\*": {}, "\\a\\\\": {Text: "a\\", Exact: true}, "\\\x00\xff": {Text: "\x00\xff", Exact: true},
		"a|b": {}, "|": {}, "a|": {}, "abc|abc": {}, "abc|abd": {}, "a\\|b": {Text: "a|b", Exact: true}, "a(b|c)": {Text: "a"}, "a[|]b": {Text: "a"}, "a[^|]|b": {}, "(a|b)|c": {}, "a(b)|c": {}, "a[\\]|]b": {Text: "a"}, "a[(]|b": {}, "a\\(|b": {}, "a\\[|]": {}, "a[x\\]|(]b": {Text: "a"},
		"(a)b": {}, "()a": {}, "()": {}, "a()": {Text: "a"}, "a(b)c": {Text: "a"}, "[a]b": {}, "a[b]": {Text: "a"}, "^a": {Text: "^a", Exact: true}, "a-b": {Text: "a-b", Exact: true},
		"(": {}, "a)": {}, "ab[": {}, "abc\\": {}, "ab[b-a]": {}, "ab|*": {}, "ab" + strings.Repeat("(", 21): {},
		long: {Text: long, Exact: true}, long + "a": {}, long[:199] + ".": {Text: long[:199]},
	} {
		if p == "a\\[|]" {
			wantFault(t, p, impl.RegexSyntax, 4)
		}
		if got := impl.PrefixOf(p); got != want {
			t.Errorf("PrefixOf %q: %+v, want %+v", p, got, want)
		}
	}
}
