package pattern

import (
	"regexp"
	"strconv"
	"strings"
	"testing"
	"unicode/utf8"

	"counterfoil/api"
)

// The chapter's words, once more, by expressions. In texts that are UTF-8 alone, since an expression takes a wrong byte for a sign.
const (
	memberShape = `(?:[^\\\[\]^-]|\\[\\\[\]^\-/.])`
	itemShape   = `(?:` + memberShape + `(?:-` + memberShape + `)?|\\[dws])`
	atomShape   = `(?:[^\\^$.*+?()\[\]{}|]|\.|\\[dDwWsS\\^$.*+?()\[\]{}|/-]|\[\^?` + itemShape + `+\])`
	pieceShape  = atomShape + `(?:[*+?]|\{[0-9]{1,2}(?:,(?:[0-9]{1,2})?)?\})?`
)

var (
	wholeShape  = regexp.MustCompile(`(?s)\A` + nested(8) + `\z`)
	tokenShape  = regexp.MustCompile(`(?s)` + pieceShape + `|\||\(|\)[*+?]?`)
	partShape   = regexp.MustCompile(`(?s)` + itemShape)
	rangeShape  = regexp.MustCompile(`(?s)\A\\?(.)-\\?(.)\z`)
	boundShape  = regexp.MustCompile(`\{([0-9]+),([0-9]+)\}\z`)
	noughtShape = regexp.MustCompile(`([{,])0([0-9])`)
)

// nested is pieces and bars in any order, as a row may be nothing, with up to depth groups within one another.
func nested(depth int) string {
	if depth == 0 {
		return `(?:` + pieceShape + `|\|)*`
	}
	return `(?:` + pieceShape + `|\||\(` + nested(depth-1) + `\)[*+?]?)*`
}

func slowRight(p string) bool {
	if len(p) > 200 || !utf8.ValidString(p) || !wholeShape.MatchString(p) {
		return false
	}
	for _, token := range tokenShape.FindAllString(p, -1) {
		if bound := boundShape.FindStringSubmatch(token); bound != nil {
			least, _ := strconv.Atoi(bound[1])
			most, _ := strconv.Atoi(bound[2])
			if most < least {
				return false
			}
		}
		if token[0] != '[' {
			continue
		}
		for _, item := range partShape.FindAllString(strings.TrimPrefix(token[1:], "^"), -1) {
			if ends := rangeShape.FindStringSubmatch(item); ends != nil && ends[1] > ends[2] { // UTF-8's order is the signs' order
				return false
			}
		}
	}
	return true
}

// slowShape is the pattern p as the library has it: its point is another one, and its counts have no noughts ahead.
func slowShape(p string) *regexp.Regexp {
	shape := tokenShape.ReplaceAllStringFunc(p, func(token string) string {
		if at := strings.LastIndex(token, "{"); at > 0 && strings.HasSuffix(token, "}") {
			token = token[:at] + noughtShape.ReplaceAllString(token[at:], "$1$2")
		}
		if token[0] == '.' {
			return `[^\n\r]` + token[1:]
		}
		return token
	})
	return regexp.MustCompile(`\A(?:` + shape + `)\z`)
}

// grow goes through all texts of up to most of these pieces.
func grow(most int, pieces []string, f func(s string)) {
	var more func(s string, left int)
	more = func(s string, left int) {
		f(s)
		if left == 0 {
			return
		}
		for _, p := range pieces {
			more(s+p, left-1)
		}
	}
	more("", most)
}

func grown(most int, pieces ...string) []string {
	var all []string
	grow(most, pieces, func(s string) { all = append(all, s) })
	return all
}

// near goes through s and all texts that are one byte away from it: changed, put in, taken out.
func near(s string, f func(s string)) {
	f(s)
	for i := range len(s) + 1 {
		for sign := range 256 {
			put := string([]byte{byte(sign)})
			f(s[:i] + put + s[i:])
			if i < len(s) {
				f(s[:i] + put + s[i+1:])
			}
		}
		if i < len(s) {
			f(s[:i] + s[i+1:])
		}
	}
}

// fits is Fits of a pattern that has to be right.
func fits(t *testing.T, p, s string) bool {
	t.Helper()
	is, e := Fits(p, s)
	if e != api.OK {
		t.Errorf("Fits(%.220q, %.80q) is error %d", p, s, e)
	}
	return is
}

var rights = []string{
	"", "a", "|", "||", "a|", "|a", "a||b", "a|b*", "[^a-c]\\d{2}", "(ab)+", "()", "(|)", "(())", "()()", "()*", "()+", "()?", "(a)|(b)", "((a)|b*)?c", "a|(b|(c|))|", "(x)*",
	"a*", "a+", "a?", ".*", ".+", ".?", "\\d*", "\\.+", "[a]?", "a*b+c?", "a*a*",
	"a{0}", "a{00}", "a{1}", "a{9}", "a{10}", "a{99}", "a{01}", "a{0,}", "a{99,}", "a{0,0}", "a{0,99}", "a{1,1}", "a{1,01}", "a{09,10}", "a{99,99}", "a{00,00}", ".{2}", "\\d{2,}", "\\){1,2}", "[ab]{3}", "a{1}b{2}", "a{2}|b{3,4}", "(a{2})*", "-{1}", ",{1}", "é{2}",
	"-", "/", ",", ":", "=", "!", "<", "&", "~", "'", "\"", "`", "%", "#", "@", ";", "_", " ", "\t", "\n", "\r", "\x00", "\x7f", "é", "日本", "\ufffd", "\U0010ffff", "\u0080", "a-b", "a,b", "1,2",
	"\\d", "\\D", "\\w", "\\W", "\\s", "\\S", "\\\\", "\\^", "\\$", "\\.", "\\*", "\\+", "\\?", "\\(", "\\)", "\\[", "\\]", "\\{", "\\}", "\\|", "\\/", "\\-", "\\(\\(\\(\\(\\(\\(\\(\\(\\(", "\\\\*", "\\\\{1}",
	"[a]", "[ab]", "[^a]", "[a-b]", "[a-a]", "[^a-b]", "[a-bc-d]", "[aa]", "[a-ca-c]", "[.]", "[$]", "[*]", "[+]", "[?]", "[(]", "[)]", "[{]", "[}]", "[|]", "[/]", "[()]", "[{1}]", "[a|b]", "[*+?]", "[$.]", "[,]", "[ ]", "[\n]", "[\x00]", "[é]", "[é-日]", "[\u0000-\U0010ffff]", "[\x00-a]", "[ -~]", "[,-.]", "[+-.]", "[!-/]", "[.-a]", "[a-z*]", "[((((((((((]",
	"[\\d]", "[\\w]", "[\\s]", "[\\\\]", "[\\[]", "[\\]]", "[\\^]", "[\\-]", "[\\/]", "[\\.]", "[^\\d]", "[\\d\\w\\s]", "[a\\d]", "[\\da]", "[\\d\\-a]", "[a\\-z]", "[\\^a]", "[^\\^]", "[^\\]]", "[a\\-]", "[\\-a]", "[\\\\d]", "[\\\\-a]", "[\\[-\\]]", "[A-\\]]", "[\\[-a]", "[\\--\\/]", "[\\--\\-]", "[\\^-a]", "[\\]-\\^]", "[\\/-a]", "[\\.-\\/]", "[+-\\.]", "[\\.-a]", "[+-\\-]", "[\\[-\\\\]", "[^\\--\\/]", "[a-b\\d]", "[\\da-b]",
	"(a|(b|c)*)d", "(a*)*", "(|a)+", "(((a+)+)+)+", "((((((((a))))))))", "(((((((([a])*)*)*)*)*)*)*)*",
}

var wrongs = []string{
	"a{2", "(a", "a)", "[b-a]", "[]", "[^]", "a**", "\\q", "\\", "{1}", "a{3,2}", "(a){2}", "*", "[a", "a{,2}", "a{100}", "$", "^a", "]", "[a-\\d]", "\xff",
	"^", "+", "?", "(", ")", "[", "{", "}", "a^", "a$", "^a$", "a]", "a}", "a{", "{", "{}", "}{", ")(", "())", "(()", "(a))", "((a)", "a|)", "(|", "|)", "(a|b", "a|b)", "(?:a)", "(?=a)", "(*)", "(+a)",
	"a*+", "a*?", "a+?", "a++", "a+*", "a??", "a?+", "a*{1}", "a{1}*", "a{1}+", "a{1}?", "a{1}{1}", "a+{1}", "a?{1}", "|*", "a|*", "a|+", "(a|?)", "(a)**", "(a)+?", "(a)*{1}", "a***", "|{1}", "({1})", "(a|{1})",
	"(){1}", "(a){1}", "(a){1,}", "(a){1,2}", "(a){0}", "((a)){1}", "(a)*(b){2}", "a(b){2}c",
	"a{}", "a{,}", "a{,1}", "a{1,2,}", "a{1,2,3}", "a{1,,2}", "a{1;2}", "a{1-2}", "a{1,0}", "a{2,1}", "a{2,01}", "a{99,98}", "a{10,9}", "a{100,}", "a{1,100}", "a{000}", "a{0,000}", "a{001}", "a{ 1}", "a{1 }", "a{1, 2}", "a{+1}", "a{-1}", "a{1,-1}", "a{1.0}", "a{x}", "a{1x}", "a{1", "a{1,", "a{1,2", "a{12", "a{12,", "a{12,34", "a{1}}", "a{{1}}", "a{\uff11}", "a{\u0661}", "a{1,\u0662}", "a\\{1}", "a{1\\}", "a{1|2}", "a{99999999999999999999}", "a{1,18446744073709551617}",
	"\\a", "\\b", "\\B", "\\n", "\\r", "\\t", "\\f", "\\v", "\\0", "\\1", "\\x41", "\\u0041", "\\cA", "\\p{L}", "\\k", "\\z", "\\A", "\\_", "\\ ", "\\,", "\\:", "\\=", "\\!", "\\<", "\\&", "\\~", "\\'", "\\\"", "\\#", "\\@", "\\;", "\\%", "\\`", "\\é", "\\\n", "\\\x00", "\\\ufffd", "a\\", "(\\", "(\\)", "\\\\\\", "a|\\", "\\e", "\\c", "\\R", "\\X", "\\V", "\\T",
	"[a-]", "[-a]", "[-]", "[--]", "[---]", "[a-b-c]", "[a--]", "[+--]", "[--/]", "[a-b-]", "[^-]", "[^-a]", "[^a-]", "[^^]", "[^^a]", "[a^]", "[a^b]", "[a-^]", "[^-a]", "[[]", "[[a]", "[a[]", "[[a]]", "[a[b]", "[A-[]", "[[-a]", "[]]", "[]a]", "[^]a]", "[a]]", "[A-]]", "[^]]", "[", "[^", "[a-", "[a-b", "[^a", "[\\", "[\\]", "[\\d", "[a\\", "[a-\\", "[a-\\]", "[\\^", "[[:alpha:]]",
	"[\\D]", "[\\W]", "[\\S]", "[\\a]", "[\\b]", "[\\n]", "[\\t]", "[\\0]", "[\\$]", "[\\*]", "[\\+]", "[\\?]", "[\\(]", "[\\)]", "[\\{]", "[\\}]", "[\\|]", "[\\,]", "[\\ ]", "[\\é]", "[\\&]", "[^\\D]", "[\\x41]", "[\\u0041]",
	"[\\d-a]", "[\\d-\\d]", "[\\w-z]", "[a-\\w]", "[\\s-a]", "[ -\\s]", "[+-\\d]", "[\\d-]", "[-\\d]", "[a-\\D]", "[!-\\$]", "[!-\\*]", "[\\$-a]", "[z-a]", "[b-ac]", "[a-cz-y]", "[日-é]", "[\U0010ffff-\u0000]", "[a-\\]]", "[\\^-\\]]", "[\\]-\\[]", "[\\/-\\-]", "[a-\\-]", "[a-\\/]", "[a-\\.]", "[^z-a]", "[a-Z]",
	"\xc3", "\xa9", "a\xff", "\xffa", "[\xff]", "[a-\xff]", "\\\xff", "(\xff)", "\xc0\x80", "\xed\xa0\x80", "\xf4\x90\x80\x80", "\xe2\x82", "|\xff", "a{1}\xff", "é\xc3",
}

func TestP9_1Right(t *testing.T) {
	for _, p := range rights {
		if !Right(p) {
			t.Errorf("Right(%q) is false", p)
		}
		if _, e := Fits(p, "a"); e != api.OK {
			t.Errorf("Fits(%q, a) is error %d", p, e)
		}
		if !slowRight(p) {
			t.Errorf("the expressions take %q for no pattern", p)
		}
	}
	for _, p := range wrongs {
		if Right(p) {
			t.Errorf("Right(%q) is true", p)
		}
		for _, s := range []string{"", "a", p} {
			if is, e := Fits(p, s); is || e != api.ErrForm {
				t.Errorf("Fits(%q, %q) is %v, error %d", p, s, is, e)
			}
		}
		if slowRight(p) {
			t.Errorf("the expressions take %q for a pattern", p)
		}
	}
}

func TestP9_1RightOfAll(t *testing.T) {
	against := func(p string) {
		if is := Right(p); is != slowRight(p) {
			t.Errorf("Right(%q) is %v", p, is)
		}
	}
	grow(6, []string{"a", "|", "*", "(", ")", "{", "1}", "2,", "[", "]"}, against)
	grow(5, []string{"[a", "[", "]", "^", "-", "\\", "a", "d", ".", "b"}, against)
	grow(5, []string{"a{", "1", "09", "2", ",", "}", "+", "é"}, against)
	grow(6, []string{"\\", "D", "-", "/", "[", "]"}, against)
	for _, p := range []string{"", "a", "[a-c]", "[^\\d\\]]", "\\d{1,2}", "a{1,}", "(a|b)*", "(\\.)", "é", "[\\--\\/]", "a|", "[", "\\", "a{"} {
		near(p, against)
	}
}

// Each byte at each place takes just what the chapter leaves to it.
func TestP9_1Bytes(t *testing.T) {
	const left = `\^$.*+?()[]{}|`
	for i := range 256 {
		c := string([]byte{byte(i)})
		ascii := i < 128
		itself, times := ascii && !strings.Contains(left, c), strings.Contains("*+?", c)
		escaped := strings.Contains(left+"/-dDwWsS", c)
		member := ascii && !strings.Contains(`\[]^-`, c)
		inner := strings.Contains(`\[]^-/.`, c)
		for p, want := range map[string]bool{
			c: itself || c == "." || c == "|", "a" + c: itself || c == "." || c == "|" || times, "(a)" + c: itself || c == "." || c == "|" || times, "(" + c + ")": itself || c == "." || c == "|",
			"\\" + c: escaped, "\\" + c + "{2}": escaped, "(\\" + c + ")": escaped,
			"[" + c + "]": member, "[a" + c + "]": member, "[^" + c + "]": member, "[\\" + c + "]": inner || strings.Contains("dws", c), "[^a\\" + c + "]": inner || strings.Contains("dws", c),
			"[\x00-" + c + "]": member, "[" + c + "-\U0010ffff]": member || c == "\\", "[\x00-\\" + c + "]": inner, "[\\" + c + "-\U0010ffff]": inner,
			"a{" + c + "}": '0' <= i && i <= '9', "a{1" + c + "}": '0' <= i && i <= '9' || c == ",", "a{1," + c + "}": '1' <= i && i <= '9', "a{12" + c + "}": c == ",",
		} {
			if Right(p) != want {
				t.Errorf("Right(%q) is not %v", p, want)
			}
		}
		if itself && (!fits(t, c, c) || fits(t, c, "") || fits(t, c, c+c) || fits(t, c, string([]byte{byte(i) ^ 1}))) {
			t.Errorf("what %q fits", c)
		}
		if escaped && !strings.Contains("dDwWsS", c) && (!fits(t, "\\"+c, c) || fits(t, "\\"+c, "\\"+c) || fits(t, "\\"+c, "a")) {
			t.Errorf("what \\%s fits", c)
		}
		if inner && (!fits(t, "[\\"+c+"]", c) || fits(t, "[\\"+c+"]", "a") || fits(t, "[^\\"+c+"]", c)) {
			t.Errorf("what [\\%s] fits", c)
		}
	}
}

func TestP9_1Bounds(t *testing.T) {
	for n := range 300 {
		for p, want := range map[string]bool{strings.Repeat("a", n): n <= 200, strings.Repeat("|", n): n <= 200, strings.Repeat("é", n): n <= 100, strings.Repeat("日", n) + "aa": n <= 66, strings.Repeat("\U0001f600", n): n <= 50, strings.Repeat("()", n): n <= 100, strings.Repeat("a{9}", n): n <= 50, "[" + strings.Repeat("a", n) + "]": 1 <= n && n <= 198} {
			if Right(p) != want {
				t.Errorf("Right of %d bytes, %.10q, is not %v", len(p), p, want)
			}
		}
	}
	for n := range 50 {
		deep := strings.Repeat("(", n) + "a" + strings.Repeat(")", n)
		for _, p := range []string{deep, "()" + deep, deep + "|" + deep, deep + "*", strings.Repeat("(a|", n) + strings.Repeat(")+", n), strings.Repeat("(", n) + "\\([(((]" + strings.Repeat(")", n), strings.Repeat("()(", n) + strings.Repeat(")", n)} {
			if Right(p) != (n <= 8) {
				t.Errorf("Right of %d groups within one another, %q, is %v", n, p, Right(p))
			}
		}
	}
	for _, p := range []string{strings.Repeat("(a)", 66), strings.Repeat("((((((((a))))))))", 11), "(" + strings.Repeat("(((((((a)))))))", 13) + ")", strings.Repeat("[(]", 66), strings.Repeat("\\(", 100)} {
		if !Right(p) {
			t.Errorf("Right(%q) is false", p)
		}
	}
	for _, p := range []string{strings.Repeat("((((((((a))))))))", 11) + "(((((((((a", "((((((((a))))))))(((((((((a)))))))))", "(((((((((" + strings.Repeat(")", 9) + "*", "((((((((|()))))))))"} {
		if Right(p) {
			t.Errorf("Right(%q) is true", p)
		}
	}
	huge := strings.Repeat("(", 1<<20)
	if Right(huge) || Right(strings.Repeat("a", 1<<20)) {
		t.Error("Right of a long text")
	}
}

func TestP9_1FitsErrors(t *testing.T) {
	most, over := strings.Repeat("a", 4000), strings.Repeat("a", 4001)
	if !fits(t, "a*", most) || !fits(t, "(a|b)*", most) || !fits(t, "é*", strings.Repeat("é", 2000)) || !fits(t, ".*", strings.Repeat("\xff", 4000)) || fits(t, "b*", most) {
		t.Error("Fits of 4000 bytes")
	}
	for _, s := range []string{over, strings.Repeat("é", 2001), strings.Repeat("\U0001f600", 1001), strings.Repeat("\xff", 4001), strings.Repeat("a", 1<<20)} {
		for _, p := range []string{"", "a*", ".*", "(|.)*"} {
			if is, e := Fits(p, s); is || e != api.ErrRange {
				t.Errorf("Fits(%q, %.10q of %d bytes) is %v, error %d", p, s, len(s), is, e)
			}
		}
		for _, p := range []string{"*", "a{2", "\xff", strings.Repeat("a", 201)} { // that p is none is named first
			if is, e := Fits(p, s); is || e != api.ErrForm {
				t.Errorf("Fits(%.10q, %.10q of %d bytes) is %v, error %d", p, s, len(s), is, e)
			}
		}
	}
	if is, e := Fits(strings.Repeat("a", 200), strings.Repeat("a", 200)); !is || e != api.OK {
		t.Error("Fits of 200 bytes by 200 bytes")
	}
}

func TestP9_1Fits(t *testing.T) {
	for p, texts := range map[string]struct{ yes, no []string }{
		"":                  {[]string{""}, []string{"a", " ", "\n", "\xff"}},
		"a|b*":              {[]string{"a", "bb", "", "b"}, []string{"ab", "ba", "aa", "c", "a|b"}},
		"[^a-c]\\d{2}":      {[]string{"x42", "d00", "é99", "\n12", "\xff12", "112"}, []string{"a42", "b42", "c42", "x4", "x421", "x4a", "42", ""}},
		"(ab)+":             {[]string{"ab", "abab", "ababab"}, []string{"", "a", "aba", "abb", "ba", "(ab)"}},
		"ab":                {[]string{"ab"}, []string{"", "a", "b", "ba", "abb", "aab", "xab", "abx", "AB", "aB"}},
		"a?b?c?":            {[]string{"", "a", "b", "c", "ab", "ac", "bc", "abc"}, []string{"ba", "aa", "cb", "abcc"}},
		"a+b*":              {[]string{"a", "aa", "ab", "aabb"}, []string{"", "b", "ba", "aba"}},
		".":                 {[]string{"a", "é", "日", "\U0001f600", "\xff", "\x00", "\t", "\v", "\f", "\u0085", "\u2028", "\u2029", "."}, []string{"", "\n", "\r", "\r\n", "ab", "é\xff", "\xc3\xc3"}},
		"..":                {[]string{"ab", "éé", "\xc3\xc3", "\xe2\x82", "a\xff"}, []string{"é", "a", "\na", "a\r", "\xed\xa0\x80"}},
		"\ufffd":            {[]string{"\ufffd", "\xff", "\x80", "\xc3"}, []string{"", "\u00ff", "\xff\xff", "é", "?", "\ufffe"}},
		"\ufffd{3}":         {[]string{"\xed\xa0\x80", "\ufffd\xff\xc3", "\xe2\x82\xe2"}, []string{"\xe2\x82\xac", "\xe2\x82", "\xf4\x90\x80\x80"}},
		"[^\ufffd]":         {[]string{"a", "é", "\n"}, []string{"\xff", "\ufffd", ""}},
		"[\ufffc-\ufffe]":   {[]string{"\xff", "\ufffd", "\ufffc", "\ufffe"}, []string{"\ufffb", "\uffff", "\u00ff"}},
		"ÿ":                 {[]string{"\u00ff"}, []string{"\xff", "\xc3", "y"}},
		"\\W\\S\\D":         {[]string{" a-", "\xff\xff\xff", "\n1\n"}, []string{"aaa", "- -", " a1", "_a-"}},
		"\\d":               {[]string{"0", "5", "9"}, []string{"", "a", "/", ":", "\u0661", "\uff11", "10", "²", "d", "\\d"}},
		"\\w+":              {[]string{"azAZ09_", "a"}, []string{"", "-", "é", "a b", "\u212a", "\u017f", "ª", "@", "[", "`", "{", "^", "a\xff"}},
		"\\s*":              {[]string{"", "\t\n\f\r ", " "}, []string{"\v", "\u00a0", "\u2028", "\u3000", "\ufeff", "\x00", "\x1f", "a", "\u0085"}},
		"\\S\\S":            {[]string{"ab", "\v\u00a0", "\xff\xff"}, []string{"a ", "\na", "  ", "a"}},
		"a{0,2}b":           {[]string{"b", "ab", "aab"}, []string{"", "a", "aa", "aaab", "bb"}},
		"a{2,}":             {[]string{"aa", "aaaaa"}, []string{"", "a", "aaab"}},
		"a{0}":              {[]string{""}, []string{"a", "a{0}"}},
		"a{0}b":             {[]string{"b"}, []string{"", "ab"}},
		"a{02,03}":          {[]string{"aa", "aaa"}, []string{"a", "aaaa"}},
		"(a|(b|c)*)d":       {[]string{"d", "ad", "bcbd", "cd"}, []string{"", "a", "abd", "aad", "bcad"}},
		"(a*)*":             {[]string{"", "a", "aaaa"}, []string{"b", "ab", "aaab"}},
		"(|a)+":             {[]string{"", "a", "aa"}, []string{"b", "ab"}},
		"(a|)b":             {[]string{"ab", "b"}, []string{"a", "", "aab"}},
		"()":                {[]string{""}, []string{"a", "()"}},
		"()*a()+":           {[]string{"a"}, []string{"", "aa"}},
		"|a":                {[]string{"", "a"}, []string{"|", "|a", "aa"}},
		"(a|ab)(c|bcd)(d*)": {[]string{"abcd", "ac", "acd", "abc", "abcdd", "abcddd", "abbcd"}, []string{"a", "ab", "bcd", "abcdc"}},
		"(a?)?(a?)?a":       {[]string{"a", "aa", "aaa"}, []string{"", "aaaa"}},
		"[\\]\\-x]+":        {[]string{"]-x", "]", "-"}, []string{"", "\\", "[", "y"}},
		"[a\\-c]":           {[]string{"a", "-", "c"}, []string{"b", "\\"}},
		"[\\--\\/]":         {[]string{"-", ".", "/"}, []string{",", "0", "\\"}},
		"[\\[-\\]]":         {[]string{"[", "\\", "]"}, []string{"Z", "^", "-"}},
		"[+-\\.]":           {[]string{"+", ",", "-", "."}, []string{"*", "/", "\\"}},
		"[\\.-0]":           {[]string{".", "/", "0"}, []string{"-", "1", "a"}},
		"[.]":               {[]string{"."}, []string{"a", "\n", ""}},
		"[\\.]":             {[]string{"."}, []string{"a", "\\"}},
		"[\\d.\\s]+":        {[]string{"1. 2", "\n", "."}, []string{"a", "", "\\", "d", "s"}},
		"[^\\d\\w\\s]+":     {[]string{"-", "é\xff", "\v"}, []string{"a", "1", "_", " ", "-a", ""}},
		"[^a]":              {[]string{"b", "\n", "\r", "^", "é", "\xff", "A"}, []string{"a", "", "bb"}},
		"[^\\^]":            {[]string{"a", "\\"}, []string{"^", ""}},
		"[a|b]":             {[]string{"a", "|", "b"}, []string{"", "ab"}},
		"[(a)]+":            {[]string{"(a)", "a"}, []string{"", "b"}},
		"[*]*":              {[]string{"", "*", "***"}, []string{"a", "[*]"}},
		"[b-db]":            {[]string{"b", "c", "d"}, []string{"a", "e"}},
		"[é-ë]":             {[]string{"é", "ê", "ë"}, []string{"è", "ì", "e", "\xc3", "\xff"}},
		"a-b":               {[]string{"a-b"}, []string{"a", "b", "ab"}},
		"a,b/c":             {[]string{"a,b/c"}, []string{"ab/c", "a,bc"}},
		"a\nb":              {[]string{"a\nb"}, []string{"ab", "a\rb", "anb"}},
		"\\.\\*\\\\":        {[]string{".*\\"}, []string{"a*\\", ".\\", "\\.\\*\\\\"}},
		"\\\\d":             {[]string{"\\d"}, []string{"1", "d", "\\1"}},
		"日+|本?":             {[]string{"", "日", "日日", "本"}, []string{"日本", "本本", "\xe6"}},
		"\x00":              {[]string{"\x00"}, []string{"", "0", "a"}},
	} {
		for _, s := range texts.yes {
			if !fits(t, p, s) {
				t.Errorf("Fits(%q, %q) is false", p, s)
			}
		}
		for _, s := range texts.no {
			if fits(t, p, s) {
				t.Errorf("Fits(%q, %q) is true", p, s)
			}
		}
	}
}

func TestP9_1FitsOfAll(t *testing.T) {
	against := func(texts []string) func(p string) {
		return func(p string) {
			if !slowRight(p) {
				return
			}
			shape := slowShape(p)
			for _, s := range texts {
				if is := fits(t, p, s); is != shape.MatchString(s) {
					t.Errorf("Fits(%q, %q) is %v", p, s, is)
				}
			}
		}
	}
	grow(6, []string{"a", "b", "|", "(", ")", "*", "+"}, against(grown(3, "a", "b")))
	grow(5, []string{"a", ".", "(", ")*", ")?", ")+", "|", "b{0,2}", "a{2,}", "[^a]?"}, against(grown(3, "a", "b", "\n")))
	grow(4, []string{"\\d", "\\D", "\\w", "\\W", "\\s", "\\S", ".", "*", "{2}", "|"}, against(grown(2, "a", "_", "7", " ", "\n", "\r", "\v", "é", "\xff", "\ufffd")))
	grow(4, []string{"a", "c", "-", "\\-", "\\d", "é", "\ufffd", "^", "\\]", "\\\\"}, func(s string) {
		against(grown(1, "a", "b", "c", "d", "-", "7", "é", "\xff", "\ufffd", "]", "\\", "^", "\n"))("[" + s + "]")
	})
	for _, p := range append([]string{"(a|ab)(b|)*c{1,2}", "((a|b)*c|a)+", "(.|b)*a.{2}"}, rights...) {
		against(grown(5, "a", "b", "c"))(p)
	}
}

// All signs of UTF-8, against what the words say of each.
func TestP9_1AllSigns(t *testing.T) {
	isDigit := func(r rune) bool { return '0' <= r && r <= '9' }
	isWord := func(r rune) bool { return 'a' <= r && r <= 'z' || 'A' <= r && r <= 'Z' || isDigit(r) || r == '_' }
	isBlank := func(r rune) bool { return r == 9 || r == 10 || r == 12 || r == 13 || r == 32 }
	not := func(is func(r rune) bool) func(r rune) bool { return func(r rune) bool { return !is(r) } }
	for p, is := range map[string]func(r rune) bool{
		".": func(r rune) bool { return r != 10 && r != 13 }, "\\d": isDigit, "\\D": not(isDigit), "\\w": isWord, "\\W": not(isWord), "\\s": isBlank, "\\S": not(isBlank),
		"[\\d]": isDigit, "[^\\d]": not(isDigit), "[\\w]": isWord, "[^\\w]": not(isWord), "[\\s]": isBlank, "[^\\s]": not(isBlank),
		"[^é-日]": func(r rune) bool { return r < 'é' || r > '日' }, "[\x00-\U0010ffff]": func(rune) bool { return true }, "[\ufffd\U00010000-\U0010fffe]": func(r rune) bool { return r == 0xfffd || 0x10000 <= r && r < 0x10ffff }, "日": func(r rune) bool { return r == '日' },
	} {
		var with, without strings.Builder
		held := func() {
			if !fits(t, p+"*", with.String()) {
				t.Errorf("%q* doesn't fit %q", p, with.String())
			}
			if fits(t, "[\x00-\U0010ffff]*"+p+"[\x00-\U0010ffff]*", without.String()) {
				t.Errorf("%q fits a sign of %q", p, without.String())
			}
			with.Reset()
			without.Reset()
		}
		for sign := rune(0); sign <= utf8.MaxRune; sign++ {
			if !utf8.ValidRune(sign) {
				continue
			}
			if is(sign) {
				with.WriteRune(sign)
			} else {
				without.WriteRune(sign)
			}
			if sign < 128 {
				if fits(t, p, string(sign)) != is(sign) {
					t.Errorf("Fits(%q, %q) is not %v", p, string(sign), is(sign))
				}
			}
			if with.Len() > 3990 || without.Len() > 3990 {
				held()
			}
		}
		held()
	}
}

func TestP9_1Times(t *testing.T) {
	held := func(p string, n, least, most int) {
		if n < 0 {
			return
		}
		want := least <= n && n <= most
		for _, c := range []struct{ p, s, end string }{{"a", "a", "z"}, {".", "é", "\n"}, {"\\d", "7", "z"}, {"[^x]", "\xff", "x"}} {
			if s := strings.Repeat(c.s, n); fits(t, c.p+p, s) != want || fits(t, "y"+c.p+p+c.end, "y"+s+c.end) != want || fits(t, "("+c.p+p+c.end+")*", s+c.end+s+c.end) != want {
				t.Errorf("%s%s of %d times is not %v", c.p, p, n, want)
			}
		}
	}
	for least := range 100 {
		number := strconv.Itoa(least)
		for _, n := range []int{least - 1, least, least + 1, least + 50} {
			held("{"+number+"}", n, least, least)
			held("{"+number+",}", n, least, 1000)
			if least < 10 {
				held("{0"+number+"}", n, least, least)
			}
		}
		for _, most := range []int{0, 1, 2, 9, 10, 50, 98, 99} {
			p := "{" + number + "," + strconv.Itoa(most) + "}"
			if Right("a"+p) != (least <= most) {
				t.Errorf("Right(a%s) is %v", p, Right("a"+p))
			}
			if least <= most {
				for _, n := range []int{0, least - 1, least, most, most + 1} {
					held(p, n, least, most)
				}
			}
		}
	}
	for n := range 130 {
		held("*", n, 0, 1000)
		held("+", n, 1, 1000)
		held("?", n, 0, 1)
		held("", n, 1, 1)
	}
}

// Patterns whose text may be cut in very many ways end, as all others do.
func TestP9_1Heavy(t *testing.T) {
	a, b := strings.Repeat("a", 3999), strings.Repeat("b", 3999)
	open, shut := strings.Repeat("(", 8), strings.Repeat(")+", 8)
	for _, c := range []struct {
		p, s string
		want bool
	}{
		{open + "a*" + strings.Repeat(")*", 8), a, true}, {open + "a*" + strings.Repeat(")*", 8), a + "b", false},
		{open + "a+" + shut, a, true}, {open + "a+" + shut, a + "b", false}, {open + strings.Repeat("a{99}", 35) + shut, a, false}, {open + strings.Repeat("a{99}", 35) + shut, a[:3465], true},
		{"(a|a|aa|aaa)*", a, true}, {"(a|a|aa|aaa)*", a + "b", false}, {"(a?|a*|a+)*b", a, false},
		{"(((((((.*x|b)*y|b)*z|b)*u|b)*v|b)*w|b)*t|b)*", b, true}, {"(((((((.*x|b)*y|b)*z|b)*u|b)*v|b)*w|b)*t|b)*", b + "a", false},
		{".*" + strings.Repeat(".{99}", 39), a, true}, {".*" + strings.Repeat(".{99}", 39) + "b", a, false},
		{strings.Repeat(".{0,99}", 28), a, false}, {strings.Repeat(".{0,99}", 28), a[:2772], true}, {strings.Repeat(".{0,99}", 28), a[:2773], false},
		{"(" + strings.Repeat(".{0,99}", 27) + ")+b", a, false}, {"(" + strings.Repeat(".{0,99}", 27) + ")+", a, true},
		{strings.Repeat("a?", 100), a[:100], true}, {strings.Repeat("a?", 100), a[:101], false}, {strings.Repeat("a*", 99) + "b", a, false}, {strings.Repeat("(|)", 66), "", true}, {"(" + strings.Repeat("|", 198) + ")", "", true},
		{"[" + strings.Repeat("b", 193) + "]*", b, true}, {"[" + strings.Repeat("b", 191) + "]{99}", a, false},
	} {
		if fits(t, c.p, c.s) != c.want {
			t.Errorf("Fits(%q, %.10q of %d bytes) is not %v", c.p, c.s, len(c.s), c.want)
		}
	}
}

func TestP9_1Again(t *testing.T) {
	for range 3 {
		if !fits(t, "(a|b{2})*", "abba") || fits(t, "(a|b{2})*", "aba") || Right("a{2") || !Right("a{2}") {
			t.Error("what was asked ahead is told in an answer")
		}
	}
}

func TestP9_2(t *testing.T) {
	patterns := grown(2, "a", "b", ".", "*", "?", "{2}", "|", "(a|b)", "[^a]", "")
	texts := grown(3, "a", "b", "c")
	for _, p := range patterns {
		if !Right(p) {
			if Right("(" + p + ")") {
				t.Errorf("Right((%s)) is true", p)
			}
			continue
		}
		for _, s := range texts {
			if one := fits(t, p, s); fits(t, "("+p+")", s) != one || fits(t, "(((("+p+"))))", s) != one || fits(t, "|"+p, s) != (one || s == "") || fits(t, p+"|", s) != (one || s == "") || fits(t, "x("+p+")y", "x"+s+"y") != one {
				t.Errorf("a group, or nothing and a bar, with %q by %q", p, s)
			}
		}
	}
	for _, p := range patterns {
		for _, q := range patterns {
			if !Right(p) || !Right(q) {
				continue
			}
			for _, s := range texts[:13] {
				either := fits(t, p, s) || fits(t, q, s)
				if fits(t, p+"|"+q, s) != either || fits(t, "("+p+")|("+q+")", s) != either || fits(t, "("+p+"|"+q+")", s) != either || fits(t, "c|"+p+"|"+q, s) != (either || s == "c") {
					t.Errorf("%q or %q by %q is not %v", p, q, s, either)
				}
			}
		}
	}
}

func TestP9_2OfChosen(t *testing.T) {
	for _, s := range []string{"", "a", "ab", "abab", "x42", "bb", "-", "]", "é", "\xff", "\n", "()", "|", "aaaa"} {
		fit := make([]bool, len(rights))
		for i, p := range rights {
			fit[i] = fits(t, p, s)
		}
		for i, p := range rights {
			for j, q := range rights {
				if len(p)+len(q) < 200 && fits(t, p+"|"+q, s) != (fit[i] || fit[j]) {
					t.Errorf("%q or %q by %q", p, q, s)
				}
			}
			if strings.HasPrefix(p, "((((((((") {
				if Right("(" + p + ")") {
					t.Errorf("Right of nine groups, (%s), is true", p)
				}
			} else if fits(t, "("+p+")", s) != fit[i] || fits(t, "("+p+")?", s) != (fit[i] || s == "") || fit[i] && !fits(t, "("+p+")+", s+s+s) {
				t.Errorf("the group (%s) by %q", p, s)
			}
		}
	}
}
