package link

import (
	"fmt"
	"net/netip"
	"regexp"
	"strconv"
	"strings"
	"testing"
	"unicode/utf8"
	"unsafe"
)

// The chapter's words, once more, by expressions. In texts that are UTF-8 alone, since an expression takes a wrong byte for a sign.
var (
	wholeShape  = regexp.MustCompile(`(?s)\A(?:([^:/?#]+):)?(//([^/?#]*))?([^?#]*)(?:\?([^#]*))?(?:#(.*))?\z`)
	schemeShape = regexp.MustCompile(`\A[a-zA-Z][a-zA-Z0-9+.-]*\z`)
	specialOne  = regexp.MustCompile(`\A(?i:ftp|http|https|ws|wss)\z`)
	fineShape   = regexp.MustCompile(`\A(?:[a-zA-Z0-9!$&'()*+,./:;=?@_~\x{80}-\x{10FFFF}-]|%[0-9a-fA-F]{2})*\z`)
	nameShape   = regexp.MustCompile(`\A` + label + `(?:\.` + label + `)*\.?\z`)
	digitsLast  = regexp.MustCompile(`(?:\A|\.)[0-9]+\.?\z`)
	fourShape   = regexp.MustCompile(`\A(?:` + octet + `\.){3}` + octet + `\z`)
	portShape   = regexp.MustCompile(`\A0*(?:[0-9]{0,4}|[1-5][0-9]{4}|6[0-4][0-9]{3}|65[0-4][0-9]{2}|655[0-2][0-9]|6553[0-5])\z`)
)

const (
	label = `[a-zA-Z0-9_\x{80}-\x{10FFFF}-]+`
	octet = `(?:25[0-5]|2[0-4][0-9]|[01]?[0-9]?[0-9])`

	alphabet = "abcdefghijklmnopqrstuvwxyzABCDEFGHIJKLMNOPQRSTUVWXYZ"
	numerals = "0123456789"
	allHexes = "0123456789abcdefABCDEF"
	allMarks = "!$&'()*+,-./:;=?@_~"
)

func slowFine(s string) bool { return utf8.ValidString(s) && fineShape.MatchString(s) }

func slowHost(s string) bool {
	if strings.HasPrefix(s, "[") && strings.HasSuffix(s, "]") {
		inner := s[1 : len(s)-1]
		_, err := netip.ParseAddr(inner)
		return err == nil && !strings.ContainsAny(inner, ".%") // the library knows points and zones besides
	}
	if !utf8.ValidString(s) || !nameShape.MatchString(s) {
		return false
	}
	return !digitsLast.MatchString(s) || fourShape.MatchString(s)
}

// slowSite goes through all ways of cutting s at an @ and at a colon.
func slowSite(s string) bool {
	for from := range len(s) + 1 {
		user := ""
		if from > 0 {
			if s[from-1] != '@' {
				continue
			}
			user = s[:from-1]
		}
		if !slowFine(user) || strings.Contains(user, "@") {
			continue
		}
		for to := from; to <= len(s); to++ {
			port := ""
			if to < len(s) {
				if s[to] != ':' {
					continue
				}
				port = s[to+1:]
			}
			if slowHost(s[from:to]) && portShape.MatchString(port) {
				return true
			}
		}
	}
	return false
}

func slowAbsolute(s string) bool {
	m := wholeShape.FindStringSubmatch(s)
	scheme, slashes, site, path, query, fragment := m[1], m[2], m[3], m[4], m[5], m[6]
	if !schemeShape.MatchString(scheme) || !slowFine(path) || !slowFine(query) || !slowFine(fragment) {
		return false
	}
	switch {
	case specialOne.MatchString(scheme):
		return slashes != "" && slowSite(site)
	case strings.EqualFold(scheme, "file"):
		return slashes != "" && (site == "" || slowHost(site)) || slashes == "" && strings.HasPrefix(path, "/")
	}
	return slashes == "" || site == "" || slowSite(site)
}

func slowScheme(s string) (string, bool) {
	if at := strings.Index(s, ":"); at >= 0 && schemeShape.MatchString(s[:at]) {
		return strings.ToLower(s[:at]), true
	}
	return "", false
}

var hosts = []string{
	"a", "a.", "a.b", "a.b.", "A", "z", "Z", "_", "-", "--", "-a-", "_a", "a-b_c.d", "xn--a.b", "é", "bücher.example", "a.é.", "日本", "\u0080", "\u00a0", "\uffff", "\ufffd", "\U00010000", "\U0010ffff", "a\u3002b", "\u0661", "\uff11", "a.\uff11", "1\uff11",
	"1.2.3.4", "0.0.0.0", "255.255.255.255", "000.000.000.000", "001.02.3.004", "1.a", "1.a.", "1.2.3.4a", "1.2.3.-4", "1.2.3.4.a", "256.a", "1.2.3.4_", "1.2.3.é", "0x1", "1.0x2", "0x7f.1.a", "1.2.3.4-", "1234567.com", "1.2.3.4.5.x.",
	"[1:2:3:4:5:6:7:8]", "[::]", "[::1]", "[1::]", "[1::2]", "[1:2:3:4:5:6:7::]", "[::2:3:4:5:6:7:8]", "[1::3:4:5:6:7:8]", "[1:2:3::5:6:7:8]", "[1:2::7:8]", "[abcd:EF01:2345:6789:0:00:000:0000]", "[fFfF::fFfF]", "[0::0]", "[1:2:3:4:5:6::]",
	strings.Repeat("a", 5000), strings.Repeat("a.", 5000), strings.Repeat("a.", 5000) + "b", strings.Repeat("1.", 5000) + "b",
}

var noHosts = []string{
	"", ".", "..", ".a", "a..", "a..b", "..a", ".a.", "a. ", " a", "a b", "a\n", "\na", "a\x00", "\x7f", "a+b", "a!b", "a~", "a%41", "%", "a*b", "a,b", "a@b", "@a", "a:80", "a:", ":", "a/b", "/", "a?b", "a#b", "a\\b", "a|b", "a^b", "<a>", "a`", "(a)",
	"1", "0", "255", "1.", "1.2", "1.2.", "1.2.3", "1.2.3.", "1.2.3.4.", "1.2.3.4.5", "1.2.3.4..", "1..2.3", "1.2..4", ".1.2.3.4", "1.2.3.4.5.6.7.8", "a.1", "a.1.", "a.b.c.1", "1.2.a.4", "a.2.3.4", "_.1.1.1", "é.1", "é.1.1.1", "1.1.é.1", "0x1.2.3.4", "1.2.3.-.4",
	"256.0.0.1", "0.256.0.1", "0.0.256.1", "0.0.0.256", "0.0.0.999", "0001.2.3.4", "1.0002.3.4", "1.2.0003.4", "1.2.3.0004", "1.2.3.0000", "1.2.3.1000", "1.2.3.4294967296", "1.2.3.18446744073709551617", "1.2.3." + strings.Repeat("0", 5000) + "1", "1.2.3." + strings.Repeat("9", 5000), "4294967295", "+1.2.3.4", "1.2.3.+4",
	"[]", "[", "]", "[[", "]]", "][", "[:]", "[:::]", "[::::]", "[1]", "[1:]", "[:1]", "[:1:2]", "[1:2:]", "[::", "::]", "::", "::1", "[::1", "::1]", "[::1]]", "[[::1]", "[[::1]]", "[::1] ", " [::1]", "[ ::1]", "[::1 ]", "[::1].", "[::1].a", "[::1]a", "a[::1]", "[::1]:80", "[::1]:", "[::1][::1]", "[::1]]]",
	"[1:2:3:4:5:6:7]", "[1:2:3:4:5:6:7:]", "[:2:3:4:5:6:7:8]", "[1:2:3:4:5:6:7:8:9]", "[1:2:3:4:5:6:7:8:]", "[:1:2:3:4:5:6:7:8]", "[1:2:3:4:5:6:7:8::]", "[::1:2:3:4:5:6:7:8]", "[1:2:3:4::5:6:7:8]", "[1::2:3:4:5:6:7:8]", "[::1::]", "[1::2::3]", "[1:::2]", "[:::1]", "[1:::]", "[::1:]", "[:1::]", "[::::1]",
	"[12345::]", "[::12345]", "[00000::]", "[1:2:3:4:5:6:7:88888]", "[g::]", "[::G]", "[::x]", "[::-1]", "[::+1]", "[::_]", "[::é]", "[é]", "[a]", "[a.b]", "[::1.2.3.4]", "[1.2.3.4]", "[::ffff:1.2.3.4]", "[::%41]", "[::1%25eth0]", "[::1%eth0]", "[v1.a]", "[::\uff11]", "[::\xff]", "[\x00::]", "[1: :2]", "[1:\n:2]",
	"\xff", "a\xff", "\xffa", "a.\xff", "\xff.a", "\xc3", "\xc3.\xa9", "\xa9", "é\xc3", "\xc0\x80", "\xed\xa0\x80", "\xf4\x90\x80\x80", "\xf8\x88\x80\x80\x80", "a.b.\x80",
}

var absolutes = []string{
	"https://a.b:80/c?d#e", "file:///a", "mailto:x@y", "http://[::1]/", "x:/a/b",
	"http://a", "http://a/", "http://a.", "http://a./", "http://a:", "http://a:/", "http://a:0", "http://a:65535", "http://a:065535/", "http://a:" + strings.Repeat("0", 5000) + "65535", "http://a:" + strings.Repeat("0", 5000),
	"http://@a", "http://u@a", "http://u:p@a:1/", "http://u:p:q@a/", "http://:@a", "http://%40@a", "http://é:é@é:1/é?é#é", "http://!$&'()*+,-.:;=_~@a", "http://u@[::1]:8080/", "http://[::1]", "http://[::1]:", "http://[::1]:80", "http://u@1.2.3.4:5/6",
	"http://a?", "http://a#", "http://a?#", "http://a/?#", "http://a?b?c", "http://a?/b#/c", "http://a?b@c:d", "http://u#@a", "http://u?@a", "http://u/@a", "http://a#b@c:d?e", "http://a?b:c/d?e@f#g:h/i?j@k", "http://a/@", "http://a/b@c", "http://a/:", "http://a//", "http://a//b//c", "http://a///", "http://a/b:c", "http://a/!$&'()*+,-./:;=@_~", "http://a/%00%fF", "http://a/..", "http://a/./b;c=d",
	"ftp://a", "ws://a", "wss://a", "https://a", "HTTP://A", "hTTps://a", "FTP://a", "Ws://a", "wSS://a",
	"file:/", "file:/a", "file:/a/b", "file:/a//b", "file://", "file:///", "file:////", "file:////a", "file://a", "file://a/", "file://a.b./c", "file://1.2.3.4", "file://[::1]/a", "file:///C:/a", "file:///a?b#c", "file:/a?b#c", "file:/?", "file:/#", "file://?", "file://#", "FILE:///", "File:/a", "fILE://a", "file:/a@b:c", "file:/é",
	"x:", "X:", "x:?", "x:#", "x:?#", "x:a", "x:/", "x:/a", "x:a//b", "x:/a//b", "x:a/b:c@d", "x://", "x:///", "x:////", "x://a", "x://a/", "x://a/b", "x://a:1/b", "x://u@a:1/b?c#d", "x:///a", "x://?a", "x://#a", "x://[::1]:1", "x::", "x::a", "x:http:", "x:@", "x:?/:@?", "x:%41", "x:é", "x:ф?я#ж", "x+y-z.0:", "x1:", "x+:", "x-:", "x.:", "x+-.9:a", "Z9:a", "a:b", "z:b", "A:b",
	"data:,a", "javascript:a()", "mailto:", "urn:a:b:c", "tel:+1-2", "about:blank", "c:/a", "c:a", "localhost:80", "httpx:a", "htt:a", "files:a", "fil:a", "http+x:a", "blob:http://a/b", "wsss:a", "w:a", "ftps:a", "f:a", "http.:a",
}

var noAbsolutes = []string{
	"http:a", "http://", "http://1.2.3/", "/a", "a", "http://a b",
	"", ":", "::", "://", "://a", "//a", "//", "/", "#", "?", "a/b:c", "?a:b", "#a:b", "a#b:c", "a?b:c", "1x:a", "1:", "+x:a", "-x:a", ".x:a", "_x:a", "x_y:a", "x y:a", " x:a", "x :a", "\nx:a", "x\n:a", "é:a", "xé:a", "x\u212a:a", "\u017f:a", "x%41:a", "x\x00:a", "\xff:a", "x\xff:a", "x/:a", "x@:a", "x!:a", "x~:a", "x*:a", "[x]:a",
	"http:", "http:/", "http:/a", "http:/a/b", "http:a/b", "http:?a", "http:#a", "http:///", "http:///a", "http:////a", "http://?a", "http://#a", "http://:", "http://:80", "http://:80/", "http://@", "http://@/", "http://u@", "http://u@/", "http://u@:80", "http://u:p@", "http:\\\\a", "http:/\\a", "https:a", "ftp:a", "ws:a", "wss:a", "https://", "ftp://", "ws://", "wss://", "ftp:/a", "ws:/a", "wss:/a", "https:/a", "HTTP:a", "WSS:/a",
	"http://a@b@c/", "http://@@a", "http://a@@b", "http://u[@a", "http://u%@a", "http://u%4@a", "http://u@a@", "http://u b@c", "http://u\xff@a", "http://u\"@a", "http://u^@a",
	"http://a:65536/", "http://a:65536", "http://a:99999", "http://a:100000", "http://a:4294967376", "http://a:18446744073709551696", "http://a:" + strings.Repeat("9", 5000), "http://a:b", "http://a:8a", "http://a:a8", "http://a:-1", "http://a:+1", "http://a: 1", "http://a:1 ", "http://a:1:2", "http://a::", "http://a::1", "http://a:1:", "http://a:\uff11", "http://a:1.", "http://a:%31", "http://a:1@", "http://[::1]:65536", "http://[::1]1", "http://[::1]a", "http://[::1", "http://::1/", "http://[::1]:a", "http://[::1]::", "http://[::1]:1:1", "http://[1:2]/",
	"http://a..b", "http://.", "http://..", "http://.a", "http://a+b", "http://a%41", "http://a!", "http://1", "http://1.", "http://1.2.3.4.", "http://1.2.3.4.5", "http://256.1.1.1", "http://a.1", "http://a.1./", "http://1.2.3:80/", "http://u@1.2.3/", "http://\xff", "http://a\x00/", "http://a\\b/", "http://a|b", "http://\x7f", "http://[]", "http://[:1]/", "http://[g::]/", "http://[::1%25a]/",
	"http://a/%4", "http://a/%", "http://a/%4g", "http://a/%g4", "http://a/%%41", "http://a/%é", "http://a/%-1", "http://a/%4%31", "http://a/ ", "http://a/b c", "http://a/\xff", "http://a/\xc3", "http://a/\"", "http://a/<", "http://a/>", "http://a/[", "http://a/]", "http://a/\\", "http://a/^", "http://a/`", "http://a/{", "http://a/|", "http://a/}", "http://a/\x00", "http://a/\x7f", "http://a/\n", "http://a\n", "http://a/\t",
	"http://a?b c", "http://a?%", "http://a?%4", "http://a?[", "http://a?\xff", "http://a?\"", "http://a#b#c", "http://a##", "http://a#b c", "http://a#%", "http://a#%4", "http://a#\xff", "http://a#?#", "http://a?b#c d", "http://a?b d#c", "http://a#[", "http://a?\\",
	"file:", "file:a", "file:a/b", "file:?a", "file:#a", "file:?/", "file:#/", "file:\\a", "file:C:/a", "file://a:1/", "file://a:", "file://u@a", "file://@a", "file://@", "file://:", "file://:1", "file://a b", "file://1", "file://1.2.3", "file://a..b", "file://.", "file://[]", "file://[::1]:1", "file:// ", "file:/ ", "file:/a b", "file:///a b", "file:///%", "file:/%4", "file:/a?b c", "file:/a#b#c", "file:/\xff", "file:///\xff", "file://\xff", "file://%41", "FILE:a", "file:%2f",
	"x:a b", "x: ", "x:%", "x:%4", "x:[", "x:\xff", "x:\\", "x:a\n", "x:\x00", "x:?%", "x:#%", "x:##", "x:? ", "x:# ", "x:\"", "x:<a>", "x:{}", "x:|", "x:^", "x:`", "x://a b/", "x:// ", "x://u@", "x://u@/", "x://@", "x://:", "x://:1", "x://:1/", "x://a:65536", "x://a:b", "x://a@b@c", "x://1", "x://1.2.3/", "x://.", "x://a..b", "x://%41", "x://a+b", "x://[", "x://[]", "x://[::1", "x://\xff", "x:///%", "x:/// ", "x://a/%", "x://a/ ", "x://-+", "x://*",
	"javascript:a[0]", "data:,a b", "mailto:a b", "mailto:<a@b>", "\ufeffhttp://a", "http\uff1a//a", "http:\uff0f\uff0fa",
}

// grow goes through all texts of up to most of these pieces.
func grow(most int, pieces []string, f func(s string)) {
	var more func(s string, left int)
	more = func(s string, left int) {
		f(s)
		if left == 0 {
			return
		}
		for _, p := range pieces {
			more(s+p, left-1)
		}
	}
	more("", most)
}

// near goes through s and all texts that are one byte away from it: changed, put in, taken out.
func near(s string, f func(s string)) {
	f(s)
	for i := range len(s) + 1 {
		for sign := range 256 {
			put := string([]byte{byte(sign)})
			f(s[:i] + put + s[i:])
			if i < len(s) {
				f(s[:i] + put + s[i+1:])
			}
		}
		if i < len(s) {
			f(s[:i] + s[i+1:])
		}
	}
}

// links goes through texts that are absolute, or nearly.
func links(f func(s string)) {
	for _, s := range append(absolutes, noAbsolutes...) {
		f(s)
	}
	for _, scheme := range []string{"http:", "file:", "x:"} {
		grow(5, []string{"a", "1", ".", "/", "//", ":", "@", "?", "#", "%4", "[::]", " "}, func(s string) { f(scheme + s) })
	}
	grow(5, []string{"a", "Z", "1", ":", "//", "+", "-", ".", "_", "é", "\xc3"}, f)
	for _, s := range []string{"https://a.b:80/c?d#e", "file:///a", "file:/a", "file://a/b", "mailto:x@y", "http://[::1]/", "x:/a/b", "x://u@a:1/b", "ws://u:p@1.2.3.4:56/%7f/", "http:a", "http://", "http://é/é", ""} {
		near(s, f)
	}
}

func TestP8_1Scheme(t *testing.T) {
	for s, want := range map[string]string{
		"HtTp:x:y": "http", "a:": "a", "Z:": "z", "x:y": "x", "a1+-.Z:b c": "a1+-.z", "file:": "file", "abcdefghijklmnopqrstuvwxyz:": "abcdefghijklmnopqrstuvwxyz", "ABCDEFGHIJKLMNOPQRSTUVWXYZ0123456789+-.:": "abcdefghijklmnopqrstuvwxyz0123456789+-.", "x::": "x", "x:\xff": "x", "x: ": "x", "http://a b": "http", "a.b:c": "a.b", "localhost:80": "localhost", "a--:": "a--",
		"": "", "a": "", ":": "", ":a": "", "::": "", "a b:c": "", "1:": "", "1a:": "", "+a:": "", "-a:": "", ".a:": "", " a:": "", "a :": "", "a_b:": "", "é:": "", "aé:": "", "a\u212a:": "", "\u017f:": "", "a/b:": "", "/a:": "", "a?b:": "", "a#b:": "", "//a:b": "", "a\n:": "", "\xff:": "", "a\xff:": "", "a\x00:": "", "a%41:": "", "a\uff1ab": "", "http": "", "http//a": "", "a@b:c": "", "[a]:": "", "a~:": "",
	} {
		got, ok := Scheme(s)
		if got != want || ok != (want != "") {
			t.Errorf("Scheme(%q) is %q, %v", s, got, ok)
		}
	}
	long := strings.Repeat("Ab+", 100000)
	if got, ok := Scheme(long + ":c"); !ok || got != strings.ToLower(long) {
		t.Error("Scheme of a long one")
	}
	links(func(s string) {
		got, ok := Scheme(s)
		if want, wantOK := slowScheme(s); got != want || ok != wantOK {
			t.Errorf("Scheme(%q) is %q, %v", s, got, ok)
		}
	})
}

func TestP8_1SchemeBytes(t *testing.T) {
	for i := range 256 {
		c := string([]byte{byte(i)})
		first := strings.Contains(alphabet, c)
		later := strings.Contains(alphabet+numerals+"+-.:", c) // with a second colon the first one ends the scheme
		for s, want := range map[string]bool{c + ":": first, c + "x:": first, "x" + c + ":": later, "x" + c + "x:": later, "x:" + c: true} {
			if _, ok := Scheme(s); ok != want {
				t.Errorf("Scheme(%q) is not %v", s, want)
			}
		}
	}
}

func TestP8_1Fine(t *testing.T) {
	for s, want := range map[string]bool{
		"": true, "a": true, alphabet + numerals + allMarks: true, "%41": true, "%fF": true, "%00%Aa%9f": true, "a%41b": true, "%414": true, "é": true, "日本 ": false, "日本": true, "\u0080": true, "\ufffd": true, "\U0010ffff": true, "%41é": true, "é%41": true, "//": true, "?": true, "@@": true, "::": true,
		" ": false, "%": false, "%4": false, "a%": false, "a%4": false, "%%": false, "%%41": false, "%4%": false, "%g0": false, "%0g": false, "%G0": false, "%0G": false, "%-1": false, "%é": false, "%4é": false, "%\uff14\uff11": false, "%4 ": false, "%:0": false, "%/0": false, "%0@": false, "%0`": false,
		"#": false, "a#b": false, "[": false, "]": false, "\"": false, "<": false, ">": false, "\\": false, "^": false, "`": false, "{": false, "|": false, "}": false, "\x00": false, "\x7f": false, "\t": false, "\n": false, "a\n": false, "a b": false,
		"\xff": false, "\x80": false, "\xc3": false, "\xa9": false, "a\xc3": false, "\xc3a": false, "\xc3%41\xa9": false, "é\xff": false, "\xffé": false, "\xc0\x80": false, "\xc1\xbf": false, "\xe0\x80\x80": false, "\xed\xa0\x80": false, "\xf4\x90\x80\x80": false, "\xf0\x80\x80\x80": false, "\xe2\x82": false, "%\xff": false,
	} {
		if Fine(s) != want {
			t.Errorf("Fine(%q) is not %v", s, want)
		}
	}
	long := strings.Repeat("a%41é", 100000)
	if !Fine(long) || Fine(long+"%") || Fine(long+"%4") || Fine(long+" ") || Fine(long+"\xc3") || Fine(strings.Repeat("%", 100000)) {
		t.Error("Fine of a long text")
	}
	against := func(s string) {
		if is := Fine(s); is != slowFine(s) {
			t.Errorf("Fine(%q) is %v", s, is)
		}
	}
	grow(6, []string{"a", "g", "4", "%", "é", "\xc3", "#", "/"}, against)
	for _, s := range []string{"", "a", "%41", "é", "a%4", "日%fFa"} {
		near(s, against)
	}
}

func TestP8_1FineBytes(t *testing.T) {
	for i := range 256 {
		c := string([]byte{byte(i)})
		is, hex := strings.Contains(alphabet+numerals+allMarks, c), strings.Contains(allHexes, c)
		for s, want := range map[string]bool{c: is, c + "a": is, "a" + c: is, "a" + c + "a": is, "é" + c + "é": is, "%" + c + "0": hex, "%0" + c: hex, "%" + c: false} {
			if Fine(s) != want {
				t.Errorf("Fine(%q) is not %v", s, want)
			}
		}
	}
	for sign := rune(128); sign <= utf8.MaxRune; sign++ {
		if utf8.ValidRune(sign) && (!Fine(string(sign)) || !Host(string(sign))) {
			t.Errorf("sign %x is not fine, or no host", sign)
		}
	}
}

func TestP8_1Host(t *testing.T) {
	for _, s := range hosts {
		if !Host(s) {
			t.Errorf("Host(%.80q) is false", s)
		}
	}
	for _, s := range noHosts {
		if Host(s) {
			t.Errorf("Host(%.80q) is true", s)
		}
	}
	against := func(s string) {
		if is := Host(s); is != slowHost(s) {
			t.Errorf("Host(%q) is %v", s, is)
		}
	}
	grow(7, []string{"a", "1", "256", ".", "-", "é", "@"}, against)
	grow(6, []string{"1", "0", "25", "5", ".", "3.", "1.2.3."}, against)
	grow(6, []string{"a", "_", ".", ":", "[", "]", "\xc3", "\xa9"}, against)
	for _, s := range []string{"", "a", "a.b", "a.", "1.2.3.4", "10.20.255.199", "[::1]", "[1:2:3:4:5:6:7:8]", "[1::ffff]", "é.é", "[::"} {
		near(s, against)
	}
}

func TestP8_1HostGroups(t *testing.T) {
	against := func(s string) {
		host := "[" + s + "]"
		if is := Host(host); is != slowHost(host) {
			t.Errorf("Host(%q) is %v", host, is)
		}
	}
	grow(8, []string{":", "1", "::", "2:3:4"}, against)
	grow(5, []string{":", "::", "a", "F0", "12345", "1:2:3:4:5", "g", ".", "[", "]"}, against)
	for ahead := range 10 {
		for behind := range 10 {
			left, right := strings.TrimSuffix(strings.Repeat("ab:", ahead), ":"), strings.TrimSuffix(strings.Repeat("1F:", behind), ":")
			if is := Host("[" + left + "::" + right + "]"); is != (ahead+behind < 8) {
				t.Errorf("%d groups, ::, %d groups: %v", ahead, behind, is)
			}
		}
		if is := Host("[" + strings.TrimSuffix(strings.Repeat("ab:", ahead), ":") + "]"); is != (ahead == 8) {
			t.Errorf("%d groups: %v", ahead, is)
		}
	}
	for n := range 20 {
		want, group := n >= 1 && n <= 4, strings.Repeat("0", n)
		for _, s := range []string{"[" + group + ":2:3:4:5:6:7:8]", "[1:2:3:4:5:6:7:" + group + "]", "[1:" + group + ":3::8]", "[::7:" + group + "]"} {
			if Host(s) != want {
				t.Errorf("Host(%q) is not %v", s, want)
			}
		}
	}
}

func TestP8_1HostNumbers(t *testing.T) {
	for n := range 1100 {
		for noughts := range 4 {
			label := strings.Repeat("0", noughts) + strconv.Itoa(n)
			want := n <= 255 && len(label) <= 3
			for at := range 4 {
				labels := []string{"1", "22", "255", "0"}
				labels[at] = label
				s := strings.Join(labels, ".")
				if Host(s) != want || Host(s+".") || Host(s+".1") || Host("1."+s) || Host("a."+s) || !Host(s+".a") || !Host(s+".a.") {
					t.Errorf("Host by %q", s)
				}
			}
			if Host(label) || !Host(label+".a") || Host("a."+label) {
				t.Errorf("Host by %q", label)
			}
		}
	}
}

func TestP8_2Absolute(t *testing.T) {
	for _, s := range absolutes {
		if !Absolute(s) {
			t.Errorf("Absolute(%.80q) is false", s)
		}
	}
	for _, s := range noAbsolutes {
		if Absolute(s) {
			t.Errorf("Absolute(%.80q) is true", s)
		}
	}
	links(func(s string) {
		if is := Absolute(s); is != slowAbsolute(s) {
			t.Errorf("Absolute(%q) is %v", s, is)
		}
	})
}

func TestP8_2Hosts(t *testing.T) {
	held := func(host string, want bool) {
		for _, form := range []string{"http://%s", "ftp://%s:1", "wss://u@%s/a", "https://u:p@%s:/a?b#c", "ws://%s?b", "file://%s", "FILE://%s/a", "file://%s#c", "x://%s", "x://u@%s:1/a"} {
			if s := fmt.Sprintf(form, host); Absolute(s) != want {
				t.Errorf("Absolute(%.80q) is not %v", s, want)
			}
		}
	}
	for _, host := range hosts {
		held(host, true)
	}
	for _, host := range noHosts {
		if host != "" && !strings.ContainsAny(host, "@:/?#") { // with one of these it is something else there
			held(host, false)
		}
	}
	for _, scheme := range []string{"http", "ftp", "https", "ws", "wss"} {
		if Absolute(scheme+"://") || Absolute(scheme+":///a") || Absolute(scheme+":/a") || Absolute(scheme+":a") || !Absolute(scheme+"://a") || !Absolute(scheme+"://u@a:1") {
			t.Errorf("%s is not special", scheme)
		}
		if !Absolute(scheme+"x:a") || !Absolute("x"+scheme+":a") {
			t.Errorf("%s with a letter more is special", scheme)
		}
	}
}

func TestP8_2Ports(t *testing.T) {
	for n := range 70000 {
		for _, noughts := range []string{"", "0", "000000"} {
			port, want := noughts+strconv.Itoa(n), n <= 65535
			if Absolute("http://a:"+port) != want || Absolute("x://u@[::]:"+port+"/") != want || Absolute("file://a:"+port) {
				t.Errorf("port %s", port)
			}
		}
	}
}

// Each part of an address takes just the signs of its own.
func TestP8_2Bytes(t *testing.T) {
	const signs = alphabet + numerals + allMarks
	const hostSigns = alphabet + numerals + "-_."
	for i := range 256 {
		c := string([]byte{byte(i)})
		fine, host := strings.Contains(signs, c), strings.Contains(hostSigns, c)
		for s, want := range map[string]bool{
			"http://a/b" + c + "b":    fine || c == "#",
			"http://a?b" + c + "b":    fine || c == "#",
			"http://a#b" + c + "b":    fine,
			"http://u" + c + "u@a":    fine && c != "@" || c == "#",
			"http://u@a" + c + "a":    host || c == "/" || c == "?" || c == "#",
			"http://u@a:1" + c + "1":  strings.Contains(numerals+"/?#", c),
			"file://a" + c + "a":      host || c == "/" || c == "?" || c == "#",
			"file:/a" + c + "a":       fine || c == "#",
			"x://u@a" + c + "a":       host || c == "/" || c == "?" || c == "#",
			"x:a" + c + "a":           fine || c == "#",
			"x:/" + c + "/":           fine || c == "#",
			"x" + c + "x:a":           strings.Contains(alphabet+numerals+"+-.:", c),
			"http://[::" + c + "]":    strings.Contains(allHexes, c),
			"http://1.2.3." + c:       strings.Contains(numerals+alphabet+"-_", c),
			"http://1.2.3.4" + c:      strings.Contains(numerals+alphabet+"-_:/?#", c),
			"http://a" + c + "//b":    host || c == "/" || c == "?" || c == "#" || c == ":",
			"http:" + c + "/a":        c == "/",
			"http:/" + c + "a":        c == "/",
			"file:" + c + "a":         c == "/",
			"file:" + c + "//a":       c == "/",
			"file:/" + c + "b@c":      fine && c != "/" || c == "#",
			"file://" + c:             strings.Contains(alphabet+"-_/?#", c),
			"http" + c + "://a":       strings.Contains(alphabet+numerals+"+-.", c),
			"http" + c + "a":          false,
			"http://a:80" + c + "b@c": fine && c != "@" || c == "#",
		} {
			if Absolute(s) != want {
				t.Errorf("Absolute(%q) is not %v", s, want)
			}
		}
	}
}

func TestLongTexts(t *testing.T) {
	for _, piece := range []string{":", "/", "@", "?", "#", ".", "%", "[", "]", "a.", "1.", "::", "1:", "é", "\xff"} {
		long := strings.Repeat(piece, 200000)
		for _, ahead := range []string{"", "http:", "http://", "http://a", "http://a:", "http://[", "file:", "file://", "x:", "x://", "x:/"} {
			Absolute(ahead + long)
			Absolute(ahead + long + "a")
		}
		Host(long)
		Host("[" + long + "]")
		Scheme(long)
		Fine(long)
	}
}

// cases is s with the letters of its scheme in other cases.
func cases(s string) []string {
	at := strings.Index(s, ":")
	if at < 0 {
		at = 0
	}
	mixed := []byte(s[:at])
	for i, c := range mixed {
		if i%2 == 0 && strings.IndexByte(alphabet, c) >= 0 {
			mixed[i] = c ^ 32
		}
	}
	upper := strings.Map(func(r rune) rune {
		if 'a' <= r && r <= 'z' {
			return r - 32
		}
		return r
	}, s[:at])
	return []string{upper + s[at:], string(mixed) + s[at:]}
}

func TestP8_3Case(t *testing.T) {
	links(func(s string) {
		if !utf8.ValidString(s) {
			return
		}
		name, ok := Scheme(s)
		for _, other := range cases(s) {
			if Absolute(other) != Absolute(s) {
				t.Errorf("Absolute(%q) is %v, of %q it is %v", s, Absolute(s), other, Absolute(other))
			}
			if n, o := Scheme(other); n != name || o != ok {
				t.Errorf("Scheme(%q) is %q, %v, of %q it is %q, %v", s, name, ok, other, n, o)
			}
		}
	})
}

func TestP8_3Fragment(t *testing.T) {
	links(func(s string) {
		if strings.Contains(s, "#") {
			return
		}
		is := Absolute(s)
		for _, fine := range []string{"", "a", "?", ":", "/", "//a:b@c/", "%41", "é", allMarks} {
			if Absolute(s+"#"+fine) != is {
				t.Errorf("Absolute(%q) is %v, with #%s it is not", s, is, fine)
			}
		}
		for _, wrong := range []string{"#", " ", "%", "a%4", "\xc3", "a#b", "["} {
			if Absolute(s + "#" + wrong) {
				t.Errorf("Absolute(%q) with #%q", s, wrong)
			}
		}
	})
}

// What is answered is new memory (rule R4), even where nothing had to be changed.
func TestAnswersAreNew(t *testing.T) {
	s := strings.Repeat("a", 100) + "://b"
	got, ok := Scheme(s)
	if !ok || got != strings.Repeat("a", 100) {
		t.Errorf("Scheme(%q) is %q, %v", s, got, ok)
	}
	if at, from := uintptr(unsafe.Pointer(unsafe.StringData(got))), uintptr(unsafe.Pointer(unsafe.StringData(s))); at >= from && at < from+uintptr(len(s)) {
		t.Error("Scheme answers memory of its argument")
	}
}
