package path

import (
	"slices"
	"strings"
	"testing"
	"unicode/utf8"

	"palinode/api"
	"palinode/pack"
)

const (
	mostParts = 8  // how many parts a path has at the most
	mostChars = 24 // how many characters a name has at the most
)

// of tells parts, one by one.
func of(parts ...string) []string { return parts }

// times tells a text, so many times.
func times(s string, n int) string { return strings.Repeat(s, n) }

// many tells so many parts that are all alike.
func many(part string, n int) []string { return slices.Repeat(of(part), n) }

// edgeNames tells names, no two of which are alike: of any characters that may stand, at the edge of how many there may be.
func edgeNames() []string {
	return []string{
		"a", "b", "ab", "abc", "A", "0", ".", "..", " ", "  ", "a b", "~", "é", "ß", "世界", "𝄞", "\u00A0", "\u07FF", "\u0800", "\uD7FF", "\uE000", "\uFFFC", "\uFFFE", "\uFFFF", "\U00010000", "\U0010FFFF",
		// slashes and escapes, at the beginning, in the middle, at the end and twice in a row
		"/", `\`, "//", `\\`, `/\`, `\/`, "/a", `\a`, "a/", `a\`, "a/b", `a\b`, "a//b", `a\\b`, "//a", `\\a`, "a//", `a\\`, "/a/", `\a\`, `a\/b`, `a/\b`, `é/世\𝄞`, `\n`, `"`, "'",
		// 24 characters of one to four bytes each
		times("a", 23), times("a", 24), times("é", 23), times("é", 24), times("世", 24), times("𝄞", 24), times("/", 23), times("/", 24), times(`\`, 24), times(`/\`, 12), times(" ", 24), times("a", 23) + "𝄞", "𝄞" + times("a", 23),
	}
}

// wrongNames tells texts that are no names.
func wrongNames() []string {
	return []string{
		"", times("a", 25), times("a", 26), times("a", 48), times("a", 1000), times("é", 25), times("世", 25), times("𝄞", 25), times("/", 25), times(`\`, 25), times("a", 24) + "𝄞",
		// characters that may not stand
		"\x00", "\t", "\n", "\x1F", "\x7F", "\u0080", "\u009F", "a\x00", "\x00a", "a\tb", "a\n", "\x7Fa", "a\u0085b", times("a", 23) + "\t", times("a", 24) + "\t", "\uFFFD", "a\uFFFD", "\uFFFDa", "a\uFFFDb", times("\uFFFD", 24),
		// bytes that are no character's: alone, cut short, a surrogate, too long a form, above all characters
		"\xFF", "a\xFF", "\xFFa", "a\xFFb", "\xFE", "\x80", "\xBF", "a\x80", "é\xA9", "\xC3", "a\xC3", "\xC3a", "\xE4\xB8", "\xE4", "\xE4\xB8a", "\xF0\x9D\x84", "\xF0\x9D", "\xED\xA0\x80", "\xED\xBF\xBF", "a\xED\xA0\x80b", "\xC0\x80", "\xC1\xBF", "\xC0\xAF", "\xC1\x9C", "\xE0\x80\xAF", "\xE0\x9F\xBF", "\xF0\x80\x80\xAF", "\xF0\x8F\xBF\xBF", "\xF4\x90\x80\x80", "\xEF\xBF", times("a", 23) + "\xFF", times("a", 24) + "\xFF", "/\xFF", "\\\xFF", "\xFF/",
	}
}

// paths tells paths, no two of which are alike.
func paths() (l [][]string) {
	for _, s := range edgeNames() {
		l = append(l, of(s), of(s, "x"), of("x", s), of("x", s, s))
	}
	for n := 4; n <= mostParts; n++ {
		for _, s := range of("a", "ab", "/", `\`, times("𝄞", mostChars)) {
			l = append(l, many(s, n), append(many(s, n-1), "z"), append(of("z"), many(s, n-1)...))
		}
	}
	return append(l, of("a", "b"), of("a", "b", "c"), of("a", "c"), of("a", "bc"), of("ab", "c"), of("1", "2", "3", "4", "5", "6", "7", "8"), of("8", "7", "6", "5", "4", "3", "2", "1"))
}

// notPaths tells lists that are no paths, and what is wrong with each.
func notPaths() (lists [][]string, faults []api.Errno) {
	add := func(e api.Errno, l ...string) {
		lists, faults = append(lists, l), append(faults, e)
	}
	add(api.ErrPath)
	for _, s := range wrongNames() {
		add(api.ErrPath, s)
		for _, n := range []int{2, 3, mostParts} {
			for i := range n {
				l := many("a", n)
				l[i] = s
				add(api.ErrPath, l...)
			}
		}
		for _, i := range []int{0, 4, mostParts} {
			l := many("a", mostParts+1)
			l[i] = s
			add(api.ErrDeep, l...)
		}
		add(api.ErrPath, many(s, mostParts)...)
		add(api.ErrDeep, many(s, mostParts+1)...)
	}
	for _, n := range []int{9, 10, 16, 17, 100, 255, 256, 257, 264, 1000} {
		add(api.ErrDeep, many("a", n)...)
	}
	return lists, faults
}

// allTexts tells all texts of so many of these bytes at the most.
func allTexts(bytes string, most int) []string {
	l := of("")
	for from := 0; most > 0; most-- {
		to := len(l)
		for _, s := range l[from:to] {
			for i := range len(bytes) {
				l = append(l, s+bytes[i:i+1])
			}
		}
		from = to
	}
	return l
}

// allLists tells all lists of so many of these parts at the most, that of none first.
func allLists(parts []string, most int) [][]string {
	l := [][]string{nil}
	for from := 0; most > 0; most-- {
		to := len(l)
		for _, p := range l[from:to] {
			for _, s := range parts {
				l = append(l, append(slices.Clone(p), s))
			}
		}
		from = to
	}
	return l
}

// slowName is what the document says of a name.
func slowName(s string) bool {
	if !utf8.ValidString(s) {
		return false
	}
	for _, r := range s {
		if r < 0x20 || r >= 0x7F && r <= 0x9F || r == 0xFFFD {
			return false
		}
	}
	n := utf8.RuneCountInString(s)
	return n >= 1 && n <= mostChars
}

// slowCheck is what the document says of a path.
func slowCheck(p []string) api.Errno {
	if len(p) == 0 {
		return api.ErrPath
	}
	if len(p) > mostParts {
		return api.ErrDeep
	}
	for _, s := range p {
		if !slowName(s) {
			return api.ErrPath
		}
	}
	return api.OK
}

// bytesOrder tells which text stands first, byte by byte.
func bytesOrder(a, b string) int {
	for i := 0; ; i++ {
		switch {
		case i == len(a) && i == len(b):
			return 0
		case i == len(a) || i < len(b) && a[i] < b[i]:
			return -1
		case i == len(b) || a[i] > b[i]:
			return 1
		}
	}
}

// slowCompare is what the document says of the order, part by part.
func slowCompare(a, b []string) int {
	for i := 0; ; i++ {
		switch {
		case i == len(a) && i == len(b):
			return 0
		case i == len(a):
			return -1
		case i == len(b):
			return 1
		}
		if order := bytesOrder(a[i], b[i]); order != 0 {
			return order
		}
	}
}

// slowUnder is what the document says of beginnings: one of p's, down to no parts, is the other one.
func slowUnder(p, above []string) bool {
	for n := range len(p) + 1 {
		if slowCompare(p[:n], above) == 0 {
			return true
		}
	}
	return false
}

// slowText is what the document says of a path's text, byte by byte.
func slowText(p []string) string {
	var l []byte
	for i, s := range p {
		if i > 0 {
			l = append(l, '/')
		}
		for _, b := range []byte(s) {
			if b == '/' || b == '\\' {
				l = append(l, '\\')
			}
			l = append(l, b)
		}
	}
	return string(l)
}

// slowSplit tells the texts between slashes, byte by byte, and whether each escape has a slash or an escape behind it.
func slowSplit(s string) (l []string, ok bool) {
	var part []byte
	for i := 0; i < len(s); i++ {
		switch s[i] {
		case '/':
			l, part = append(l, string(part)), nil
			continue
		case '\\':
			i++
			if i == len(s) || s[i] != '/' && s[i] != '\\' {
				return nil, false
			}
		}
		part = append(part, s[i])
	}
	return append(l, string(part)), true
}

// slowParse is what the document says of texts.
func slowParse(s string) ([]string, api.Errno) {
	l, ok := slowSplit(s)
	if s == "" || !ok {
		return nil, api.ErrPath
	}
	if e := slowCheck(l); e != api.OK {
		return nil, e
	}
	return l, api.OK
}

// slowNumber tells a number's bytes, of those below 2^14.
func slowNumber(n int) string {
	if n < 128 {
		return string([]byte{byte(n)})
	}
	return string([]byte{byte(n%128 + 128), byte(n / 128)})
}

// slowCode is what the document says of a path's bytes.
func slowCode(p []string) string {
	s := slowNumber(len(p))
	for _, part := range p {
		s += slowNumber(len(part)) + part
	}
	return s
}

// want holds parts against those that are wanted, one by one.
func want(t *testing.T, what string, got, wanted []string) {
	t.Helper()
	if !slices.Equal(got, wanted) {
		t.Fatalf("%.80q: %.200q, want %.200q", what, got, wanted)
	}
}

// wantCheck holds what is wrong with parts.
func wantCheck(t *testing.T, p []string, wanted api.Errno) {
	t.Helper()
	if got := Check(p); got != wanted || slowCheck(p) != wanted {
		t.Errorf("Check(%.200q) = %d, want %d", p, got, wanted)
	}
}

// Promise 10.1: what is a path, and what is wrong with what is none.
func TestCheck(t *testing.T) {
	wantCheck(t, nil, api.ErrPath)
	wantCheck(t, of(), api.ErrPath)
	wantCheck(t, make([]string, 0, 9), api.ErrPath)
	for n := 1; n <= 30; n++ {
		wanted := api.OK
		if n > 8 {
			wanted = api.ErrDeep
		}
		wantCheck(t, many("a", n), wanted)
		wantCheck(t, many(times("𝄞", 24), n), wanted)
	}
	for _, p := range paths() {
		wantCheck(t, p, api.OK)
	}
	lists, faults := notPaths()
	for i, l := range lists {
		wantCheck(t, l, faults[i])
	}
	for _, s := range edgeNames() {
		if !slowName(s) {
			t.Errorf("%q is no name", s)
		}
		for i := range mostParts {
			p := many("a", mostParts)
			p[i] = s
			wantCheck(t, p, api.OK)
		}
	}
	for _, c := range []struct {
		p      []string
		wanted api.Errno
	}{
		{of(""), api.ErrPath}, {of("", "a"), api.ErrPath}, {of("a", ""), api.ErrPath}, {of("a", "", "b"), api.ErrPath}, {of("a\x00"), api.ErrPath}, {of("a", "\uFFFD"), api.ErrPath}, {of("\xFF", "a"), api.ErrPath}, {of(times("a", 24)), api.OK}, {of(times("a", 25)), api.ErrPath}, {of(times("𝄞", 24), times("𝄞", 25)), api.ErrPath},
		{of("1", "2", "3", "4", "5", "6", "7", "8"), api.OK}, {of("1", "2", "3", "4", "5", "6", "7", ""), api.ErrPath}, {of("1", "2", "3", "4", "5", "6", "7", "8", "9"), api.ErrDeep}, {of("", "2", "3", "4", "5", "6", "7", "8", "9"), api.ErrDeep}, {of("1", "2", "3", "4", "5", "6", "7", "8", ""), api.ErrDeep}, {make([]string, 9), api.ErrDeep}, {make([]string, 8), api.ErrPath},
	} {
		wantCheck(t, c.p, c.wanted)
	}
	if api.MaxDepth != mostParts || api.MaxName != mostChars {
		t.Error("other limits")
	}
}

// Promise 10.1: all short lists of names and others, and each of many characters alone, held against what the document says.
func TestCheckOfMany(t *testing.T) {
	for _, p := range allLists(of("a", "", "é", "/", "\t", "\xFF", "\uFFFD", times("a", 25)), 4) {
		wantCheck(t, p, slowCheck(p))
	}
	for _, p := range allLists(of("a", ""), 10) {
		wantCheck(t, p, slowCheck(p))
	}
	for r := rune(0); r < 0x11000; r++ {
		s := string(r)
		if r >= 0xD800 && r < 0xE000 { // a surrogate, as if it were a character
			s = string([]byte{0xED, byte(0x80 + r>>6%64), byte(0x80 + r%64)})
		}
		wantCheck(t, of(s), slowCheck(of(s)))
		wantCheck(t, of("a", s, "b"), slowCheck(of("a", s, "b")))
	}
	for _, s := range allTexts("a\x00\x7F\x80\xA0\xBF\xC1\xC2\xE0\xED\xEF\xF0\xF4\xFF", 4) {
		wantCheck(t, of(s), slowCheck(of(s)))
	}
}

// Promise 10.1: paths stand part by part, byte by byte; one that goes on stands behind.
func TestCompare(t *testing.T) {
	for _, c := range []struct{ a, b []string }{
		// one that goes on; no parts
		{of("a"), of("a", "a")}, {of("a"), of("a", "")}, {of("a", "b"), of("a", "b", "a")}, {many("a", 7), many("a", 8)}, {nil, of("a")}, {nil, of("")}, {of(), of("", "")},
		// a part that is the beginning of the other one
		{of("a"), of("ab")}, {of("a", "b"), of("a", "bc")}, {of("a", "z"), of("ab", "a")}, {of("a", "z", "z"), of("ab")}, {of(""), of("a")}, {of("a", "", "z"), of("a", "b")}, {of("a", "/"), of("a/")},
		// parted elsewhere
		{of("a", "b"), of("ab")}, {of("a", "b"), of("a/b")}, {of("a", "bc"), of("ab", "c")}, {of("a", "b", "c"), of("a", "b/c")}, {of("a", "b/c"), of("a/b", "c")}, {of("a", "\x00b"), of("a\x00", "b")}, {of("a", "~"), of("a ", "b")}, {of("a", "b"), of("a\x00b")}, {of("a", "b"), of("a ")}, {of("a", "b"), of("a.")}, {of("a", "b"), of("a-b")},
		// the first and the later parts against one another
		{of("a", "z"), of("b", "a")}, {of("a", "z", "z"), of("b", "a", "a")}, {of("a", "b", "z"), of("a", "c", "a")}, {of("a", "z", "z", "z"), of("b")}, {many("a", 8), of("b")}, {of("a", "a", "z"), of("a", "b")},
		// bytes, not runes, not letters, and with no sign
		{of("a"), of("é")}, {of("z"), of("é")}, {of("~"), of("\u00A0")}, {of("é"), of("世")}, {of("\uFFFC"), of("𝄞")}, {of("\uFFFF"), of("\U00010000")}, {of("\x7F"), of("\x80")}, {of("a\x7F"), of("a\x80")}, {of("a\x80"), of("a\xFF")}, {of("a\x00"), of("a\xFF")}, {of("é"), of("ê")}, {of("\xC3"), of("é")}, {of("a", "z"), of("a", "é")}, {of("B"), of("a")}, {of("10"), of("9")}, {of("Z"), of("a")}, {of("a"), of("b")}, {of(" "), of("!")}, {of("\uE000"), of("\U00010000")},
		// what are no paths
		{many("a", 9), many("a", 10)}, {many("a", 20), append(many("a", 8), "b")}, {append(many("a", 100), "a"), append(many("a", 100), "b")}, {of("", ""), of("", "a")}, {of("\xFE"), of("\xFF")}, {of(times("a", 1000)), of(times("a", 999) + "b")}, {of(times("a", 99)), of(times("a", 100))},
	} {
		if Compare(c.a, c.b) != -1 || Compare(c.b, c.a) != 1 || slowCompare(c.a, c.b) != -1 {
			t.Errorf("Compare(%.100q, %.100q) = %d, and round %d", c.a, c.b, Compare(c.a, c.b), Compare(c.b, c.a))
		}
	}
	if Compare(nil, nil) != 0 || Compare(nil, of()) != 0 || Compare(of(), nil) != 0 || Compare(of(""), nil) != 1 {
		t.Error("of no parts")
	}
	lists, _ := notPaths()
	for _, a := range append(append(paths(), lists...), nil) {
		if Compare(a, a) != 0 || Compare(a, slices.Clone(a)) != 0 || !Same(a, slices.Clone(a)) || !Under(a, slices.Clone(a)) {
			t.Errorf("%.100q and itself: %d", a, Compare(a, a))
		}
		if Compare(a, append(slices.Clone(a), "")) != -1 || Compare(append(slices.Clone(a), "a"), a) != 1 {
			t.Errorf("%.100q and one that goes on", a)
		}
	}
}

// wantTwo holds all that is asked of two lists against what the document says.
func wantTwo(t *testing.T, a, b []string) {
	t.Helper()
	order := slowCompare(a, b)
	if Compare(a, b) != order || Same(a, b) != (order == 0) || Under(a, b) != slowUnder(a, b) {
		t.Fatalf("%.100q and %.100q: %d, %t, %t", a, b, Compare(a, b), Same(a, b), Under(a, b))
	}
}

// Promise 10.1: all two of many lists, paths or not, held against what the document says.
func TestTwoOfMany(t *testing.T) {
	lists := append(paths(), allLists(of("", "a", "b", "ab", "/", "\xFF"), 3)...)
	lists = append(lists, many("a", 9), many("a", 10), append(many("a", 9), "b"), many("", 9))
	for _, a := range lists {
		for _, b := range lists {
			wantTwo(t, a, b)
		}
	}
	texts := allTexts("a/\x7F\x80\xFF", 3)
	for _, a := range texts {
		for _, b := range texts {
			wantTwo(t, of(a), of(b))
			wantTwo(t, of("x", a, "y"), of("x", b, "x"))
		}
	}
}

// Promise 10.1: whether two paths are the same; nil and empty lists are.
func TestSame(t *testing.T) {
	for _, c := range []struct {
		a, b   []string
		wanted bool
	}{
		{nil, nil, true}, {nil, of(), true}, {of(), of(), true}, {of("a"), of("a"), true}, {of("a", "b"), of("a", "b"), true}, {many("a", 8), many("a", 8), true}, {many("a", 9), many("a", 9), true}, {of(""), of(""), true}, {of("\xFF"), of("\xFF"), true}, {of("世", "/"), of("世", "/"), true},
		{nil, of("a"), false}, {nil, of(""), false}, {of(), of(""), false}, {of("a"), of("b"), false}, {of("a"), of("A"), false}, {of("a"), of("a "), false}, {of("a"), of("ab"), false},
		// alike in all but the last part, or the first one; one that goes on
		{of("a", "b"), of("a", "c"), false}, {append(many("a", 7), "b"), append(many("a", 7), "c"), false}, {append(of("b"), many("a", 7)...), append(of("c"), many("a", 7)...), false}, {of("a", "b", "c"), of("a", "x", "c"), false}, {of("a"), of("a", "a"), false}, {of("a"), of("a", ""), false}, {many("a", 7), many("a", 8), false}, {many("a", 8), many("a", 9), false}, {of("a", "b"), of("b", "a"), false},
		{of("a", "b"), of("ab"), false}, {of("a", "b"), of("a/b"), false}, {of("a", "bc"), of("ab", "c"), false}, {of("a/b", "c"), of("a", "b/c"), false}, {of("\xFF"), of("\uFFFD"), false}, {of("é"), of("e\u0301"), false},
	} {
		if Same(c.a, c.b) != c.wanted || Same(c.b, c.a) != c.wanted {
			t.Errorf("Same(%q, %q) = %t, and round %t", c.a, c.b, Same(c.a, c.b), Same(c.b, c.a))
		}
	}
	l := paths()
	for i, a := range l {
		for j, b := range l {
			if Same(a, b) != (i == j) {
				t.Fatalf("Same(%q, %q) = %t", a, b, Same(a, b))
			}
		}
	}
}

// Promise 10.1: whether a path begins with another one, or is it.
func TestUnder(t *testing.T) {
	for _, c := range []struct {
		p, above []string
		wanted   bool
	}{
		{nil, nil, true}, {of(), nil, true}, {nil, of(), true}, {of("a"), nil, true}, {of("a"), of(), true}, {of(""), nil, true}, {nil, of("a"), false}, {of(), of(""), false},
		{of("a"), of("a"), true}, {of("a", "b"), of("a"), true}, {of("a", "b"), of("a", "b"), true}, {of("a", "b", "c"), of("a"), true}, {of("a", "b", "c"), of("a", "b"), true}, {many("a", 8), many("a", 7), true}, {many("a", 9), many("a", 8), true}, {many("a", 9), many("a", 9), true},
		// one that goes on
		{of("a"), of("a", "b"), false}, {of("a", "b"), of("a", "b", "c"), false}, {many("a", 7), many("a", 8), false}, {of("a"), of("a", ""), false}, {of("a"), of("a", "a"), false},
		// a part that is only the beginning of the other one's
		{of("ab"), of("a"), false}, {of("a"), of("ab"), false}, {of("a", "bc"), of("a", "b"), false}, {of("a", "b"), of("a", "bc"), false}, {of("ab", "c"), of("a"), false}, {of("a", "b"), of("ab"), false}, {of("ab"), of("a", "b"), false}, {of("a/b"), of("a"), false}, {of("a/b"), of("a", "b"), false}, {of("a", "b"), of("a/b"), false}, {of("a"), of(""), false}, {of("a", "b"), of("a", ""), false}, {of("世"), of("\xE4"), false},
		// unlike in the first, the middle and the last part
		{of("a", "b", "c"), of("x", "b", "c"), false}, {of("a", "b", "c"), of("a", "x", "c"), false}, {of("a", "b", "c"), of("a", "b", "x"), false}, {of("a", "b", "c"), of("x"), false}, {of("a", "b", "c"), of("a", "x"), false}, {of("a", "b", "c"), of("b"), false}, {of("a", "b", "c"), of("c"), false}, {of("a", "b", "c"), of("b", "c"), false}, {of("a", "b", "c"), of("a", "c"), false}, {of("a"), of("A"), false}, {of("a", "b"), of("a", "B"), false},
		{of("", ""), of(""), true}, {of("\xFF", "a"), of("\xFF"), true}, {of("\xFF", "a"), of("\uFFFD"), false},
	} {
		if Under(c.p, c.above) != c.wanted {
			t.Errorf("Under(%q, %q) = %t", c.p, c.above, Under(c.p, c.above))
		}
	}
	for _, p := range paths() {
		for n := range len(p) + 1 {
			if !Under(p, p[:n]) || Under(p[:n], p) != (n == len(p)) {
				t.Errorf("Under(%q, the first %d) = %t, and round %t", p, n, Under(p, p[:n]), Under(p[:n], p))
			}
			if n > 0 {
				other := slices.Clone(p[:n])
				other[n-1] += "x"
				if Under(p, other) || Under(other, p) {
					t.Errorf("%q is under %q, or that under it", p, other)
				}
			}
		}
	}
}

// Promise 10.3: of two that one path begins with one begins with the other one; both stand ahead of it, or are it.
func TestBeginnings(t *testing.T) {
	lists := append(allLists(of("a", "b", "ab", "/"), 4), many("a", 7), many("a", 8), append(many("a", 7), "b"))
	for _, p := range lists {
		var above [][]string
		for _, o := range lists {
			if Under(p, o) {
				above = append(above, o)
			}
		}
		for _, a := range above {
			if order := Compare(a, p); order > 0 || (order == 0) != Same(a, p) || (order == 0) != Under(a, p) {
				t.Fatalf("%q begins with %q, whose order is %d", p, a, order)
			}
			for _, b := range above {
				if !Under(a, b) && !Under(b, a) {
					t.Fatalf("%q begins with %q and %q", p, a, b)
				}
				if Under(a, b) && Under(b, a) != Same(a, b) {
					t.Fatalf("%q and %q begin with each other", a, b)
				}
			}
		}
		if len(p) <= 4 && len(above) != len(p)+1 {
			t.Fatalf("%q begins with %q", p, above)
		}
	}
}

// Promise 10.1 and 10.3: paths stand in one row: the order turns round, and goes on; what begins with a path stands right behind it, or is it.
func TestOneRow(t *testing.T) {
	l := append(paths(), allLists(of("d", "c", "cd", "c/d", "ê"), 2)...)
	slices.SortFunc(l, slowCompare)
	for i, a := range l {
		for j, b := range l {
			order := Compare(a, b)
			if (order < 0) != (i < j) || (order == 0) != (i == j) || order != -Compare(b, a) || order < -1 || order > 1 {
				t.Fatalf("%q and %q: %d, and round %d", a, b, order, Compare(b, a))
			}
			if Under(a, b) && order < 0 {
				t.Fatalf("%q begins with %q, and stands ahead", a, b)
			}
		}
	}
	for i, a := range l { // those that begin with it are not parted by others
		under := 0
		for _, b := range l[i:] {
			if Under(b, a) {
				under++
			}
		}
		for _, b := range l[i : i+under] {
			if !Under(b, a) {
				t.Fatalf("%q stands among those that begin with %q", b, a)
			}
		}
	}
	few := allLists(of("a", "b", "ab", ""), 3)
	for _, a := range few {
		for _, b := range few {
			for _, c := range few {
				if Compare(a, b) < 0 && Compare(b, c) < 0 && Compare(a, c) >= 0 || Compare(a, b) == 0 && Compare(a, c) != Compare(b, c) || Under(a, b) && Under(b, c) && !Under(a, c) {
					t.Fatalf("%q, %q and %q do not go on", a, b, c)
				}
			}
		}
	}
	got := slices.Clone(l)
	slices.Reverse(got)
	slices.SortFunc(got, Compare)
	for i := range l {
		want(t, "sorted", got[i], l[i])
	}
}

// Promise 10.2: paths as texts, and back.
func TestText(t *testing.T) {
	for _, c := range []struct {
		p      []string
		wanted string
	}{
		{of("a"), "a"}, {of("a", "b"), "a/b"}, {of("a", "b", "c"), "a/b/c"}, {of("1", "2", "3", "4", "5", "6", "7", "8"), "1/2/3/4/5/6/7/8"}, {of("世", "é", "𝄞"), "世/é/𝄞"}, {of(" ", "  "), " /  "}, {of(".", ".."), "./.."}, {of(`"`, "'"), `"/'`},
		{of("a/b", "c"), `a\/b/c`}, {of("a", "b/c"), `a/b\/c`}, {of("a/b"), `a\/b`}, {of(`a\b`), `a\\b`}, {of("/"), `\/`}, {of(`\`), `\\`}, {of("/", "/"), `\//\/`}, {of(`\`, `\`), `\\/\\`}, {of(`\`, "/"), `\\/\/`}, {of("/", `\`), `\//\\`},
		{of("/a"), `\/a`}, {of(`\a`), `\\a`}, {of("a/"), `a\/`}, {of(`a\`), `a\\`}, {of("a/", "b"), `a\//b`}, {of(`a\`, "b"), `a\\/b`}, {of("a", "/b"), `a/\/b`}, {of("a", `\b`), `a/\\b`}, {of("//"), `\/\/`}, {of(`\\`), `\\\\`}, {of("a//b"), `a\/\/b`}, {of(`a\\b`), `a\\\\b`}, {of(`\/`), `\\\/`}, {of(`/\`), `\/\\`}, {of(`a\/b`, "c"), `a\\\/b/c`}, {of("é/世", `𝄞\é`), `é\/世/𝄞\\é`},
		{of(times("a", 24), times("/", 24)), times("a", 24) + "/" + times(`\/`, 24)}, {many(times(`\`, 24), 8), strings.Join(many(times(`\\`, 24), 8), "/")}, {many("/", 8), `\//\//\//\//\//\//\//\/`},
	} {
		if got := Text(c.p); got != c.wanted {
			t.Errorf("Text(%q) = %s, want %s", c.p, got, c.wanted)
		}
		got, e := Parse(c.wanted)
		want(t, c.wanted, got, c.p)
		if e != api.OK {
			t.Errorf("Parse(%s): %d", c.wanted, e)
		}
	}
	// what are no paths are told so, too: no parts, parts of no bytes, too many, and no characters
	for _, c := range []struct {
		p      []string
		wanted string
	}{
		{nil, ""}, {of(), ""}, {of(""), ""}, {of("", ""), "/"}, {of("", "", ""), "//"}, {of("a", ""), "a/"}, {of("", "a"), "/a"}, {of("a", "", "b"), "a//b"}, {of("", "/"), `/\/`}, {many("a", 9), "a/a/a/a/a/a/a/a/a"}, {of("\xFF/", "\\\xC3"), "\xFF\\//\\\\\xC3"}, {of("\t", "\x00"), "\t/\x00"}, {of(times("/", 25)), times(`\/`, 25)},
	} {
		if got := Text(c.p); got != c.wanted {
			t.Errorf("Text(%q) = %q, want %q", c.p, got, c.wanted)
		}
	}
	lists, _ := notPaths()
	for _, p := range append(paths(), lists...) {
		if got := Text(p); got != slowText(p) {
			t.Errorf("Text(%.100q) = %.100q, want %.100q", p, got, slowText(p))
		}
	}
}

// wantFault parses a text that is no path's.
func wantFault(t *testing.T, s string, wanted api.Errno) {
	t.Helper()
	if p, e := Parse(s); p != nil || e != wanted {
		t.Errorf("Parse(%.100q) = %.100q, %d, want %d", s, p, e, wanted)
	}
	if _, e := slowParse(s); e != wanted {
		t.Errorf("slowly, %.100q is parsed with %d, want %d", s, e, wanted)
	}
}

// Promise 10.2: what is like a path's text and is none is told with an error, and no parts.
func TestParseWrong(t *testing.T) {
	for _, s := range []string{
		"", "/", "//", "a/", "/a", "a//b", "a/b/", "/a/b", "a/b//c", "a//", "//a", "/////",
		// an escape at the end, and ahead of another byte
		`\`, `a\`, `a/\`, `\\\`, `a\\\`, `a/b\`, `\/\`, `/\`, `\a`, `a\b`, `a/\b`, `\ `, `\"`, `\n`, "\\\x00", "\\\xFF", `\é`, `\世`, `a\/\b`, `\\\a`, `a\b/c`, `a/b\c/d`, `\a/b`, `a\\\b`,
		// a part of no bytes beside one that is quoted
		`\//`, `/\/`, `\\/`, `/\\`, `a\//`, `/a\/`,
		// no names: 25 characters, what may not stand, and no UTF-8
		times("a", 25), "a/" + times("a", 25), times("a", 25) + "/a", times("𝄞", 25), times(`\/`, 25), times(`\\`, 25), times("a", 24) + `\/`, "\t", "a/\t", "\n/a", "a/\x00/b", "a/\x7F", "\u0085", "\uFFFD", "a/\uFFFD", "\xFF", "a/\xFF", "\xFF/a", "a/\xFF/b", "\xC3/\xA9", "a\xE4\xB8/b", "\xED\xA0\x80", "\xC0\xAF", "a\xC0\xAFb", "\xC1\x9C/", "\xC1\x9Ca", "\x80",
		// 8 parts of which one is no name
		"1/2/3/4/5/6/7/", "/2/3/4/5/6/7/8", "1/2/3//5/6/7/8", "///////", "1/2/3/4/5/6/7/\t", "1/2/3/4/5/6/7/" + times("a", 25),
		// 9 parts of which one is not split
		`1/2/3/4/5/6/7/8/9\`, `1/2/3/4/5/6/7/8/9\a`, `\1/2/3/4/5/6/7/8/9`, `1/2/3/4/5/6/7/8/\`, `1/2/3/4/5/6/7/8/9/10/\1`, times("a/", 1000) + `\`,
	} {
		wantFault(t, s, api.ErrPath)
	}
	for _, s := range []string{
		"1/2/3/4/5/6/7/8/9", "1/2/3/4/5/6/7/8/9/10", "1/2/3/4/5/6/7/8/", "/1/2/3/4/5/6/7/8", "1/2/3/4//5/6/7/8", "////////", "/////////", times("a/", 1000), "1/2/3/4/5/6/7/8/\t", "\xFF/2/3/4/5/6/7/8/9", "1/2/3/4/" + times("a", 25) + "/6/7/8/9", `\//2/3/4/5/6/7/8/\\`, times("/", 255), times("/", 256), times("/", 263),
	} {
		wantFault(t, s, api.ErrDeep)
	}
	lists, _ := notPaths()
	for _, p := range lists {
		got, e := Parse(Text(p))
		if slowCheck(p) == api.OK || got != nil || e != slowCheck(p) {
			t.Errorf("of %.100q is parsed %.100q, %d", p, got, e)
		}
	}
}

// wantParse holds what is parsed against what the document says.
func wantParse(t *testing.T, s string) {
	t.Helper()
	wanted, fault := slowParse(s)
	p, e := Parse(s)
	want(t, s, p, wanted)
	if e != fault || e == api.OK && Text(p) != s || e != api.OK && p != nil {
		t.Fatalf("Parse(%q) = %q, %d, want %d", s, p, e, fault)
	}
}

// Promise 10.2: all short texts, and all single changes to texts of paths, held against what the document says; what is parsed is told as just this text.
func TestParseOfMany(t *testing.T) {
	for _, s := range allTexts("a/\\\t\xC3\xA9\xFF", 5) {
		wantParse(t, s)
	}
	for _, s := range allTexts("a/\\", 9) {
		wantParse(t, s)
		wantParse(t, "1/2/3/4/5/6/7/"+s)
	}
	for _, s := range allTexts("a/\\\x80", 3) {
		wantParse(t, times("a", 22)+s)
		wantParse(t, s+times("é", 23))
		wantParse(t, "x/"+times("𝄞", 23)+s+"/y")
	}
	for _, p := range paths() {
		s := Text(p)
		wantParse(t, s)
		step := 1 + len(s)/100 // of long texts some places are enough
		for i := 0; i <= len(s); i += step {
			for _, b := range of("", "/", `\`, "a", "\t", "\x80", "\xFF", "é") {
				wantParse(t, s[:i]+b+s[i:])
				if i < len(s) {
					wantParse(t, s[:i]+b+s[i+1:])
				}
			}
			wantParse(t, s[:i])
			wantParse(t, s[i:])
		}
	}
}

// Promise 10.3: paths are parsed, and read, as they were told; nothing is left of the bytes; unlike ones have unlike texts and bytes.
func TestToldAndBack(t *testing.T) {
	texts, codes := map[string][]string{}, map[string][]string{}
	told := func(p []string) {
		t.Helper()
		got, e := Parse(Text(p))
		want(t, "parsed", got, p)
		r := pack.Open(Code(p))
		want(t, "read", Read(r), p)
		if e != api.OK || r.End() != api.OK {
			t.Fatalf("%q is parsed with %d, and read with %d", p, e, r.Fault())
		}
		if o, there := texts[Text(p)]; there && !slices.Equal(o, p) {
			t.Fatalf("%q and %q have one text", p, o)
		}
		if o, there := codes[Code(p)]; there && !slices.Equal(o, p) {
			t.Fatalf("%q and %q have the same bytes", p, o)
		}
		texts[Text(p)], codes[Code(p)] = p, p
	}
	for _, p := range paths() {
		told(p)
	}
	for _, p := range allLists(of("a", "/", `\`, "ab", `\/`, "b/a"), 4)[1:] {
		told(p)
	}
	for _, s := range allTexts("/\\a", 6)[1:] {
		told(of(s))
		told(of("x", s, s))
	}
	for r := rune(0); r < 0x3000; r++ {
		if slowName(string(r)) {
			told(of("/", string(r), times(string(r), mostChars)))
		}
	}
}

// Promise 10.2: a path's bytes: how many parts, and each of them behind its length.
func TestCode(t *testing.T) {
	for _, c := range []struct {
		p      []string
		wanted string
	}{
		{nil, "\x00"}, {of(), "\x00"}, {of(""), "\x01\x00"}, {of("", ""), "\x02\x00\x00"}, {of("a", "", "b"), "\x03\x01a\x00\x01b"}, {of("", "a"), "\x02\x00\x01a"}, {of("a", ""), "\x02\x01a\x00"},
		{of("a"), "\x01\x01a"}, {of("ab"), "\x01\x02ab"}, {of("a", "b"), "\x02\x01a\x01b"}, {of("a", "bc"), "\x02\x01a\x02bc"}, {of("ab", "c"), "\x02\x02ab\x01c"}, {of("a/b", `c\`), "\x02\x03a/b\x02c\\"}, {of("世"), "\x01\x03世"}, {of("\xFF"), "\x01\x01\xFF"}, {of("\x00"), "\x01\x01\x00"},
		{of("1", "2", "3", "4", "5", "6", "7", "8"), "\x08\x011\x012\x013\x014\x015\x016\x017\x018"}, {many("a", 9), "\x09" + times("\x01a", 9)}, {many("a", 300), "\xAC\x02" + times("\x01a", 300)}, {of(times("a", 24)), "\x01\x18" + times("a", 24)}, {of(times("𝄞", 24)), "\x01\x60" + times("𝄞", 24)}, {of(times("a", 128)), "\x01\x80\x01" + times("a", 128)},
	} {
		if got := Code(c.p); got != c.wanted {
			t.Errorf("Code(%.100q) = %.100q, want %.100q", c.p, got, c.wanted)
		}
	}
	lists, _ := notPaths()
	for _, p := range append(paths(), lists...) {
		if got := Code(p); got != slowCode(p) {
			t.Errorf("Code(%.100q) = %.100q, want %.100q", p, got, slowCode(p))
		}
	}
}

// wantRead reads a path from a text, and holds what is told, what is wrong then, and how much is left.
func wantRead(t *testing.T, s string, wanted []string, fault api.Errno, left int) {
	t.Helper()
	r := pack.Open(s)
	p := Read(r)
	if !slices.Equal(p, wanted) || r.Fault() != fault || r.Left() != left || fault != api.OK && p != nil {
		t.Errorf("of %.80q is read %.100q, with fault %d and %d bytes left, want %.100q, %d and %d", s, p, r.Fault(), r.Left(), wanted, fault, left)
	}
}

// Promise 10.2: what is read as a path, and what is wrong then.
func TestRead(t *testing.T) {
	great := times("\x80", 8) + "\x01"
	eight := times("\x01a", 8)
	for s, fault := range map[string]api.Errno{
		// no parts, 9, and far more; with and without what stands behind
		"\x00": api.ErrPath, "\x00\x01a": api.ErrPath, "\x09": api.ErrLong, "\x09" + eight: api.ErrLong, "\x09" + eight + "\x01a": api.ErrLong, "\x09" + eight + "\x00": api.ErrLong, "\x0A" + eight + eight: api.ErrLong, "\x7F" + times("\x01a", 127): api.ErrLong, "\x80\x01": api.ErrLong, "\x80\x02" + times("\x01a", 256): api.ErrLong, "\x88\x02" + times("\x01a", 264): api.ErrLong, pack.Int(1<<32+1) + "\x01a": api.ErrLong, pack.Int(1 << 40): api.ErrLong, pack.Int(1<<56 - 1): api.ErrLong, great + eight: api.ErrLong, times("\x80", 9) + eight: api.ErrLong,
		// parts that are no names, at the beginning, in the middle and at the end
		"\x01\x00": api.ErrPath, "\x02\x00\x01a": api.ErrPath, "\x02\x01a\x00": api.ErrPath, "\x03\x01a\x00\x01b": api.ErrPath, "\x01\x01\t": api.ErrPath, "\x01\x19" + times("a", 25): api.ErrPath, "\x02\x01a\x19" + times("a", 25): api.ErrPath, "\x01\x01\xFF": api.ErrPath, "\x01\x02a\xC3": api.ErrPath, "\x01\x03\xED\xA0\x80": api.ErrPath, "\x01\x02\xC0\xAF": api.ErrPath, "\x01\x03\uFFFD": api.ErrPath, "\x01\x01é": api.ErrPath, "\x08" + times("\x01a", 7) + "\x00": api.ErrPath, "\x08\x00" + times("\x01a", 7): api.ErrPath, "\x08" + times("\x00", 8): api.ErrPath, "\x01" + pack.Text(times("a", 1000)): api.ErrPath,
		// ends ahead of how many there are, ahead of the first part, within one, and ahead of the last one
		"": api.ErrShort, "\x80": api.ErrShort, times("\x80", 8): api.ErrShort, "\x01": api.ErrShort, "\x02": api.ErrShort, "\x08": api.ErrShort, "\x02\x01": api.ErrShort, "\x02\x00": api.ErrShort, "\x08\x01a\x01a\x01a\x01": api.ErrShort, "\x01\x01": api.ErrShort, "\x01\x02a": api.ErrShort, "\x01\x80": api.ErrShort, "\x02\x01a": api.ErrShort, "\x02\x01a\x01": api.ErrShort, "\x02\x01a\x02b": api.ErrShort, "\x08" + times("\x01a", 7): api.ErrShort, "\x08" + times("\x01a", 7) + "\x01": api.ErrShort, "\x01\x18" + times("a", 23): api.ErrShort, "\x01\x19" + times("a", 24): api.ErrShort,
		// so also behind a part that is no name
		"\x02\x01\t": api.ErrShort, "\x02\x01\xFF\x01": api.ErrShort, "\x03\x00\x01a\x02b": api.ErrShort, "\x03\x00\x00\x01": api.ErrShort,
		// numbers that are none
		"\x80\x00": api.ErrForm, "\x81\x00\x01a": api.ErrForm, "\x89\x00" + eight: api.ErrForm, "\x01\x80\x00": api.ErrForm, "\x01\x81\x00a": api.ErrForm, "\x02\x01a\x81\x00b": api.ErrForm, "\x02\x00\x81\x00b": api.ErrForm, "\x01" + great + "a": api.ErrLong, "\x02\x01a" + great + "a": api.ErrLong, "\x01" + pack.Int(1<<56-1) + "a": api.ErrShort,
	} {
		wantRead(t, s, nil, fault, 0)
	}
	wantRead(t, "\x01\x01a", of("a"), api.OK, 0)
	wantRead(t, "\x01\x01abehind", of("a"), api.OK, 6)
	wantRead(t, "\x02\x01a\x02bc\x00", of("a", "bc"), api.OK, 1)
	wantRead(t, "\x02\x01/\x01\\", of("/", `\`), api.OK, 0)
	wantRead(t, "\x08"+eight, many("a", 8), api.OK, 0)
	wantRead(t, "\x08"+eight+"\x01a", many("a", 8), api.OK, 2)
	wantRead(t, "\x01\x18"+times("a", 25), of(times("a", 24)), api.OK, 1)
	wantRead(t, "\x01\x60"+times("𝄞", 24), of(times("𝄞", 24)), api.OK, 0)
}

// Promise 10.2: the bytes of any lists, paths or not, and of any end of a path's bytes; any short bytes.
func TestReadOfAnyBytes(t *testing.T) {
	for _, p := range paths() {
		wantRead(t, slowCode(p)+"behind", p, api.OK, 6)
		s := Code(p)
		for i := range len(s) {
			wantRead(t, s[:i], nil, api.ErrShort, 0)
		}
	}
	lists, faults := notPaths()
	for i, l := range lists {
		fault := faults[i]
		if fault == api.ErrDeep { // that many are not read at all
			fault = api.ErrLong
		}
		wantRead(t, slowCode(l)+"behind", nil, fault, 0)
	}
	for _, l := range allLists(of("a", "", "é", "\xFF", times("a", 25)), 5) {
		if slowCheck(l) == api.OK {
			wantRead(t, slowCode(l)+"z", l, api.OK, 1)
		} else {
			wantRead(t, slowCode(l)+"z", nil, api.ErrPath, 0)
		}
	}
	for _, s := range allTexts("\x00\x01\x02\x03\x09a\x80\xC3\xA9", 6) {
		r := pack.Open(s)
		p := Read(r)
		if r.Fault() == api.OK && (slowCheck(p) != api.OK || s != Code(p)+s[len(s)-r.Left():]) || r.Fault() != api.OK && p != nil {
			t.Fatalf("of %q is read %q, with fault %d", s, p, r.Fault())
		}
	}
}

// Promise 10.2: paths are read one behind the other.
func TestReadMany(t *testing.T) {
	var s strings.Builder
	for _, p := range paths() {
		s.WriteString(Code(p))
	}
	r := pack.Open(s.String())
	for _, p := range paths() {
		want(t, "read", Read(r), p)
	}
	if r.End() != api.OK {
		t.Errorf("behind all: %d", r.Fault())
	}
}

// Promise 10.2: of a reader with which something is wrong nothing is read, and that stays wrong; so of a nil one.
func TestReadOfWrongReaders(t *testing.T) {
	for _, p := range [][]string{of("a"), of("a", "b/c"), many("a", 8)} {
		for _, e := range []api.Errno{api.ErrNil, api.ErrArg, api.ErrForm, api.ErrShort, api.ErrLong, api.ErrPath, api.ErrDeep, api.ErrText} {
			r := pack.Open(Code(p))
			r.Fail(e)
			if got := Read(r); got != nil || r.Fault() != e || r.End() != e {
				t.Errorf("with fault %d: %q, %d", e, got, r.Fault())
			}
		}
		r := pack.Open(Code(p) + "\x01\x00" + Code(p))
		want(t, "the first one", Read(r), p)
		for range 3 {
			if got := Read(r); got != nil || r.Fault() != api.ErrPath || r.Left() != 0 {
				t.Errorf("behind a wrong one: %q, %d", got, r.Fault())
			}
		}
	}
	var none *pack.Reader
	if got := Read(none); got != nil || none.Fault() != api.ErrNil {
		t.Errorf("of a nil reader %q, %d", got, none.Fault())
	}
}

// guarded tells a list behind which, and ahead of which, others stand in the same memory, and whether all is as it was.
func guarded(p []string) ([]string, func() bool) {
	all := slices.Concat(of("\xFF", "x"), p, of("a", "b", "", "\xFF", "c", "d", "e", "f", "g", "h"))
	kept := slices.Clone(all)
	return all[2 : 2+len(p)], func() bool { return slices.Equal(all, kept) }
}

// askAll makes all calls on two lists, and changes all that they answer.
func askAll(a, b []string) {
	spoil := func(p []string) {
		for i := range p[:cap(p)] {
			p[:cap(p)][i] = "spoilt"
		}
	}
	for _, p := range [][]string{a, b} {
		Check(p)
		parsed, _ := Parse(Text(p))
		spoil(parsed)
		spoil(Read(pack.Open(Code(p))))
	}
	Compare(a, b)
	Same(a, b)
	Under(a, b)
	Under(b, a)
}

// R4: no list that came in is changed, nor what lies behind its length read or written; answers that are changed change nothing that came in.
func TestNothingIsChanged(t *testing.T) {
	lists, _ := notPaths()
	few := append(append(allLists(of("a", "b", "x", "/"), 2), many("a", 7), many("a", 8)), lists[:40]...)
	for _, p := range few {
		for _, q := range few {
			a, aKept := guarded(p)
			b, bKept := guarded(q)
			askAll(a, b)
			wantTwo(t, a, b)
			if Check(a) != slowCheck(p) || Text(a) != slowText(p) || Code(a) != slowCode(p) || Compare(a, b) != slowCompare(p, q) || Same(a, b) != slices.Equal(p, q) || Under(a, b) != slowUnder(p, q) {
				t.Fatalf("what lies behind %q or %q is read", p, q)
			}
			if !aKept() || !bKept() {
				t.Fatalf("%q or %q was changed", p, q)
			}
		}
	}
}

// R4: so also where the lists of arguments share memory.
func TestSharedMemory(t *testing.T) {
	all, kept := guarded(of("a", "b", "a", "b", "a", "/", "/", "", "a"))
	for i := range all {
		for j := i; j <= len(all); j++ {
			for k := range all {
				for m := k; m <= len(all); m++ {
					a, b := all[i:j], all[k:m]
					wantTwo(t, a, b)
					wantTwo(t, a, slices.Clone(b))
					wantTwo(t, slices.Clone(a), b)
					askAll(a, b)
				}
			}
			wantCheck(t, all[i:j], slowCheck(slices.Clone(all[i:j])))
		}
	}
	if !kept() {
		t.Fatalf("%q was changed", all)
	}
}

// R4: answers share no memory with each other.
func TestAnswersAreNew(t *testing.T) {
	p := of("a", "b/c")
	for _, ask := range []func() []string{
		func() []string { return Read(pack.Open(Code(p))) },
		func() []string {
			parsed, _ := Parse(Text(p))
			return parsed
		},
	} {
		first, again := ask(), ask()
		first[0], first[1] = "x", "y"
		want(t, "the same again", again, p)
		want(t, "and once more", ask(), p)
	}
}

// The document's examples: of a/b, and c, it is a\/b/c.
func TestExamples(t *testing.T) {
	p, e := Parse("a\\/b/c")
	want(t, "the example", p, of("a/b", "c"))
	if Text(of("a/b", "c")) != "a\\/b/c" || e != api.OK {
		t.Errorf("%s, %d", Text(of("a/b", "c")), e)
	}
}

// P1 and R5: no call panics, whatever it is given, and each answers the same again.
func TestAnyLists(t *testing.T) {
	lists, _ := notPaths()
	lists = append(append(lists, paths()...), nil, of(), make([]string, 70000), of(times("\\/", 70000)))
	for i, a := range lists {
		b := lists[len(lists)-1-i]
		if Check(a) != Check(a) || Compare(a, b) != Compare(a, b) || Same(a, b) != Same(a, b) || Under(a, b) != Under(a, b) || Text(a) != Text(a) || Code(a) != Code(a) {
			t.Fatalf("%.100q and %.100q are answered in two ways", a, b)
		}
		for _, s := range of(Text(a), Code(a)) {
			p, e := Parse(s)
			again, eAgain := Parse(s)
			want(t, "parsed again", again, p)
			r, rAgain := pack.Open(s), pack.Open(s)
			want(t, "read again", Read(rAgain), Read(r))
			if e != eAgain || e != api.OK && p != nil || r.Fault() != rAgain.Fault() {
				t.Fatalf("%.100q is parsed with %d and %d, and read with %d and %d", s, e, eAgain, r.Fault(), rAgain.Fault())
			}
		}
	}
}
