package name

import (
	"slices"
	"strings"
	"testing"

	"palinode/api"
)

// last is Unicode's last character.
const last = 0x10FFFF

// inUnicode tells whether a number is one of Unicode's characters.
func inUnicode(n int) bool { return n >= 0 && n <= last && (n < 0xD800 || n > 0xDFFF) }

// allowed is what the document says of a character in a name.
func allowed(n int) bool {
	switch {
	case !inUnicode(n), n < 0x20, n == 0xFFFD:
		return false
	case n >= 0x7F && n <= 0x9F:
		return false
	}
	return true
}

// told tells a number by so many bytes, as UTF-8 does it, whether it needs them or not, and whether it is a character or not.
func told(n, size int) string {
	if size == 1 {
		return string([]byte{byte(n)})
	}
	b := make([]byte, size)
	for i := size - 1; i > 0; i-- {
		b[i] = byte(0x80 + n%64)
		n /= 64
	}
	b[0] = byte([]int{0xC0, 0xE0, 0xF0}[size-2] + n)
	return string(b)
}

// utf tells a number by as many bytes as it needs.
func utf(n int) string {
	switch {
	case n < 1<<7:
		return told(n, 1)
	case n < 1<<11:
		return told(n, 2)
	case n < 1<<16:
		return told(n, 3)
	}
	return told(n, 4)
}

// number undoes told, of any bytes.
func number(s string) int {
	if len(s) == 1 {
		return int(s[0])
	}
	n := int(s[0]) & (0xFF >> (len(s) + 1))
	for i := 1; i < len(s); i++ {
		n = n*64 + int(s[i])%64
	}
	return n
}

// slowRunes takes a text apart by trying all lengths at each byte; a byte that is no character's is -1.
func slowRunes(s string) (l []int, ok bool) {
	ok = true
	for s != "" {
		n, size := -1, 1
		for k := 1; k <= min(4, len(s)); k++ {
			if m := number(s[:k]); inUnicode(m) && utf(m) == s[:k] {
				n, size = m, k
			}
		}
		ok = ok && n >= 0
		l = append(l, n)
		s = s[size:]
	}
	return l, ok
}

func slowRight(s string) bool {
	l, ok := slowRunes(s)
	if !ok || len(l) < 1 || len(l) > 24 {
		return false
	}
	for _, n := range l {
		if !allowed(n) {
			return false
		}
	}
	return true
}

func slowClean(s string) string {
	l, _ := slowRunes(s)
	var kept []string
	for _, n := range l {
		if allowed(n) {
			kept = append(kept, utf(n))
		}
	}
	if len(kept) == 0 {
		return "_"
	}
	return strings.Join(kept[:min(24, len(kept))], "")
}

func slowQuote(s string) string {
	b := []byte{}
	for _, c := range []byte(s) {
		if c == '/' || c == '\\' {
			b = append(b, '\\')
		}
		b = append(b, c)
	}
	return string(b)
}

func slowSplit(s string) ([]string, bool) {
	l := []string{""}
	for i := 0; i < len(s); i++ {
		c := s[i]
		if c == '/' {
			l = append(l, "")
			continue
		}
		if c == '\\' {
			i++
			if i == len(s) || s[i] != '/' && s[i] != '\\' {
				return nil, false
			}
			c = s[i]
		}
		l[len(l)-1] += string([]byte{c})
	}
	return l, true
}

// texts tells all texts of up to so many of these parts.
func texts(most int, parts ...string) []string {
	l := []string{""}
	for from := 0; most > 0; most-- {
		to := len(l)
		for _, s := range l[from:to] {
			for _, p := range parts {
				l = append(l, s+p)
			}
		}
		from = to
	}
	return l
}

// spoilt tells texts of whole characters, of some that are cut off, or told by too many bytes, or none, and of bytes of all kinds next to each other.
func spoilt() []string {
	l := texts(4, "\x1F", " ", "a", "\x7F", "\x80", "\x8F", "\x90", "\x9F", "\xA0", "\xBF",
		"\xC0", "\xC2", "\xDF", "\xE0", "\xED", "\xEF", "\xF0", "\xF4", "\xF5", "\xFF")
	for a := range 256 {
		for b := range 256 {
			l = append(l, string([]byte{byte(a), byte(b)}))
		}
	}
	return append(l, texts(3, "b", "é", "€", "😀", "\t", "\u009F", "\uFFFD", "\xFF", "\xC3", "\xE2\x82", "\xF0\x9F\x98",
		"\xED\xA0\x80", "\xF4\x90\x80\x80", "\xC0\xAF", "\xE0\x80\xAF", "\xF0\x80\x80\xAF")...)
}

// long tells texts around 24 characters, with and without such as may not stand in a name.
func long() (l []string) {
	for _, c := range []string{"a", "é", "€", "😀", " ", "/", "\\"} {
		for n := 22; n <= 27; n++ {
			s := strings.Repeat(c, n)
			l = append(l, s)
			for _, bad := range []string{"\x00", "\x7F", "\u0085", "\uFFFD", "\xFF", "\xE2\x82", "\xED\xA0\x80"} {
				l = append(l, s+bad, bad+s, s+bad+c, strings.Repeat(c+bad, n), strings.Repeat(bad, n)+c+bad+c)
			}
		}
	}
	return l
}

func wantRunes(t *testing.T, s string, want []rune, wantOK bool) {
	t.Helper()
	if l, ok := Runes(s); ok != wantOK || !slices.Equal(l, want) {
		t.Errorf("Runes(%.80q) = %X, %t, want %X, %t", s, l, ok, want, wantOK)
	}
}

func wantName(t *testing.T, s string, right bool, clean string) {
	t.Helper()
	if got := Right(s); got != right {
		t.Errorf("Right(%.80q) = %t", s, got)
	}
	if got := Clean(s); got != clean {
		t.Errorf("Clean(%.80q) = %.80q, want %.80q", s, got, clean)
	}
}

func wantSplit(t *testing.T, s string, want []string, wantOK bool) {
	t.Helper()
	if l, ok := Split(s); ok != wantOK || !slices.Equal(l, want) {
		t.Errorf("Split(%.80q) = %.80q, %t, want %.80q, %t", s, l, ok, want, wantOK)
	}
}

// Promise 3.1: texts of one to four bytes a character, and such as are nobody's UTF-8.
func TestRunes(t *testing.T) {
	for _, c := range []struct {
		s    string
		want []rune
	}{
		{"", nil},
		{"a", []rune{0x61}},
		{"a€", []rune{0x61, 0x20AC}},
		{"é€😀z", []rune{0xE9, 0x20AC, 0x1F600, 0x7A}},
		{"\x00\t\x7F\u0080", []rune{0, 9, 0x7F, 0x80}}, // those, too, that may stand in no name
		{"/\\", []rune{0x2F, 0x5C}},
		{"\uD7FF\uE000", []rune{0xD7FF, 0xE000}},
		{"\uFFFC\uFFFD\uFFFE\uFFFF", []rune{0xFFFC, 0xFFFD, 0xFFFE, 0xFFFF}},
		{"\xEF\xBF\xBD", []rune{0xFFFD}},
		{"\uFFFD\uFFFD", []rune{0xFFFD, 0xFFFD}},
		{"a\uFFFDb", []rune{0x61, 0xFFFD, 0x62}},
		{"\U00010000\U0010FFFF", []rune{0x10000, 0x10FFFF}},
	} {
		wantRunes(t, c.s, c.want, true)
	}
	for _, s := range []string{
		"\xFF", "\xFE", "\x80", "\xBF", "\xC0", "\xF5", "\xF8",
		"\xFFa", "a\xFF", "a\xFFb", "\uFFFD\xFF", "\xFF\uFFFD", "\uFFFD\xFF\uFFFD",
		"\xEF", "\xEF\xBF", "a\xEF\xBF", "\uFFFD\xEF\xBF", "\xEF\xBF\uFFFD", // FFFD itself, cut off
		"\xC3", "\xE2\x82", "\xF0\x9F\x98", "a\xE2\x82", "\xE2\x82a", "\xC3é",
		told(0xD800, 3), told(0xDBFF, 3), told(0xDC00, 3), told(0xDFFF, 3),
		told(0xD83D, 3) + told(0xDE00, 3), // one character in two halves
		told(0x110000, 4), told(0x1FFFFF, 4),
		told(0, 2), told('/', 2), told(0x7F, 2), told('/', 3), told(0x7FF, 3), told('/', 4), told(0xFFFD, 4), told(0xFFFF, 4),
	} {
		wantRunes(t, s, nil, false)
	}
}

// Promise 3.1: names, the edges of what may stand in them, and how long they may be.
func TestRightAndClean(t *testing.T) {
	for _, c := range []struct {
		s     string
		right bool
		clean string
	}{
		{"", false, "_"},
		{"_", true, "_"},
		{"a", true, "a"},
		{"a b", true, "a b"},
		{" ", true, " "},
		{" a ", true, " a "},
		{"a/b", true, "a/b"},
		{"a\\", true, "a\\"},
		{"häßlich ✓ 世界 😀", true, "häßlich ✓ 世界 😀"},
		{"\x00", false, "_"},
		{"\t", false, "_"},
		{"\n", false, "_"},
		{"\x1F", false, "_"},
		{"\x1Fx", false, "x"},
		{"x\x1F", false, "x"},
		{"\x7E", true, "\x7E"},
		{"\x7F", false, "_"},
		{"\u0080", false, "_"},
		{"\u0085", false, "_"},
		{"\u009F", false, "_"},
		{"\u00A0", true, "\u00A0"},
		{"\uD7FF", true, "\uD7FF"},
		{"\uE000", true, "\uE000"},
		{"\uFFFC", true, "\uFFFC"},
		{"\uFFFD", false, "_"},
		{"a\uFFFDb", false, "ab"},
		{"\uFFFE", true, "\uFFFE"},
		{"\U0010FFFF", true, "\U0010FFFF"},
		{"\xFF", false, "_"},
		{"a\tb\xFFc", false, "abc"},
		{"a\xE2\x82", false, "a"},
		{"\xE2\x82a", false, "a"},
		{"\xE2é", false, "é"},
		{told(0xD800, 3), false, "_"},
		{"x" + told(0xDFFF, 3) + "y", false, "xy"},
		{told(0xD83D, 3) + told(0xDE00, 3), false, "_"},
		{told(0x110000, 4), false, "_"},
		{"x" + told(0x110000, 4) + "y", false, "xy"},
		{told('/', 2), false, "_"},
		{"x" + told('y', 3) + "z", false, "xz"},
		{told(0xFFFC, 4), false, "_"},
		{"\xFF\t\uFFFD\x7F", false, "_"},
	} {
		wantName(t, c.s, c.right, c.clean)
	}
}

// Promise 3.1: 24 characters, however many bytes, are a name, and 25 are none; what may not stand there does not count.
func TestLongNames(t *testing.T) {
	for _, c := range []string{"a", "é", "€", "😀"} {
		most, more := strings.Repeat(c, 24), strings.Repeat(c, 25)
		wantName(t, strings.Repeat(c, 23), true, strings.Repeat(c, 23))
		wantName(t, most, true, most)
		wantName(t, more, false, most)
		wantName(t, strings.Repeat(c, 100000), false, most)
		wantName(t, most+"\t", false, most)
		wantName(t, "\t"+most, false, most)
		wantName(t, most+"\xFF", false, most)
		wantName(t, most+"\uFFFD", false, most)
		wantName(t, strings.Repeat(c+"\x7F", 30), false, most)
		wantName(t, strings.Repeat("\xFF"+c+"\uFFFD", 23), false, strings.Repeat(c, 23))
		wantName(t, strings.Repeat("\xFF", 25)+c, false, c)
		wantName(t, strings.Repeat("\t", 1000)+c+"x", false, c+"x")
	}
	wantName(t, strings.Repeat("ab", 20), false, strings.Repeat("ab", 12))
	wantName(t, strings.Repeat("\x00", 30), false, "_")
	wantName(t, "abcdefghijklmnopqrstuvwxyz", false, "abcdefghijklmnopqrstuvwx")
	if api.MaxName != 24 {
		t.Error("another limit")
	}
}

// Promise 3.1: each number of up to 21 bits, as its bytes, alone and between others.
func TestEachCharacter(t *testing.T) {
	for n := range 1 << 21 {
		s := utf(n)
		l, ok := Runes(s)
		if is := inUnicode(n); ok != is || is && (len(l) != 1 || l[0] != rune(n)) || !is && len(l) > 0 {
			t.Fatalf("of %X Runes is %X, %t", n, l, ok)
		}
		clean, between := "_", "xy"
		if allowed(n) {
			clean, between = s, "x"+s+"y"
		}
		if Right(s) != allowed(n) || Clean(s) != clean || Clean("x"+s+"y") != between {
			t.Fatalf("of %X: %t, %q, %q", n, Right(s), Clean(s), Clean("x"+s+"y"))
		}
	}
}

// Promise 3.1, of spoilt and of long texts, held against what the document says, byte by byte.
func TestNamesOfSpoiltTexts(t *testing.T) {
	for _, s := range append(spoilt(), long()...) {
		slow, slowOK := slowRunes(s)
		l, ok := Runes(s)
		same := slices.EqualFunc(l, slow, func(r rune, n int) bool { return int(r) == n })
		if ok != slowOK || ok && !same || !ok && len(l) > 0 {
			t.Fatalf("Runes(%.80q) = %X, %t, want %X, %t", s, l, ok, slow, slowOK)
		}
		if got := Right(s); got != slowRight(s) {
			t.Fatalf("Right(%.80q) = %t", s, got)
		}
		if got, want := Clean(s), slowClean(s); got != want {
			t.Fatalf("Clean(%.80q) = %.80q, want %.80q", s, got, want)
		}
	}
}

// Promise 3.2: an escape stands ahead of each slash and each escape, and of nothing else.
func TestQuote(t *testing.T) {
	for s, want := range map[string]string{
		"":             "",
		"a":            "a",
		"abc":          "abc",
		"a/b":          `a\/b`,
		`a\b`:          `a\\b`,
		"/":            `\/`,
		`\`:            `\\`,
		"/a/":          `\/a\/`,
		`\a\`:          `\\a\\`,
		"//":           `\/\/`,
		`\\`:           `\\\\`,
		`/\`:           `\/\\`,
		`\/`:           `\\\/`,
		"é/€\\😀":       `é\/€\\😀`,
		"\xFF/\xFF":    "\xFF\\/\xFF",
		"\xC3/\xE2\\":  "\xC3\\/\xE2\\\\",
		"\xFF\x80\xC0": "\xFF\x80\xC0",
		"\uFFFD/":      "\uFFFD\\/",
		"\x00\t\x7F":   "\x00\t\x7F",
		"\xEF\xBF":     "\xEF\xBF",
	} {
		if got := Quote(s); got != want {
			t.Errorf("Quote(%q) = %q, want %q", s, got, want)
		}
	}
}

// Promise 3.2: a text is split at its slashes, but at none behind an escape.
func TestSplit(t *testing.T) {
	for _, c := range []struct {
		s    string
		want []string
	}{
		{"", []string{""}},
		{"a", []string{"a"}},
		{"abc", []string{"abc"}},
		{"a/b", []string{"a", "b"}},
		{"ab/cd/ef", []string{"ab", "cd", "ef"}},
		{"/", []string{"", ""}},
		{"//", []string{"", "", ""}},
		{"/a", []string{"", "a"}},
		{"a/", []string{"a", ""}},
		{"a//b", []string{"a", "", "b"}},
		{`x\\y/z`, []string{`x\y`, "z"}},
		{`a\/b`, []string{"a/b"}},
		{`a\/b/`, []string{"a/b", ""}},
		{`\/`, []string{"/"}},
		{`\\`, []string{`\`}},
		{`\/a\/`, []string{"/a/"}},
		{`\\a\\`, []string{`\a\`}},
		{`\\/`, []string{`\`, ""}},
		{`/\\`, []string{"", `\`}},
		{`\//`, []string{"/", ""}},
		{`/\/`, []string{"", "/"}},
		{`\\\/`, []string{`\/`}},
		{`\\\\`, []string{`\\`}},
		{`\\//\/`, []string{`\`, "", "/"}},
		{"é/€\\/😀", []string{"é", "€/😀"}},
		{"\xFF/\xC3\\\\\x80", []string{"\xFF", "\xC3\\\x80"}},
		{"\xE2\x82/\uFFFD", []string{"\xE2\x82", "\uFFFD"}},
		{"\x00/\t", []string{"\x00", "\t"}},
	} {
		wantSplit(t, c.s, c.want, true)
	}
}

// Promise 3.2: an escape at the end, or ahead of another byte, is refused, whatever stands elsewhere.
func TestSplitRefuses(t *testing.T) {
	for _, s := range []string{
		`\`, `\a`, `a\b`, `a\`, `a/\`, `a/b\`, `\\\`, `\/\`, `\\\a`, `\ /`, `a\b/c`, `a/b/\c`, `\a/b\/c`, `/\a`,
		"\\\x00", "\\é", "\\€/", "\\\xFF", "a/\\\xFF/", "\\\xC0\xAF", "\\\uFFFD", "\xFF\\", "x/y/\\\n",
	} {
		wantSplit(t, s, nil, false)
	}
}

// Promise 3.2 of all short texts of slashes, escapes and others, held against what the document says, byte by byte.
func TestQuoteAndSplitShortTexts(t *testing.T) {
	all := append(texts(6, "a", "/", `\`, "é", "\xFF"), texts(3, "/", `\`, "\xC3", "\xE2\x82", "€", "\uFFFD", "\x00")...)
	for _, s := range append(all, spoilt()...) {
		if got, want := Quote(s), slowQuote(s); got != want {
			t.Fatalf("Quote(%q) = %q, want %q", s, got, want)
		}
		want, wantOK := slowSplit(s)
		if l, ok := Split(s); ok != wantOK || !slices.Equal(l, want) {
			t.Fatalf("Split(%q) = %q, %t, want %q, %t", s, l, ok, want, wantOK)
		}
	}
}

// Promise 3.3: what is cleaned is a name, and cleaned again the same; a name is clean.
func TestCleanIsAName(t *testing.T) {
	names := 0
	for _, s := range append(spoilt(), long()...) {
		clean := Clean(s)
		if !Right(clean) || Clean(clean) != clean {
			t.Fatalf("%.80q is cleaned %.80q, and that %.80q; a name: %t", s, clean, Clean(clean), Right(clean))
		}
		if l, ok := Runes(clean); !ok || len(l) < 1 || len(l) > api.MaxName {
			t.Fatalf("%.80q is cleaned %.80q", s, clean)
		}
		if Right(s) {
			names++
			if clean != s {
				t.Fatalf("the name %.80q is cleaned %.80q", s, clean)
			}
		}
	}
	if names < 100 {
		t.Errorf("only %d names were held", names)
	}
}

// Promise 3.3: texts that are quoted, with a slash between, are split again.
func TestQuotedAreSplitAgain(t *testing.T) {
	short := texts(2, "a", "/", `\`, "é", "\xFF", "\xC3")
	for _, a := range short {
		wantSplit(t, Quote(a), []string{a}, true)
		for _, b := range short {
			wantSplit(t, Quote(a)+"/"+Quote(b), []string{a, b}, true)
		}
	}
	shorter := texts(1, "a", "/", `\`, "//", `\/`, `/\`, `\\`, "\xFF")
	for _, a := range shorter {
		for _, b := range shorter {
			for _, c := range shorter {
				wantSplit(t, Quote(a)+string(Slash)+Quote(b)+string(Slash)+Quote(c), []string{a, b, c}, true)
			}
		}
	}
	var many, quoted []string
	for _, s := range append(spoilt(), long()...) {
		many, quoted = append(many, s), append(quoted, Quote(s))
	}
	if l, ok := Split(strings.Join(quoted, "/")); !ok || !slices.Equal(l, many) {
		t.Errorf("of %d texts there are %d, %t", len(many), len(l), ok)
	}
}

// P1 and R1 to R5: long texts of any bytes end, and are answered the same again, whatever an asker does to an answer.
func TestTheSameAgain(t *testing.T) {
	for _, s := range []string{"é/€", `a\/b/c`, strings.Repeat("a/", 1<<18), strings.Repeat(`\/é`, 1<<18), strings.Repeat("\xFF", 1<<20), strings.Repeat(`\`, 1<<20)} {
		right, clean, quoted := Right(s), Clean(s), Quote(s)
		runes, runesOK := Runes(s)
		keptRunes := slices.Clone(runes)
		clear(runes)
		parts, partsOK := Split(s)
		keptParts := slices.Clone(parts)
		clear(parts)
		wantRunes(t, s, keptRunes, runesOK)
		wantSplit(t, s, keptParts, partsOK)
		if Right(s) != right || Clean(s) != clean || Quote(s) != quoted {
			t.Errorf("%.80q is answered in two ways", s)
		}
	}
}

func TestConstants(t *testing.T) {
	if Slash != '/' || Escape != '\\' {
		t.Errorf("%c %c", Slash, Escape)
	}
}
