package value

import (
	"math"
	"slices"
	"strconv"
	"strings"
	"testing"
	"unicode/utf8"

	"palinode/api"
	"palinode/pack"
)

const (
	mostAmount = 2147483647 // the greatest number of a right Int: 2^31 - 1
	mostText   = 64         // how many bytes a right Text has at the most
)

// num, text and truthOf tell values of each Kind, right or not.
func num(n int) api.Value { return api.Value{Kind: 1, N: n} }

func text(s string) api.Value { return api.Value{Kind: 2, S: s} }

func truthOf(n int) api.Value { return api.Value{Kind: 3, N: n} }

// times tells a text, so many times.
func times(s string, n int) string { return strings.Repeat(s, n) }

// edgeTexts tells texts that are right: at the edge of how many bytes they may have, of any runes, and of those that are quoted.
func edgeTexts() []string {
	return []string{
		"", "a", "b", "ab", "abc", "true", "false", "0", "-1", " ", "a b", "\x00", "\x00a", "a\x00", "\n", "\x7F", "é", "ß", "世界", "✓", "𝄞", "\uFFFD", "a\uFFFDb", "\u0080", "\u07FF", "\u0800", "\uD7FF", "\uE000", "\uFFFF", "\U00010000", "\U0010FFFF",
		// quotes and escapes, at the beginning, in the middle, at the end and twice in a row
		`"`, `\`, `""`, `\\`, `"\`, `\"`, `"a`, `\a`, `a"`, `a\`, `a"b`, `a\b`, `a""b`, `a\\b`, `""a`, `\\a`, `a""`, `a\\`, `"a"`, `\a\`, `a"b\c`, `\"\"`, `"\"\`, `a\/b`, `'`, "`", `é"世\𝄞`,
		// runes of one to four bytes, and quotes and escapes, up to 64 bytes
		times("a", 63), times("a", 64), times("é", 32), times("世", 21), times("世", 21) + "a", times("𝄞", 16), times("a", 62) + "é", times("a", 61) + "世", times("a", 60) + "𝄞", times(`"`, 63), times(`"`, 64), times(`\`, 63), times(`\`, 64), times(`"\`, 32), times("\x00", 64), times("\uFFFD", 21), times("x", 63) + `"`, times("x", 63) + `\`,
	}
}

// wrongTexts tells texts that no right value has: too long, or no UTF-8.
func wrongTexts() []string {
	return []string{
		times("a", 65), times("a", 66), times("a", 128), times("a", 1000), times("é", 33), "a" + times("é", 32), times("世", 22), times("世", 21) + "aa", times("世", 21) + "é", times("𝄞", 17), times("𝄞", 16) + "a", times("a", 63) + "é", times("a", 62) + "世", times("a", 61) + "𝄞", times(`"`, 65), times(`\`, 65), times("\x00", 65), times("\uFFFD", 22),
		// bytes that are no character's: alone, cut short, a surrogate, too long a form, above all characters
		"\xFF", "a\xFF", "\xFFa", "a\xFFb", "\xFE", "\x80", "\xBF", "a\x80", "\xC3", "a\xC3", "\xC3a", "\xE4\xB8", "\xE4", "\xE4\xB8a", "\xF0\x9D\x84", "\xF0\x9D", "\xF0", "é\xA9", "\xED\xA0\x80", "\xED\xBF\xBF", "\xC0\x80", "\xC1\xBF", "\xC0\xA2", "\xE0\x80\x80", "\xE0\x9F\xBF", "\xF0\x80\x80\x80", "\xF0\x8F\xBF\xBF", "\xF4\x90\x80\x80", "\xF5\x80\x80\x80", "\uFFFD\xFF", "\xEF\xBF", times("a", 63) + "\xFF", times("a", 63) + "\xC3", times("a", 64) + "\xFF", "\"\xFF", "\\\xFF",
	}
}

// wrongAmounts tells numbers that no right value has.
func wrongAmounts() []int {
	return []int{mostAmount + 1, -mostAmount - 1, mostAmount + 2, -mostAmount - 2, 1 << 32, -1 << 32, 1<<32 + 1, 1<<32 - 1, 1 << 54, -1 << 54, 1<<55 - 1, -1 << 55, math.MaxInt, math.MinInt, math.MinInt + 1}
}

// amounts tells numbers of right Ints.
func amounts() []int {
	l := []int{0, mostAmount, -mostAmount, mostAmount - 1, -mostAmount + 1, 1 << 20, -1 << 20, 1 << 30, -1 << 30}
	for _, n := range []int{1, 2, 3, 5, 9, 10, 11, 19, 63, 64, 65, 99, 100, 101, 127, 128, 300, 1000, 8191, 8192, 1234567890} {
		l = append(l, n, -n)
	}
	return l
}

// rights tells right values, no two of which are alike.
func rights() (l []api.Value) {
	for _, n := range amounts() {
		l = append(l, num(n))
	}
	for _, s := range edgeTexts() {
		l = append(l, text(s))
	}
	return append(l, truthOf(0), truthOf(1))
}

// wrongs tells values that are not right.
func wrongs() (l []api.Value) {
	for _, n := range wrongAmounts() {
		l = append(l, num(n), truthOf(n), api.Value{Kind: 2, N: n}, api.Value{Kind: 2, N: n, S: "a"})
	}
	for _, s := range wrongTexts() {
		l = append(l, text(s), api.Value{Kind: 1, S: s}, api.Value{Kind: 3, N: 1, S: s}, api.Value{Kind: 2, N: 1, S: s})
	}
	for _, s := range []string{"a", "\x00", "0", "5", "true", times("a", 64)} {
		l = append(l, api.Value{Kind: 1, S: s}, api.Value{Kind: 1, N: 5, S: s}, api.Value{Kind: 3, S: s}, api.Value{Kind: 3, N: 1, S: s}, api.Value{Kind: 2, N: 1, S: s}, api.Value{Kind: 2, N: -1, S: s})
	}
	for _, n := range []int{1, -1, 2, mostAmount, -mostAmount} {
		l = append(l, api.Value{Kind: 2, N: n})
	}
	for _, n := range []int{2, -1, 3, -2, 4, 256, 257, mostAmount, -mostAmount} {
		l = append(l, truthOf(n))
	}
	for _, kind := range []int{0, -1, 4, 5, -2, -3, 257, 258, 259, 1<<32 + 1, 1<<32 + 2, math.MaxInt, math.MinInt} {
		for _, n := range []int{0, 1, -1, 5} {
			for _, s := range []string{"", "a"} {
				l = append(l, api.Value{Kind: kind, N: n, S: s})
			}
		}
	}
	return l
}

// slowRight is what the document says of a right value.
func slowRight(v api.Value) bool {
	switch v.Kind {
	case 1:
		return v.S == "" && v.N <= mostAmount && v.N >= -mostAmount
	case 2:
		return v.N == 0 && len(v.S) <= mostText && utf8.ValidString(v.S)
	case 3:
		return v.S == "" && (v.N == 0 || v.N == 1)
	}
	return false
}

// slowCompare is what the document says of the order, byte by byte.
func slowCompare(a, b api.Value) int {
	for i := range min(len(a.S), len(b.S)) {
		if a.Kind == b.Kind && a.N == b.N && a.S[i] != b.S[i] {
			return slowCompare(num(int(a.S[i])), num(int(b.S[i])))
		}
	}
	switch {
	case a.Kind < b.Kind, a.Kind == b.Kind && a.N < b.N, a.Kind == b.Kind && a.N == b.N && len(a.S) < len(b.S):
		return -1
	case a == b:
		return 0
	}
	return 1
}

// slowText is what the document says of a right value's text.
func slowText(v api.Value) string {
	switch {
	case v.Kind == 3 && v.N == 1:
		return "true"
	case v.Kind == 3:
		return "false"
	case v.Kind == 2:
		s := "\""
		for i := range len(v.S) {
			if v.S[i] == '"' || v.S[i] == '\\' {
				s += "\\"
			}
			s += v.S[i : i+1]
		}
		return s + "\""
	case v.N < 0:
		return "-" + slowText(num(-v.N))
	case v.N < 10:
		return string(rune('0' + v.N))
	}
	return slowText(num(v.N/10)) + string(rune('0'+v.N%10))
}

// slowBetween tells the text that stands between quotes, byte by byte, and whether it stands there rightly.
func slowBetween(s string) (string, bool) {
	if len(s) < 2 || s[0] != '"' || s[len(s)-1] != '"' {
		return "", false
	}
	s = s[1 : len(s)-1]
	var l []byte
	for i := 0; i < len(s); i++ {
		if s[i] == '"' {
			return "", false
		}
		if s[i] == '\\' {
			i++
			if i == len(s) || s[i] != '"' && s[i] != '\\' {
				return "", false
			}
		}
		l = append(l, s[i])
	}
	return string(l), true
}

// slowParse is what the document says of texts, by their form.
func slowParse(s string) (api.Value, api.Errno) {
	v := api.Value{}
	switch digits := strings.TrimPrefix(s, "-"); {
	case s == "true":
		v = truthOf(1)
	case s == "false":
		v = truthOf(0)
	case s == "0":
		v = num(0)
	case digits != "" && len(digits) <= 10 && digits[0] != '0' && strings.Trim(digits, "0123456789") == "":
		for _, d := range digits {
			v = num(v.N*10 + int(d-'0'))
		}
		if len(digits) < len(s) {
			v.N = -v.N
		}
	default:
		if in, ok := slowBetween(s); ok {
			v = text(in)
		}
	}
	if !slowRight(v) {
		return api.Value{}, api.ErrText
	}
	return v, api.OK
}

// wantRight holds whether a value is right.
func wantRight(t *testing.T, v api.Value, want bool) {
	t.Helper()
	if Right(v) != want || slowRight(v) != want {
		t.Errorf("Right(%.100v) = %t", v, Right(v))
	}
}

// Promise 9.1: which values are right.
func TestRight(t *testing.T) {
	for _, v := range rights() {
		wantRight(t, v, true)
	}
	for _, v := range wrongs() {
		wantRight(t, v, false)
	}
	for _, c := range []struct {
		v    api.Value
		want bool
	}{
		{api.Value{}, false}, {api.Value{N: 1}, false}, {api.Value{S: "a"}, false}, {api.Value{Kind: -1}, false}, {api.Value{Kind: 4}, false}, {api.Value{Kind: 4, N: 1}, false},
		{num(0), true}, {num(2147483647), true}, {num(-2147483647), true}, {num(2147483648), false}, {num(-2147483648), false}, {api.Value{Kind: 1, N: 3, S: "3"}, false}, {api.Value{Kind: 1, S: "a"}, false},
		{text(""), true}, {text(times("a", 64)), true}, {text(times("a", 65)), false}, {text(times("é", 32)), true}, {text(times("é", 32) + "a"), false}, {text(times("世", 21) + "a"), true}, {text(times("世", 21) + "é"), false}, {text(times("𝄞", 16)), true}, {text(times("𝄞", 15) + "aaaaa"), false},
		{text("\xFF"), false}, {text("a\xE4\xB8"), false}, {text("\xED\xA0\x80"), false}, {text("\xC0\x80"), false}, {text("\xEF\xBF\xBD"), true}, {text("\x00"), true}, {api.Value{Kind: 2, N: 1, S: "a"}, false}, {api.Value{Kind: 2, N: -1}, false},
		{truthOf(0), true}, {truthOf(1), true}, {truthOf(2), false}, {truthOf(-1), false}, {api.Value{Kind: 3, S: "a"}, false}, {api.Value{Kind: 3, N: 1, S: "true"}, false},
	} {
		wantRight(t, c.v, c.want)
	}
	if api.MaxAmount != mostAmount || api.MaxText != mostText || api.Int != 1 || api.Text != 2 || api.Bool != 3 {
		t.Error("other limits")
	}
}

// Promise 9.1: all short texts of bytes that begin, end or spoil characters; and texts of each rune up to the most bytes.
func TestRightOfManyTexts(t *testing.T) {
	bytes := "a\x00\x7F\x80\xA0\xBF\xC1\xC2\xE0\xED\xEF\xF0\xF4\xFF"
	for _, s := range allTexts(bytes, 4) {
		if Right(text(s)) != utf8.ValidString(s) {
			t.Fatalf("of %q: %t", s, Right(text(s)))
		}
	}
	for r := rune(0); r <= utf8.MaxRune; r += 251 {
		if !utf8.ValidRune(r) {
			continue
		}
		one := string(r)
		many := times(one, mostText/len(one))
		for len(many) < mostText {
			many += "a"
		}
		wantRight(t, text(many), true)
		wantRight(t, text(many+"a"), false)
		wantRight(t, text("a"+many), false)
	}
}

// allTexts tells all texts of so many of these bytes at the most.
func allTexts(bytes string, most int) []string {
	l := []string{""}
	for from := 0; most > 0; most-- {
		to := len(l)
		for _, s := range l[from:to] {
			for i := range len(bytes) {
				l = append(l, s+bytes[i:i+1])
			}
		}
		from = to
	}
	return l
}

// Promise 9.1: values stand by Kind, then by N, then by the bytes of S.
func TestCompare(t *testing.T) {
	for _, c := range []struct {
		a, b api.Value
		want int
	}{
		// Kind, N and S alone
		{num(5), truthOf(5), -1}, {num(0), text(""), -1}, {text(""), truthOf(0), -1}, {num(1), num(2), -1}, {num(-1), num(0), -1}, {num(-2), num(-1), -1}, {num(-10), num(9), -1}, {num(9), num(10), -1}, {num(-mostAmount), num(mostAmount), -1}, {truthOf(0), truthOf(1), -1}, {text("a"), text("b"), -1}, {text(""), text("a"), -1},
		// against one another
		{num(mostAmount), text(""), -1}, {num(1), truthOf(0), -1}, {text("z"), truthOf(0), -1}, {num(9), text("a"), -1},
		{api.Value{Kind: 1, N: 9, S: "z"}, api.Value{Kind: 2, N: 1, S: "a"}, -1}, {api.Value{Kind: 1, N: 1, S: "z"}, api.Value{Kind: 2, N: 9, S: "a"}, -1}, {api.Value{Kind: 1, N: 9, S: "a"}, api.Value{Kind: 2, N: 1, S: "z"}, -1}, {api.Value{Kind: 2, N: 1, S: "z"}, api.Value{Kind: 2, N: 9, S: "a"}, -1}, {api.Value{Kind: 2, N: -1, S: "b"}, api.Value{Kind: 2, N: 0, S: "a"}, -1},
		// one that goes on, and bytes, not runes, not letters, and with no sign
		{text("a"), text("ab"), -1}, {text("ab"), text("b"), -1}, {text("a"), text("a\x00"), -1}, {text("\x00"), text("\x00\x00"), -1}, {text("abc"), text("abd"), -1}, {text("B"), text("a"), -1}, {text("Z"), text("a"), -1}, {text("10"), text("9"), -1},
		{text("a\x7F"), text("aé"), -1}, {text("z"), text("é"), -1}, {text("é"), text("世"), -1}, {text("\uFFFF"), text("\U00010000"), -1}, {text("\uE000"), text("𝄞"), -1}, {text("\x7F"), text("\x80"), -1}, {text("\x80"), text("\xFF"), -1}, {text("é"), text("ê"), -1}, {text("\xC3\xA9"), text("\xC3\xFF"), -1}, {text("\xFE"), text("\xFF"), -1}, {text("\uFFFD"), text("\xFF"), -1},
		// not right
		{api.Value{}, num(0), -1}, {api.Value{Kind: -1}, api.Value{}, -1}, {truthOf(1), api.Value{Kind: 4}, -1}, {api.Value{Kind: math.MinInt}, api.Value{Kind: math.MaxInt}, -1}, {num(math.MinInt), num(math.MaxInt), -1}, {num(math.MinInt), num(0), -1}, {num(-2), num(math.MaxInt), -1}, {api.Value{}, api.Value{S: "a"}, -1},
	} {
		if Compare(c.a, c.b) != c.want || Compare(c.b, c.a) != -c.want {
			t.Errorf("Compare(%v, %v) = %d, and round %d", c.a, c.b, Compare(c.a, c.b), Compare(c.b, c.a))
		}
	}
	all := append(rights(), wrongs()...)
	for _, a := range all {
		if Compare(a, a) != 0 {
			t.Errorf("Compare(%v, itself) = %d", a, Compare(a, a))
		}
		for _, b := range all {
			if got, want := Compare(a, b), slowCompare(a, b); got != want {
				t.Fatalf("Compare(%v, %v) = %d, want %d", a, b, got, want)
			}
		}
	}
}

// Promise 9.3: values stand in one row: only a value is the same as itself, the order turns round, and goes on.
func TestOneRow(t *testing.T) {
	l := rights()
	for i, a := range l {
		for j, b := range l {
			order := Compare(a, b)
			if (order == 0) != (i == j) || order != -Compare(b, a) || order < -1 || order > 1 {
				t.Fatalf("%v and %v: %d and %d", a, b, order, Compare(b, a))
			}
			for _, c := range l {
				if order < 0 && Compare(b, c) < 0 && Compare(a, c) >= 0 {
					t.Fatalf("%v, %v and %v do not go on", a, b, c)
				}
			}
		}
	}
	slices.SortFunc(l, Compare)
	for i := range l {
		for j := range l {
			if (Compare(l[i], l[j]) < 0) != (i < j) {
				t.Fatalf("%v and %v stand the wrong way round", l[i], l[j])
			}
		}
	}
	if l[0] != num(-mostAmount) || l[len(l)-1] != truthOf(1) {
		t.Errorf("from %v to %v", l[0], l[len(l)-1])
	}
}

// Promise 9.1: values as texts, and back.
func TestText(t *testing.T) {
	for _, c := range []struct {
		v    api.Value
		want string
	}{
		{num(0), "0"}, {num(1), "1"}, {num(-1), "-1"}, {num(9), "9"}, {num(10), "10"}, {num(-10), "-10"}, {num(-305), "-305"}, {num(1000000), "1000000"}, {num(mostAmount), "2147483647"}, {num(-mostAmount), "-2147483647"},
		{truthOf(1), "true"}, {truthOf(0), "false"},
		{text(""), `""`}, {text("a"), `"a"`}, {text("true"), `"true"`}, {text("0"), `"0"`}, {text(" a "), `" a "`}, {text("a/b"), `"a/b"`}, {text("\x00\n"), "\"\x00\n\""}, {text("é世𝄞"), `"é世𝄞"`}, {text("\uFFFD"), "\"\uFFFD\""},
		{text(`"`), `"\""`}, {text(`\`), `"\\"`}, {text(`"a`), `"\"a"`}, {text(`\a`), `"\\a"`}, {text(`a"b`), `"a\"b"`}, {text(`a\b`), `"a\\b"`}, {text(`a"`), `"a\""`}, {text(`a\`), `"a\\"`}, {text(`""`), `"\"\""`}, {text(`\\`), `"\\\\"`}, {text(`\"`), `"\\\""`}, {text(`"\`), `"\"\\"`}, {text(`a""b`), `"a\"\"b"`}, {text(`a\\b`), `"a\\\\b"`}, {text(`\n`), `"\\n"`}, {text(`é"世\𝄞`), `"é\"世\\𝄞"`},
		{text(times(`"`, 64)), `"` + times(`\"`, 64) + `"`}, {text(times(`\`, 64)), `"` + times(`\\`, 64) + `"`}, {text(times("a", 64)), `"` + times("a", 64) + `"`},
	} {
		if got := Text(c.v); got != c.want {
			t.Errorf("Text(%v) = %s, want %s", c.v, got, c.want)
		}
		if v, e := Parse(c.want); v != c.v || e != api.OK {
			t.Errorf("Parse(%s) = %v, %d, want %v", c.want, v, e, c.v)
		}
	}
	for _, v := range rights() {
		if got := Text(v); got != slowText(v) {
			t.Errorf("Text(%v) = %s, want %s", v, got, slowText(v))
		}
	}
}

// wantParse holds what is parsed against what the document says.
func wantParse(t *testing.T, s string) {
	t.Helper()
	want, fault := slowParse(s)
	if v, e := Parse(s); v != want || e != fault {
		t.Fatalf("Parse(%q) = %v, %d, want %v, %d", s, v, e, want, fault)
	}
}

// Promise 9.1: what is like a right value's text and is none is told by ErrText, with the zero value.
func TestParseWrong(t *testing.T) {
	long := times("9", 30)
	for _, s := range []string{
		"", " ", "-", "+", "--", "-0", "+0", "00", "+1", "01", "-01", "--1", "-+1", "+-1", " 1", "1 ", "- 1", "1-", "1\n", "\t1", "1_000", "0x1", "1e3", "1.0", ".1", "1.", "1a", "a1", "1 2", "1,2", "0b1", "0o7", "१", "１",
		"2147483648", "-2147483648", "2147483657", "4294967296", "4294967297", "9223372036854775807", "9223372036854775808", "-9223372036854775808", "-9223372036854775809", "18446744073709551616", "18446744073709551617", long, "-" + long, "0" + long, times("0", 30) + "1",
		"True", "TRUE", "tru", "truex", "xtrue", " true", "true ", "t", "f", "T", "F", "False", "FALSE", "fals", "falsee", " false", "false ", "truefalse", "true\x00", "yes", "nil", "null", "1true",
		// without its first, its last, or any quote; and with something behind or ahead
		`"`, `"a`, `a"`, `a`, `"a"b`, `"a" `, ` "a"`, `b"a"`, `"a""`, `""a"`, `"""`, `""""`, `"a"b"`, `"a" "b"`, `""x`, `x""`, `'a'`, "`a`", `"a'`, `“a”`,
		// an escape with nothing of its own behind, and a quote with none ahead
		`"\"`, `"\`, `"a\"`, `"\a"`, `"a\bc"`, `"\n"`, `"\/"`, `"\u0041"`, `"\x41"`, `"\\\"`, `"\\\\\"`, `"\\"a"`, `"\"a`, `"a\"b`, `"\ "`, `"\é"`, `"\世"`, `\"a\"`, `"a\`, `\`, `\\`, `"\\`, `"\a\""`, `"\""a"`, `"\\\a"`,
		"\"\x00", "\x00", "\xFF", "\"\xFF\"", "\"a\xC3\"", "\"\xED\xA0\x80\"", "\"\xC0\xA2\"", "\"\xC0\x80\"", "\"\\\xFF\"", "\"\xE4\xB8\"", "\"\xF4\x90\x80\x80\"", "\"\x80\"",
		`"` + times("a", 65) + `"`, `"` + times("a", 64) + "é" + `"`, `"` + times("é", 33) + `"`, `"` + times(`\"`, 65) + `"`, `"` + times(`\\`, 65) + `"`, `"` + times("a", 1000) + `"`, `"` + times("a", 64), `"` + times(`"`, 64) + `"`, `"` + times(`\`, 65) + `"`, times(`"`, 66), times(`\`, 66), `"` + times("𝄞", 16) + `a"`,
	} {
		if v, e := Parse(s); v != (api.Value{}) || e != api.ErrText {
			t.Errorf("Parse(%.80q) = %v, %d", s, v, e)
		}
		if _, e := slowParse(s); e != api.ErrText {
			t.Errorf("slowly, %.80q is a value's text", s)
		}
	}
	for _, s := range wrongTexts() {
		if v, e := Parse(slowText(text(s))); v != (api.Value{}) || e != api.ErrText {
			t.Errorf("between quotes, %q is %v, %d", s, v, e)
		}
	}
	for _, n := range wrongAmounts() {
		if v, e := Parse(strconv.Itoa(n)); v != (api.Value{}) || e != api.ErrText {
			t.Errorf("%d is %v, %d", n, v, e)
		}
	}
}

// Promise 9.1: all short texts, and all single changes to texts of right values, held against what the document says.
func TestParseOfMany(t *testing.T) {
	for _, s := range allTexts("\"\\a01-+ \xC3\xA9\xFF", 5) {
		wantParse(t, s)
	}
	for _, s := range allTexts("\"\\a", 9) {
		wantParse(t, s)
		wantParse(t, `"`+s+`"`)
	}
	for _, s := range allTexts("0129-_.", 5) {
		wantParse(t, s)
		wantParse(t, "-"+s)
		wantParse(t, "214748"+s)
	}
	for _, v := range rights() {
		s := Text(v)
		for i := range len(s) + 1 {
			for _, b := range []string{"", `"`, `\`, "0", "1", "-", "+", " ", "e", "T", "\x00", "\x80", "\xFF", "é"} {
				wantParse(t, s[:i]+b+s[i:])
				if i < len(s) {
					wantParse(t, s[:i]+b+s[i+1:])
				}
			}
			wantParse(t, s[:i])
			wantParse(t, s[i:])
		}
	}
}

// Promise 9.3: right values are parsed, and read, as they were told; nothing is left of the bytes; unlike ones have unlike texts.
func TestToldAndBack(t *testing.T) {
	texts, codes := map[string]api.Value{}, map[string]api.Value{}
	told := func(v api.Value) {
		if got, e := Parse(Text(v)); got != v || e != api.OK {
			t.Fatalf("%v is parsed as %v, %d", v, got, e)
		}
		r := pack.Open(Code(v))
		if got := Read(r); got != v || r.End() != api.OK {
			t.Fatalf("%v is read as %v, %d", v, got, r.Fault())
		}
		if o, there := texts[Text(v)]; there && o != v {
			t.Fatalf("%v and %v have one text", v, o)
		}
		if o, there := codes[Code(v)]; there && o != v {
			t.Fatalf("%v and %v have the same bytes", v, o)
		}
		texts[Text(v)], codes[Code(v)] = v, v
	}
	for _, v := range rights() {
		told(v)
	}
	for n := -3000; n <= 3000; n++ {
		told(num(n))
		told(num(n * 700000))
		told(text(strconv.Itoa(n)))
	}
	for _, s := range allTexts("\"\\a\x00", 5) {
		told(text(s))
		told(text("é" + s + "世"))
	}
	for r := rune(0); r < 0x3000; r++ {
		told(text(string(r)))
	}
	for _, s := range []string{"true", "false", `"`, `""`, "0", "-0", "-", ""} {
		told(text(s))
	}
}

// Promise 9.2: numbers are folded, and unfolded.
func TestFold(t *testing.T) {
	for _, c := range []struct{ n, want int }{
		{0, 0}, {-1, 1}, {1, 2}, {-2, 3}, {2, 4}, {-3, 5}, {3, 6}, {-64, 127}, {64, 128}, {63, 126}, {mostAmount, 4294967294}, {-mostAmount, 4294967293}, {mostAmount - 1, 4294967292}, {-mostAmount + 1, 4294967291}, {-mostAmount - 1, 4294967295}, {mostAmount + 1, 4294967296},
	} {
		if Fold(c.n) != c.want || Unfold(c.want) != c.n {
			t.Errorf("Fold(%d) = %d, want %d; Unfold(%d) = %d", c.n, Fold(c.n), c.want, c.want, Unfold(c.want))
		}
	}
	for n := range 20000 {
		if Fold(n) != n+n || Fold(-n-1) != n+n+1 || Unfold(n+n) != n || Unfold(n+n+1) != -n-1 {
			t.Fatalf("of %d: %d and %d", n, Fold(n), Fold(-n-1))
		}
		if Fold(Unfold(n)) != n || Unfold(Fold(n)) != n || Unfold(Fold(-n)) != -n {
			t.Fatalf("%d is not told again", n)
		}
	}
	for n := -mostAmount; n <= mostAmount; n += 99991 {
		if f := Fold(n); f < 0 || f > 2*mostAmount || Unfold(f) != n || n < 0 && f%2 == 0 || n >= 0 && f%2 != 0 {
			t.Fatalf("Fold(%d) = %d", n, f)
		}
	}
	for _, n := range []int{1<<56 - 1, 1<<56 - 2, 1 << 56, 1<<62 - 1, 1 << 62, math.MaxInt - 1, math.MaxInt} {
		if Fold(Unfold(n)) != n || (Unfold(n) < 0) != (n%2 == 1) {
			t.Errorf("Unfold(%d) = %d, of which Fold is %d", n, Unfold(n), Fold(Unfold(n)))
		}
	}
}

// Promise 9.2: the bytes of values, of each Kind at its edges.
func TestCode(t *testing.T) {
	for _, c := range []struct {
		v    api.Value
		want string
	}{
		{num(0), "\x01\x00"}, {num(1), "\x01\x02"}, {num(-1), "\x01\x01"}, {num(-3), "\x01\x05"}, {num(63), "\x01\x7E"}, {num(-64), "\x01\x7F"}, {num(64), "\x01\x80\x01"}, {num(150), "\x01\xAC\x02"}, {num(mostAmount), "\x01\xFE\xFF\xFF\xFF\x0F"}, {num(-mostAmount), "\x01\xFD\xFF\xFF\xFF\x0F"},
		{text(""), "\x02\x00"}, {text("a"), "\x02\x01a"}, {text("\x00"), "\x02\x01\x00"}, {text(`a"\`), "\x02\x03a\"\\"}, {text("世"), "\x02\x03世"}, {text(times("a", 64)), "\x02\x40" + times("a", 64)}, {text(times("𝄞", 16)), "\x02\x40" + times("𝄞", 16)}, {text(times(`"`, 64)), "\x02\x40" + times(`"`, 64)},
		{truthOf(0), "\x03\x00"}, {truthOf(1), "\x03\x02"},
	} {
		if got := Code(c.v); got != c.want {
			t.Errorf("Code(%v) = %q, want %q", c.v, got, c.want)
		}
		r := pack.Open(c.want + "behind")
		if got := Read(r); got != c.v || r.Left() != 6 || r.Fault() != api.OK {
			t.Errorf("%q is read as %v, with %d left and fault %d", c.want, got, r.Left(), r.Fault())
		}
	}
	for _, v := range rights() {
		want := pack.Int(v.Kind) + pack.Text(v.S)
		if v.Kind != 2 {
			want = pack.Int(v.Kind) + pack.Int(max(2*v.N, -2*v.N-1))
		}
		if got := Code(v); got != want {
			t.Errorf("Code(%v) = %q, want %q", v, got, want)
		}
	}
}

// wantRead reads a value from a text, and holds what is told, what is wrong then, and how much is left.
func wantRead(t *testing.T, s string, want api.Value, fault api.Errno, left int) {
	t.Helper()
	r := pack.Open(s)
	if v := Read(r); v != want || r.Fault() != fault || r.Left() != left {
		t.Errorf("of %.80q is read %v, with fault %d and %d bytes left, want %v, %d and %d", s, v, r.Fault(), r.Left(), want, fault, left)
	}
}

// Promise 9.2: what is read as a value, and what is wrong then.
func TestRead(t *testing.T) {
	great := times("\x80", 8) + "\x01"
	for s, want := range map[string]api.Errno{
		// wrong Kinds: 0, 4, and far above
		"\x00\x00": api.ErrArg, "\x00\x02": api.ErrArg, "\x04\x00": api.ErrArg, "\x04\x02": api.ErrArg, "\x05\x00": api.ErrArg, "\x7F\x00": api.ErrArg, "\x81\x01\x00": api.ErrArg, "\x81\x02\x00": api.ErrArg, "\x82\x02\x01a": api.ErrArg, "\x83\x02\x00": api.ErrArg,
		pack.Int(1<<32+1) + "\x00": api.ErrArg, pack.Int(1<<32+2) + "\x01a": api.ErrArg, pack.Int(1<<56-1) + "\x00": api.ErrArg, great + "\x00": api.ErrLong,
		// numbers of 1 beyond the edges, and far beyond
		"\x01" + pack.Int(4294967295): api.ErrArg, "\x01" + pack.Int(4294967296): api.ErrArg, "\x01" + pack.Int(4294967297): api.ErrArg, "\x01" + pack.Int(1<<33): api.ErrArg, "\x01" + pack.Int(1<<33+2): api.ErrArg, "\x01" + pack.Int(1<<56-1): api.ErrArg, "\x01" + pack.Int(1<<56-2): api.ErrArg, "\x01" + great: api.ErrLong,
		// truths of 2, of ones below 0, and far above
		"\x03\x04": api.ErrArg, "\x03\x01": api.ErrArg, "\x03\x03": api.ErrArg, "\x03\x06": api.ErrArg, "\x03" + pack.Int(4294967294): api.ErrArg, "\x03" + pack.Int(1<<33+2): api.ErrArg, "\x03" + pack.Int(1<<56-1): api.ErrArg, "\x03" + great: api.ErrLong,
		// texts of 65 bytes and more, and of no UTF-8
		"\x02\x41" + times("a", 65): api.ErrArg, pack.Int(2) + pack.Text(times("a", 1000)): api.ErrArg, "\x02\x41" + times("a", 63) + "é": api.ErrArg, "\x02\x01\xFF": api.ErrArg, "\x02\x02a\xC3": api.ErrArg, "\x02\x03\xED\xA0\x80": api.ErrArg, "\x02\x02\xC0\x80": api.ErrArg, "\x02\x02é": api.OK, "\x02\x01é": api.ErrArg,
		// ends ahead of the Kind, ahead of what is behind it, and within
		"": api.ErrShort, "\x80": api.ErrShort, "\x01": api.ErrShort, "\x02": api.ErrShort, "\x03": api.ErrShort, "\x00": api.ErrShort, "\x04": api.ErrShort, "\x01\x80": api.ErrShort, "\x01\xFE\xFF\xFF\xFF": api.ErrShort, "\x03\x82": api.ErrShort, "\x02\x01": api.ErrShort, "\x02\x03ab": api.ErrShort, "\x02\x80": api.ErrShort, "\x02\x40" + times("a", 63): api.ErrShort, "\x02\x41" + times("a", 64): api.ErrShort, "\x00\x80": api.ErrShort,
		// numbers that are none
		"\x81\x00\x00": api.ErrForm, "\x82\x00\x00": api.ErrForm, "\x01\x80\x00": api.ErrForm, "\x01\x82\x00": api.ErrForm, "\x02\x81\x00a": api.ErrForm, "\x03\x82\x00": api.ErrForm, "\x04\x82\x00": api.ErrForm, "\x02" + great + "a": api.ErrLong,
		// right ones
		"\x01\x00": api.OK, "\x01" + pack.Int(4294967294): api.OK, "\x01" + pack.Int(4294967293): api.OK, "\x02\x00": api.OK, "\x02\x40" + times("a", 64): api.OK, "\x02\x03\uFFFD": api.OK, "\x03\x00": api.OK, "\x03\x02": api.OK,
	} {
		r := pack.Open(s)
		v := Read(r)
		if r.Fault() != want || want != api.OK && v != (api.Value{}) || want == api.OK && !slowRight(v) {
			t.Errorf("of %.80q is read %v, with fault %d, want %d", s, v, r.Fault(), want)
		}
	}
	wantRead(t, "\x01\x05\x06", num(-3), api.OK, 1)
	wantRead(t, "\x02\x02abc", text("ab"), api.OK, 1)
	wantRead(t, "\x03\x02\x02", truthOf(1), api.OK, 1)
	wantRead(t, "\x02\x41"+times("a", 66), api.Value{}, api.ErrArg, 0)
	wantRead(t, "\x03\x04\x04", api.Value{}, api.ErrArg, 0)
	wantRead(t, "\x02\x01\xFFbehind", api.Value{}, api.ErrArg, 0)
	wantRead(t, "\x00\x00behind", api.Value{}, api.ErrArg, 0)
}

// Promise 9.2: the bytes of any Kind with any number, or text, behind.
func TestReadOfAnyBytes(t *testing.T) {
	for kind := range 300 {
		for _, n := range append(append(amounts(), wrongAmounts()...), 0, 1, 2, 3, 4, -1) {
			if n < -1<<55 || n >= 1<<55 || kind == 2 {
				continue
			}
			v := api.Value{Kind: kind, N: n}
			s := pack.Int(kind) + pack.Int(max(2*n, -2*n-1))
			if slowRight(v) {
				wantRead(t, s+"behind", v, api.OK, 6)
			} else {
				wantRead(t, s+"behind", api.Value{}, api.ErrArg, 0)
			}
		}
	}
	for _, s := range edgeTexts() {
		wantRead(t, "\x02"+pack.Text(s)+"behind", text(s), api.OK, 6)
	}
	for _, s := range wrongTexts() {
		wantRead(t, "\x02"+pack.Text(s)+"behind", api.Value{}, api.ErrArg, 0)
	}
	for _, v := range rights() {
		s := Code(v)
		for i := range len(s) {
			wantRead(t, s[:i], api.Value{}, api.ErrShort, 0)
		}
	}
	for _, s := range allTexts("\x00\x01\x02\x03\x04a\x80\x82\xC3\xA9", 5) {
		r := pack.Open(s)
		v := Read(r)
		if r.Fault() == api.OK && (!slowRight(v) || s != Code(v)+s[len(s)-r.Left():]) || r.Fault() != api.OK && v != (api.Value{}) {
			t.Fatalf("of %q is read %v, with fault %d", s, v, r.Fault())
		}
	}
}

// Promise 9.2: values are read one behind the other.
func TestReadMany(t *testing.T) {
	var s strings.Builder
	for _, v := range rights() {
		s.WriteString(Code(v))
	}
	r := pack.Open(s.String())
	for _, v := range rights() {
		if got := Read(r); got != v {
			t.Fatalf("%v is read as %v", v, got)
		}
	}
	if r.End() != api.OK {
		t.Errorf("behind all: %d", r.Fault())
	}
}

// Promise 9.2: of a reader with which something is wrong nothing is read, and that stays wrong; so of a nil one.
func TestReadOfWrongReaders(t *testing.T) {
	for _, v := range []api.Value{num(5), text("a"), truthOf(1)} {
		for _, e := range []api.Errno{api.ErrNil, api.ErrArg, api.ErrForm, api.ErrShort, api.ErrLong, api.ErrText} {
			r := pack.Open(Code(v))
			r.Fail(e)
			if got := Read(r); got != (api.Value{}) || r.Fault() != e || r.End() != e {
				t.Errorf("with fault %d: %v, %d", e, got, r.Fault())
			}
		}
		r := pack.Open(Code(v) + "\x03\x04" + Code(v))
		if got := Read(r); got != v {
			t.Errorf("the first one: %v", got)
		}
		for range 3 {
			if got := Read(r); got != (api.Value{}) || r.Fault() != api.ErrArg || r.Left() != 0 {
				t.Errorf("behind a wrong one: %v, %d", got, r.Fault())
			}
		}
	}
	var none *pack.Reader
	if got := Read(none); got != (api.Value{}) || none.Fault() != api.ErrNil {
		t.Errorf("of a nil reader %v, %d", got, none.Fault())
	}
}

// The document's examples: the text a"b is "a\"b"; -3 is folded to 5.
func TestExamples(t *testing.T) {
	if Text(text("a\"b")) != "\"a\\\"b\"" || Fold(-3) != 5 || Unfold(5) != -3 {
		t.Errorf("%s, %d, %d", Text(text("a\"b")), Fold(-3), Unfold(5))
	}
}

// P1 and R5: no call panics, whatever it is given, and each answers the same again.
func TestAnyValues(t *testing.T) {
	for _, v := range append(rights(), wrongs()...) {
		if Right(v) != slowRight(v) || Text(v) != Text(v) || Code(v) != Code(v) {
			t.Fatalf("%v is answered in two ways", v)
		}
		for _, s := range []string{v.S, Text(v), Code(v)} {
			wantParse(t, s)
			first, again := pack.Open(s), pack.Open(s)
			if a, b := Read(first), Read(again); a != b || first.Fault() != again.Fault() || a != (api.Value{}) && !slowRight(a) {
				t.Fatalf("%q is read as %v and %v", s, a, b)
			}
		}
	}
	for _, n := range []int{math.MinInt, math.MinInt + 1, -1 << 62, -2, -1, 1 << 62, math.MaxInt} {
		if Fold(n) != Fold(n) || Unfold(n) != Unfold(n) {
			t.Errorf("%d is folded in two ways", n)
		}
	}
}
