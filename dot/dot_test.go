package dot

import (
	"math"
	"slices"
	"strconv"
	"strings"
	"testing"

	"palinode/api"
	"palinode/pack"
)

// mostSeq is the greatest number that a dot may have: 2^20.
const mostSeq = 1048576

// edges tells numbers at and around all bounds of a dot's numbers, and of ints.
func edges() []int {
	return []int{math.MinInt, math.MinInt + 1, -1 << 32, -mostSeq, -16, -10, -2, -1, 0, 1, 2, 9, 10, 14, 15, 16, 17, 127, 128, 300,
		mostSeq - 1, mostSeq, mostSeq + 1, 1 << 31, 1 << 32, 1<<32 + 1, 1<<56 - 1, 1 << 56, math.MaxInt - 1, math.MaxInt}
}

// edgeDots tells all dots of two such numbers.
func edgeDots() (l []api.Dot) {
	for _, r := range edges() {
		for _, n := range edges() {
			l = append(l, api.Dot{R: r, N: n})
		}
	}
	return l
}

// edgeRefs tells operations of numbers about which comparisons may err.
func edgeRefs() (l []api.Ref) {
	some := []int{math.MinInt, -1, 0, 1, math.MaxInt}
	for _, r := range some {
		for _, n := range some {
			for _, i := range some {
				l = append(l, api.Ref{D: api.Dot{R: r, N: n}, I: i})
			}
		}
	}
	return l
}

// slowRight is what the document says of a right dot.
func slowRight(d api.Dot) bool {
	switch {
	case d.R < 0, d.R > 15:
		return false
	case d.N < 1, d.N > mostSeq:
		return false
	}
	return true
}

// slowCompare holds lists of numbers against each other, from the first one on.
func slowCompare(a, b []int) int {
	for i := range a {
		if a[i] < b[i] {
			return -1
		}
		if a[i] > b[i] {
			return 1
		}
	}
	return 0
}

// slowDigits tells a number digit by digit, from below, as the least int has none above 0.
func slowDigits(n int) string {
	if n < 0 {
		return "-" + strings.TrimLeft(slowDigits(-(n/10))+string(rune('0'-n%10)), "0")
	}
	s := string(rune('0' + n%10))
	for n /= 10; n > 0; n /= 10 {
		s = string(rune('0'+n%10)) + s
	}
	return s
}

// slowNumber tells a number of at most 7 digits that has no needless 0 ahead; -1, if it is none.
func slowNumber(s string) int {
	if s == "" || len(s) > 7 || s[0] == '0' && s != "0" {
		return -1
	}
	n := 0
	for i := range len(s) {
		if s[i] < '0' || s[i] > '9' {
			return -1
		}
		n = 10*n + int(s[i]) - '0'
	}
	return n
}

// slowParse tells the right dot whose text this is, digit by digit.
func slowParse(s string) (api.Dot, api.Errno) {
	for i := range len(s) {
		if s[i] == '.' {
			if d := (api.Dot{R: slowNumber(s[:i]), N: slowNumber(s[i+1:])}); slowRight(d) {
				return d, api.OK
			}
		}
	}
	return api.Dot{}, api.ErrText
}

func wantParse(t *testing.T, s string, want api.Dot, wantErr api.Errno) {
	t.Helper()
	if d, e := Parse(s); d != want || e != wantErr {
		t.Errorf("Parse(%.80q) = %v, %d, want %v, %d", s, d, e, want, wantErr)
	}
}

// wantRead reads a dot from a text, and holds what is told, what is wrong then, and how much is left.
func wantRead(t *testing.T, s string, want api.Dot, fault api.Errno, left int) {
	t.Helper()
	r := pack.Open(s)
	if d := Read(r); d != want || r.Fault() != fault || r.Left() != left {
		t.Errorf("of %q is read %v, with fault %d and %d bytes left, want %v, %d and %d", s, d, r.Fault(), r.Left(), want, fault, left)
	}
}

// Promise 4.1: which dots are right, at all bounds of both numbers.
func TestRight(t *testing.T) {
	for _, c := range []struct {
		r, n int
		want bool
	}{
		{0, 1, true}, {3, 17, true}, {15, mostSeq, true}, {0, mostSeq, true}, {15, 1, true}, {0, 2, true}, {7, 524288, true},
		{-1, 1, false}, {16, 1, false}, {-1, mostSeq, false}, {16, mostSeq, false}, {17, 1, false}, {100, 1, false},
		{0, 0, false}, {0, -1, false}, {15, 0, false}, {0, mostSeq + 1, false}, {15, mostSeq + 1, false},
		{16, 0, false}, {-1, 0, false}, {-1, mostSeq + 1, false}, {16, mostSeq + 1, false}, {1, 1 << 32, false}, {1 << 32, 1, false},
		{math.MinInt, 1, false}, {math.MaxInt, 1, false}, {0, math.MinInt, false}, {0, math.MaxInt, false},
		{math.MinInt, math.MaxInt, false}, {math.MaxInt, math.MinInt, false}, {1<<32 + 1, 1<<32 + 1, false},
	} {
		if got := Right(api.Dot{R: c.r, N: c.n}); got != c.want {
			t.Errorf("Right(%d.%d) = %t", c.r, c.n, got)
		}
	}
	if Right(api.Dot{}) {
		t.Error("the zero dot is right")
	}
	for _, d := range edgeDots() {
		if Right(d) != slowRight(d) {
			t.Errorf("Right(%v) = %t", d, Right(d))
		}
	}
	if api.MaxReplicas != 16 || api.MaxSeq != mostSeq {
		t.Error("other limits")
	}
}

// Promise 4.1: dots stand by R, then by N.
func TestCompare(t *testing.T) {
	for _, c := range []struct {
		a, b api.Dot
		want int
	}{
		{api.Dot{}, api.Dot{}, 0},
		{api.Dot{R: 3, N: 17}, api.Dot{R: 3, N: 17}, 0},
		{api.Dot{R: 3, N: 17}, api.Dot{R: 3, N: 18}, -1},
		{api.Dot{R: 3, N: 17}, api.Dot{R: 4, N: 17}, -1},
		{api.Dot{R: 3, N: 17}, api.Dot{R: 4, N: 1}, -1},
		{api.Dot{R: 2, N: 10}, api.Dot{R: 10, N: 2}, -1},
		{api.Dot{R: 0, N: 9}, api.Dot{R: 0, N: 10}, -1},
		{api.Dot{R: 0, N: mostSeq}, api.Dot{R: 15, N: 1}, -1},
		{api.Dot{R: -1, N: 1}, api.Dot{R: 0, N: 1}, -1},
		{api.Dot{R: 0, N: -1}, api.Dot{R: 0, N: 0}, -1},
		{api.Dot{R: math.MinInt, N: 1}, api.Dot{R: math.MaxInt, N: 1}, -1},
		{api.Dot{R: math.MinInt, N: math.MaxInt}, api.Dot{R: math.MaxInt, N: math.MinInt}, -1},
		{api.Dot{R: 1, N: math.MinInt}, api.Dot{R: 1, N: math.MaxInt}, -1},
		{api.Dot{R: 1, N: math.MinInt}, api.Dot{R: 1, N: 1}, -1},
		{api.Dot{R: -2, N: 1}, api.Dot{R: math.MaxInt, N: 1}, -1},
	} {
		if got := Compare(c.a, c.b); got != c.want {
			t.Errorf("Compare(%v, %v) = %d, want %d", c.a, c.b, got, c.want)
		}
		if got := Compare(c.b, c.a); got != -c.want {
			t.Errorf("Compare(%v, %v) = %d, want %d", c.b, c.a, got, -c.want)
		}
	}
	for _, a := range edgeDots() {
		for _, b := range edgeDots() {
			if got, want := Compare(a, b), slowCompare([]int{a.R, a.N}, []int{b.R, b.N}); got != want {
				t.Fatalf("Compare(%v, %v) = %d, want %d", a, b, got, want)
			}
		}
	}
}

// Promise 4.1: operations stand by their dots, then by their places.
func TestRefs(t *testing.T) {
	a := api.Ref{D: api.Dot{R: 3, N: 17}, I: 5}
	for _, c := range []struct {
		b    api.Ref
		want int
	}{
		{a, 0},
		{api.Ref{D: a.D, I: 6}, -1},
		{api.Ref{D: a.D, I: 4}, 1},
		{api.Ref{D: api.Dot{R: 3, N: 18}, I: 5}, -1},
		{api.Ref{D: api.Dot{R: 3, N: 18}, I: 0}, -1},
		{api.Ref{D: api.Dot{R: 3, N: 16}, I: 9}, 1},
		{api.Ref{D: api.Dot{R: 4, N: 17}, I: 5}, -1},
		{api.Ref{D: api.Dot{R: 4, N: 1}, I: 0}, -1},
		{api.Ref{D: api.Dot{R: 2, N: 20}, I: 9}, 1},
		{api.Ref{D: a.D, I: math.MinInt}, 1},
		{api.Ref{D: a.D, I: math.MaxInt}, -1},
		{api.Ref{}, 1},
	} {
		if Refs(a, c.b) != c.want || Refs(c.b, a) != -c.want {
			t.Errorf("%v and %v: %d, and the other way round %d, want %d", a, c.b, Refs(a, c.b), Refs(c.b, a), c.want)
		}
	}
	for _, a := range edgeRefs() {
		for _, b := range edgeRefs() {
			if got, want := Refs(a, b), slowCompare([]int{a.D.R, a.D.N, a.I}, []int{b.D.R, b.D.N, b.I}); got != want {
				t.Fatalf("Refs(%v, %v) = %d, want %d", a, b, got, want)
			}
		}
	}
}

// Promise 4.1: a dot's text, of any two numbers.
func TestText(t *testing.T) {
	for _, c := range []struct {
		r, n int
		want string
	}{
		{0, 0, "0.0"}, {0, 1, "0.1"}, {3, 17, "3.17"}, {15, mostSeq, "15.1048576"}, {10, 100, "10.100"}, {16, mostSeq + 1, "16.1048577"},
		{-1, 1, "-1.1"}, {1, -1, "1.-1"}, {-12, -345, "-12.-345"}, {-10, 0, "-10.0"}, {0, -7, "0.-7"},
		{math.MinInt, math.MaxInt, "-9223372036854775808.9223372036854775807"},
		{math.MaxInt, math.MinInt, "9223372036854775807.-9223372036854775808"},
	} {
		if got := Text(api.Dot{R: c.r, N: c.n}); got != c.want {
			t.Errorf("Text(%d, %d) = %q, want %q", c.r, c.n, got, c.want)
		}
	}
	for _, d := range edgeDots() {
		if got, want := Text(d), slowDigits(d.R)+"."+slowDigits(d.N); got != want {
			t.Errorf("Text(%v) = %q, want %q", d, got, want)
		}
	}
}

// Promise 4.1: texts of right dots are parsed.
func TestParse(t *testing.T) {
	for s, want := range map[string]api.Dot{
		"0.1": {R: 0, N: 1}, "3.17": {R: 3, N: 17}, "15.1048576": {R: 15, N: mostSeq}, "0.1048576": {R: 0, N: mostSeq},
		"15.1": {R: 15, N: 1}, "10.10": {R: 10, N: 10}, "9.1000000": {R: 9, N: 1000000}, "1.2": {R: 1, N: 2},
	} {
		wantParse(t, s, want, api.OK)
	}
}

// Promise 4.1: all other texts are refused.
func TestParseRefuses(t *testing.T) {
	for _, s := range []string{
		"",                                                                          // nothing
		"0.0", "16.1", "-1.1", "1.-1", "0.1048577", "15.0", "17.17", "0.-0", "-0.1", // of dots that are not right
		"1", "17", "1048576", "-", "a", // no dot
		"1.2.3", "1..2", "..", "1.2.", ".1.2", "0.1.0", // two
		".", ".1", "1.", ".17", "15.", // nothing ahead of it, or behind it
		"+1.1", "1.+1", "+1.+1", "-1.-1", "--1.1", "+.1", "1.-", "+0.1", // signs
		" 1.1", "1.1 ", "1 .1", "1. 1", "\t1.1", "1.1\n", " ", "1\u00A0.1", // blanks
		"00.1", "0.01", "01.1", "1.01", "015.1", "1.00000000000000000001", "00.0", // a 0 too many
		"100.1", "150.1", "15.10485760", "0.10000000", "0.10485761", // a digit too many
		"9223372036854775808.1", "1.9223372036854775808", "18446744073709551616.1", "1.18446744073709551617", // beyond ints
		"18446744073709551617.18446744073709551617", "4294967297.1", "1.4294967297",
		"-9223372036854775809.1", "1." + strings.Repeat("9", 1000), strings.Repeat("9", 1000) + ".1", strings.Repeat("0", 1000) + "1.1",
		"a.1", "1.a", "1.2a", "a1.2", "0x1.1", "1.0x1", "1_0.1", "1.1_0", "1e0.1", "1.1e1", "1,1", "1:1", "１.1", "1.١", // no digits
		"1.\x00", "\x001.1", "1.\xFF", "\xFF.1", "1/.1", "1.:", "A.B", "NaN.1", "Inf.1",
		"3.17x", "3.17 ", "3.17\x00", "3.17.", "3.17,", "3.17\xFF", "3.17/0", "3.17-", "3.17+1", // bytes behind a right one
	} {
		wantParse(t, s, api.Dot{}, api.ErrText)
	}
}

// Promise 4.1: all texts of up to six of these bytes, held against what the document says, digit by digit.
func TestParseShortTexts(t *testing.T) {
	texts := []string{""}
	for from := 0; len(texts[from]) < 6; from++ {
		for _, c := range []byte("01569.-+ x") {
			if c == 'x' && len(texts[from]) > 3 {
				continue
			}
			texts = append(texts, texts[from]+string(rune(c)))
		}
	}
	right := 0
	for _, s := range texts {
		want, wantErr := slowParse(s)
		if d, e := Parse(s); d != want || e != wantErr {
			t.Fatalf("Parse(%q) = %v, %d, want %v, %d", s, d, e, want, wantErr)
		}
		if wantErr == api.OK {
			right++
		}
	}
	if right < 1000 {
		t.Errorf("only %d right dots among %d texts", right, len(texts))
	}
}

// Promise 4.2: a dot's bytes, of any two numbers.
func TestCode(t *testing.T) {
	for _, c := range []struct {
		r, n int
		want string
	}{
		{0, 1, "\x00\x01"}, {3, 17, "\x03\x11"}, {2, 300, "\x02\xAC\x02"}, {15, mostSeq, "\x0F\x80\x80\x40"}, {15, 127, "\x0F\x7F"}, {15, 128, "\x0F\x80\x01"},
		{0, 0, "\x00\x00"}, {-1, 5, "\x00\x05"}, {5, -1, "\x05\x00"}, {math.MinInt, math.MinInt, "\x00\x00"}, {300, 2, "\xAC\x02\x02"},
		{math.MaxInt, 1, "\xFF\xFF\xFF\xFF\xFF\xFF\xFF\xFF\x7F\x01"}, {1, math.MaxInt, "\x01\xFF\xFF\xFF\xFF\xFF\xFF\xFF\xFF\x7F"},
	} {
		if got := Code(api.Dot{R: c.r, N: c.n}); got != c.want {
			t.Errorf("Code(%d, %d) = %q, want %q", c.r, c.n, got, c.want)
		}
	}
	for _, d := range edgeDots() {
		if got, want := Code(d), pack.Int(d.R)+pack.Int(d.N); got != want {
			t.Errorf("Code(%v) = %q, want %q", d, got, want)
		}
	}
}

// Promise 4.2: what is read of a text, and what is wrong then.
func TestRead(t *testing.T) {
	for _, c := range []struct {
		s     string
		want  api.Dot
		fault api.Errno
		left  int
	}{
		{"\x03\x11", api.Dot{R: 3, N: 17}, api.OK, 0},
		{"\x00\x01", api.Dot{R: 0, N: 1}, api.OK, 0},
		{"\x0F\x80\x80\x40", api.Dot{R: 15, N: mostSeq}, api.OK, 0},
		{"\x03\x11\x05", api.Dot{R: 3, N: 17}, api.OK, 1},
		{"\x02\xAC\x02\xFF\xFF", api.Dot{R: 2, N: 300}, api.OK, 2},
		{"\x10\x01", api.Dot{}, api.ErrArg, 0},         // R 16
		{"\x00\x00", api.Dot{}, api.ErrArg, 0},         // N 0
		{"\x0F\x00\x07", api.Dot{}, api.ErrArg, 0},     // N 0, and more behind it
		{"\x00\x81\x80\x40", api.Dot{}, api.ErrArg, 0}, // N 2^20 + 1
		{"\x10\x00", api.Dot{}, api.ErrArg, 0},         // both
		{"\x10\x01\x03\x11", api.Dot{}, api.ErrArg, 0}, // a right one behind it
		{"\x80\x01\x01", api.Dot{}, api.ErrArg, 0},     // R 128
		{"", api.Dot{}, api.ErrShort, 0},               // ends ahead of the first number
		{"\x83", api.Dot{}, api.ErrShort, 0},           // within it
		{"\x03", api.Dot{}, api.ErrShort, 0},           // ahead of the second one
		{"\x03\x91", api.Dot{}, api.ErrShort, 0},       // within it
		{"\x10", api.Dot{}, api.ErrShort, 0},           // what is wrong first is told, though R is 16, too
		{"\x10\x80", api.Dot{}, api.ErrShort, 0},       // likewise
		{"\x83\x00\x01", api.Dot{}, api.ErrForm, 0},    // a first number with needless bytes
		{"\x03\x91\x00", api.Dot{}, api.ErrForm, 0},    // a second one
		{"\x10\x91\x00", api.Dot{}, api.ErrForm, 0},    // likewise
		{strings.Repeat("\x80", 8) + "\x01\x01", api.Dot{}, api.ErrLong, 0},
		{"\x01" + strings.Repeat("\x80", 8) + "\x01", api.Dot{}, api.ErrLong, 0},
		{strings.Repeat("\xFF", 7) + "\x7F\x01", api.Dot{}, api.ErrArg, 0},
		{"\x01" + strings.Repeat("\xFF", 7) + "\x7F", api.Dot{}, api.ErrArg, 0},
	} {
		wantRead(t, c.s, c.want, c.fault, c.left)
	}
}

// Promise 4.2: of a reader with which something is wrong nothing is read, and that stays wrong; so of a nil one.
func TestReadOfWrongReaders(t *testing.T) {
	for _, e := range []api.Errno{api.ErrNil, api.ErrArg, api.ErrForm, api.ErrShort, api.ErrLong, api.ErrText} {
		r := pack.Open("\x03\x11")
		r.Fail(e)
		if d := Read(r); d != (api.Dot{}) || r.Fault() != e || r.End() != e {
			t.Errorf("with fault %d: %v, %d", e, d, r.Fault())
		}
	}
	r := pack.Open("\x03\x11\x10\x01\x03\x11")
	if d := Read(r); d != (api.Dot{R: 3, N: 17}) || r.Fault() != api.OK {
		t.Errorf("%v, %d", d, r.Fault())
	}
	for range 3 {
		if d := Read(r); d != (api.Dot{}) || r.Fault() != api.ErrArg || r.Left() != 0 {
			t.Errorf("%v, %d", d, r.Fault())
		}
	}
	var none *pack.Reader
	for range 2 {
		if d := Read(none); d != (api.Dot{}) || none.Fault() != api.ErrNil {
			t.Errorf("of a nil reader %v, %d", d, none.Fault())
		}
	}
}

// Promise 4.2: the bytes of any dot, read again: numbers below 0 are told as 0, and those from 2^56 on can't be read.
func TestReadOfAnyCode(t *testing.T) {
	for _, d := range edgeDots() {
		want, fault, left := api.Dot{R: max(d.R, 0), N: max(d.N, 0)}, api.OK, len("behind")
		switch {
		case d.R >= 1<<56, d.N >= 1<<56:
			want, fault, left = api.Dot{}, api.ErrLong, 0
		case !slowRight(want):
			want, fault, left = api.Dot{}, api.ErrArg, 0
		}
		wantRead(t, Code(d)+"behind", want, fault, left)
	}
}

// Promise 4.3: each right dot of some replicas, and some of the others, are parsed and read as they were told, and nothing is left.
func TestRightDotsAgain(t *testing.T) {
	for r := range 16 {
		step := 997
		if r == 0 || r == 15 {
			step = 1
		}
		for n := 1; n <= mostSeq; n += step {
			d := api.Dot{R: r, N: n}
			if p, e := Parse(Text(d)); p != d || e != api.OK {
				t.Fatalf("%v is told %q, and parsed %v, %d", d, Text(d), p, e)
			}
			reader := pack.Open(Code(d))
			if p := Read(reader); p != d || reader.End() != api.OK {
				t.Fatalf("%v is told %q, and read %v, %d", d, Code(d), p, reader.End())
			}
		}
	}
}

// Promise 4.3: dots one behind the other are read in that order; what is parsed is told by the same text.
func TestManyDotsAgain(t *testing.T) {
	var s strings.Builder
	var l []api.Dot
	for _, d := range edgeDots() {
		p, e := Parse(Text(d))
		if !slowRight(d) {
			if e != api.ErrText || p != (api.Dot{}) {
				t.Errorf("%q is parsed %v, %d", Text(d), p, e)
			}
			continue
		}
		if Text(p) != Text(d) {
			t.Errorf("%q is parsed %v", Text(d), p)
		}
		l = append(l, d)
		s.WriteString(Code(d))
	}
	r := pack.Open(s.String())
	for i, d := range l {
		if got := Read(r); got != d {
			t.Errorf("the dot %d of %d is read %v, want %v", i, len(l), got, d)
		}
	}
	if len(l) < 20 || r.End() != api.OK {
		t.Errorf("of %d dots: %d", len(l), r.End())
	}
}

// Promise 4.3: dots and operations stand in one row: of two one stands ahead, or they are the same; of three the order goes on.
func TestOneRow(t *testing.T) {
	refs := edgeRefs()
	for _, a := range refs {
		for _, b := range refs {
			if Compare(a.D, b.D) != -Compare(b.D, a.D) || (Compare(a.D, b.D) == 0) != (a.D == b.D) {
				t.Fatalf("%v and %v: %d, %d", a.D, b.D, Compare(a.D, b.D), Compare(b.D, a.D))
			}
			if Refs(a, b) != -Refs(b, a) || (Refs(a, b) == 0) != (a == b) {
				t.Fatalf("%v and %v: %d, %d", a, b, Refs(a, b), Refs(b, a))
			}
			for _, c := range refs {
				if Compare(a.D, b.D) < 0 && Compare(b.D, c.D) < 0 && Compare(a.D, c.D) != -1 {
					t.Fatalf("%v, %v and %v", a.D, b.D, c.D)
				}
				if Refs(a, b) < 0 && Refs(b, c) < 0 && Refs(a, c) != -1 {
					t.Fatalf("%v, %v and %v", a, b, c)
				}
			}
		}
	}
	var row []api.Dot
	for r := range 16 {
		for _, n := range []int{1, 2, 9, 10, 300, mostSeq - 1, mostSeq} {
			row = append(row, api.Dot{R: r, N: n})
		}
	}
	mixed := slices.Clone(row)
	slices.SortFunc(mixed, func(a, b api.Dot) int { return strings.Compare(Text(a), Text(b)) })
	slices.SortFunc(mixed, Compare)
	if !slices.Equal(mixed, row) {
		t.Errorf("sorted: %v", mixed)
	}
}

// P1 and R1 to R5: long texts end, and all is answered the same again.
func TestTheSameAgain(t *testing.T) {
	for _, s := range []string{"3.17", "3.", strings.Repeat("1", 1<<20), strings.Repeat("1.", 1<<20), strings.Repeat(".", 1<<20), "1." + strings.Repeat("0", 1<<20)} {
		d, e := Parse(s)
		wantParse(t, s, d, e)
		if (e == api.OK) != (s == "3.17") {
			t.Errorf("Parse(%.80q): %d", s, e)
		}
	}
	for _, d := range edgeDots() {
		kept := d
		right, text, code := Right(d), Text(d), Code(d)
		if Right(d) != right || Text(d) != text || Code(d) != code || d != kept {
			t.Errorf("%v is answered in two ways", d)
		}
	}
	if s := strconv.Itoa(math.MaxInt); Text(api.Dot{R: math.MaxInt, N: math.MaxInt}) != s+"."+s {
		t.Error("an int has another size")
	}
}
