package pack

import (
	"math"
	"strings"
	"testing"

	"palinode/api"
)

// above is the least number that has too many bytes to be read.
const above = 1 << 56

// highs is a text of so many bytes that all say that more follow.
func highs(n int) string { return strings.Repeat("\x80", n) }

// numbers tells the edges of each length, of what can be read, and some more.
func numbers() []int {
	l := []int{0, 1, 2, 5, 63, 64, 255, 256, 300, 1000, 1 << 20, 1<<31 - 1, 1 << 31}
	for bit := 7; bit <= 56; bit += 7 {
		l = append(l, 1<<bit-2, 1<<bit-1)
		if bit < 56 {
			l = append(l, 1<<bit, 1<<bit+1)
		}
	}
	x := uint64(1)
	for i := range 2000 {
		x = x*6364136223846793005 + 1442695040888963407
		l = append(l, int(x>>8>>(i%56)))
	}
	return l
}

// texts tells texts on both sides of where lengths need another byte, and of all bytes.
func texts() []string {
	all := make([]byte, 256)
	for i := range all {
		all[i] = byte(i)
	}
	return []string{
		"", "\x00", "\x80", "\xFF", "a", "ab", "\x03abc", "häßlich ✓ 世界", "\xC3\x28 is no rune",
		strings.Repeat("x", 127), strings.Repeat("x", 128), strings.Repeat("\xFF", 129),
		strings.Repeat("y", 16383), strings.Repeat("y", 16384), string(all), highs(9),
	}
}

// slowly is a number's bytes as the document says it, by divisions.
func slowly(n int) []byte {
	if n < 0 {
		n = 0
	}
	l := []byte{byte(n % 128)}
	for n /= 128; n > 0; n /= 128 {
		l[len(l)-1] += 128
		l = append(l, byte(n%128))
	}
	return l
}

func wantFault(t *testing.T, what string, r *Reader, want api.Errno) {
	t.Helper()
	if got := r.Fault(); got != want {
		t.Errorf("%.40q: Fault() = %d, want %d", what, got, want)
	}
}

// stuck holds that a reader with an error reads nothing more, and tells the same error again and again.
func stuck(t *testing.T, what string, r *Reader, want api.Errno) {
	t.Helper()
	wantFault(t, what, r, want)
	for range 2 {
		n, s, m := r.Int(), r.Text(), r.Many(math.MaxInt)
		if n != 0 || s != "" || m != 0 || r.Many(-1) != 0 {
			t.Errorf("%.40q: behind the error were read %d, %q and %d", what, n, s, m)
		}
		if got := r.Left(); got != 0 {
			t.Errorf("%.40q: behind the error Left() = %d", what, got)
		}
		if got := r.End(); got != want {
			t.Errorf("%.40q: behind the error End() = %d, want %d", what, got, want)
		}
		r.Fail(api.ErrSum)
		r.Fail(api.OK)
		wantFault(t, what+", failed again", r, want)
	}
}

// Promise 2.1: the bytes of numbers, seven bits each, the lowest ones first, as few as can be.
func TestInt(t *testing.T) {
	for _, c := range []struct {
		n    int
		want string
	}{
		{0, "\x00"},
		{1, "\x01"},
		{127, "\x7F"},
		{128, "\x80\x01"},
		{129, "\x81\x01"},
		{255, "\xFF\x01"},
		{256, "\x80\x02"},
		{300, "\xAC\x02"},
		{16383, "\xFF\x7F"},
		{16384, "\x80\x80\x01"},
		{1 << 20, "\x80\x80\x40"},
		{1<<31 - 1, "\xFF\xFF\xFF\xFF\x07"},
		{1<<49 - 1, "\xFF\xFF\xFF\xFF\xFF\xFF\x7F"},
		{1 << 49, "\x80\x80\x80\x80\x80\x80\x80\x01"},
		{above - 1, "\xFF\xFF\xFF\xFF\xFF\xFF\xFF\x7F"},
		{above, "\x80\x80\x80\x80\x80\x80\x80\x80\x01"},
		{math.MaxInt, "\xFF\xFF\xFF\xFF\xFF\xFF\xFF\xFF\x7F"},
		{-1, "\x00"},
		{-5, "\x00"},
		{-128, "\x00"},
		{math.MinInt, "\x00"},
	} {
		if got := Int(c.n); got != c.want {
			t.Errorf("Int(%d) = %q, want %q", c.n, got, c.want)
		}
	}
	for _, n := range numbers() {
		if got, want := Int(n), string(slowly(n)); got != want {
			t.Errorf("Int(%d) = %q, want %q", n, got, want)
		}
		if got := Int(-n); n > 0 && got != "\x00" {
			t.Errorf("Int(%d) = %q", -n, got)
		}
	}
}

// Promise 2.1: a text stands behind how many bytes, not runes, it has.
func TestText(t *testing.T) {
	for s, want := range map[string]string{
		"":                        "\x00",
		"\x00":                    "\x01\x00",
		"abc":                     "\x03abc",
		"✓":                       "\x03✓",
		strings.Repeat("x", 127):  "\x7F" + strings.Repeat("x", 127),
		strings.Repeat("x", 128):  "\x80\x01" + strings.Repeat("x", 128),
		strings.Repeat("x", 300):  "\xAC\x02" + strings.Repeat("x", 300),
		strings.Repeat("é", 8192): "\x80\x80\x01" + strings.Repeat("é", 8192),
	} {
		if got := Text(s); got != want {
			t.Errorf("Text(%.40q) = %.40q, want %.40q", s, got, want)
		}
	}
	for _, s := range texts() {
		if got := Text(s); got != string(slowly(len(s)))+s {
			t.Errorf("Text(%.40q) = %.40q", s, got)
		}
	}
}

// Promise 2.2: numbers are read one behind the other, up to the end.
func TestReadInts(t *testing.T) {
	var s strings.Builder
	for _, n := range numbers() {
		s.WriteString(Int(n))
	}
	r := Open(s.String())
	left := s.Len()
	for i, n := range numbers() {
		if got := r.Int(); got != n {
			t.Fatalf("number %d is %d, want %d", i, got, n)
		}
		left -= len(Int(n))
		if r.Left() != left || r.Fault() != api.OK {
			t.Fatalf("behind number %d: Left() = %d, want %d; Fault() = %d", i, r.Left(), left, r.Fault())
		}
	}
	if got := r.End(); got != api.OK {
		t.Errorf("End() = %d", got)
	}
	if r.Int() != 0 {
		t.Error("a number behind the end")
	}
	stuck(t, "behind the end", r, api.ErrShort)
}

// Promise 2.2: what is no number is told as what the document names first of what is wrong.
func TestReadIntWrong(t *testing.T) {
	for _, c := range []struct {
		s    string
		want api.Errno
	}{
		{"", api.ErrShort},
		{"\x80", api.ErrShort},
		{"\xFF", api.ErrShort},
		{"\xAC", api.ErrShort},
		{"\x80\x80", api.ErrShort},
		{highs(7), api.ErrShort},
		{highs(8), api.ErrShort}, // too long as well, but ErrShort is named first
		{highs(9), api.ErrShort},
		{highs(1000), api.ErrShort},
		{highs(8) + "\x01", api.ErrLong},
		{highs(8) + "\x7F", api.ErrLong},
		{strings.Repeat("\xFF", 8) + "\x01", api.ErrLong},
		{strings.Repeat("\xFF", 8) + "\x7F rest", api.ErrLong},
		{highs(9) + "\x01", api.ErrLong},
		{highs(1000) + "\x01", api.ErrLong},
		{highs(8) + "\x00", api.ErrLong}, // and a last byte 0, but ErrLong is named first
		{highs(20) + "\x00", api.ErrLong},
		{Int(above), api.ErrLong},
		{Int(math.MaxInt), api.ErrLong},
		{"\x80\x00", api.ErrForm},
		{"\xFF\x00", api.ErrForm},
		{"\x81\x00\x05", api.ErrForm},
		{"\x80\x80\x00", api.ErrForm},
		{highs(7) + "\x00", api.ErrForm},
	} {
		for _, ahead := range []string{"", "\x00", Int(300)} {
			r := Open(ahead + c.s)
			if ahead != "" {
				r.Int()
			}
			wantFault(t, "ahead of it", r, api.OK)
			if got := r.Int(); got != 0 {
				t.Errorf("of %.20q the number is %d", c.s, got)
			}
			stuck(t, "Int of "+c.s, r, c.want)

			r = Open(ahead + c.s)
			if ahead != "" {
				r.Int()
			}
			if got := r.Text(); got != "" {
				t.Errorf("of %.20q the text is %q", c.s, got)
			}
			stuck(t, "Text of "+c.s, r, c.want)

			// What is wrong with the number comes ahead of what may not be, even of most below 0.
			for _, most := range []int{math.MinInt, -1, 0, 5, math.MaxInt} {
				r = Open(ahead + c.s)
				if ahead != "" {
					r.Int()
				}
				if got := r.Many(most); got != 0 {
					t.Errorf("of %.20q they are %d", c.s, got)
				}
				stuck(t, "Many of "+c.s, r, c.want)
			}
		}
	}
}

// Promise 2.2: a number that is 0, or whose bytes but the last one hold nothing, is none that is wrong.
func TestReadIntRight(t *testing.T) {
	for s, want := range map[string]int{
		"\x00":                  0,
		"\x00\x00":              0,
		"\x01\x00":              1,
		"\x7F\xFF":              127,
		"\x80\x01":              128,
		"\x80\x80\x01":          1 << 14,
		highs(7) + "\x01":       1 << 49,
		highs(7) + "\x7F":       127 << 49,
		"\xAC\x02rest":          300,
		Int(above - 1):          above - 1,
		Int(above-1) + highs(9): above - 1,
	} {
		r := Open(s)
		if got := r.Int(); got != want || r.Fault() != api.OK {
			t.Errorf("of %q the number is %d, and wrong is %d, want %d", s, got, r.Fault(), want)
		}
	}
}

// Promise 2.2: a number is cut off wherever the text ends inside it.
func TestReadCutNumber(t *testing.T) {
	for _, n := range numbers() {
		s := Int(n)
		for i := range len(s) {
			r := Open(s[:i])
			if got := r.Int(); got != 0 || r.Fault() != api.ErrShort {
				t.Errorf("of %d, cut off at %d, are read %d, and wrong is %d", n, i, got, r.Fault())
			}
		}
	}
}

// Promise 2.2: texts are read by their lengths, and not if one byte of them lacks.
func TestReadTexts(t *testing.T) {
	var all strings.Builder
	for _, s := range texts() {
		all.WriteString(Text(s))
	}
	r := Open(all.String())
	for _, s := range texts() {
		if got := r.Text(); got != s {
			t.Errorf("the text is %.40q, want %.40q", got, s)
		}
	}
	if got := r.End(); got != api.OK {
		t.Errorf("End() = %d", got)
	}
	for _, s := range texts() {
		cut := Text(s)
		r := Open(cut[:len(cut)-1])
		if got := r.Text(); got != "" {
			t.Errorf("of %.40q, cut off, is read %.40q", cut, got)
		}
		stuck(t, "a text that is cut off", r, api.ErrShort)
	}
	for s, want := range map[string]api.Errno{
		"\x05abc":           api.ErrShort,
		"\x04abc":           api.ErrShort,
		"\x01":              api.ErrShort,
		"\x03abc":           api.OK,
		"\x03abcd":          api.ErrForm,
		"\x00":              api.OK,
		"\x00\x00":          api.ErrForm,
		"\x83\x00abc":       api.ErrForm,
		Int(above-1) + "ab": api.ErrShort,
	} {
		r := Open(s)
		r.Text()
		if got := r.End(); got != want {
			t.Errorf("of %q End() = %d, want %d", s, got, want)
		}
	}
}

// Promise 2.2: Many is bounded by most, and by what is left behind the number; ErrLong is named first.
func TestMany(t *testing.T) {
	for _, c := range []struct {
		s    string
		most int
		n    int
		want api.Errno
	}{
		{"\x00", 0, 0, api.OK},
		{"\x00", 5, 0, api.OK},
		{"\x00xy", math.MaxInt, 0, api.OK},
		{"\x03abc", 3, 3, api.OK},
		{"\x03abcd", 3, 3, api.OK},
		{"\x03abc", 4, 3, api.OK},
		{"\x03abc", 2, 0, api.ErrLong},
		{"\x03abc", 0, 0, api.ErrLong},
		{"\x03ab", 3, 0, api.ErrShort},
		{"\x03ab", 4, 0, api.ErrShort},
		{"\x03", math.MaxInt, 0, api.ErrShort},
		{"\x03ab", 2, 0, api.ErrLong}, // above both
		{"\x03", 2, 0, api.ErrLong},
		{"\x09abcdefghi", 8, 0, api.ErrLong},
		{"\x09abcdefghi", 9, 9, api.OK},
		{"\x09abc", 20, 0, api.ErrShort},
		{"\x00", -1, 0, api.ErrLong},
		{"\x00abc", math.MinInt, 0, api.ErrLong},
		{"\x03abc", -1, 0, api.ErrLong},
		{Int(128) + strings.Repeat("x", 128), 128, 128, api.OK},
		{Int(128) + strings.Repeat("x", 127), 128, 0, api.ErrShort},
		{Int(128) + strings.Repeat("x", 128), 127, 0, api.ErrLong},
		{Int(above - 1), above - 1, 0, api.ErrShort},
		{Int(above - 1), above - 2, 0, api.ErrLong},
	} {
		r := Open(c.s)
		if got := r.Many(c.most); got != c.n || r.Fault() != c.want {
			t.Errorf("of %.20q Many(%d) = %d, and wrong is %d, want %d and %d", c.s, c.most, got, r.Fault(), c.n, c.want)
		}
		if c.want != api.OK {
			stuck(t, "Many", r, c.want)
		} else if got := r.Left(); got != len(c.s)-len(Int(c.n)) {
			t.Errorf("of %.20q are left %d", c.s, got)
		}
	}
}

// Promise 2.2: what is behind Many is still to be read.
func TestManyThenParts(t *testing.T) {
	r := Open(Int(3) + Int(300) + Text("ab") + Int(0) + "xy")
	if r.Many(3) != 3 || r.Int() != 300 || r.Text() != "ab" || r.Int() != 0 || r.Left() != 2 {
		t.Errorf("%d left, wrong is %d", r.Left(), r.Fault())
	}
	wantFault(t, "ahead of the end", r, api.OK)
	if got := r.End(); got != api.ErrForm {
		t.Errorf("End() = %d", got)
	}
	stuck(t, "something left", r, api.ErrForm)
}

// Promise 2.2: Fail notes what is wrong first, and that alone.
func TestFail(t *testing.T) {
	for e := api.ErrNil; e <= api.ErrText; e++ {
		r := Open(Int(5) + Text("ab"))
		r.Fail(e)
		stuck(t, "failed at once", r, e)

		r = Open(Int(5) + Text("ab"))
		if r.Int() != 5 {
			t.Error("the number ahead")
		}
		r.Fail(e)
		stuck(t, "failed behind a number", r, e)

		r = Open("")
		r.Fail(e)
		stuck(t, "failed with nothing left", r, e)

		r = Open("\x80\x00")
		r.Int()
		r.Fail(e)
		stuck(t, "failed behind an error", r, api.ErrForm)
	}
	r := Open(Int(5))
	r.Fail(api.OK)
	if r.Fault() != api.OK || r.Left() != 1 || r.Int() != 5 || r.End() != api.OK {
		t.Error("nothing was wrong, and now something is")
	}
	r.Fail(api.ErrSum)
	stuck(t, "failed behind the end", r, api.ErrSum)
}

// Promise 2.2: Left and End of a text that is whole, or not read, or empty.
func TestLeftEnd(t *testing.T) {
	r := Open("")
	if r.Left() != 0 || r.Fault() != api.OK || r.End() != api.OK || r.End() != api.OK {
		t.Errorf("of nothing wrong is %d", r.Fault())
	}
	for _, s := range []string{"\x00", "\x80", "abc", highs(9), strings.Repeat("x", 1000)} {
		r := Open(s)
		if got := r.Left(); got != len(s) {
			t.Errorf("of %.20q are left %d", s, got)
		}
		if r.Fault() != api.OK || r.Left() != len(s) {
			t.Errorf("of %.20q, asked again, are left %d, and wrong is %d", s, r.Left(), r.Fault())
		}
		if got := r.End(); got != api.ErrForm {
			t.Errorf("of %.20q End() = %d", s, got)
		}
		stuck(t, "not read", r, api.ErrForm)
	}
}

// Promise 2.2, P1: a nil reader answers 0, nothing, and ErrNil, at every call and behind each.
func TestNilReader(t *testing.T) {
	var r *Reader
	stuck(t, "nil", r, api.ErrNil)
	for _, most := range []int{math.MinInt, -1, 0, 1, math.MaxInt} {
		if got := r.Many(most); got != 0 {
			t.Errorf("Many(%d) = %d", most, got)
		}
	}
	for e := api.OK; e <= api.ErrText; e++ {
		r.Fail(e)
		stuck(t, "nil, and failed", r, api.ErrNil)
	}
	if Open("") == nil {
		t.Error("Open of nothing is nil")
	}
}

// R5: two readers of one text do not know of each other.
func TestTwoReaders(t *testing.T) {
	s := Int(300) + Text("ab")
	a, b := Open(s), Open(s)
	a.Fail(api.ErrSum)
	if b.Int() != 300 || b.Text() != "ab" || b.End() != api.OK {
		t.Errorf("wrong is %d", b.Fault())
	}
	wantFault(t, "the other one", a, api.ErrSum)
}

// Promise 2.3: what is told is read, whatever stands behind, and no more than it.
func TestReadAsTold(t *testing.T) {
	behind := []string{"", "\x00", "\x01", "\x7F", "\x80", "\xFF\xFF", "rest", highs(9)}
	for _, rest := range behind {
		for _, n := range numbers() {
			r := Open(Int(n) + rest)
			if got := r.Int(); got != n || r.Fault() != api.OK || r.Left() != len(rest) {
				t.Fatalf("%d and %q: %d is read, %d are left", n, rest, got, r.Left())
			}
		}
		for _, s := range texts() {
			r := Open(Text(s) + rest)
			if got := r.Text(); got != s || r.Fault() != api.OK || r.Left() != len(rest) {
				t.Fatalf("%.20q and %q: %.20q is read, %d are left", s, rest, got, r.Left())
			}
		}
	}
}

// told holds that what a text's reader reads is told as just the bytes that were read.
func told(t *testing.T, s string) {
	t.Helper()
	r := Open(s)
	if n := r.Int(); r.Fault() == api.OK {
		if n < 0 || n >= above || Int(n)+s[len(s)-r.Left():] != s {
			t.Fatalf("of %q is read %d, and %d are left", s, n, r.Left())
		}
	} else if n != 0 {
		t.Fatalf("of %q, which is wrong, is read %d", s, n)
	}
	r = Open(s)
	if got := r.Text(); r.Fault() == api.OK {
		if Text(got)+s[len(s)-r.Left():] != s {
			t.Fatalf("of %q is read %q, and %d are left", s, got, r.Left())
		}
	} else if got != "" {
		t.Fatalf("of %q, which is wrong, is read %q", s, got)
	}
}

// Promise 2.3: of all texts of up to ten bytes, out of those at which something changes, and of all of two.
func TestToldAsRead(t *testing.T) {
	for a := range 256 {
		told(t, string([]byte{byte(a)}))
		for b := range 256 {
			told(t, string([]byte{byte(a), byte(b)}))
		}
	}
	level := []string{""}
	for range 10 {
		var next []string
		for _, s := range level {
			for _, b := range []string{"\x00", "\x01", "\x80"} {
				told(t, s+b)
				next = append(next, s+b)
			}
		}
		level = next
	}
}

// P1: whatever is read, in whatever order, nothing panics, and an error stays as it is.
func FuzzReader(f *testing.F) {
	f.Add("", "", 0)
	f.Add("\x05abc", "itmle", 3)
	f.Add(highs(8)+"\x01", "mti", -1)
	f.Add(Int(2)+Text("ab")+Int(300), "mtife", 5)
	f.Fuzz(func(t *testing.T, s, calls string, most int) {
		told(t, s)
		r := Open(s)
		for i := range len(calls) {
			fault, left := r.Fault(), r.Left()
			switch calls[i] {
			case 'i':
				r.Int()
			case 't':
				r.Text()
			case 'm':
				if n := r.Many(most); n < 0 || n > max(most, 0) || n > r.Left() {
					t.Errorf("Many(%d) = %d", most, n)
				}
			case 'f':
				r.Fail(api.ErrSum)
			case 'e':
				r.End()
			}
			if fault != api.OK && r.Fault() != fault || r.Left() > left {
				t.Errorf("%d was wrong, and now is %d; %d were left, and now are %d", fault, r.Fault(), left, r.Left())
			}
		}
	})
}
