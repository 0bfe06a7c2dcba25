package sum

import (
	"strings"
	"testing"
)

// slowly is More as the document says it, bit by bit: the table is held against it.
func slowly(sum uint32, s string) uint32 {
	left := ^sum
	for i := 0; i < len(s); i++ {
		left ^= uint32(s[i])
		for bit := 0; bit < 8; bit++ {
			fell := left & 1
			left >>= 1
			if fell == 1 {
				left ^= 0xEDB88320
			}
		}
	}
	return ^left
}

// allBytes is a text of every byte value, once each.
func allBytes() string {
	b := make([]byte, 256)
	for i := range b {
		b[i] = byte(i)
	}
	return string(b)
}

func texts() []string {
	all := allBytes()
	return []string{
		"", "\x00", "\xFF", "a", "abc", "abcd", "abcde", "123456789",
		"The quick brown fox jumps over the lazy dog",
		"\x00\x00\x00\x00", "\xFF\xFF\xFF\xFF", "häßlich ✓ 世界", "\xC3\x28 is no rune",
		all, all + all, strings.Repeat("\x00", 1000), strings.Repeat("palinode ", 5000),
	}
}

// sums tells 0, all ones, each single bit, each lack of one, and some more.
func sums() []uint32 {
	l := []uint32{0, ^uint32(0), 0x01020304, 0xFFFEFDFC, 0xCBF43926, 0xEDB88320, 0x2144DF1C}
	for bit := range 32 {
		l = append(l, 1<<bit, ^(uint32(1) << bit))
	}
	x := uint32(1)
	for range 500 {
		x = x*1664525 + 1013904223
		l = append(l, x)
	}
	return l
}

// Promise 1.1: sums that are known from elsewhere.
func TestOfKnownTexts(t *testing.T) {
	for _, c := range []struct {
		s    string
		want uint32
	}{
		{"", 0},
		{"\x00", 0xD202EF8D},
		{"\xFF", 0xFF000000},
		{"a", 0xE8B7BE43},
		{"abc", 0x352441C2},
		{"123456789", 0xCBF43926},
		{"message digest", 0x20159D7F},
		{"abcdefghijklmnopqrstuvwxyz", 0x4C2750BD},
		{"The quick brown fox jumps over the lazy dog", 0x414FA339},
		{strings.Repeat("\x00", 32), 0x190A55AD},
		{strings.Repeat("\xFF", 32), 0xFF6CAB0B},
		{allBytes(), 0x29058C73},
	} {
		if got := Of(c.s); got != c.want {
			t.Errorf("Of(%q) = %08X, want %08X", c.s, got, c.want)
		}
	}
}

// Promise 1.1: the table does what the document says bit by bit, at every byte value and behind any sum.
func TestMoreBitByBit(t *testing.T) {
	for _, sum := range sums() {
		for b := range 256 {
			s := string([]byte{byte(b)})
			if got, want := More(sum, s), slowly(sum, s); got != want {
				t.Fatalf("More(%08X, %q) = %08X, want %08X", sum, s, got, want)
			}
		}
	}
	for _, sum := range []uint32{0, 1, ^uint32(0), 0xCBF43926, 0x80000000} {
		for _, s := range texts() {
			if got, want := More(sum, s), slowly(sum, s); got != want {
				t.Errorf("More(%08X, %.40q) = %08X, want %08X", sum, s, got, want)
			}
		}
	}
}

// Promise 1.1: the empty text leaves any sum as it is, and Of is More of 0.
func TestMoreOfNothing(t *testing.T) {
	for _, sum := range sums() {
		if got := More(sum, ""); got != sum {
			t.Errorf("More(%08X, \"\") = %08X", sum, got)
		}
	}
	for _, s := range texts() {
		if Of(s) != More(0, s) {
			t.Errorf("Of(%.40q) = %08X, More of 0 is %08X", s, Of(s), More(0, s))
		}
	}
}

// Promise 1.1: wherever a text is parted, the sum behind the first part's is the whole one's.
func TestMoreBehindAnother(t *testing.T) {
	s := "123456789\x00\xFF" + allBytes()
	want := Of(s)
	for i := range len(s) + 1 {
		if got := More(Of(s[:i]), s[i:]); got != want {
			t.Errorf("parted at %d: %08X, want %08X", i, got, want)
		}
	}
	sum := Of("")
	for i := range len(s) {
		sum = More(sum, s[i:i+1])
	}
	if sum != want {
		t.Errorf("byte by byte: %08X, want %08X", sum, want)
	}
}

// Promise 1.2: four bytes, the lowest one first, of any sum.
func TestBytes(t *testing.T) {
	for _, c := range []struct {
		sum  uint32
		want string
	}{
		{0, "\x00\x00\x00\x00"},
		{^uint32(0), "\xFF\xFF\xFF\xFF"},
		{0x01020304, "\x04\x03\x02\x01"},
		{0x80000000, "\x00\x00\x00\x80"},
		{0x00000080, "\x80\x00\x00\x00"},
		{0xCBF43926, "\x26\x39\xF4\xCB"},
	} {
		if got := Bytes(c.sum); got != c.want {
			t.Errorf("Bytes(%08X) = %q, want %q", c.sum, got, c.want)
		}
	}
	for _, sum := range sums() {
		b := Bytes(sum)
		if len(b) != 4 {
			t.Fatalf("Bytes(%08X) = %q", sum, b)
		}
		back := uint32(b[0]) + uint32(b[1])*256 + uint32(b[2])*65536 + uint32(b[3])*16777216
		if back != sum {
			t.Errorf("Bytes(%08X) = %q, which is %08X", sum, b, back)
		}
	}
}

// Promise 1.2: the text stands first, its sum's bytes behind it.
func TestSealed(t *testing.T) {
	for s, want := range map[string]string{
		"":          "\x00\x00\x00\x00",
		"abc":       "abc\xC2\x41\x24\x35",
		"123456789": "123456789\x26\x39\xF4\xCB",
	} {
		if got := Sealed(s); got != want {
			t.Errorf("Sealed(%q) = %q, want %q", s, got, want)
		}
	}
	for _, s := range texts() {
		if Sealed(s) != s+Bytes(Of(s)) {
			t.Errorf("Sealed(%.40q)", s)
		}
	}
}

// Promise 1.3: what is sealed is opened again, however often it was.
func TestOpenSealed(t *testing.T) {
	for _, s := range texts() {
		if got, ok := Open(Sealed(s)); !ok || got != s {
			t.Errorf("Open(Sealed(%.40q)) = %.40q, %v", s, got, ok)
		}
		if got, ok := Open(Sealed(Sealed(s))); !ok || got != Sealed(s) {
			t.Errorf("Open of %.40q, sealed twice, = %.40q, %v", s, got, ok)
		}
	}
}

func refused(t *testing.T, s string) {
	t.Helper()
	if got, ok := Open(s); ok || got != "" {
		t.Errorf("Open(%.40q) = %.40q, %v", s, got, ok)
	}
}

// Promise 1.2: texts of fewer than four bytes have no sum behind them.
func TestOpenShort(t *testing.T) {
	refused(t, "")
	for b := range 256 {
		for n := 1; n < 4; n++ {
			refused(t, strings.Repeat(string([]byte{byte(b)}), n))
		}
	}
	refused(t, "abc")
	refused(t, Sealed("")[:3])
}

// Promise 1.2: of four bytes only the empty text's sum is opened.
func TestOpenFour(t *testing.T) {
	if got, ok := Open("\x00\x00\x00\x00"); !ok || got != "" {
		t.Errorf("Open of four zeros = %q, %v", got, ok)
	}
	for _, sum := range sums() {
		if sum != 0 {
			refused(t, Bytes(sum))
		}
	}
}

// Promise 1.2: what is not a text with its own sum behind it is refused.
func TestOpenWrong(t *testing.T) {
	refused(t, "abcdefgh")
	refused(t, "abc\x35\x24\x41\xC2")      // the highest byte first
	refused(t, "\xC2\x41\x24\x35abc")      // the sum ahead
	refused(t, "abd\xC2\x41\x24\x35")      // another text's sum
	refused(t, "abc"+Bytes(^Of("abc")))    // what is left, not its complement
	refused(t, "\x00\x00\x00\x00\x00")     // a sum of 0 behind a text whose sum is another one
	refused(t, Sealed("abc")+"d")          // more behind
	refused(t, "d"+Sealed("abc"))          // more ahead
	refused(t, Sealed("abc")[:6])          // cut off
	refused(t, Sealed("abc")[1:])          // cut off ahead
	refused(t, "abc"+Bytes(Of("abc"))[1:]) // a sum of three bytes
}

// Promise 1.3: whichever byte is another one, in the text or in the sum, the sum is another one, and it is not opened.
func TestOneByteChanged(t *testing.T) {
	all := allBytes()
	for _, s := range []string{"", "\x00", "a", "abc", "123456789", "\x00\x00\x00\x00\x00", all} {
		sealed := Sealed(s)
		for i := range len(sealed) {
			for b := range 256 {
				if sealed[i] == byte(b) {
					continue
				}
				other := sealed[:i] + string([]byte{byte(b)}) + sealed[i+1:]
				refused(t, other)
				if i < len(s) && Of(other[:len(s)]) == Of(s) {
					t.Fatalf("%.40q and %.40q have the same sum", s, other[:len(s)])
				}
			}
		}
	}
}

// P1: no text makes a call panic, and each answers the same again.
func FuzzSealOpen(f *testing.F) {
	f.Add(uint32(0), "")
	f.Add(uint32(0xCBF43926), "123456789")
	f.Add(^uint32(0), "\x00\x00\x00\x00")
	f.Fuzz(func(t *testing.T, sum uint32, s string) {
		if More(sum, s) != slowly(sum, s) {
			t.Errorf("More(%08X, %q) = %08X", sum, s, More(sum, s))
		}
		if got, ok := Open(Sealed(s)); !ok || got != s {
			t.Errorf("Open(Sealed(%q)) = %q, %v", s, got, ok)
		}
		if got, ok := Open(s); ok && Sealed(got) != s || !ok && got != "" {
			t.Errorf("Open(%q) = %q, %v", s, got, ok)
		}
	})
}
