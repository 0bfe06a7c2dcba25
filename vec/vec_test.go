package vec

import (
	"math"
	"strings"
	"testing"

	"palinode/api"
	"palinode/pack"
)

// mostSeq is the greatest number that a right vector may have: 2^20.
const mostSeq = 1048576

// places is how many numbers a vector has.
const places = 16

// edges tells numbers at and around all bounds of a vector's numbers, and of ints.
func edges() []int {
	return []int{math.MinInt, math.MinInt + 1, -1 << 32, -mostSeq, -2, -1, 0, 1, 2, 15, 16, 17, 127, 128, 300,
		mostSeq - 1, mostSeq, mostSeq + 1, 1 << 21, 1 << 31, 1 << 32, 1<<32 + 1, 1<<56 - 1, 1 << 56, math.MaxInt - 1, math.MaxInt}
}

// full tells the vector all of whose numbers are n.
func full(n int) (v api.Vec) {
	for r := range v {
		v[r] = n
	}
	return v
}

// rising tells the vector 1, 2, 3 .. 16.
func rising() (v api.Vec) {
	for r := range v {
		v[r] = r + 1
	}
	return v
}

// with tells a vector one of whose numbers is another one.
func with(v api.Vec, r, n int) api.Vec {
	v[r] = n
	return v
}

// ordinary tells right vectors that are alike in nothing.
func ordinary() []api.Vec {
	return []api.Vec{{}, {1}, {15: 1}, {1, 0, 5}, {2, 3, 4}, rising(), full(1), full(mostSeq), full(mostSeq - 1),
		{0: mostSeq, 15: mostSeq}, {7: 300, 8: 127, 9: 128}, {3: 17, 4: 1}}
}

// small tells all vectors whose numbers are a few at the first place, one within, and the last one, and 0 elsewhere.
func small(numbers ...int) (l []api.Vec) {
	for _, x := range numbers {
		for _, y := range numbers {
			for _, z := range numbers {
				l = append(l, api.Vec{0: x, 6: y, 15: z})
			}
		}
	}
	return l
}

// edgeVectors tells ordinary vectors, each of whose numbers in turn is at an edge.
func edgeVectors() (l []api.Vec) {
	for _, v := range []api.Vec{{}, rising(), full(mostSeq)} {
		for r := range v {
			for _, n := range edges() {
				l = append(l, with(v, r, n))
			}
		}
	}
	return append(l, ordinary()...)
}

// slowRight is what the document says of a right vector.
func slowRight(v api.Vec) bool {
	for r := range places {
		if v[r] < 0 || v[r] > mostSeq {
			return false
		}
	}
	return true
}

// slowHas is what the document says of a vector's dots.
func slowHas(v api.Vec, d api.Dot) bool {
	if d.R < 0 || d.R > 15 || d.N < 1 || d.N > mostSeq {
		return false
	}
	return !(d.N > v[d.R])
}

// slowJoin takes number by number the greater one.
func slowJoin(a, b api.Vec) (v api.Vec) {
	for r := range places {
		if a[r] > b[r] {
			v[r] = a[r]
		} else {
			v[r] = b[r]
		}
	}
	return v
}

// slowMeet takes number by number the lesser one.
func slowMeet(a, b api.Vec) (v api.Vec) {
	for r := range places {
		if a[r] < b[r] {
			v[r] = a[r]
		} else {
			v[r] = b[r]
		}
	}
	return v
}

// slowWithin holds number against number.
func slowWithin(a, b api.Vec) bool {
	for r := range places {
		if a[r] > b[r] {
			return false
		}
	}
	return true
}

// slowCode tells sixteen numbers, one behind the other.
func slowCode(v api.Vec) (s string) {
	for r := range places {
		s += pack.Int(v[r])
	}
	return s
}

// wantRead reads a vector from a text, and holds what is told, what is wrong then, and how much is left.
func wantRead(t *testing.T, s string, want api.Vec, fault api.Errno, left int) {
	t.Helper()
	r := pack.Open(s)
	if v := Read(r); v != want || r.Fault() != fault || r.Left() != left {
		t.Errorf("of %q is read %v, with fault %d and %d bytes left, want %v, %d and %d", s, v, r.Fault(), r.Left(), want, fault, left)
	}
}

// Promise 5.1: which vectors are right, at all bounds of each number, the others being right.
func TestRight(t *testing.T) {
	for _, v := range ordinary() {
		if !Right(v) {
			t.Errorf("%v is not right", v)
		}
		for r := range places {
			for n, want := range map[int]bool{
				0: true, 1: true, 17: true, mostSeq - 1: true, mostSeq: true, -1: false, mostSeq + 1: false, math.MinInt: false, math.MaxInt: false,
				-mostSeq: false, 1 << 32: false, 1<<32 + 1: false, -1 << 32: false, 1 << 21: false,
			} {
				if got := Right(with(v, r, n)); got != want {
					t.Errorf("Right(%v) = %t", with(v, r, n), got)
				}
			}
		}
	}
	for _, v := range []api.Vec{full(-1), full(mostSeq + 1), full(math.MinInt), full(math.MaxInt), {-1, mostSeq + 1}, {14: mostSeq + 1, 15: -1}, {-1, 1}} {
		if Right(v) {
			t.Errorf("%v is right", v)
		}
	}
	for _, v := range edgeVectors() {
		if Right(v) != slowRight(v) {
			t.Errorf("Right(%v) = %t", v, Right(v))
		}
	}
	if api.MaxReplicas != places || api.MaxSeq != mostSeq || len(api.Vec{}) != places {
		t.Error("other limits")
	}
}

// Promise 5.1: a dot is a vector's, if its N is at most the number of its R.
func TestHas(t *testing.T) {
	for _, c := range []struct {
		v    api.Vec
		r, n int
		want bool
	}{
		{api.Vec{1, 0, 5}, 2, 5, true}, {api.Vec{1, 0, 5}, 2, 4, true}, {api.Vec{1, 0, 5}, 2, 6, false}, {api.Vec{1, 0, 5}, 2, 1, true},
		{api.Vec{1, 0, 5}, 0, 1, true}, {api.Vec{1, 0, 5}, 0, 2, false}, {api.Vec{1, 0, 5}, 1, 1, false}, {api.Vec{1, 0, 5}, 3, 1, false},
		{api.Vec{15: 7}, 15, 7, true}, {api.Vec{15: 7}, 15, 8, false}, {api.Vec{15: 7}, 14, 7, false}, {api.Vec{15: 7}, 0, 1, false},
		{api.Vec{mostSeq}, 0, mostSeq, true}, {api.Vec{mostSeq - 1}, 0, mostSeq, false}, {api.Vec{mostSeq - 1}, 0, mostSeq - 1, true},
		{api.Vec{}, 0, 1, false}, {api.Vec{}, 15, mostSeq, false},
		// dots that are not right
		{api.Vec{}, 0, 0, false}, {api.Vec{1}, 0, 0, false}, {full(mostSeq), 0, 0, false}, {full(mostSeq), 15, 0, false},
		{full(mostSeq), -1, 1, false}, {full(mostSeq), 16, 1, false}, {full(mostSeq), 0, mostSeq + 1, false}, {full(mostSeq), 15, mostSeq + 1, false},
		{full(mostSeq), 0, -1, false}, {full(mostSeq), -1, 0, false}, {full(mostSeq), 16, mostSeq + 1, false},
		{full(mostSeq), math.MinInt, 1, false}, {full(mostSeq), math.MaxInt, 1, false}, {full(mostSeq), 0, math.MinInt, false}, {full(mostSeq), 0, math.MaxInt, false},
		// vectors that are not right
		{full(mostSeq + 1), 0, mostSeq, true}, {full(mostSeq + 1), 0, mostSeq + 1, false}, {full(math.MaxInt), 15, mostSeq, true}, {full(math.MaxInt), 15, mostSeq + 1, false},
		{full(math.MaxInt), 15, 1, true}, {full(math.MaxInt), 15, math.MaxInt, false}, {full(math.MaxInt), 16, 1, false}, {full(math.MaxInt), -1, 1, false},
		{full(-1), 0, 1, false}, {full(-1), 0, 0, false}, {full(-1), 0, -1, false}, {full(-1), 0, -2, false}, {full(math.MinInt), 15, 1, false}, {full(math.MinInt), 0, math.MinInt, false},
		{api.Vec{-1, 5}, 1, 5, true}, {api.Vec{mostSeq + 1, 5}, 1, 6, false}, {api.Vec{-1, 5}, 0, 1, false},
	} {
		if got := Has(c.v, api.Dot{R: c.r, N: c.n}); got != c.want {
			t.Errorf("Has(%v, %d.%d) = %t", c.v, c.r, c.n, got)
		}
	}
}

// Promise 5.1: of each replica, dots at the number, one below it and one above it, and the replicas beside it.
func TestHasAtEachPlace(t *testing.T) {
	for _, v := range edgeVectors() {
		for r := -2; r < places+2; r++ {
			at := v[min(max(r, 0), places-1)]
			for _, n := range []int{0, 1, at - 1, at, at + 1, mostSeq, mostSeq + 1} {
				d := api.Dot{R: r, N: n}
				if Has(v, d) != slowHas(v, d) {
					t.Fatalf("Has(%v, %v) = %t", v, d, Has(v, d))
				}
			}
		}
	}
	for _, v := range []api.Vec{{}, full(1), full(math.MaxInt), full(math.MinInt)} {
		for _, r := range edges() {
			for _, n := range edges() {
				d := api.Dot{R: r, N: n}
				if Has(v, d) != slowHas(v, d) {
					t.Fatalf("Has(%v, %v) = %t", v, d, Has(v, d))
				}
			}
		}
	}
}

// Promise 5.1: the join and the meet take number by number the greater one, and the lesser one.
func TestJoinAndMeet(t *testing.T) {
	for _, c := range []struct{ a, b, join, meet api.Vec }{
		{api.Vec{}, api.Vec{}, api.Vec{}, api.Vec{}},
		{api.Vec{1, 0, 5}, api.Vec{2, 3, 4}, api.Vec{2, 3, 5}, api.Vec{1, 0, 4}},
		{api.Vec{1}, api.Vec{15: 1}, api.Vec{0: 1, 15: 1}, api.Vec{}},
		{api.Vec{0: 3, 15: 4}, api.Vec{0: 4, 15: 3}, api.Vec{0: 4, 15: 4}, api.Vec{0: 3, 15: 3}},
		{rising(), full(8), api.Vec{8, 8, 8, 8, 8, 8, 8, 8, 9, 10, 11, 12, 13, 14, 15, 16}, api.Vec{1, 2, 3, 4, 5, 6, 7, 8, 8, 8, 8, 8, 8, 8, 8, 8}},
		{rising(), rising(), rising(), rising()},
		{full(mostSeq), api.Vec{}, full(mostSeq), api.Vec{}},
		{api.Vec{-1, -2, -3}, api.Vec{-3, -2, -1}, api.Vec{-1, -2, -1}, api.Vec{-3, -2, -3}},
		{api.Vec{-1}, api.Vec{}, api.Vec{}, api.Vec{-1}},
		{full(-1), full(-2), full(-1), full(-2)},
		{full(mostSeq + 1), full(mostSeq), full(mostSeq + 1), full(mostSeq)},
		{full(math.MinInt), full(math.MaxInt), full(math.MaxInt), full(math.MinInt)},
		{api.Vec{math.MinInt, math.MaxInt}, api.Vec{math.MaxInt, math.MinInt}, api.Vec{math.MaxInt, math.MaxInt}, api.Vec{math.MinInt, math.MinInt}},
	} {
		if Join(c.a, c.b) != c.join || Join(c.b, c.a) != c.join {
			t.Errorf("the join of %v and %v is %v, and the other way round %v, want %v", c.a, c.b, Join(c.a, c.b), Join(c.b, c.a), c.join)
		}
		if Meet(c.a, c.b) != c.meet || Meet(c.b, c.a) != c.meet {
			t.Errorf("the meet of %v and %v is %v, and the other way round %v, want %v", c.a, c.b, Meet(c.a, c.b), Meet(c.b, c.a), c.meet)
		}
	}
}

// Promise 5.1: join, meet and within, held against what the document says, number by number.
func TestTwoVectors(t *testing.T) {
	l := edgeVectors()
	for i, a := range l {
		for j := i % 7; j < len(l); j += 7 {
			b := l[j]
			if Join(a, b) != slowJoin(a, b) {
				t.Fatalf("Join(%v, %v) = %v", a, b, Join(a, b))
			}
			if Meet(a, b) != slowMeet(a, b) {
				t.Fatalf("Meet(%v, %v) = %v", a, b, Meet(a, b))
			}
			if Within(a, b) != slowWithin(a, b) {
				t.Fatalf("Within(%v, %v) = %t", a, b, Within(a, b))
			}
		}
	}
}

// Promise 5.1: one vector is within another one, if none of its numbers is greater.
func TestWithin(t *testing.T) {
	for _, c := range []struct {
		a, b  api.Vec
		there bool
		back  bool
	}{
		{api.Vec{}, api.Vec{}, true, true},
		{api.Vec{1, 0, 5}, api.Vec{2, 3, 4}, false, false},
		{api.Vec{1}, api.Vec{1, 0, 5}, true, false},
		{api.Vec{1, 0, 5}, api.Vec{2, 3, 5}, true, false},
		{api.Vec{1, 0, 4}, api.Vec{2, 3, 4}, true, false},
		{api.Vec{}, full(mostSeq), true, false},
		{api.Vec{1}, api.Vec{15: 1}, false, false},
		{full(-1), api.Vec{}, true, false},
		{full(-2), full(-1), true, false},
		{full(math.MinInt), full(math.MaxInt), true, false},
		{api.Vec{math.MinInt, 1}, api.Vec{math.MaxInt, 0}, false, false},
	} {
		if Within(c.a, c.b) != c.there || Within(c.b, c.a) != c.back {
			t.Errorf("%v and %v: %t, and the other way round %t", c.a, c.b, Within(c.a, c.b), Within(c.b, c.a))
		}
	}
	for _, v := range edgeVectors() {
		if !Within(v, v) {
			t.Errorf("%v is not within itself", v)
		}
	}
}

// Promise 5.1: vectors that are alike in all but one number, either way round.
func TestWithinButOneNumber(t *testing.T) {
	for _, v := range []api.Vec{{}, rising(), full(mostSeq), full(-5)} {
		for r := range places {
			for _, more := range []int{v[r] + 1, v[r] + 2, mostSeq + 1, math.MaxInt} {
				if w := with(v, r, more); !Within(v, w) || Within(w, v) {
					t.Errorf("%v and %v: %t, and the other way round %t", v, w, Within(v, w), Within(w, v))
				}
			}
		}
	}
}

// Promise 5.1: how many dots a vector has: numbers that are not above 0 have none.
func TestCount(t *testing.T) {
	for _, c := range []struct {
		v    api.Vec
		want int
	}{
		{api.Vec{}, 0}, {api.Vec{1}, 1}, {api.Vec{15: 1}, 1}, {api.Vec{1, 0, 5}, 6}, {rising(), 136}, {full(1), 16}, {full(mostSeq), 16777216},
		{api.Vec{0: mostSeq, 15: 1}, mostSeq + 1}, {api.Vec{-1}, 0}, {full(-1), 0}, {full(math.MinInt), 0}, {api.Vec{15: math.MinInt}, 0},
		{api.Vec{-7, 3, -1, 4}, 7}, {api.Vec{0: 9, 14: math.MinInt, 15: -2}, 9}, {api.Vec{0: math.MinInt, 15: 2}, 2},
	} {
		if got := Count(c.v); got != c.want {
			t.Errorf("Count(%v) = %d, want %d", c.v, got, c.want)
		}
	}
	for _, v := range small(-3, -1, 0, 1, 2, 4) {
		n := 0
		for r := range places {
			for i := range 6 {
				if Has(v, api.Dot{R: r, N: i}) {
					n++
				}
			}
		}
		if Count(v) != n {
			t.Fatalf("Count(%v) = %d, and it has %d dots", v, Count(v), n)
		}
	}
}

// Promise 5.2: a vector's bytes, of any numbers.
func TestCode(t *testing.T) {
	nought := strings.Repeat("\x00", places)
	for _, c := range []struct {
		v    api.Vec
		want string
	}{
		{api.Vec{}, nought},
		{api.Vec{1, 0, 5}, "\x01\x00\x05" + nought[3:]},
		{api.Vec{15: 1}, nought[1:] + "\x01"},
		{rising(), "\x01\x02\x03\x04\x05\x06\x07\x08\x09\x0A\x0B\x0C\x0D\x0E\x0F\x10"},
		{api.Vec{0: 300, 15: 128}, "\xAC\x02" + nought[2:] + "\x80\x01"},
		{full(mostSeq), strings.Repeat("\x80\x80\x40", places)},
		{full(mostSeq + 1), strings.Repeat("\x81\x80\x40", places)},
		{full(-1), nought}, {full(math.MinInt), nought}, {api.Vec{-1, 7}, "\x00\x07" + nought[2:]},
		{full(math.MaxInt), strings.Repeat("\xFF\xFF\xFF\xFF\xFF\xFF\xFF\xFF\x7F", places)},
	} {
		if got := Code(c.v); got != c.want {
			t.Errorf("Code(%v) = %q, want %q", c.v, got, c.want)
		}
	}
	for _, v := range edgeVectors() {
		if got, want := Code(v), slowCode(v); got != want {
			t.Errorf("Code(%v) = %q, want %q", v, got, want)
		}
	}
}

// Promise 5.2: what is read of a text, and what is wrong then.
func TestRead(t *testing.T) {
	ones, none := strings.Repeat("\x01", places), api.Vec{}
	great := strings.Repeat("\x80", 8) + "\x01"
	for _, c := range []struct {
		s     string
		want  api.Vec
		fault api.Errno
		left  int
	}{
		{ones, full(1), api.OK, 0},
		{strings.Repeat("\x00", places), none, api.OK, 0},
		{strings.Repeat("\x80\x80\x40", places), full(mostSeq), api.OK, 0},
		{ones + "\x05", full(1), api.OK, 1},
		{ones + "\xFF\xFF", full(1), api.OK, 2},
		{ones + ones, full(1), api.OK, 16},
		{"", none, api.ErrShort, 0},
		{"\x81", none, api.ErrShort, 0},
		{"\x01", none, api.ErrShort, 0},
		{ones[1:], none, api.ErrShort, 0},
		{ones[1:] + "\x81", none, api.ErrShort, 0},
		{ones[8:], none, api.ErrShort, 0},
		{"\x81\x80\x40" + ones[1:], none, api.ErrArg, 0},
		{ones[1:] + "\x81\x80\x40", none, api.ErrArg, 0},
		{"\x81\x80\x40" + ones[1:] + ones, none, api.ErrArg, 0},
		{strings.Repeat("\x81\x80\x40", places), none, api.ErrArg, 0},
		{"\x81\x80\x40", none, api.ErrShort, 0}, // all sixteen are read first, so that this is wrong first
		{"\x81\x80\x40" + ones[2:], none, api.ErrShort, 0},
		{"\x81\x80\x40" + ones[2:] + "\x81\x00", none, api.ErrForm, 0},
		{"\x81\x80\x40" + ones[2:] + great, none, api.ErrLong, 0},
		{"\x81\x00" + ones[1:], none, api.ErrForm, 0},
		{ones[1:] + "\x81\x00", none, api.ErrForm, 0},
		{great + ones[1:], none, api.ErrLong, 0},
		{ones[1:] + great, none, api.ErrLong, 0},
		{strings.Repeat("\xFF", 7) + "\x7F" + ones[1:], none, api.ErrArg, 0},
		{great + "\x81\x00" + ones[2:], none, api.ErrLong, 0},
		{"\x81\x00" + great + ones[2:], none, api.ErrForm, 0},
	} {
		wantRead(t, c.s, c.want, c.fault, c.left)
	}
}

// Promise 5.2: each of sixteen numbers in turn is not right, or is no number, or the text ends ahead of it, or within it.
func TestReadAtEachPlace(t *testing.T) {
	for r := range places {
		before, behind := slowCode(full(300))[:2*r], slowCode(full(300))[2*r+2:]
		for s, fault := range map[string]api.Errno{
			pack.Int(mostSeq + 1): api.ErrArg, pack.Int(1 << 40): api.ErrArg, pack.Int(1<<56 - 1): api.ErrArg,
			pack.Int(1 << 56): api.ErrLong, pack.Int(math.MaxInt): api.ErrLong, "\xAC\x82\x00": api.ErrForm, "\x80\x00": api.ErrForm,
		} {
			wantRead(t, before+s+behind, api.Vec{}, fault, 0)
			wantRead(t, before+s+behind+"behind", api.Vec{}, fault, 0)
		}
		for _, n := range []int{0, 1, mostSeq - 1, mostSeq} {
			wantRead(t, before+pack.Int(n)+behind, with(full(300), r, n), api.OK, 0)
			wantRead(t, before+pack.Int(n)+behind+"behind", with(full(300), r, n), api.OK, 6)
		}
		wantRead(t, before, api.Vec{}, api.ErrShort, 0)
		wantRead(t, before+"\xAC", api.Vec{}, api.ErrShort, 0)
	}
}

// Promise 5.2: of a reader with which something is wrong nothing is read, and that stays wrong; so of a nil one.
func TestReadOfWrongReaders(t *testing.T) {
	for _, e := range []api.Errno{api.ErrNil, api.ErrArg, api.ErrForm, api.ErrShort, api.ErrLong, api.ErrText} {
		r := pack.Open(Code(rising()))
		r.Fail(e)
		if v := Read(r); v != (api.Vec{}) || r.Fault() != e || r.End() != e {
			t.Errorf("with fault %d: %v, %d", e, v, r.Fault())
		}
	}
	r := pack.Open(Code(rising()) + Code(full(mostSeq+1)) + Code(rising()))
	if v := Read(r); v != rising() || r.Fault() != api.OK {
		t.Errorf("%v, %d", v, r.Fault())
	}
	for range 3 {
		if v := Read(r); v != (api.Vec{}) || r.Fault() != api.ErrArg || r.Left() != 0 {
			t.Errorf("%v, %d", v, r.Fault())
		}
	}
	var none *pack.Reader
	for range 2 {
		if v := Read(none); v != (api.Vec{}) || none.Fault() != api.ErrNil {
			t.Errorf("of a nil reader %v, %d", v, none.Fault())
		}
	}
}

// Promise 5.2: the bytes of any vector, read again: numbers below 0 are told as 0, and those from 2^56 on can't be read.
func TestReadOfAnyCode(t *testing.T) {
	for _, v := range edgeVectors() {
		want, fault, left := slowJoin(v, api.Vec{}), api.OK, len("behind")
		if !slowRight(want) {
			fault = api.ErrArg
		}
		for _, n := range v {
			if n >= 1<<56 {
				fault = api.ErrLong
			}
		}
		if fault != api.OK {
			want, left = api.Vec{}, 0
		}
		wantRead(t, Code(v)+"behind", want, fault, left)
	}
}

// Promise 5.3: right vectors are read as they were told, one behind the other, and nothing is left.
func TestRightVectorsAgain(t *testing.T) {
	var s strings.Builder
	var l []api.Vec
	for _, v := range append(edgeVectors(), small(0, 1, 127, 128, mostSeq-1, mostSeq)...) {
		if !slowRight(v) {
			continue
		}
		r := pack.Open(Code(v))
		if got := Read(r); got != v || r.End() != api.OK {
			t.Fatalf("%v is told %q, and read %v, %d", v, Code(v), got, r.End())
		}
		l = append(l, v)
		s.WriteString(Code(v))
	}
	r := pack.Open(s.String())
	for i, v := range l {
		if got := Read(r); got != v {
			t.Fatalf("the vector %d of %d is read %v, want %v", i, len(l), got, v)
		}
	}
	if len(l) < 300 || r.End() != api.OK {
		t.Errorf("of %d vectors: %d", len(l), r.End())
	}
}

// Promise 5.3: two vectors either way round, and taking each other up; what is within, by joins and by meets.
func TestLatticeOfTwo(t *testing.T) {
	l := append(ordinary(), small(math.MinInt, -1, 0, 1, mostSeq, math.MaxInt)...)
	for _, a := range l {
		if Join(a, a) != a || Meet(a, a) != a {
			t.Fatalf("%v and itself: %v, %v", a, Join(a, a), Meet(a, a))
		}
		for _, b := range l {
			if Join(a, b) != Join(b, a) || Meet(a, b) != Meet(b, a) {
				t.Fatalf("%v and %v, the other way round", a, b)
			}
			if Join(a, Meet(a, b)) != a || Meet(a, Join(a, b)) != a {
				t.Fatalf("%v and %v do not take each other up", a, b)
			}
			if Within(a, b) != (Join(a, b) == b) || Within(a, b) != (Meet(a, b) == a) {
				t.Fatalf("%v within %v: %t", a, b, Within(a, b))
			}
			if !Within(a, Join(a, b)) || !Within(Meet(a, b), a) {
				t.Fatalf("%v is not between the meet and the join with %v", a, b)
			}
			if slowRight(a) && slowRight(b) && (!Right(Join(a, b)) || !Right(Meet(a, b)) || Count(a)+Count(b) != Count(Join(a, b))+Count(Meet(a, b))) {
				t.Fatalf("the join and the meet of %v and %v", a, b)
			}
		}
	}
}

// Promise 5.3: three vectors in either brackets.
func TestLatticeOfThree(t *testing.T) {
	l := append(ordinary(), small(-1, 0, 2, mostSeq)...)
	for _, a := range l {
		for _, b := range l {
			for _, c := range l {
				if Join(Join(a, b), c) != Join(a, Join(b, c)) || Meet(Meet(a, b), c) != Meet(a, Meet(b, c)) {
					t.Fatalf("%v, %v and %v in other brackets", a, b, c)
				}
				if Within(a, b) && Within(b, c) && !Within(a, c) {
					t.Fatalf("%v, %v and %v: the last one does not hold the first one", a, b, c)
				}
			}
		}
	}
}

// Promise 5.3: a dot is the join's, if it is one of both, the meet's, if it is of each; and a vector is within another one, if its dots are.
func TestDotsOfJoinAndMeet(t *testing.T) {
	l := append(small(0, 1, 2, 3), ordinary()[:6]...)
	for _, a := range l {
		for _, b := range l {
			all := true
			for r := -1; r <= places; r++ {
				for n := range 18 {
					d := api.Dot{R: r, N: n}
					inA, inB := Has(a, d), Has(b, d)
					if Has(Join(a, b), d) != (inA || inB) || Has(Meet(a, b), d) != (inA && inB) {
						t.Fatalf("%v of the join and the meet of %v and %v", d, a, b)
					}
					all = all && (inB || !inA)
				}
			}
			if Within(a, b) != all {
				t.Fatalf("Within(%v, %v) = %t", a, b, !all)
			}
		}
	}
	for _, v := range edgeVectors() {
		for _, n := range []int{1, mostSeq - 1, mostSeq} {
			for r := range places {
				d := api.Dot{R: r, N: n}
				if Has(Join(v, rising()), d) != (Has(v, d) || Has(rising(), d)) || Has(Meet(v, rising()), d) != (Has(v, d) && Has(rising(), d)) {
					t.Fatalf("%v of the join and the meet of %v and another one", d, v)
				}
			}
		}
	}
}

// P1 and R1 to R5: nothing that came in is changed, and all is answered the same again; a changed answer changes nothing.
func TestTheSameAgain(t *testing.T) {
	for _, v := range edgeVectors() {
		a, b := v, rising()
		join, meet := Join(a, b), Meet(a, b)
		keptJoin, keptMeet := join, meet
		right, within, count, code := Right(a), Within(a, b), Count(a), Code(a)
		Has(a, api.Dot{R: 3, N: 4})
		join[3], meet[3] = 77, 77
		if a != v || b != rising() {
			t.Fatalf("%v was changed to %v, or the other one to %v", v, a, b)
		}
		if Join(a, b) != keptJoin || Meet(a, b) != keptMeet || Right(a) != right || Within(a, b) != within || Count(a) != count || Code(a) != code {
			t.Fatalf("%v is answered in two ways", v)
		}
		first, again := pack.Open(code), pack.Open(code)
		if Read(first) != Read(again) || first.Fault() != again.Fault() {
			t.Fatalf("%q is read in two ways", code)
		}
	}
	r := pack.Open(Code(rising()) + Code(rising()))
	v := Read(r)
	v[0], v[15] = 77, 77
	if w := Read(r); w != rising() || r.End() != api.OK {
		t.Errorf("behind a changed answer %v, %d", w, r.End())
	}
}
