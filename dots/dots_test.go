package dots

import (
	"math"
	"slices"
	"strings"
	"testing"

	"palinode/api"
	"palinode/dot"
	"palinode/pack"
	"palinode/vec"
)

const (
	mostSeq  = 1048576 // the greatest number that a dot may have: 2^20
	mostMore = 4096    // how many dots a right set has behind gaps at the most
	places   = 16      // how many replicas there may be
)

// at tells a dot.
func at(r, n int) api.Dot { return api.Dot{R: r, N: n} }

// set tells a set, as it stands.
func set(v api.Vec, more ...api.Dot) api.Dots { return api.Dots{V: v, More: more} }

// full tells the vector all of whose numbers are n.
func full(n int) (v api.Vec) {
	for r := range v {
		v[r] = n
	}
	return v
}

// wrongDots tells dots that are not right.
func wrongDots() []api.Dot {
	return []api.Dot{{}, at(0, 0), at(15, 0), at(0, -1), at(-1, 1), at(-1, 2), at(16, 1), at(16, 5), at(17, 3), at(0, mostSeq+1), at(15, mostSeq+1),
		at(-1, 0), at(16, mostSeq+1), at(math.MinInt, 3), at(math.MaxInt, 3), at(3, math.MinInt), at(3, math.MaxInt), at(math.MinInt, math.MaxInt), at(math.MaxInt, math.MinInt)}
}

// gaps tells a list of so many dots of one replica, each of which has a gap ahead of it: 2, 4, 6 ..
func gaps(r, many int) (l []api.Dot) {
	for i := range many {
		l = append(l, at(r, 2*i+2))
	}
	return l
}

// someRight tells right sets that are alike in nothing.
func someRight() []api.Dots {
	return []api.Dots{
		{}, set(api.Vec{1}), set(api.Vec{15: 1}), set(full(1)), set(full(mostSeq)), set(full(mostSeq-2), at(0, mostSeq), at(15, mostSeq)),
		set(api.Vec{1}, at(0, 3)), set(api.Vec{}, at(0, 2)), set(api.Vec{}, at(0, mostSeq)), set(api.Vec{}, at(15, 2)), set(api.Vec{}, at(15, mostSeq)),
		set(api.Vec{3, 2}, at(0, 5)), set(api.Vec{3}, at(1, 2)), set(api.Vec{0, 7, 2}, at(0, 2), at(0, 3), at(0, 4), at(1, 9), at(2, 4), at(2, 6), at(2, 128), at(15, 300)),
		set(api.Vec{0: mostSeq, 15: 127}, at(3, 17), at(7, 2), at(7, 3), at(15, 129), at(15, 130), at(15, mostSeq-1), at(15, mostSeq)),
		set(api.Vec{}, gaps(0, mostMore)...), set(api.Vec{5: 1}, gaps(9, mostMore-1)...),
	}
}

// model is a set of dots, one by one.
type model map[api.Dot]bool

// of tells all right dots of a set up to a number, as the document says: those of V, and those of More.
func of(s api.Dots, upTo int) model {
	m := model{}
	for r := range places {
		for n := 1; n <= min(s.V[r], upTo); n++ {
			m[at(r, n)] = true
		}
	}
	for _, d := range s.More {
		m[d] = true
	}
	return m
}

// stands tells the one right way in which dots stand that are the only ones of all up to a number.
func (m model) stands(upTo int) (s api.Dots) {
	for r := range places {
		gap := false
		for n := 1; n <= upTo; n++ {
			switch in := m[at(r, n)]; {
			case !in:
				gap = true
			case gap:
				s.More = append(s.More, at(r, n))
			default:
				s.V[r] = n
			}
		}
	}
	return s
}

// slowRight is what the document says of a right set.
func slowRight(s api.Dots) bool {
	for _, n := range s.V {
		if n < 0 || n > mostSeq {
			return false
		}
	}
	for i, d := range s.More {
		if d.R < 0 || d.R > 15 || d.N < 1 || d.N > mostSeq || d.N < s.V[d.R]+2 {
			return false
		}
		for _, e := range s.More[:i] {
			if e.R > d.R || e.R == d.R && e.N >= d.N {
				return false
			}
		}
	}
	return len(s.More) <= mostMore
}

// small tells all right sets of the dots with one of two replicas, the first and the last one, and an N of 1 to 4.
func small() (l []api.Dots) {
	for bits := range 1 << 8 {
		m := model{}
		for i := range 8 {
			if bits>>i%2 == 1 {
				m[at(i/4*15, i%4+1)] = true
			}
		}
		l = append(l, m.stands(4))
	}
	return l
}

// want holds a set against the one that is wanted, as both stand.
func want(t *testing.T, what string, got, wanted api.Dots) {
	t.Helper()
	if got.V != wanted.V || len(got.More) != len(wanted.More) {
		t.Fatalf("%s: %v, want %v", what, got, wanted)
	}
	for i, d := range got.More {
		if d != wanted.More[i] {
			t.Fatalf("%s: %v, want %v", what, got, wanted)
		}
	}
}

// orders tells a list in all orders.
func orders(l []api.Dot) [][]api.Dot {
	if len(l) == 0 {
		return [][]api.Dot{nil}
	}
	var all [][]api.Dot
	for i := range l {
		for _, rest := range orders(slices.Concat(l[:i], l[i+1:])) {
			all = append(all, append([]api.Dot{l[i]}, rest...))
		}
	}
	return all
}

// Promise 6.1: which sets are right.
func TestRight(t *testing.T) {
	for i, s := range someRight() {
		if !Right(s) {
			t.Errorf("the set %d is not right", i)
		}
	}
	for i, c := range []struct {
		s    api.Dots
		want bool
	}{
		{api.Dots{}, true}, {api.Dots{More: []api.Dot{}}, true},
		// at V's number, 1 above it, 2 above it
		{set(api.Vec{3}, at(0, 3)), false}, {set(api.Vec{3}, at(0, 4)), false}, {set(api.Vec{3}, at(0, 5)), true}, {set(api.Vec{3}, at(0, 2)), false}, {set(api.Vec{3}, at(0, 1)), false},
		{set(api.Vec{}, at(0, 1)), false}, {set(api.Vec{}, at(0, 2)), true}, {set(api.Vec{15: 3}, at(15, 4)), false}, {set(api.Vec{15: 3}, at(15, 5)), true},
		{set(api.Vec{3}, at(1, 4)), true}, {set(api.Vec{3, 2}, at(1, 3)), false}, {set(api.Vec{3, 2}, at(1, 4)), true},
		{set(api.Vec{mostSeq}, at(0, mostSeq)), false}, {set(api.Vec{mostSeq - 1}, at(0, mostSeq)), false}, {set(api.Vec{mostSeq - 2}, at(0, mostSeq)), true},
		{set(api.Vec{mostSeq}, at(0, mostSeq+1)), false}, {set(api.Vec{mostSeq - 1}, at(0, mostSeq+1)), false}, {set(api.Vec{mostSeq}, at(0, mostSeq+2)), false},
		// no gap need be between those behind a gap
		{set(api.Vec{1}, at(0, 3), at(0, 4), at(0, 5)), true}, {set(api.Vec{1}, at(0, 2), at(0, 3)), false}, {set(api.Vec{1}, at(0, 3), at(1, 1)), false}, {set(api.Vec{1}, at(0, 3), at(1, 2)), true},
		// the same dot twice, and the wrong way round
		{set(api.Vec{}, at(0, 3), at(0, 3)), false}, {set(api.Vec{}, at(0, 3), at(0, 2)), false}, {set(api.Vec{}, at(1, 2), at(0, 3)), false}, {set(api.Vec{}, at(1, 3), at(0, 2)), false},
		{set(api.Vec{}, at(0, 3), at(1, 2)), true}, {set(api.Vec{}, at(0, 2), at(0, 4), at(0, 4)), false}, {set(api.Vec{}, at(0, 2), at(0, 4), at(0, 3)), false}, {set(api.Vec{}, at(0, 2), at(0, 2), at(0, 4)), false},
		{set(api.Vec{}, at(0, 4), at(0, 2), at(0, 6)), false}, {set(api.Vec{}, at(0, 2), at(0, 4), at(0, 2)), false},
		// so many as may be, and 1 more
		{set(api.Vec{}, gaps(0, mostMore-1)...), true}, {set(api.Vec{}, gaps(0, mostMore)...), true}, {set(api.Vec{}, gaps(0, mostMore+1)...), false},
		{set(api.Vec{}, append(gaps(0, mostMore-1), at(15, 2))...), true}, {set(api.Vec{}, append(gaps(0, mostMore), at(15, 2))...), false}, {set(api.Vec{}, gaps(15, 3*mostMore)...), false},
	} {
		if Right(c.s) != c.want {
			t.Errorf("the set %d: %t", i, Right(c.s))
		}
	}
	if MaxMore != mostMore || api.MaxSeq != mostSeq || api.MaxReplicas != places {
		t.Error("other limits")
	}
}

// Promise 6.1: a V that is not right at one place, and a dot that is not right at one place of More.
func TestRightOfWrongParts(t *testing.T) {
	for r := range places {
		for _, n := range []int{-1, -2, mostSeq + 1, 1 << 21, 1 << 32, math.MinInt, math.MaxInt} {
			s := set(full(5), at(0, 9), at(15, 9))
			s.V[r] = n
			if Right(s) || Right(api.Dots{V: s.V}) {
				t.Errorf("%v is right", s)
			}
		}
	}
	for _, d := range wrongDots() {
		for i := range 4 {
			if s := set(api.Vec{}, slices.Insert(gaps(3, 3), i, d)...); Right(s) {
				t.Errorf("%v is right", s)
			}
		}
		for _, v := range []api.Vec{{}, full(mostSeq), full(math.MaxInt), full(-1), full(math.MinInt)} {
			if Right(set(v, d)) || Right(set(v, d, d)) || Right(set(v, slices.Repeat([]api.Dot{d}, mostMore+1)...)) {
				t.Errorf("%v and %v is right", v, d)
			}
		}
	}
}

// Promise 6.1: all small sets, right or not, held against what the document says.
func TestRightOfAllSmall(t *testing.T) {
	some := []api.Dot{at(0, 0), at(0, 1), at(0, 2), at(0, 3), at(0, 4), at(1, 1), at(15, 2), at(15, 3), at(16, 2), at(-1, 2)}
	many := 0
	for _, v := range []api.Vec{{}, {1}, {2}, {15: 1}, {0: 1, 15: 2}, {-1}, {15: mostSeq + 1}} {
		for _, a := range some {
			for _, b := range some {
				for _, c := range some {
					for n := range 4 {
						s := set(v, []api.Dot{a, b, c}[:n]...)
						if Right(s) != slowRight(s) {
							t.Fatalf("Right(%v) = %t", s, Right(s))
						}
						if Right(s) {
							many++
						}
					}
				}
			}
		}
	}
	if many == 0 {
		t.Error("none is right")
	}
}

// Promise 6.1: which dots a set has: those of V, none in a gap, those of More, and none behind all.
func TestHas(t *testing.T) {
	s := set(api.Vec{0: 3, 7: 2, 15: mostSeq - 2}, at(0, 5), at(0, 6), at(0, 9), at(4, 2), at(7, 4), at(15, mostSeq))
	for _, c := range []struct {
		r, n int
		want bool
	}{
		{0, 1, true}, {0, 2, true}, {0, 3, true}, {0, 4, false}, {0, 5, true}, {0, 6, true}, {0, 7, false}, {0, 8, false}, {0, 9, true}, {0, 10, false}, {0, mostSeq, false},
		{4, 1, false}, {4, 2, true}, {4, 3, false}, {7, 1, true}, {7, 2, true}, {7, 3, false}, {7, 4, true}, {7, 5, false}, {7, 9, false},
		{15, 1, true}, {15, mostSeq - 2, true}, {15, mostSeq - 1, false}, {15, mostSeq, true}, {15, mostSeq + 1, false},
		{1, 1, false}, {1, 5, false}, {3, 2, false}, {5, 2, false}, {14, 1, false}, {14, mostSeq, false},
	} {
		if got := Has(s, at(c.r, c.n)); got != c.want {
			t.Errorf("Has of %d.%d = %t", c.r, c.n, got)
		}
	}
	for i, s := range someRight() {
		for _, d := range wrongDots() {
			if Has(s, d) {
				t.Errorf("the set %d has %v", i, d)
			}
		}
		for _, d := range s.More {
			if !Has(s, d) {
				t.Fatalf("the set %d has not %v", i, d)
			}
		}
	}
	for _, s := range small() {
		m := of(s, 4)
		for r := -1; r <= places; r++ {
			for n := -1; n <= 6; n++ {
				if Has(s, at(r, n)) != m[at(r, n)] {
					t.Fatalf("%v has %d.%d: %t", s, r, n, Has(s, at(r, n)))
				}
			}
		}
	}
}

// Promise 6.1: a set with a dot also.
func TestPut(t *testing.T) {
	for _, c := range []struct {
		s    api.Dots
		d    api.Dot
		want api.Dots
	}{
		{api.Dots{}, at(0, 1), set(api.Vec{1})}, {api.Dots{}, at(0, 2), set(api.Vec{}, at(0, 2))}, {api.Dots{}, at(15, 1), set(api.Vec{15: 1})}, {api.Dots{}, at(15, 2), set(api.Vec{}, at(15, 2))},
		{api.Dots{}, at(0, mostSeq), set(api.Vec{}, at(0, mostSeq))}, {api.Dots{}, at(15, mostSeq), set(api.Vec{}, at(15, mostSeq))},
		{set(api.Vec{mostSeq - 1}), at(0, mostSeq), set(api.Vec{mostSeq})}, {set(api.Vec{mostSeq - 2}), at(0, mostSeq), set(api.Vec{mostSeq - 2}, at(0, mostSeq))},
		{set(api.Vec{15: mostSeq - 2}, at(15, mostSeq)), at(15, mostSeq-1), set(api.Vec{15: mostSeq})}, {set(full(mostSeq)), at(3, mostSeq), set(full(mostSeq))},
		// the document's example
		{set(api.Vec{1}), at(0, 3), set(api.Vec{1}, at(0, 3))}, {set(api.Vec{1}, at(0, 3)), at(0, 2), set(api.Vec{3})},
		// there already
		{set(api.Vec{3}, at(0, 5)), at(0, 1), set(api.Vec{3}, at(0, 5))}, {set(api.Vec{3}, at(0, 5)), at(0, 3), set(api.Vec{3}, at(0, 5))}, {set(api.Vec{3}, at(0, 5)), at(0, 5), set(api.Vec{3}, at(0, 5))},
		{set(api.Vec{3}, at(0, 5), at(0, 7), at(1, 2)), at(0, 7), set(api.Vec{3}, at(0, 5), at(0, 7), at(1, 2))},
		// one, or many, of More are V's then
		{set(api.Vec{3}, at(0, 5), at(0, 7)), at(0, 4), set(api.Vec{5}, at(0, 7))}, {set(api.Vec{3}, at(0, 5), at(0, 6), at(0, 7)), at(0, 4), set(api.Vec{7})},
		{set(api.Vec{3}, at(0, 5), at(0, 6), at(0, 8), at(1, 2), at(1, 3)), at(0, 4), set(api.Vec{6}, at(0, 8), at(1, 2), at(1, 3))},
		{set(api.Vec{3}, at(0, 5), at(1, 2), at(1, 3), at(1, 5)), at(1, 1), set(api.Vec{3, 3}, at(0, 5), at(1, 5))},
		{set(api.Vec{0: 1, 15: 3}, at(0, 3), at(15, 5), at(15, 6)), at(15, 4), set(api.Vec{0: 1, 15: 6}, at(0, 3))},
		{set(api.Vec{0: 1, 15: 3}, at(0, 3), at(15, 5), at(15, 6)), at(0, 2), set(api.Vec{0: 3, 15: 3}, at(15, 5), at(15, 6))},
		// V's next one, with the gap still there, and the gaps' other dots
		{set(api.Vec{3}, at(0, 6)), at(0, 4), set(api.Vec{4}, at(0, 6))}, {set(api.Vec{3}, at(0, 6)), at(0, 5), set(api.Vec{3}, at(0, 5), at(0, 6))},
		{set(api.Vec{3}, at(0, 5), at(1, 2)), at(0, 6), set(api.Vec{3}, at(0, 5), at(0, 6), at(1, 2))}, {set(api.Vec{3}, at(1, 2)), at(0, 5), set(api.Vec{3}, at(0, 5), at(1, 2))},
		{set(api.Vec{3}, at(1, 2)), at(15, 9), set(api.Vec{3}, at(1, 2), at(15, 9))}, {set(api.Vec{3}, at(1, 9)), at(2, 2), set(api.Vec{3}, at(1, 9), at(2, 2))},
	} {
		want(t, "Put", Put(c.s, c.d), c.want)
	}
	for _, s := range someRight() {
		for _, d := range wrongDots() {
			want(t, "Put of a wrong dot", Put(s, d), s)
		}
	}
}

// Promise 6.1: any dot put to all small sets, and to others, held against what the document says.
func TestPutToAll(t *testing.T) {
	for _, s := range small() {
		for _, r := range []int{0, 1, 14, 15} {
			for n := 1; n <= 6; n++ {
				m := of(s, 6)
				m[at(r, n)] = true
				got := Put(s, at(r, n))
				want(t, "Put", got, m.stands(6))
				if !Right(got) || !Has(got, at(r, n)) {
					t.Fatalf("Put(%v, %d.%d) = %v", s, r, n, got)
				}
			}
		}
	}
	for _, s := range someRight()[:14] {
		for r := range places {
			for _, n := range []int{1, 2, 3, s.V[r], s.V[r] + 1, s.V[r] + 2, s.V[r] + 3, mostSeq - 1, mostSeq} {
				d := at(r, n)
				got, many := Put(s, d), Count(s)
				if dot.Right(d) && !Has(s, d) {
					many++
				}
				if !slowRight(got) || Count(got) != many || Has(got, d) != dot.Right(d) || !Within(s, got) {
					t.Fatalf("Put(%v, %v) = %v", s, d, got)
				}
			}
		}
	}
	s := set(api.Vec{}, gaps(4, 2000)...)
	for n := 1; n <= 4001; n += 2 {
		s = Put(s, at(4, n))
		if s.V[4] != min(n+1, 4001) || len(s.More) != max(2000-(n+1)/2, 0) || s.V[3] != 0 || s.V[5] != 0 {
			t.Fatalf("with %d: %v, and %d more", n, s.V, len(s.More))
		}
	}
}

// Promise 6.1: the set of a list's dots.
func TestOf(t *testing.T) {
	want(t, "of none", Of(), api.Dots{})
	want(t, "of a nil list", Of([]api.Dot(nil)...), api.Dots{})
	want(t, "of wrong dots", Of(wrongDots()...), api.Dots{})
	want(t, "of the example", Of(at(0, 1), at(0, 3)), set(api.Vec{1}, at(0, 3)))
	want(t, "of the example", Of(at(0, 1), at(0, 3), at(0, 2)), set(api.Vec{3}))
	want(t, "of dots twice", Of(at(0, 1), at(0, 1), at(2, 7), at(0, 1), at(2, 7)), set(api.Vec{1}, at(2, 7)))
	want(t, "of one dot often", Of(slices.Repeat([]api.Dot{at(15, 2)}, 300)...), set(api.Vec{}, at(15, 2)))
	want(t, "of one dot often", Of(slices.Repeat([]api.Dot{at(15, 1)}, 300)...), set(api.Vec{15: 1}))
	want(t, "of the first and the last ones", Of(at(15, mostSeq), at(0, mostSeq), at(15, 1), at(0, 1)), set(api.Vec{0: 1, 15: 1}, at(0, mostSeq), at(15, mostSeq)))
	mixed := slices.Concat(wrongDots(), []api.Dot{at(1, 2), at(0, 1), at(0, 3)}, wrongDots(), []api.Dot{at(1, 2), at(0, 2)}, wrongDots())
	want(t, "of dots among wrong ones", Of(mixed...), set(api.Vec{3}, at(1, 2)))
	for _, d := range wrongDots() {
		for _, l := range orders([]api.Dot{at(0, 1), at(15, 3), d, d}) {
			want(t, "of dots and a wrong one", Of(l...), set(api.Vec{1}, at(15, 3)))
		}
	}
	var all []api.Dot
	for n := 3000; n > 0; n-- {
		for r := range places {
			all = append(all, at(r, n))
		}
	}
	want(t, "of many dots", Of(all...), set(full(3000)))
}

// Promise 6.1 and 6.3: dots in any order, given at once or put one by one, make one set.
func TestOfAnyOrder(t *testing.T) {
	for _, l := range [][]api.Dot{
		{at(0, 1), at(0, 2), at(0, 3), at(0, 4), at(0, 5), at(0, 6)}, {at(0, 1), at(0, 3), at(0, 4), at(15, 1), at(15, 2), at(15, 4)}, {at(0, 2), at(0, 4), at(1, 1), at(1, 3), at(2, 9), at(15, mostSeq)},
		{at(3, 2), at(3, 3), at(3, 4), at(3, 1), at(3, 1), at(3, 3)}, {at(7, 5), at(7, 0), at(7, 1), at(16, 1), at(7, 2), at(-1, 2)},
	} {
		m := model{}
		for _, d := range l {
			m[d] = true
		}
		wanted := m.stands(9)
		if m[at(15, mostSeq)] {
			wanted.More = append(wanted.More, at(15, mostSeq))
		}
		for _, o := range orders(l) {
			s := api.Dots{}
			for i, d := range o {
				s = Put(s, d)
				want(t, "of the first ones", Of(o[:i+1]...), s)
			}
			want(t, "put one by one", s, wanted)
			if !Right(s) {
				t.Fatalf("%v is not right", s)
			}
		}
	}
}

// Promise 6.1: the set of all dots of two sets.
func TestUnion(t *testing.T) {
	for _, c := range []struct{ a, b, want api.Dots }{
		{api.Dots{}, api.Dots{}, api.Dots{}},
		{set(api.Vec{3}, at(1, 2)), set(api.Vec{0, 1}, at(0, 5)), set(api.Vec{3, 2}, at(0, 5))},
		{set(api.Vec{1}), set(api.Vec{15: 1}), set(api.Vec{0: 1, 15: 1})},
		{set(api.Vec{1, 0, 5}), set(api.Vec{2, 3, 4}), set(api.Vec{2, 3, 5})},
		// each closes the other one's gaps
		{set(api.Vec{1}, at(0, 3), at(0, 5), at(0, 7)), set(api.Vec{}, at(0, 2), at(0, 4), at(0, 6)), set(api.Vec{7})},
		{set(api.Vec{0: 1, 15: 2}, at(0, 3), at(15, 4)), set(api.Vec{0: 2, 15: 1}, at(0, 4), at(15, 3)), set(api.Vec{0: 4, 15: 4})},
		{set(api.Vec{1}, at(0, 3), at(15, 2)), set(api.Vec{15: 1}, at(0, 2), at(0, 9)), set(api.Vec{0: 3, 15: 2}, at(0, 9))},
		{set(api.Vec{}, at(0, 2), at(0, 3)), set(api.Vec{0: 1}), set(api.Vec{3})}, {set(api.Vec{}, at(15, 2), at(15, 3)), set(api.Vec{15: 2}), set(api.Vec{15: 3})},
		{set(api.Vec{}, at(0, 2), at(0, 3), at(0, 5)), set(api.Vec{4}), set(api.Vec{5})}, {set(api.Vec{}, at(0, 2), at(0, 3), at(0, 7)), set(api.Vec{4}), set(api.Vec{4}, at(0, 7))},
		{set(api.Vec{}, at(0, 2), at(0, 3), at(0, 7)), set(api.Vec{7}), set(api.Vec{7})}, {set(api.Vec{}, at(0, 2), at(0, 3), at(0, 7)), set(full(mostSeq)), set(full(mostSeq))},
		// the same dots of More in both
		{set(api.Vec{}, at(0, 2), at(1, 3)), set(api.Vec{}, at(0, 2), at(1, 4)), set(api.Vec{}, at(0, 2), at(1, 3), at(1, 4))},
		{set(api.Vec{}, at(0, mostSeq), at(15, 2)), set(api.Vec{0: mostSeq - 1, 15: 1}), set(api.Vec{0: mostSeq, 15: 2})},
	} {
		want(t, "Union", Union(c.a, c.b), c.want)
		want(t, "Union the other way round", Union(c.b, c.a), c.want)
	}
	for _, s := range someRight() {
		want(t, "of a set and itself", Union(s, s), s)
		want(t, "of a set and the zero one", Union(s, api.Dots{}), s)
		want(t, "of the zero one and a set", Union(api.Dots{}, s), s)
	}
}

// Promise 6.1 and 6.3: two small sets, either way round, and what is within, held against what the document says.
func TestTwoSmall(t *testing.T) {
	l := small()
	for i, a := range l {
		for j, b := range l {
			u := Union(a, b)
			want(t, "Union", u, l[i|j])
			if !Right(u) || !Same(u, Union(b, a)) || !Within(a, u) || !Within(b, u) {
				t.Fatalf("Union(%v, %v) = %v", a, b, u)
			}
			if within := i&j == i; Within(a, b) != within || within != Same(u, b) {
				t.Fatalf("Within(%v, %v) = %t", a, b, Within(a, b))
			}
			if Same(a, b) != (i == j) {
				t.Fatalf("Same(%v, %v) = %t", a, b, Same(a, b))
			}
		}
	}
}

// Promise 6.3: unions of three sets in either brackets, and the other way round.
func TestUnionInOtherBrackets(t *testing.T) {
	l := someRight()
	for i, s := range small() {
		if i%23 == 5 {
			l = append(l, s)
		}
	}
	for _, a := range l {
		for _, b := range l {
			ab := Union(a, b)
			if !Same(ab, Union(b, a)) {
				t.Fatalf("%v and %v, the other way round", a, b)
			}
			for _, c := range l[:14] {
				if !Same(Union(ab, c), Union(a, Union(b, c))) {
					t.Fatalf("%v, %v and %v in other brackets", a, b, c)
				}
			}
		}
	}
}

// Promise 6.1: whether all dots of one set are another one's.
func TestWithin(t *testing.T) {
	for i, c := range []struct {
		a, b        api.Dots
		there, back bool
	}{
		{api.Dots{}, api.Dots{}, true, true}, {api.Dots{}, set(api.Vec{1}), true, false}, {api.Dots{}, set(api.Vec{}, at(15, 2)), true, false},
		{set(api.Vec{3}, at(1, 2)), set(api.Vec{3, 2}, at(0, 5)), true, false}, {set(api.Vec{1}), set(api.Vec{15: 1}), false, false},
		// dots of More that are V's of the other one
		{set(api.Vec{}, at(0, 2), at(0, 4)), set(api.Vec{4}), true, false}, {set(api.Vec{}, at(0, 2), at(0, 5)), set(api.Vec{4}), false, false}, {set(api.Vec{1}, at(0, 4)), set(api.Vec{3}), false, false},
		{set(api.Vec{}, at(0, 2), at(0, 5)), set(api.Vec{3}, at(0, 5)), true, false}, {set(api.Vec{}, at(0, 2), at(0, 5)), set(api.Vec{3}, at(0, 6)), false, false},
		// dots of V that the other one has not, or has none of but in More
		{set(api.Vec{2}), set(api.Vec{}, at(0, 2)), false, true}, {set(api.Vec{3}), set(api.Vec{1}, at(0, 3)), false, true}, {set(api.Vec{2}), set(api.Vec{1}, at(0, 3)), false, false},
		// all but one dot
		{set(api.Vec{}, at(0, 2), at(0, 4), at(0, 6)), set(api.Vec{}, at(0, 2), at(0, 4)), false, true}, {set(api.Vec{}, at(0, 2), at(0, 4), at(0, 6)), set(api.Vec{}, at(0, 4), at(0, 6)), false, true},
		{set(api.Vec{}, at(0, 2), at(0, 4), at(0, 6)), set(api.Vec{}, at(0, 2), at(0, 6)), false, true}, {set(api.Vec{}, at(15, 2)), set(api.Vec{}, at(14, 2)), false, false},
		{set(full(mostSeq)), set(full(mostSeq-2), at(0, mostSeq)), false, true}, {set(api.Vec{}, at(0, mostSeq)), set(full(mostSeq)), true, false},
	} {
		if Within(c.a, c.b) != c.there || Within(c.b, c.a) != c.back {
			t.Errorf("the sets %d: %t, and the other way round %t", i, Within(c.a, c.b), Within(c.b, c.a))
		}
	}
	for i, s := range someRight() {
		if !Within(s, s) || !Within(api.Dots{}, s) || !Within(s, set(full(mostSeq))) || Within(set(full(mostSeq)), s) != (i == 4) {
			t.Errorf("the set %d, and itself", i)
		}
	}
}

// Promise 6.1: how many dots there are.
func TestCount(t *testing.T) {
	for i, c := range []struct {
		s    api.Dots
		want int
	}{
		{api.Dots{}, 0}, {api.Dots{More: []api.Dot{}}, 0}, {set(api.Vec{1}), 1}, {set(api.Vec{15: 3}), 3}, {set(api.Vec{1}, at(0, 3)), 2}, {set(api.Vec{}, at(0, mostSeq)), 1},
		{set(api.Vec{0, 7, 2}, at(0, 2), at(0, 3), at(1, 9), at(2, 4), at(15, 300)), 14}, {set(full(mostSeq)), 16777216}, {set(full(mostSeq-2), at(0, mostSeq), at(15, mostSeq)), 16777216 - 30},
		{set(api.Vec{5: 1}, gaps(9, mostMore-1)...), mostMore},
	} {
		if got := Count(c.s); got != c.want {
			t.Errorf("of the set %d: %d, want %d", i, got, c.want)
		}
	}
	for _, s := range small() {
		if Count(s) != len(of(s, 4)) {
			t.Fatalf("Count(%v) = %d", s, Count(s))
		}
	}
}

// Promise 6.1: 1 and the greatest number of a replica's dots.
func TestNext(t *testing.T) {
	s := set(api.Vec{0: 3, 1: 4, 14: mostSeq, 15: 6}, at(0, 5), at(0, 9), at(2, 3), at(2, 4), at(13, mostSeq), at(15, 8))
	for r, n := range map[int]int{
		-1: 0, 0: 10, 1: 5, 2: 5, 3: 1, 12: 1, 13: mostSeq + 1, 14: mostSeq + 1, 15: 9, 16: 0, 17: 0, -2: 0, -16: 0, math.MinInt: 0, math.MaxInt: 0, 1 << 32: 0,
	} {
		if got := Next(s, r); got != n {
			t.Errorf("of %d: %d, want %d", r, got, n)
		}
	}
	for r := -3; r < places+3; r++ {
		first := 1
		if r < 0 || r > 15 {
			first = 0
		}
		if Next(api.Dots{}, r) != first || Next(set(full(7)), r) != 8*first || Next(set(api.Vec{}, at(min(max(r, 0), 15), 7)), r) != 8*first {
			t.Errorf("of %d: %d, %d", r, Next(api.Dots{}, r), Next(set(full(7)), r))
		}
	}
	for _, s := range small() {
		for r := range places {
			last := 0
			for d := range of(s, 4) {
				if d.R == r {
					last = max(last, d.N)
				}
			}
			if Next(s, r) != last+1 {
				t.Fatalf("Next(%v, %d) = %d", s, r, Next(s, r))
			}
			if next := Put(s, at(r, Next(s, r))); Count(next) != Count(s)+1 || Next(next, r) != last+2 {
				t.Fatalf("of the replica %d, %v goes on as %v", r, s, next)
			}
		}
	}
}

// Promise 6.1: sets are the same, as they stand, right or not; nil and empty lists are the same.
func TestSame(t *testing.T) {
	s := set(api.Vec{0, 7, 2, 15: 4}, at(0, 2), at(1, 9), at(15, 300))
	if !Same(s, set(api.Vec{0, 7, 2, 15: 4}, at(0, 2), at(1, 9), at(15, 300))) || !Same(s, s) || !Same(api.Dots{}, api.Dots{}) {
		t.Error("the same sets are unlike")
	}
	if !Same(api.Dots{}, api.Dots{More: []api.Dot{}}) || !Same(api.Dots{More: make([]api.Dot, 0, 3)}, api.Dots{}) || !Same(api.Dots{More: s.More[:0]}, api.Dots{More: []api.Dot{}}) {
		t.Error("nil and empty are unlike")
	}
	for r := range places {
		for _, n := range []int{1, -1, mostSeq} {
			o := set(s.V, s.More...)
			o.V[r] += n
			if Same(s, o) || Same(o, s) || Same(api.Dots{V: s.V}, api.Dots{V: o.V}) {
				t.Errorf("%v and %v are the same", s, o)
			}
		}
	}
	for i := range s.More {
		less := set(s.V, slices.Concat(s.More[:i], s.More[i+1:])...)
		more := set(s.V, slices.Insert(slices.Clone(s.More), i, at(7, 7))...)
		for _, o := range []api.Dots{less, more} {
			if Same(s, o) || Same(o, s) {
				t.Errorf("%v and %v are the same", s, o)
			}
		}
		for _, d := range []api.Dot{{}, {R: 1}, {N: 1}, {R: -1}, {N: -1}, {R: 1, N: -1}} {
			o := set(s.V, slices.Clone(s.More)...)
			o.More[i].R += d.R
			o.More[i].N += d.N
			if same := d == (api.Dot{}); Same(s, o) != same || Same(o, s) != same {
				t.Errorf("%v and %v: %t", s, o, Same(s, o))
			}
		}
	}
	// the same dots in sets that stand otherwise
	for _, o := range []api.Dots{set(api.Vec{}, at(0, 1), at(0, 2)), set(api.Vec{2}, at(0, 2)), set(api.Vec{1}, at(0, 2)), set(api.Vec{2}, api.Dot{})} {
		if Same(o, set(api.Vec{2})) || Same(set(api.Vec{2}), o) || !Same(o, o) {
			t.Errorf("%v", o)
		}
	}
	if Same(set(api.Vec{}, at(0, 2), at(0, 4)), set(api.Vec{}, at(0, 4), at(0, 2))) {
		t.Error("other orders are the same")
	}
}

// Promise 6.1: More may get longer than MaxMore; such sets are asked like right ones, but can't be read.
func TestMoreThanMaxMore(t *testing.T) {
	s := set(api.Vec{}, gaps(3, mostMore)...)
	long := set(api.Vec{}, gaps(3, mostMore+1)...)
	want(t, "Put", Put(s, at(3, 2*mostMore+2)), long)
	want(t, "Of", Of(gaps(3, mostMore+1)...), long)
	want(t, "Union", Union(s, set(api.Vec{}, at(3, 2*mostMore+2))), long)
	want(t, "Union of two", Union(s, set(api.Vec{}, gaps(2, mostMore)...)), set(api.Vec{}, append(gaps(2, mostMore), gaps(3, mostMore)...)...))
	if Right(long) || Count(long) != mostMore+1 || Next(long, 3) != 2*mostMore+3 || !Within(s, long) || Within(long, s) || !Same(long, long) || Same(long, s) {
		t.Error("a long set")
	}
	if !Has(long, at(3, 2*mostMore+2)) || Has(long, at(3, 2*mostMore+1)) || !Has(long, at(3, 2)) || Has(s, at(3, 2*mostMore+2)) {
		t.Error("a long set's dots")
	}
	if short := Put(long, at(3, 1)); !Right(short) || short.V[3] != 2 || len(short.More) != mostMore {
		t.Error("a long set that gets shorter")
	}
	r := pack.Open(Code(long))
	if got := Read(r); !Same(got, api.Dots{}) || got.More != nil || r.Fault() != api.ErrLong {
		t.Errorf("a long set is read: %d dots, %d", Count(got), r.Fault())
	}
}

// slowList tells a list's bytes, one dot behind the other.
func slowList(l []api.Dot) string {
	s := pack.Int(len(l))
	for _, d := range l {
		s += pack.Int(d.R) + pack.Int(d.N)
	}
	return s
}

// Promise 6.2: a list's bytes, of any dots in any order.
func TestList(t *testing.T) {
	for _, c := range []struct {
		l    []api.Dot
		want string
	}{
		{nil, "\x00"}, {[]api.Dot{}, "\x00"}, {[]api.Dot{at(0, 1)}, "\x01\x00\x01"}, {[]api.Dot{at(15, 300)}, "\x01\x0F\xAC\x02"}, {[]api.Dot{{}}, "\x01\x00\x00"},
		{[]api.Dot{at(3, 17), at(0, 1), at(3, 17)}, "\x03\x03\x11\x00\x01\x03\x11"}, {[]api.Dot{at(15, mostSeq)}, "\x01\x0F\x80\x80\x40"}, {[]api.Dot{at(-1, -5), at(16, mostSeq+1)}, "\x02\x00\x00\x10\x81\x80\x40"},
		{slices.Repeat([]api.Dot{at(1, 2)}, 127), "\x7F" + strings.Repeat("\x01\x02", 127)}, {slices.Repeat([]api.Dot{at(1, 2)}, 128), "\x80\x01" + strings.Repeat("\x01\x02", 128)},
		{gaps(3, mostMore+1), slowList(gaps(3, mostMore+1))}, {wrongDots(), slowList(wrongDots())},
	} {
		if got := List(c.l); got != c.want {
			t.Errorf("List(%v) = %q, want %q", c.l, got, c.want)
		}
	}
}

// wantList reads a list from a text, and holds what is told, what is wrong then, and how much is left.
func wantList(t *testing.T, s string, most int, wanted []api.Dot, fault api.Errno, left int) {
	t.Helper()
	r := pack.Open(s)
	l := ReadList(r, most)
	if !slices.Equal(l, wanted) || r.Fault() != fault || r.Left() != left {
		t.Errorf("of %q (%d at the most) is read %v, with fault %d and %d bytes left, want %v, %d and %d", s, most, l, r.Fault(), r.Left(), wanted, fault, left)
	}
	if fault != api.OK && l != nil {
		t.Errorf("of %q is read a list with an error", s)
	}
}

// Promise 6.2: what is read as a list, and what is wrong then.
func TestReadList(t *testing.T) {
	two := []api.Dot{at(1, 300), at(0, 1)}
	great := strings.Repeat("\x80", 8) + "\x01"
	for _, c := range []struct {
		s     string
		most  int
		want  []api.Dot
		fault api.Errno
		left  int
	}{
		{List(two), 2, two, api.OK, 0}, {List(two), 3, two, api.OK, 0}, {List(two), math.MaxInt, two, api.OK, 0}, {List(two) + "behind", 2, two, api.OK, 6},
		{List(two), 1, nil, api.ErrLong, 0}, {List(two), 0, nil, api.ErrLong, 0}, {List(two), -1, nil, api.ErrLong, 0}, {List(two), math.MinInt, nil, api.ErrLong, 0},
		{"\x00", 0, nil, api.OK, 0}, {"\x00", 7, nil, api.OK, 0}, {"\x00\x05", 0, nil, api.OK, 1}, {"\x00", -1, nil, api.ErrLong, 0}, {"\x00", math.MinInt, nil, api.ErrLong, 0},
		// in any order, the same one twice
		{List([]api.Dot{at(2, 2), at(2, 2), at(0, 1)}), 3, []api.Dot{at(2, 2), at(2, 2), at(0, 1)}, api.OK, 0},
		// ends ahead of the number, ahead of the first dot, within one, and ahead of the last one
		{"", 3, nil, api.ErrShort, 0}, {"\x80", 3, nil, api.ErrShort, 0}, {"\x01", 3, nil, api.ErrShort, 0}, {"\x02", 3, nil, api.ErrShort, 0}, {"\x01\x05", 3, nil, api.ErrShort, 0},
		{"\x01\x05\x80", 3, nil, api.ErrShort, 0}, {"\x02\x05\x01", 3, nil, api.ErrShort, 0}, {"\x02\x05\x01\x05", 3, nil, api.ErrShort, 0}, {"\x03\x05\x01\x05\x02", 3, nil, api.ErrShort, 0},
		{"\x03\x05\x01", 3, nil, api.ErrShort, 0}, {"\x03\x05\x01", 2, nil, api.ErrLong, 0}, {"\x04", 3, nil, api.ErrLong, 0},
		// numbers that are none
		{"\x81\x00\x05\x01", 3, nil, api.ErrForm, 0}, {"\x01\x85\x00\x01", 3, nil, api.ErrForm, 0}, {"\x01\x05\x81\x00", 3, nil, api.ErrForm, 0},
		{great + "\x05\x01", math.MaxInt, nil, api.ErrLong, 0}, {"\x01" + great + "\x01", 3, nil, api.ErrLong, 0}, {"\x01\x05" + great, 3, nil, api.ErrLong, 0},
		// dots that are not right
		{"\x01\x05\x00", 3, nil, api.ErrArg, 0}, {"\x01\x10\x01", 3, nil, api.ErrArg, 0}, {"\x01\x00\x81\x80\x40", 3, nil, api.ErrArg, 0}, {"\x01\x0F\x80\x80\x40", 3, []api.Dot{at(15, mostSeq)}, api.OK, 0},
		{"\x03\x05\x00\x05\x01\x05\x02", 3, nil, api.ErrArg, 0}, {"\x03\x05\x01\x10\x01\x05\x02", 3, nil, api.ErrArg, 0}, {"\x03\x05\x01\x05\x02\x05\x00", 3, nil, api.ErrArg, 0},
		{"\x02\x05\x00\x05", 3, nil, api.ErrArg, 0}, {"\x02\x05\x00\x85\x00\x01", 3, nil, api.ErrArg, 0}, {"\x02\x85\x00\x01\x05\x00", 3, nil, api.ErrForm, 0},
	} {
		wantList(t, c.s, c.most, c.want, c.fault, c.left)
	}
	for _, d := range wrongDots() {
		fault := api.ErrArg
		if max(d.R, d.N) == math.MaxInt {
			fault = api.ErrLong
		}
		for _, l := range orders([]api.Dot{at(2, 300), at(0, 2), d}) {
			if d.R >= 0 {
				wantList(t, List(l)+"behind", 9, nil, fault, 0)
			}
		}
	}
	wantList(t, List(gaps(3, mostMore)), mostMore, gaps(3, mostMore), api.OK, 0)
	wantList(t, List(gaps(3, mostMore+1)), mostMore, nil, api.ErrLong, 0)
	wantList(t, List(gaps(3, mostMore+1)), mostMore+1, gaps(3, mostMore+1), api.OK, 0)
}

// Promise 6.2: of any end of a list's bytes nothing is read.
func TestReadListOfEnds(t *testing.T) {
	l := append(gaps(4, 140), at(15, mostSeq))
	s := List(l)
	for i := range len(s) {
		wantList(t, s[:i], 200, nil, api.ErrShort, 0)
	}
	for most := range len(l) {
		wantList(t, s, most, nil, api.ErrLong, 0)
	}
	wantList(t, s, len(l), l, api.OK, 0)
}

// Promise 6.2: a set's bytes: those of V, and those of More.
func TestCode(t *testing.T) {
	nought := strings.Repeat("\x00", places)
	for _, c := range []struct {
		s    api.Dots
		want string
	}{
		{api.Dots{}, nought + "\x00"}, {set(api.Vec{1}, at(0, 3)), "\x01" + nought[1:] + "\x01\x00\x03"}, {set(api.Vec{15: 300}), nought[1:] + "\xAC\x02\x00"},
		{set(api.Vec{3, 2}, at(0, 5), at(15, 128)), "\x03\x02" + nought[2:] + "\x02\x00\x05\x0F\x80\x01"}, {api.Dots{More: []api.Dot{}}, nought + "\x00"},
		// as it stands, right or not
		{set(api.Vec{-1}, at(0, 1), at(0, 1), at(-1, 16)), nought + "\x03\x00\x01\x00\x01\x00\x10"},
	} {
		if got := Code(c.s); got != c.want {
			t.Errorf("Code(%v) = %q, want %q", c.s, got, c.want)
		}
	}
	for i, s := range someRight() {
		if Code(s) != vec.Code(s.V)+slowList(s.More) {
			t.Errorf("of the set %d: %q", i, Code(s))
		}
	}
}

// wantRead reads a set from a text, and holds what is told, what is wrong then, and how much is left.
func wantRead(t *testing.T, s string, wanted api.Dots, fault api.Errno, left int) {
	t.Helper()
	r := pack.Open(s)
	got := Read(r)
	want(t, "Read", got, wanted)
	if r.Fault() != fault || r.Left() != left {
		t.Errorf("of %q is read a set with fault %d and %d bytes left, want %d and %d", s, r.Fault(), r.Left(), fault, left)
	}
	if fault != api.OK && got.More != nil {
		t.Errorf("of %q is read a list with an error", s)
	}
}

// Promise 6.2: what is read as a set, and what is wrong then.
func TestRead(t *testing.T) {
	v := vec.Code(api.Vec{3})
	for _, c := range []struct {
		s     string
		want  api.Dots
		fault api.Errno
		left  int
	}{
		{v + "\x00", set(api.Vec{3}), api.OK, 0}, {v + "\x00behind", set(api.Vec{3}), api.OK, 6}, {v + "\x01\x00\x05", set(api.Vec{3}, at(0, 5)), api.OK, 0}, {v + "\x01\x00\x05\x01", set(api.Vec{3}, at(0, 5)), api.OK, 1},
		{v + "\x02\x00\x05\x01\x02", set(api.Vec{3}, at(0, 5), at(1, 2)), api.OK, 0}, {strings.Repeat("\x00", places+1), api.Dots{}, api.OK, 0},
		// no right set: of V, twice, the wrong way round, at V's number, 1 above it, and without a gap at another replica
		{v + "\x01\x00\x03", api.Dots{}, api.ErrArg, 0}, {v + "\x01\x00\x04", api.Dots{}, api.ErrArg, 0}, {v + "\x01\x01\x01", api.Dots{}, api.ErrArg, 0}, {v + "\x01\x00\x01", api.Dots{}, api.ErrArg, 0},
		{v + "\x02\x00\x05\x00\x05", api.Dots{}, api.ErrArg, 0}, {v + "\x02\x00\x06\x00\x05", api.Dots{}, api.ErrArg, 0}, {v + "\x02\x01\x02\x00\x05behind", api.Dots{}, api.ErrArg, 0},
		{v + "\x02\x00\x05\x00\x04", api.Dots{}, api.ErrArg, 0}, {v + "\x02\x00\x04\x00\x05", api.Dots{}, api.ErrArg, 0},
		// dots that are not right
		{v + "\x01\x00\x00", api.Dots{}, api.ErrArg, 0}, {v + "\x01\x10\x02", api.Dots{}, api.ErrArg, 0}, {v + "\x02\x00\x05\x00\x81\x80\x40", api.Dots{}, api.ErrArg, 0},
		// ends within V, ahead of how many, ahead of the first dot, within one, and ahead of the last one
		{"", api.Dots{}, api.ErrShort, 0}, {v[1:], api.Dots{}, api.ErrShort, 0}, {v, api.Dots{}, api.ErrShort, 0}, {v + "\x01", api.Dots{}, api.ErrShort, 0}, {v + "\x01\x00", api.Dots{}, api.ErrShort, 0},
		{v + "\x02\x00\x05", api.Dots{}, api.ErrShort, 0}, {v + "\x02\x00\x05\x01", api.Dots{}, api.ErrShort, 0}, {v + "\x03\x00\x05\x01\x02", api.Dots{}, api.ErrShort, 0}, {v + "\x80", api.Dots{}, api.ErrShort, 0},
		// numbers that are none, and vectors that are not right
		{v + "\x81\x00\x00\x05", api.Dots{}, api.ErrForm, 0}, {v + "\x01\x00\x85\x00", api.Dots{}, api.ErrForm, 0}, {"\x83\x00" + v[1:] + "\x00", api.Dots{}, api.ErrForm, 0},
		{vec.Code(api.Vec{mostSeq + 1}) + "\x00", api.Dots{}, api.ErrArg, 0}, {vec.Code(api.Vec{15: mostSeq + 1}) + "\x01\x00\x85\x00", api.Dots{}, api.ErrArg, 0}, {vec.Code(api.Vec{mostSeq}) + "\x00", set(api.Vec{mostSeq}), api.OK, 0},
		{vec.Code(api.Vec{1 << 56}) + "\x00", api.Dots{}, api.ErrLong, 0}, {v + "\xFF\xFF\x7F", api.Dots{}, api.ErrLong, 0}, {v + "\x81\x20\x00\x05", api.Dots{}, api.ErrLong, 0}, {v + "\x80\x20\x00\x05", api.Dots{}, api.ErrShort, 0},
		// what is wrong first stays: within a set that would not be right either
		{v + "\x02\x00\x04\x00", api.Dots{}, api.ErrShort, 0}, {v + "\x02\x00\x04\x00\x81\x00", api.Dots{}, api.ErrForm, 0},
	} {
		wantRead(t, c.s, c.want, c.fault, c.left)
	}
	wantRead(t, Code(set(api.Vec{1}, append(gaps(2, mostMore-1), at(3, 2))...)), set(api.Vec{1}, append(gaps(2, mostMore-1), at(3, 2))...), api.OK, 0)
	wantRead(t, Code(set(api.Vec{1}, append(gaps(2, mostMore), at(3, 2))...)), api.Dots{}, api.ErrLong, 0)
}

// Promise 6.2: the bytes of all small sets, right or not, and of any end of a set's bytes.
func TestReadOfAnyCode(t *testing.T) {
	some := []api.Dot{at(0, 1), at(0, 2), at(0, 3), at(0, 4), at(1, 1), at(15, 2), at(15, 3)}
	for _, v := range []api.Vec{{}, {1}, {2}, {15: 1}, {0: 1, 15: 2}} {
		for _, a := range some {
			for _, b := range some {
				s, wanted, fault, left := set(v, a, b), set(v, a, b), api.OK, 6
				if !slowRight(s) {
					wanted, fault, left = api.Dots{}, api.ErrArg, 0
				}
				wantRead(t, Code(s)+"behind", wanted, fault, left)
			}
		}
	}
	s := Code(set(api.Vec{0: 300, 7: mostSeq}, at(0, 302), at(3, 2), at(15, mostSeq)))
	for i := range len(s) {
		wantRead(t, s[:i], api.Dots{}, api.ErrShort, 0)
	}
}

// Promise 6.2: of a reader with which something is wrong nothing is read, and that stays wrong; so of a nil one.
func TestReadOfWrongReaders(t *testing.T) {
	s := set(api.Vec{3}, at(0, 5))
	for _, e := range []api.Errno{api.ErrNil, api.ErrArg, api.ErrForm, api.ErrShort, api.ErrLong, api.ErrText} {
		r := pack.Open(Code(s))
		r.Fail(e)
		if got := Read(r); !Same(got, api.Dots{}) || got.More != nil || r.Fault() != e || r.Left() != 0 || r.End() != e {
			t.Errorf("with fault %d: %v, %d", e, got, r.Fault())
		}
		r = pack.Open(List(s.More))
		r.Fail(e)
		for _, most := range []int{1, 0, -1} {
			if got := ReadList(r, most); got != nil || r.Fault() != e || r.Left() != 0 || r.End() != e {
				t.Errorf("with fault %d: %v, %d", e, got, r.Fault())
			}
		}
	}
	r := pack.Open(Code(s) + Code(set(api.Vec{3}, at(0, 4))) + Code(s))
	want(t, "the first one", Read(r), s)
	for range 3 {
		if got := Read(r); !Same(got, api.Dots{}) || r.Fault() != api.ErrArg || r.Left() != 0 {
			t.Errorf("%v, %d", got, r.Fault())
		}
	}
	var none *pack.Reader
	for range 2 {
		if got := Read(none); !Same(got, api.Dots{}) || got.More != nil || none.Fault() != api.ErrNil {
			t.Errorf("of a nil reader %v, %d", got, none.Fault())
		}
		for _, most := range []int{1, 0, -1, math.MaxInt} {
			if got := ReadList(none, most); got != nil || none.Fault() != api.ErrNil {
				t.Errorf("of a nil reader %v, %d", got, none.Fault())
			}
		}
	}
}

// Promise 6.3: right sets are read as they were told, one behind the other, and nothing is left.
func TestRightSetsAgain(t *testing.T) {
	l := append(someRight(), small()...)
	var all strings.Builder
	for _, s := range l {
		r := pack.Open(Code(s))
		want(t, "Read", Read(r), s)
		if r.End() != api.OK {
			t.Fatalf("of %v: %d", s, r.End())
		}
		all.WriteString(Code(s) + List(s.More))
	}
	r := pack.Open(all.String())
	for _, s := range l {
		want(t, "Read of many", Read(r), s)
		if more := ReadList(r, len(s.More)); !slices.Equal(more, s.More) || r.Fault() != api.OK {
			t.Fatalf("%v is read, want %v (%d)", more, s.More, r.Fault())
		}
	}
	if r.End() != api.OK {
		t.Errorf("of many: %d", r.End())
	}
}

// Promise 6.3: a set has one right way to stand: its dots in any order, and unions of any parts of it, make it again.
func TestOneWayToStand(t *testing.T) {
	for bits, s := range small() {
		var l []api.Dot
		for d := range of(s, 4) { // in any order, another one at each run
			l = append(l, d)
		}
		want(t, "of its dots", Of(l...), s)
		slices.SortFunc(l, dot.Compare)
		want(t, "of its dots, rising", Of(l...), s)
		slices.Reverse(l)
		back := api.Dots{}
		for _, d := range l {
			back = Put(back, d)
		}
		want(t, "of its dots, falling", back, s)
		cut := bits % (len(l) + 1)
		want(t, "of two parts", Union(Of(l[:cut]...), Of(l[cut:]...)), s)
		many := api.Dots{}
		for _, d := range l {
			many = Union(Of(d), many)
		}
		want(t, "of single ones", many, s)
	}
}

// guarded tells a list behind which, and ahead of which, others stand in the same memory, and whether all is as it was.
func guarded(l []api.Dot) ([]api.Dot, func() bool) {
	all := slices.Concat([]api.Dot{at(77, 77), at(0, 1)}, l, []api.Dot{at(0, 1), at(0, 2), at(15, 1), at(88, 88)})
	kept := slices.Clone(all)
	return all[2 : 2+len(l)], func() bool { return slices.Equal(all, kept) }
}

// askAll makes all calls on two sets, a dot and a list, and changes all that they answer.
func askAll(a, b api.Dots, d api.Dot, l []api.Dot) {
	spoil := func(s api.Dots) {
		for i := range s.More[:cap(s.More)] {
			s.More[:cap(s.More)][i] = at(99, 99)
		}
	}
	for _, s := range []api.Dots{a, b} {
		Right(s)
		Has(s, d)
		spoil(Put(s, d))
		Count(s)
		for _, r := range []int{-1, 0, 15, 16, d.R} {
			Next(s, r)
		}
		spoil(Read(pack.Open(Code(s))))
	}
	spoil(Of(l...))
	spoil(Union(a, b))
	spoil(Union(b, a))
	Within(a, b)
	Within(b, a)
	Same(a, b)
	spoil(api.Dots{More: ReadList(pack.Open(List(l)), len(l))})
}

// R4: no list that came in is changed, nor what lies behind its length; answers that are changed change nothing that came in.
func TestNothingIsChanged(t *testing.T) {
	lists := [][]api.Dot{nil, {at(0, 2)}, {at(0, 3), at(0, 5)}, {at(0, 3), at(1, 2), at(1, 3), at(15, 2)}, {at(15, 3), at(15, 5)}, gaps(2, 70)}
	for _, v := range []api.Vec{{}, {15: 1}} {
		for _, more := range lists {
			for _, other := range lists {
				a, aKept := guarded(more)
				b, bKept := guarded(other)
				l, lKept := guarded(slices.Concat(other, wrongDots(), other, more))
				for _, d := range []api.Dot{at(0, 1), at(0, 2), at(0, 4), at(0, 9), at(1, 1), at(15, 1), at(15, 2), at(15, 9), at(0, 0), at(16, 1), at(-1, 1)} {
					askAll(set(v, a...), set(api.Vec{}, b...), d, l)
					if !aKept() || !bKept() || !lKept() {
						t.Fatalf("with %v: %v, %v or %v was changed", d, more, other, l)
					}
				}
			}
		}
	}
}

// R4: so also where the lists of arguments share memory, or a dot's memory lies behind a list.
func TestSharedMemory(t *testing.T) {
	all, kept := guarded([]api.Dot{at(0, 3), at(0, 5), at(1, 2), at(1, 4), at(15, 2), at(15, 3)})
	for i := range all {
		for j := i; j <= len(all); j++ {
			for k := range all {
				a, b := set(api.Vec{}, all[i:j]...), set(api.Vec{0: 1}, all[k:]...)
				wanted := of(a, 9)
				for d := range of(b, 9) {
					wanted[d] = true
				}
				want(t, "Union", Union(a, b), wanted.stands(9))
				want(t, "Union the other way round", Union(b, a), wanted.stands(9))
				want(t, "Put", Put(a, all[k]), Of(append([]api.Dot{all[k]}, all[i:j]...)...))
				askAll(a, b, all[k], all[i:j])
				if !kept() {
					t.Fatalf("%v was changed", all)
				}
			}
		}
	}
	s := set(api.Vec{}, all...)
	want(t, "of a set and itself", Union(s, s), s)
	if !Same(s, s) || !Within(s, s) || !kept() {
		t.Error("of a set and itself")
	}
}

// R4: answers share no memory with each other, nor with what is read or asked later.
func TestAnswersAreNew(t *testing.T) {
	s := set(api.Vec{3}, at(0, 5), at(1, 2))
	for _, ask := range []func() api.Dots{
		func() api.Dots { return Put(s, at(0, 5)) }, func() api.Dots { return Put(s, at(0, 0)) }, func() api.Dots { return Put(s, at(16, 1)) }, func() api.Dots { return Put(s, at(0, 1)) },
		func() api.Dots { return Union(s, s) }, func() api.Dots { return Union(s, api.Dots{}) }, func() api.Dots { return Union(api.Dots{}, s) }, func() api.Dots { return Union(Of(s.More...), set(s.V)) },
		func() api.Dots { return Read(pack.Open(Code(s))) }, func() api.Dots { return api.Dots{V: s.V, More: ReadList(pack.Open(List(s.More)), 2)} },
	} {
		first, again := ask(), ask()
		first.More[0], first.More[1], first.V[0] = at(99, 99), at(99, 99), 99
		want(t, "the same again", again, s)
		want(t, "and once more", ask(), s)
		want(t, "what came in", s, set(api.Vec{3}, at(0, 5), at(1, 2)))
	}
}

// P1 and R5: no call panics, whatever it is given, and each answers the same again.
func TestAnySets(t *testing.T) {
	numbers := []int{math.MinInt, -1, 0, 1, mostSeq, mostSeq + 1, math.MaxInt}
	lists := [][]api.Dot{nil, {}, wrongDots(), {at(0, 3), at(0, 2), at(0, 2)}, {at(15, 1)}, gaps(15, mostMore+1), {at(16, 2)}, {at(-1, 2)}}
	var l []api.Dots
	for _, n := range numbers {
		for _, more := range lists {
			l = append(l, set(full(n), more...), set(api.Vec{15: n}, more...))
		}
	}
	for i, a := range l {
		for _, d := range append(wrongDots(), at(0, 1), at(15, 2), at(15, mostSeq)) {
			if Right(a) != slowRight(a) || Has(a, d) != Has(a, d) || !Same(Put(a, d), Put(a, d)) || Next(a, d.R) != Next(a, d.R) {
				t.Fatalf("%v and %v are answered in two ways", a, d)
			}
			if i > 20 && len(a.More) > mostMore { // once is enough for the long ones
				break
			}
		}
		b := l[len(l)-1-i]
		if Within(a, b) != Within(a, b) || !Same(Union(a, b), Union(a, b)) || Count(a) != Count(a) || Code(a) != Code(a) {
			t.Fatalf("%v and %v are answered in two ways", a, b)
		}
		first, again := pack.Open(Code(a)), pack.Open(Code(a))
		if !Same(Read(first), Read(again)) || first.Fault() != again.Fault() {
			t.Fatalf("%v is read in two ways", a)
		}
	}
}
