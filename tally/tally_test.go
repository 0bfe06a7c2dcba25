package tally

import (
	"math"
	"slices"
	"strings"
	"testing"

	"palinode/api"
	"palinode/dot"
	"palinode/pack"
)

const (
	mostSeq  = 1048576 // the greatest number that a dot may have: 2^20
	mostUndo = 64      // the greatest N of a right count
)

// at tells a dot.
func at(r, n int) api.Dot { return api.Dot{R: r, N: n} }

// un tells a count: of a dot, and how often.
func un(r, n, often int) api.Undo { return api.Undo{D: at(r, n), N: often} }

// list tells counts, one by one.
func list(l ...api.Undo) []api.Undo { return l }

// wrongDots tells dots that are not right.
func wrongDots() []api.Dot {
	return []api.Dot{{}, at(0, 0), at(15, 0), at(0, -1), at(-1, 1), at(-1, 2), at(16, 1), at(16, 5), at(17, 3), at(0, mostSeq+1), at(15, mostSeq+1),
		at(-1, 0), at(16, mostSeq+1), at(math.MinInt, 3), at(math.MaxInt, 3), at(3, math.MinInt), at(3, math.MaxInt), at(math.MinInt, math.MaxInt), at(math.MaxInt, math.MinInt)}
}

// wrongNumbers tells numbers that no right count has.
func wrongNumbers() []int {
	return []int{math.MinInt, -64, -2, -1, 0, mostUndo + 1, mostUndo + 2, 128, 1 << 32, 1<<32 + 1, math.MaxInt}
}

// wrongOnes tells counts each of which alone is not right.
func wrongOnes() (l []api.Undo) {
	for _, d := range wrongDots() {
		l = append(l, api.Undo{D: d, N: 1}, api.Undo{D: d, N: mostUndo}, api.Undo{D: d})
	}
	for _, n := range wrongNumbers() {
		l = append(l, un(0, 1, n), un(3, 3, n), un(15, mostSeq, n))
	}
	return l
}

// row tells right counts of so many dots of one replica, with gaps between: 2, 4, 6 ..
func row(r, many int) (l []api.Undo) {
	for i := range many {
		l = append(l, un(r, 2*i+2, i%mostUndo+1))
	}
	return l
}

// someRight tells right counts that are alike in nothing.
func someRight() [][]api.Undo {
	return [][]api.Undo{
		nil, {un(0, 1, 1)}, {un(0, 1, 2)}, {un(0, 1, mostUndo)}, {un(15, mostSeq, mostUndo)}, {un(15, mostSeq, 1)}, {un(15, 1, 63)}, {un(0, mostSeq, 63)},
		{un(0, 1, 1), un(0, 2, 1)}, {un(0, 2, 64), un(1, 1, 1)}, {un(0, 1, 5), un(0, 300, 2), un(3, 1, 64), un(3, 2, 1), un(15, 1, 7)},
		{un(0, mostSeq, 1), un(1, 1, 1), un(1, 2, 2), un(1, mostSeq, 3), un(2, 1, 4), un(15, mostSeq-1, 5), un(15, mostSeq, 6)},
		row(3, 64), row(15, 200), append(row(0, 130), row(1, 130)...),
	}
}

// slowRight is what the document says of right counts.
func slowRight(l []api.Undo) bool {
	for i, u := range l {
		if u.D.R < 0 || u.D.R > 15 || u.D.N < 1 || u.D.N > mostSeq || u.N < 1 || u.N > mostUndo {
			return false
		}
		for _, o := range l[:i] {
			if o.D.R > u.D.R || o.D.R == u.D.R && o.D.N >= u.D.N {
				return false
			}
		}
	}
	return true
}

// model is of each dot its N.
type model map[api.Dot]int

// of tells counts as a model.
func of(l []api.Undo) model {
	m := model{}
	for _, u := range l {
		m[u.D] = u.N
	}
	return m
}

// stands tells a model's counts, as they rise.
func (m model) stands() (l []api.Undo) {
	for d, n := range m {
		if n > 0 {
			l = append(l, api.Undo{D: d, N: n})
		}
	}
	slices.SortFunc(l, func(a, b api.Undo) int { return (a.D.R-b.D.R)*(mostSeq+1) + a.D.N - b.D.N })
	return l
}

// joined is what the document says of a join.
func joined(a, b []api.Undo) []api.Undo {
	m := of(a)
	for _, u := range b {
		if u.N > m[u.D] {
			m[u.D] = u.N
		}
	}
	return m.stands()
}

// above is what the document says of those that are over others.
func above(a, b []api.Undo) (l []api.Undo) {
	m := of(b)
	for _, u := range a {
		if u.N > m[u.D] {
			l = append(l, u)
		}
	}
	return l
}

// small tells all right counts of four dots with an N of 1, 2 or 3, or none.
func small() (all [][]api.Undo) {
	for i := range 256 {
		m := model{}
		for j, d := range []api.Dot{at(0, 1), at(0, 2), at(1, 1), at(15, mostSeq)} {
			m[d] = i >> (2 * j) % 4
		}
		all = append(all, m.stands())
	}
	return all
}

// want holds counts against those that are wanted, one by one.
func want(t *testing.T, what string, got, wanted []api.Undo) {
	t.Helper()
	if len(got) != len(wanted) {
		t.Fatalf("%s: %v, want %v", what, got, wanted)
	}
	for i, u := range got {
		if u != wanted[i] {
			t.Fatalf("%s: %v, want %v", what, got, wanted)
		}
	}
}

// Promise 8.1: which counts are right.
func TestRight(t *testing.T) {
	for i, l := range someRight() {
		if !Right(l) {
			t.Errorf("the counts %d are not right", i)
		}
	}
	for i, c := range []struct {
		l    []api.Undo
		want bool
	}{
		{nil, true}, {[]api.Undo{}, true}, {make([]api.Undo, 0, 3), true}, {list(api.Undo{}), false},
		{list(un(0, 1, -1)), false}, {list(un(0, 1, 0)), false}, {list(un(0, 1, 1)), true}, {list(un(0, 1, 2)), true}, {list(un(0, 1, 63)), true}, {list(un(0, 1, 64)), true}, {list(un(0, 1, 65)), false},
		{list(un(-1, 1, 1)), false}, {list(un(16, 1, 1)), false}, {list(un(15, 1, 1)), true}, {list(un(0, 0, 1)), false}, {list(un(0, mostSeq, 1)), true}, {list(un(0, mostSeq+1, 1)), false},
		// the same dot twice, and the wrong way round
		{list(un(0, 1, 1), un(0, 1, 1)), false}, {list(un(0, 1, 1), un(0, 1, 2)), false}, {list(un(0, 1, 2), un(0, 1, 1)), false}, {list(un(0, 1, 1), un(0, 2, 1)), true}, {list(un(0, 2, 1), un(0, 1, 1)), false},
		{list(un(0, 2, 1), un(1, 1, 1)), true}, {list(un(1, 1, 1), un(0, 2, 1)), false}, {list(un(0, 1, 2), un(0, 2, 1)), true}, {list(un(0, 2, 1), un(0, 1, 2)), false},
		{list(un(0, 1, 1), un(0, 2, 1), un(0, 2, 1)), false}, {list(un(0, 1, 1), un(0, 1, 1), un(0, 2, 1)), false}, {list(un(0, 1, 1), un(0, 3, 1), un(0, 2, 1)), false}, {list(un(0, 2, 1), un(0, 1, 1), un(0, 3, 1)), false},
		{list(un(0, 1, 1), un(0, 2, 1), un(0, 1, 1)), false}, {list(un(0, 1, 1), un(0, 3, 1), un(2, 1, 1)), true},
	} {
		if Right(c.l) != c.want {
			t.Errorf("the counts %d: %t", i, Right(c.l))
		}
	}
	for _, u := range wrongOnes() {
		for i := range 4 {
			if l := slices.Insert(row(3, 3), i, u); Right(l) || Right(list(u)) {
				t.Errorf("%v is right", l)
			}
		}
	}
	for i := range row(3, 5) {
		for _, n := range wrongNumbers() {
			l := row(3, 5)
			l[i].N = n
			if Right(l) {
				t.Errorf("%v is right", l)
			}
		}
	}
	if api.MaxUndo != mostUndo || api.MaxSeq != mostSeq || api.MaxReplicas != 16 {
		t.Error("other limits")
	}
}

// Promise 8.1: all small counts, right or not, held against what the document says.
func TestRightOfAllSmall(t *testing.T) {
	some := []api.Undo{un(0, 0, 1), un(0, 1, 0), un(0, 1, 1), un(0, 1, 2), un(0, 2, 1), un(0, 2, 64), un(0, 2, 65), un(1, 1, 1), un(15, 1, 64), un(15, mostSeq, 3), un(16, 1, 1), un(-1, 1, 1)}
	many := 0
	for _, a := range some {
		for _, b := range some {
			for _, c := range some {
				for n := range 4 {
					l := list(a, b, c)[:n]
					if Right(l) != slowRight(l) {
						t.Fatalf("Right(%v) = %t", l, Right(l))
					}
					if Right(l) {
						many++
					}
				}
			}
		}
	}
	if many == 0 {
		t.Error("none are right")
	}
}

// Promise 8.1: the N of dots that are there and of others, and whether they count.
func TestGetAndSeen(t *testing.T) {
	l := list(un(0, 1, 2), un(0, 3, 1), un(0, 4, 64), un(2, 7, 63), un(2, 9, 3), un(15, 1, 4), un(15, mostSeq, 1))
	for _, c := range []struct {
		r, n, often int
		seen        bool
	}{
		{0, 1, 2, true}, {0, 3, 1, false}, {0, 4, 64, true}, {2, 7, 63, false}, {2, 9, 3, false}, {15, 1, 4, true}, {15, mostSeq, 1, false},
		{0, 2, 0, true}, {0, 5, 0, true}, {0, 7, 0, true}, {0, mostSeq, 0, true}, {1, 1, 0, true}, {1, 7, 0, true}, {2, 6, 0, true}, {2, 8, 0, true}, {2, 10, 0, true}, {3, 7, 0, true}, {14, 1, 0, true}, {15, 2, 0, true}, {15, mostSeq - 1, 0, true},
		{0, 0, 0, true}, {-1, 1, 0, true}, {16, 1, 0, true}, {15, mostSeq + 1, 0, true},
	} {
		if Get(l, at(c.r, c.n)) != c.often || Seen(l, at(c.r, c.n)) != c.seen {
			t.Errorf("of %d.%d: %d, %t", c.r, c.n, Get(l, at(c.r, c.n)), Seen(l, at(c.r, c.n)))
		}
	}
	for i, l := range someRight() {
		for _, d := range wrongDots() {
			if Get(l, d) != 0 || !Seen(l, d) {
				t.Errorf("the counts %d have %v", i, d)
			}
		}
		for _, u := range l {
			if Get(l, u.D) != u.N || Seen(l, u.D) != (u.N%2 == 0) {
				t.Fatalf("of the counts %d, %v: %d, %t", i, u, Get(l, u.D), Seen(l, u.D))
			}
		}
		if m := of(l); Get(l, at(7, 7)) != m[at(7, 7)] || Get(l, at(0, 1)) != m[at(0, 1)] || Get(l, at(3, 3)) != m[at(3, 3)] || Get(l, at(15, mostSeq)) != m[at(15, mostSeq)] {
			t.Errorf("the counts %d have others", i)
		}
	}
	for n := 1; n <= mostUndo; n++ {
		if l := list(un(5, 5, n)); Get(l, at(5, 5)) != n || Seen(l, at(5, 5)) != (n%2 == 0) {
			t.Errorf("of %d: %d, %t", n, Get(l, at(5, 5)), Seen(l, at(5, 5)))
		}
	}
	for _, none := range [][]api.Undo{nil, {}, l[:0]} {
		if Get(none, at(0, 1)) != 0 || !Seen(none, at(0, 1)) || Get(none, at(0, 0)) != 0 || !Seen(none, at(0, 0)) {
			t.Error("none are there, and one is")
		}
	}
}

// Promise 8.1: counts with another one.
func TestPut(t *testing.T) {
	l := list(un(0, 2, 5), un(3, 1, 64), un(3, 4, 1))
	for _, c := range []struct {
		u    api.Undo
		want []api.Undo
	}{
		// ahead of all, between two, behind all
		{un(0, 1, 1), list(un(0, 1, 1), un(0, 2, 5), un(3, 1, 64), un(3, 4, 1))}, {un(0, 3, 64), list(un(0, 2, 5), un(0, 3, 64), un(3, 1, 64), un(3, 4, 1))}, {un(1, 1, 2), list(un(0, 2, 5), un(1, 1, 2), un(3, 1, 64), un(3, 4, 1))},
		{un(3, 2, 3), list(un(0, 2, 5), un(3, 1, 64), un(3, 2, 3), un(3, 4, 1))}, {un(3, 5, 4), list(un(0, 2, 5), un(3, 1, 64), un(3, 4, 1), un(3, 5, 4))}, {un(15, mostSeq, 64), list(un(0, 2, 5), un(3, 1, 64), un(3, 4, 1), un(15, mostSeq, 64))},
		// with a lesser, the same and a greater N
		{un(0, 2, 1), l}, {un(0, 2, 4), l}, {un(0, 2, 5), l}, {un(0, 2, 6), list(un(0, 2, 6), un(3, 1, 64), un(3, 4, 1))}, {un(0, 2, 64), list(un(0, 2, 64), un(3, 1, 64), un(3, 4, 1))},
		{un(3, 1, 1), l}, {un(3, 1, 63), l}, {un(3, 1, 64), l}, {un(3, 4, 1), l}, {un(3, 4, 2), list(un(0, 2, 5), un(3, 1, 64), un(3, 4, 2))},
		// alone not right
		{un(0, 2, 65), l}, {un(0, 2, 0), l}, {un(0, 2, -1), l}, {un(3, 1, 65), l}, {un(3, 4, 65), l}, {un(0, 1, 0), l}, {un(0, 1, 65), l}, {un(0, 0, 1), l}, {un(-1, 2, 6), l}, {un(16, 2, 6), l}, {un(0, mostSeq+1, 6), l}, {api.Undo{}, l},
	} {
		want(t, "Put", Put(l, c.u), c.want)
	}
	for _, l := range someRight() {
		for _, u := range wrongOnes() {
			want(t, "Put of a wrong one", Put(l, u), l)
		}
		for _, u := range l {
			want(t, "Put of one that is there", Put(l, u), l)
		}
	}
	for _, none := range [][]api.Undo{nil, {}, l[:0]} {
		want(t, "Put to none", Put(none, un(15, mostSeq, 64)), list(un(15, mostSeq, 64)))
		want(t, "Put of a wrong one to none", Put(none, un(0, 1, 65)), nil)
	}
}

// Promise 8.1: any count put to all small ones, and many in any order, held against what the document says.
func TestPutToAll(t *testing.T) {
	for _, l := range small() {
		for _, d := range []api.Dot{at(0, 1), at(0, 2), at(0, 3), at(1, 1), at(1, 2), at(14, 1), at(15, mostSeq-1), at(15, mostSeq)} {
			for n := 1; n <= 4; n++ {
				u := api.Undo{D: d, N: n}
				got := Put(l, u)
				want(t, "Put", got, joined(l, list(u)))
				if !Right(got) || Get(got, d) != max(n, of(l)[d]) {
					t.Fatalf("Put(%v, %v) = %v", l, u, got)
				}
			}
		}
	}
	for _, l := range someRight() {
		var there, back, twice []api.Undo
		for i, u := range l {
			o := l[len(l)-1-i]
			there, back = Put(there, u), Put(back, o)
			twice = Put(Put(Put(twice, o), api.Undo{D: o.D, N: 1}), api.Undo{D: u.D, N: 1})
		}
		want(t, "Put one by one", there, l)
		want(t, "Put from the last one on", back, l)
		want(t, "Put with lesser ones", twice, l)
	}
}

// Promise 8.1: of each dot the greater one of both.
func TestJoin(t *testing.T) {
	for _, c := range []struct{ a, b, want []api.Undo }{
		{nil, nil, nil}, {[]api.Undo{}, nil, nil}, {nil, list(un(0, 1, 1)), list(un(0, 1, 1))},
		// no dot in common
		{list(un(0, 1, 1)), list(un(0, 2, 2)), list(un(0, 1, 1), un(0, 2, 2))}, {list(un(0, 1, 1), un(0, 3, 3), un(2, 1, 64)), list(un(0, 2, 2), un(0, 4, 4), un(1, 9, 5)), list(un(0, 1, 1), un(0, 2, 2), un(0, 3, 3), un(0, 4, 4), un(1, 9, 5), un(2, 1, 64))},
		{list(un(0, 1, 1), un(0, 2, 1)), list(un(15, 1, 1), un(15, mostSeq, 2)), list(un(0, 1, 1), un(0, 2, 1), un(15, 1, 1), un(15, mostSeq, 2))},
		// each has the greater N of some dots
		{list(un(0, 1, 1)), list(un(0, 1, 2)), list(un(0, 1, 2))}, {list(un(0, 1, 64)), list(un(0, 1, 63)), list(un(0, 1, 64))},
		{list(un(0, 1, 1), un(0, 2, 9), un(3, 3, 4)), list(un(0, 1, 2), un(0, 2, 8), un(3, 3, 4)), list(un(0, 1, 2), un(0, 2, 9), un(3, 3, 4))},
		{list(un(0, 1, 3), un(0, 2, 1), un(2, 1, 5)), list(un(0, 2, 2), un(1, 1, 1), un(2, 1, 4), un(2, 2, 1)), list(un(0, 1, 3), un(0, 2, 2), un(1, 1, 1), un(2, 1, 5), un(2, 2, 1))},
		{list(un(7, 7, 1)), list(un(0, 1, 1), un(7, 6, 2), un(7, 7, 3), un(7, 8, 4)), list(un(0, 1, 1), un(7, 6, 2), un(7, 7, 3), un(7, 8, 4))},
	} {
		want(t, "Join", Join(c.a, c.b), c.want)
		want(t, "Join the other way round", Join(c.b, c.a), c.want)
	}
	for _, l := range someRight() {
		want(t, "of counts and themselves", Join(l, l), l)
		for _, none := range [][]api.Undo{nil, {}} {
			want(t, "of counts and none", Join(l, none), l)
			want(t, "of none and counts", Join(none, l), l)
		}
	}
}

// Promise 8.1: those of a whose N is above b's.
func TestOver(t *testing.T) {
	for _, c := range []struct{ a, b, there, back []api.Undo }{
		{nil, nil, nil, nil}, {list(un(0, 1, 1)), nil, list(un(0, 1, 1)), nil}, {list(un(0, 1, 64)), []api.Undo{}, list(un(0, 1, 64)), nil},
		// 1 above, the same and 1 below
		{list(un(0, 1, 4)), list(un(0, 1, 3)), list(un(0, 1, 4)), nil}, {list(un(0, 1, 4)), list(un(0, 1, 4)), nil, nil}, {list(un(0, 1, 1)), list(un(0, 1, 2)), nil, list(un(0, 1, 2))}, {list(un(0, 1, 64)), list(un(0, 1, 63)), list(un(0, 1, 64)), nil},
		{list(un(0, 1, 4), un(0, 2, 4), un(0, 3, 4)), list(un(0, 1, 3), un(0, 2, 4), un(0, 3, 5)), list(un(0, 1, 4)), list(un(0, 3, 5))},
		// in order
		{list(un(0, 1, 2), un(0, 2, 1), un(1, 1, 5), un(3, 4, 3), un(15, mostSeq, 9)), list(un(0, 1, 1), un(0, 2, 1), un(0, 3, 7), un(3, 4, 2)), list(un(0, 1, 2), un(1, 1, 5), un(3, 4, 3), un(15, mostSeq, 9)), list(un(0, 3, 7))},
		{list(un(0, 1, 1), un(2, 2, 1)), list(un(0, 2, 1), un(1, 1, 1)), list(un(0, 1, 1), un(2, 2, 1)), list(un(0, 2, 1), un(1, 1, 1))},
	} {
		want(t, "Over", Over(c.a, c.b), c.there)
		want(t, "Over the other way round", Over(c.b, c.a), c.back)
	}
	for _, l := range someRight() {
		want(t, "of counts over themselves", Over(l, l), nil)
		for _, none := range [][]api.Undo{nil, {}} {
			want(t, "over none", Over(l, none), l)
			want(t, "of none", Over(none, l), nil)
		}
	}
}

// Promise 8.1 and 8.3: all two small ones, held against what the document says; what is Over, joined to the others, is the join.
func TestTwoSmall(t *testing.T) {
	l := small()
	for i, a := range l {
		for j, b := range l {
			join, over := Join(a, b), Over(a, b)
			want(t, "Join", join, joined(a, b))
			want(t, "Over", over, above(a, b))
			if !Right(join) || !Right(over) || !Same(join, Join(b, a)) || !Same(Join(over, b), join) || !Same(Join(b, over), join) {
				t.Fatalf("of %v and %v: %v, and over %v", a, b, join, over)
			}
			if Same(a, b) != (i == j) || (len(over) == 0) != Same(join, b) {
				t.Fatalf("of %v and %v: %t, %v", a, b, Same(a, b), over)
			}
		}
	}
}

// Promise 8.3: joins of three in either brackets, and the other way round; what is Over, joined to the others, is the join.
func TestLattice(t *testing.T) {
	l := someRight()
	for i, s := range small() {
		if i%17 == 3 {
			l = append(l, s)
		}
	}
	for _, a := range l {
		for _, b := range l {
			ab := Join(a, b)
			if !Same(ab, Join(b, a)) || !Same(ab, Join(Over(a, b), b)) || !Same(ab, Join(a, Over(b, a))) || !Same(ab, joined(a, b)) || !slowRight(ab) {
				t.Fatalf("%v and %v, the other way round, or over", a, b)
			}
			if len(Over(a, ab)) > 0 || len(Over(b, ab)) > 0 || !Same(Join(ab, a), ab) || !Same(Join(b, ab), ab) {
				t.Fatalf("of %v and %v something is over the join", a, b)
			}
			for _, c := range l {
				if !Same(Join(ab, c), Join(a, Join(b, c))) {
					t.Fatalf("%v, %v and %v in other brackets", a, b, c)
				}
			}
		}
	}
}

// wantRaise raises a dot's count, and holds what is told.
func wantRaise(t *testing.T, l []api.Undo, d api.Dot, wanted api.Undo, fault api.Errno) {
	t.Helper()
	if u, e := Raise(l, d); u != wanted || e != fault {
		t.Errorf("Raise(%v, %v) = %v, %d, want %v, %d", l, d, u, e, wanted, fault)
	}
}

// Promise 8.1: a dot's count, raised by one; with an error it is the zero one.
func TestRaise(t *testing.T) {
	l := list(un(0, 2, 1), un(3, 1, 63), un(3, 4, 64), un(15, 1, 2))
	wantRaise(t, l, at(0, 2), un(0, 2, 2), api.OK)
	wantRaise(t, l, at(3, 1), un(3, 1, 64), api.OK)
	wantRaise(t, l, at(3, 4), api.Undo{}, api.ErrTop)
	wantRaise(t, l, at(15, 1), un(15, 1, 3), api.OK)
	for _, d := range []api.Dot{at(0, 1), at(0, 3), at(3, 2), at(3, 5), at(2, 4), at(4, 4), at(15, mostSeq), at(7, 7)} {
		wantRaise(t, l, d, api.Undo{D: d, N: 1}, api.OK)
		wantRaise(t, nil, d, api.Undo{D: d, N: 1}, api.OK)
		wantRaise(t, []api.Undo{}, d, api.Undo{D: d, N: 1}, api.OK)
	}
	for _, d := range wrongDots() {
		for _, l := range append(someRight(), l, []api.Undo{}) {
			wantRaise(t, l, d, api.Undo{}, api.ErrArg)
		}
		// the dot is asked first, also where it is there with the greatest N
		wantRaise(t, list(api.Undo{D: d, N: mostUndo}), d, api.Undo{}, api.ErrArg)
	}
}

// Promise 8.3: from 0 to the most, each raise turns whether its transaction counts, and that of no other one.
func TestRaiseTurns(t *testing.T) {
	some := []api.Dot{at(0, 1), at(0, 2), at(0, 3), at(1, 1), at(3, 4), at(15, mostSeq)}
	for _, l := range append(someRight(), small()...) {
		for _, d := range some {
			u, e := Raise(l, d)
			if n := of(l)[d]; n == mostUndo {
				wantRaise(t, l, d, api.Undo{}, api.ErrTop)
				continue
			}
			raised := Put(l, u)
			if e != api.OK || !Right(raised) || Seen(raised, d) == Seen(l, d) || Get(raised, d) != Get(l, d)+1 {
				t.Fatalf("%v of %v raised: %v, %d", d, l, raised, e)
			}
			want(t, "what is over", Over(raised, l), list(u))
			for _, o := range some {
				if o != d && (Seen(raised, o) != Seen(l, o) || Get(raised, o) != Get(l, o)) {
					t.Fatalf("%v of %v raised turns %v", d, l, o)
				}
			}
		}
	}
	l := row(4, 9)
	for n := 1; n <= mostUndo; n++ {
		wantRaise(t, l, at(4, 5), un(4, 5, n), api.OK)
		l = Put(l, un(4, 5, n))
	}
	wantRaise(t, l, at(4, 5), api.Undo{}, api.ErrTop)
}

// Promise 8.1: counts are the same, as they stand, right or not; nil and empty lists are the same.
func TestSame(t *testing.T) {
	l := list(un(0, 2, 5), un(3, 1, 64), un(3, 4, 1), un(15, 300, 7))
	if !Same(l, l) || !Same(l, slices.Clone(l)) {
		t.Error("the same counts are unlike")
	}
	empty := [][]api.Undo{nil, {}, l[:0], make([]api.Undo, 0, 3)}
	for _, a := range empty {
		for _, b := range empty {
			if !Same(a, b) || Same(a, l) || Same(l, b) || Same(a, list(api.Undo{})) || Same(list(api.Undo{}), b) {
				t.Error("nil and empty are unlike, or the same as others")
			}
		}
	}
	for i := range l {
		if Same(l, l[:i]) || Same(l[:i], l) || Same(l, l[i+1:]) || Same(l[i+1:], l) {
			t.Errorf("%v and its part from or to %d are the same", l, i)
		}
		less, more := slices.Concat(l[:i], l[i+1:]), slices.Insert(slices.Clone(l), i, un(2, 2, 2))
		twice := slices.Insert(slices.Clone(l), i, l[i])
		for _, o := range [][]api.Undo{less, more, twice} {
			if Same(l, o) || Same(o, l) {
				t.Errorf("%v and %v are the same", l, o)
			}
		}
		for _, c := range []api.Undo{{}, un(1, 0, 0), un(0, 1, 0), un(0, 0, 1), un(-1, 0, 0), un(0, -1, 0), un(0, 0, -1), un(0, 0, 1<<32), un(0, 1<<32, 0), un(1, -1, 0), un(0, 1, -1), un(-1, 0, 1)} {
			o := slices.Clone(l)
			o[i] = un(o[i].D.R+c.D.R, o[i].D.N+c.D.N, o[i].N+c.N)
			if same := c == (api.Undo{}); Same(l, o) != same || Same(o, l) != same {
				t.Errorf("%v and %v: %t", l, o, Same(l, o))
			}
		}
	}
	if Same(list(un(0, 1, 1), un(0, 2, 1)), list(un(0, 2, 1), un(0, 1, 1))) || Same(list(un(0, 1, 0)), nil) || Same(nil, list(un(0, 1, 0))) {
		t.Error("others are the same")
	}
}

// slowCode tells the bytes of counts, one behind the other.
func slowCode(l []api.Undo) string {
	s := pack.Int(len(l))
	for _, u := range l {
		s += pack.Int(u.D.R) + pack.Int(u.D.N) + pack.Int(u.N)
	}
	return s
}

// Promise 8.2: the bytes of none, of one and of many.
func TestCode(t *testing.T) {
	for _, c := range []struct {
		l    []api.Undo
		want string
	}{
		{nil, "\x00"}, {[]api.Undo{}, "\x00"}, {list(un(0, 1, 2)), "\x01\x00\x01\x02"}, {list(un(15, 300, 64)), "\x01\x0F\xAC\x02\x40"}, {list(un(15, mostSeq, 1)), "\x01\x0F\x80\x80\x40\x01"},
		{list(un(0, 1, 2), un(3, 17, 5)), "\x02\x00\x01\x02\x03\x11\x05"}, {slices.Repeat(list(un(1, 2, 3)), 127), "\x7F" + strings.Repeat("\x01\x02\x03", 127)}, {slices.Repeat(list(un(1, 2, 3)), 128), "\x80\x01" + strings.Repeat("\x01\x02\x03", 128)},
		// as they stand, right or not
		{list(api.Undo{}, un(16, 0, 128), un(0, 1, -1)), "\x03\x00\x00\x00\x10\x00\x80\x01\x00\x01\x00"},
	} {
		if got := Code(c.l); got != c.want {
			t.Errorf("Code(%v) = %q, want %q", c.l, got, c.want)
		}
	}
	for i, l := range append(someRight(), wrongOnes(), row(3, 5000)) {
		if Code(l) != slowCode(l) {
			t.Errorf("of the counts %d: %q", i, Code(l))
		}
	}
}

// wantRead reads counts from a text, and holds what is told, what is wrong then, and how much is left.
func wantRead(t *testing.T, s string, most int, wanted []api.Undo, fault api.Errno, left int) {
	t.Helper()
	r := pack.Open(s)
	l := Read(r, most)
	want(t, "Read", l, wanted)
	if r.Fault() != fault || r.Left() != left {
		t.Errorf("of %q (%d at the most) is read %v, with fault %d and %d bytes left, want %d and %d", s, most, l, r.Fault(), r.Left(), fault, left)
	}
	if fault != api.OK && l != nil {
		t.Errorf("of %q is read a list with an error", s)
	}
}

// Promise 8.2: what is read as counts, and what is wrong then.
func TestRead(t *testing.T) {
	two := list(un(0, 300, 1), un(1, 1, 64))
	great := strings.Repeat("\x80", 8) + "\x01"
	for _, c := range []struct {
		s     string
		most  int
		want  []api.Undo
		fault api.Errno
		left  int
	}{
		{Code(two), 2, two, api.OK, 0}, {Code(two), 3, two, api.OK, 0}, {Code(two), math.MaxInt, two, api.OK, 0}, {Code(two) + "behind", 2, two, api.OK, 6},
		// none, so many as may be, and 1 more
		{Code(two), 1, nil, api.ErrLong, 0}, {Code(two), 0, nil, api.ErrLong, 0}, {Code(two), -1, nil, api.ErrLong, 0}, {Code(two), math.MinInt, nil, api.ErrLong, 0},
		{"\x00", 0, nil, api.OK, 0}, {"\x00", 7, nil, api.OK, 0}, {"\x00\x05", 0, nil, api.OK, 1}, {"\x00", -1, nil, api.ErrLong, 0}, {"\x00", math.MinInt, nil, api.ErrLong, 0}, {"\x01\x00\x01\x01", 0, nil, api.ErrLong, 0}, {"\x01\x00\x01\x01", 1, list(un(0, 1, 1)), api.OK, 0},
		// an N of 0, of 1, of 64 and of 65
		{"\x01\x00\x01\x00", 3, nil, api.ErrArg, 0}, {"\x01\x00\x01\x01", 3, list(un(0, 1, 1)), api.OK, 0}, {"\x01\x00\x01\x40", 3, list(un(0, 1, 64)), api.OK, 0}, {"\x01\x00\x01\x41", 3, nil, api.ErrArg, 0}, {"\x01\x00\x01\x80\x01", 3, nil, api.ErrArg, 0},
		{"\x02\x00\x01\x00\x00\x02\x01", 3, nil, api.ErrArg, 0}, {"\x02\x00\x01\x01\x00\x02\x00", 3, nil, api.ErrArg, 0}, {"\x02\x00\x01\x01\x00\x02\x41behind", 3, nil, api.ErrArg, 0},
		// dots that are not right
		{"\x01\x05\x00\x01", 3, nil, api.ErrArg, 0}, {"\x01\x10\x01\x01", 3, nil, api.ErrArg, 0}, {"\x01\x00\x81\x80\x40\x01", 3, nil, api.ErrArg, 0}, {"\x01\x0F\x80\x80\x40\x01", 3, list(un(15, mostSeq, 1)), api.OK, 0},
		{"\x02\x00\x01\x01\x10\x01\x01", 3, nil, api.ErrArg, 0}, {"\x02\x00\x00\x01\x00\x01\x01", 3, nil, api.ErrArg, 0},
		// the same dot twice, and the wrong way round
		{"\x02\x00\x01\x01\x00\x01\x01", 3, nil, api.ErrArg, 0}, {"\x02\x00\x01\x01\x00\x01\x02", 3, nil, api.ErrArg, 0}, {"\x02\x00\x02\x01\x00\x01\x01", 3, nil, api.ErrArg, 0}, {"\x02\x01\x01\x01\x00\x02\x01", 3, nil, api.ErrArg, 0}, {"\x02\x00\x01\x02\x00\x02\x01", 3, list(un(0, 1, 2), un(0, 2, 1)), api.OK, 0},
		// ends ahead of how many, ahead of the first dot, within one, ahead of its N, within it, and ahead of the last ones
		{"", 3, nil, api.ErrShort, 0}, {"\x80", 3, nil, api.ErrShort, 0}, {"\x01", 3, nil, api.ErrShort, 0}, {"\x02", 3, nil, api.ErrShort, 0}, {"\x01\x05", 3, nil, api.ErrShort, 0}, {"\x01\x05\x80", 3, nil, api.ErrShort, 0}, {"\x01\x05\x01", 3, nil, api.ErrShort, 0}, {"\x01\x05\x01\x80", 3, nil, api.ErrShort, 0},
		{"\x02\x05\x01\x01", 3, nil, api.ErrShort, 0}, {"\x02\x05\x01\x01\x05", 3, nil, api.ErrShort, 0}, {"\x02\x05\x01\x01\x05\x02", 3, nil, api.ErrShort, 0}, {"\x03\x05\x01\x01\x05\x02\x01", 3, nil, api.ErrShort, 0}, {"\x03\x05\x01", 2, nil, api.ErrLong, 0}, {"\x04", 3, nil, api.ErrLong, 0},
		// numbers that are none
		{"\x81\x00\x05\x01\x01", 3, nil, api.ErrForm, 0}, {"\x01\x85\x00\x01\x01", 3, nil, api.ErrForm, 0}, {"\x01\x05\x81\x00\x01", 3, nil, api.ErrForm, 0}, {"\x01\x05\x01\x81\x00", 3, nil, api.ErrForm, 0},
		{great + "\x05\x01\x01", math.MaxInt, nil, api.ErrLong, 0}, {"\x01" + great + "\x01\x01", 3, nil, api.ErrLong, 0}, {"\x01\x05" + great + "\x01", 3, nil, api.ErrLong, 0}, {"\x01\x05\x01" + great, 3, nil, api.ErrLong, 0},
		// all are read ahead of asking whether they are right; a dot that is not right is wrong at once
		{"\x02\x00\x01\x00\x00", 3, nil, api.ErrShort, 0}, {"\x02\x00\x01\x41\x00\x02\x81\x00", 3, nil, api.ErrForm, 0}, {"\x03\x00\x02\x01\x00\x01\x01\x00\x03" + great, 3, nil, api.ErrLong, 0}, {"\x02\x00\x00\x01\x00", 3, nil, api.ErrArg, 0}, {"\x01\x00\x00", 3, nil, api.ErrArg, 0}, {"\x02\x00\x81\x00\x01\x00\x00\x01", 3, nil, api.ErrForm, 0},
	} {
		wantRead(t, c.s, c.most, c.want, c.fault, c.left)
	}
	for _, u := range wrongOnes() {
		fault := api.ErrArg
		if max(u.D.R, u.D.N, u.N) >= 1<<56 {
			fault = api.ErrLong
		}
		if u.D.R < 0 { // the bytes of another dot
			continue
		}
		for i := range 4 {
			wantRead(t, Code(slices.Insert(row(2, 3), i, u))+"behind", 9, nil, fault, 0)
		}
	}
}

// Promise 8.2: of any end of the bytes nothing is read, nor with fewer at the most.
func TestReadOfEnds(t *testing.T) {
	l := append(row(4, 140), un(15, mostSeq, 64))
	s := Code(l)
	for i := range len(s) {
		wantRead(t, s[:i], 200, nil, api.ErrShort, 0)
	}
	for most := range len(l) {
		wantRead(t, s, most, nil, api.ErrLong, 0)
	}
	wantRead(t, s, len(l), l, api.OK, 0)
	long := row(9, 5000)
	wantRead(t, Code(long), 5000, long, api.OK, 0)
	wantRead(t, Code(long), 4999, nil, api.ErrLong, 0)
}

// Promise 8.2: the bytes of all small counts, right or not.
func TestReadOfAnyCode(t *testing.T) {
	some := []api.Undo{un(0, 1, 0), un(0, 1, 1), un(0, 1, 64), un(0, 2, 1), un(0, 2, 65), un(1, 1, 2), un(15, 1, 1), un(15, mostSeq, 64), un(16, 1, 1), un(0, 0, 1), un(15, mostSeq+1, 1)}
	for _, a := range some {
		for _, b := range some {
			for _, c := range some {
				l := list(a, b, c)
				wanted, fault, left := l, api.OK, 6
				if !slowRight(l) {
					wanted, fault, left = nil, api.ErrArg, 0
				}
				wantRead(t, Code(l)+"behind", 3, wanted, fault, left)
			}
		}
	}
}

// Promise 8.2: of a reader with which something is wrong nothing is read, and that stays wrong; so of a nil one.
func TestReadOfWrongReaders(t *testing.T) {
	l := list(un(0, 300, 1), un(1, 1, 64))
	for _, e := range []api.Errno{api.ErrNil, api.ErrArg, api.ErrForm, api.ErrShort, api.ErrLong, api.ErrText} {
		for _, most := range []int{2, 1, 0, -1} {
			r := pack.Open(Code(l))
			r.Fail(e)
			if got := Read(r, most); got != nil || r.Fault() != e || r.Left() != 0 || r.End() != e {
				t.Errorf("with fault %d: %v, %d", e, got, r.Fault())
			}
		}
	}
	r := pack.Open(Code(l) + Code(list(un(0, 1, 65))) + Code(l))
	want(t, "the first ones", Read(r, 2), l)
	for range 3 {
		if got := Read(r, 2); got != nil || r.Fault() != api.ErrArg || r.Left() != 0 {
			t.Errorf("%v, %d", got, r.Fault())
		}
	}
	var none *pack.Reader
	for _, most := range []int{1, 0, -1, math.MaxInt} {
		if got := Read(none, most); got != nil || none.Fault() != api.ErrNil {
			t.Errorf("of a nil reader %v, %d", got, none.Fault())
		}
	}
}

// Promise 8.2: right counts are read as they were told, one row behind the other, and nothing is left.
func TestRightCountsAgain(t *testing.T) {
	all := append(someRight(), small()...)
	var s strings.Builder
	for _, l := range all {
		r := pack.Open(Code(l))
		want(t, "Read", Read(r, len(l)), l)
		if r.End() != api.OK {
			t.Fatalf("of %v: %d", l, r.End())
		}
		s.WriteString(Code(l))
	}
	r := pack.Open(s.String())
	for _, l := range all {
		want(t, "Read of many", Read(r, len(l)), l)
	}
	if r.End() != api.OK {
		t.Errorf("of many: %d", r.End())
	}
}

// The document's example: 0.1 undone once, and redone: its N is 2, it counts.
func TestExample(t *testing.T) {
	var l []api.Undo
	for n := 1; n <= 2; n++ {
		u, e := Raise(l, at(0, 1))
		l = Put(l, u)
		if e != api.OK || Get(l, at(0, 1)) != n || Seen(l, at(0, 1)) != (n == 2) {
			t.Errorf("raised %d times: %v, %d", n, l, e)
		}
	}
}

// guarded tells a list behind which, and ahead of which, others stand in the same memory, and whether all is as it was.
func guarded(l []api.Undo) ([]api.Undo, func() bool) {
	all := slices.Concat(list(un(77, 77, 77), un(0, 1, 1)), l, list(un(0, 1, 9), un(0, 2, 64), un(15, mostSeq, 64), un(88, 88, 88)))
	kept := slices.Clone(all)
	return all[2 : 2+len(l)], func() bool { return slices.Equal(all, kept) }
}

// askAll makes all calls on two rows of counts and one count, and changes all that they answer.
func askAll(a, b []api.Undo, u api.Undo) {
	spoil := func(l []api.Undo) {
		for i := range l[:cap(l)] {
			l[:cap(l)][i] = un(99, 99, 99)
		}
	}
	for _, l := range [][]api.Undo{a, b} {
		Right(l)
		Get(l, u.D)
		Seen(l, u.D)
		spoil(Put(l, u))
		Raise(l, u.D)
		spoil(Over(l, nil))
		spoil(Over(l, l))
		spoil(Join(l, l))
		spoil(Join(l, nil))
		spoil(Join(nil, l))
		spoil(Read(pack.Open(Code(l)), len(l)))
	}
	spoil(Join(a, b))
	spoil(Join(b, a))
	spoil(Over(a, b))
	spoil(Over(b, a))
	Same(a, b)
}

// R4: no list that came in is changed, nor what lies behind its length; answers that are changed change nothing that came in.
func TestNothingIsChanged(t *testing.T) {
	rows := append(someRight()[:12], row(2, 70), list(un(0, 1, 9)), list(un(0, 1, 1), un(15, mostSeq, 64)))
	for _, l := range rows {
		for _, o := range rows {
			a, aKept := guarded(l)
			b, bKept := guarded(o)
			for _, u := range append(l, un(0, 1, 1), un(0, 1, 64), un(0, 2, 3), un(3, 1, 63), un(15, mostSeq, 64), un(0, 1, 65), un(0, 0, 1), un(16, 1, 1), un(-1, 1, 1)) {
				askAll(a, b, u)
				if !aKept() || !bKept() {
					t.Fatalf("with %v: %v or %v was changed", u, l, o)
				}
			}
		}
	}
}

// R4: so also where the lists of arguments share memory; what stands behind a list's length is not read.
func TestSharedMemory(t *testing.T) {
	all, kept := guarded(list(un(0, 3, 1), un(0, 5, 64), un(1, 2, 2), un(1, 4, 9), un(15, 2, 3), un(15, 3, 1)))
	for i := range all {
		for j := i; j <= len(all); j++ {
			for k := range all {
				a, b := all[i:j], all[k:]
				want(t, "Join", Join(a, b), joined(a, b))
				want(t, "Join the other way round", Join(b, a), joined(a, b))
				want(t, "Over", Over(a, b), above(a, b))
				want(t, "Over the other way round", Over(b, a), above(b, a))
				want(t, "Put", Put(a, all[k]), joined(a, all[k:k+1]))
				in := k >= i && k < j
				if n := Get(a, all[k].D); (n != 0) != in || in && n != all[k].N {
					t.Fatalf("%v has %v: %d", a, all[k], n)
				}
				if Same(a, b) != slices.Equal(a, b) || !Right(a) {
					t.Fatalf("%v and %v: %t, %t", a, b, Same(a, b), Right(a))
				}
				wantRead(t, Code(a), len(a), a, api.OK, 0)
				askAll(a, b, all[k])
				if !kept() {
					t.Fatalf("%v was changed", all)
				}
			}
		}
	}
}

// R4: answers share no memory with each other, nor with what came in.
func TestAnswersAreNew(t *testing.T) {
	l := list(un(0, 5, 1), un(1, 2, 64))
	for _, ask := range []func() []api.Undo{
		func() []api.Undo { return Put(l, un(0, 5, 1)) }, func() []api.Undo { return Put(l, un(0, 5, 65)) }, func() []api.Undo { return Put(l, un(16, 1, 1)) }, func() []api.Undo { return Put(l[:1], l[1]) },
		func() []api.Undo { return Join(l, l) }, func() []api.Undo { return Join(l, nil) }, func() []api.Undo { return Join(nil, l) }, func() []api.Undo { return Join(l[:1], l[1:]) }, func() []api.Undo { return Join(l, l[:1]) }, func() []api.Undo { return Join(l[1:], l) },
		func() []api.Undo { return Over(l, nil) }, func() []api.Undo { return Over(l, list(un(1, 2, 63))) }, func() []api.Undo { return Read(pack.Open(Code(l)), 2) },
	} {
		first, again := ask(), ask()
		first[0], first[1] = un(99, 99, 99), un(99, 99, 99)
		want(t, "the same again", again, l)
		want(t, "and once more", ask(), l)
		want(t, "what came in", l, list(un(0, 5, 1), un(1, 2, 64)))
	}
}

// P1 and R5: no call panics, whatever it is given, and each answers the same again.
func TestAnyCounts(t *testing.T) {
	falling := row(15, 300)
	slices.Reverse(falling)
	rows := append(someRight(), []api.Undo{}, wrongOnes(), falling, slices.Repeat(list(un(0, 1, 1), un(0, 1, 2)), 40), slices.Repeat(list(api.Undo{}), 9), list(un(-1, 1, 1), un(16, 1, -1)), list(un(3, 3, math.MinInt), un(3, 4, math.MaxInt)))
	dotsToAsk := append(wrongDots(), at(0, 1), at(3, 3), at(3, 4), at(15, 2), at(15, mostSeq))
	for _, a := range rows {
		for _, d := range dotsToAsk {
			u, e := Raise(a, d)
			again, f := Raise(a, d)
			if u != again || e != f || e != api.OK && u != (api.Undo{}) || !dot.Right(d) && e != api.ErrArg {
				t.Fatalf("%v of %v is raised as %v, %d", d, a, u, e)
			}
			if Get(a, d) != Get(a, d) || Seen(a, d) != Seen(a, d) || !Same(Put(a, api.Undo{D: d, N: 3}), Put(a, api.Undo{D: d, N: 3})) {
				t.Fatalf("%v and %v are answered in two ways", a, d)
			}
		}
		for _, b := range rows {
			if !Same(Join(a, b), Join(a, b)) || !Same(Over(a, b), Over(a, b)) || Same(a, b) != Same(b, a) || Right(a) != slowRight(a) || Code(a) != Code(a) {
				t.Fatalf("%v and %v are answered in two ways", a, b)
			}
		}
		first, again := pack.Open(Code(a)), pack.Open(Code(a))
		if !Same(Read(first, 400), Read(again, 400)) || first.Fault() != again.Fault() {
			t.Fatalf("%v is read in two ways", a)
		}
	}
}
