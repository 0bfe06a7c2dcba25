package matrix

import (
	"math"
	"testing"

	"palinode/api"
)

// mostSeq is the greatest number that a right vector may have: 2^20.
const mostSeq = 1048576

// places is how many rows a matrix has, and how many numbers a row.
const places = 16

// ints tells numbers at and around all bounds of rows and of ints.
func ints() []int {
	return []int{math.MinInt, math.MinInt + 1, -1 << 32, -17, -16, -15, -2, -1, 0, 1, 2, 3, 7, 8, 14, 15, 16, 17, 31, 32, 255, 256, 1 << 31, 1 << 32, 1<<32 + 1, math.MaxInt - 1, math.MaxInt}
}

// numbers tells those at and around all bounds of a vector's numbers, and of ints.
func numbers() []int {
	return []int{math.MinInt, -mostSeq, -2, -1, 0, 1, 2, mostSeq - 1, mostSeq, mostSeq + 1, 1 << 32, math.MaxInt}
}

// full tells the vector all of whose numbers are n.
func full(n int) (v api.Vec) {
	for r := range v {
		v[r] = n
	}
	return v
}

// rising tells the vector 1, 2, 3 .. 16.
func rising() (v api.Vec) {
	for r := range v {
		v[r] = r + 1
	}
	return v
}

// all tells the matrix each of whose rows is v.
func all(v api.Vec) (m Matrix) {
	for i := range m {
		m[i] = v
	}
	return m
}

// with tells a matrix one of whose rows is another one.
func with(m Matrix, i int, v api.Vec) Matrix {
	m[i] = v
	return m
}

// mixed tells a matrix of 256 numbers below 20 that are mixed by a fixed rule, another one for each seed.
func mixed(seed int) (m Matrix) {
	x := uint32(seed)*2654435761 + 1
	for i := range m {
		for r := range m[i] {
			x = x*1664525 + 1013904223
			m[i][r] = int((x >> 16) % 20)
		}
	}
	return m
}

// ordinary tells right matrices that are alike in nothing.
func ordinary() (l []Matrix) {
	l = []Matrix{{}, {{2, 1}, {1, 3}}, {{3, 1}, {2, 5}, {2}}, {15: {15: 1}}, {0: {15: 4}, 15: {0: 4}}, all(full(1)), all(rising()), all(full(mostSeq)),
		with(all(full(mostSeq)), 7, api.Vec{}), with(Matrix{}, 8, full(mostSeq)), with(all(rising()), 15, api.Vec{})}
	for seed := range 12 {
		l = append(l, mixed(seed))
	}
	return l
}

// unright tells matrices of vectors that are not right.
func unright() []Matrix {
	return []Matrix{all(full(-1)), all(full(mostSeq + 1)), all(full(math.MinInt)), all(full(math.MaxInt)), with(Matrix{}, 0, full(-1)), with(all(rising()), 15, full(-7)),
		with(mixed(3), 4, api.Vec{math.MinInt, math.MaxInt, -1, mostSeq + 1}), {{-1, -2}, {-2, -1}}, {{math.MaxInt, math.MinInt}, {math.MinInt, math.MaxInt}}}
}

// vectors tells right ones and others.
func vectors() []api.Vec {
	return []api.Vec{{}, {1}, {15: 1}, {2, 1}, {1, 3}, {7: 300, 8: 5}, rising(), full(1), full(19), full(mostSeq), full(-1), full(mostSeq + 1), full(math.MinInt), full(math.MaxInt), {-1, 5, -1}, {0: mostSeq + 1, 15: -1}}
}

// small tells all matrices whose numbers are a few at two places of each of three rows, and 0 elsewhere.
func small(few ...int) (l []Matrix) {
	for _, a := range pairs(few) {
		for _, b := range pairs(few) {
			for _, c := range pairs(few) {
				l = append(l, Matrix{a, b, c})
			}
		}
	}
	return l
}

// pairs tells all vectors whose numbers are a few at the first place and the last one, and 0 elsewhere.
func pairs(few []int) (l []api.Vec) {
	for _, x := range few {
		for _, y := range few {
			l = append(l, api.Vec{0: x, 15: y})
		}
	}
	return l
}

// slowJoin takes number by number the greater one.
func slowJoin(a, b api.Vec) (v api.Vec) {
	for r := range places {
		v[r] = a[r]
		if b[r] > a[r] {
			v[r] = b[r]
		}
	}
	return v
}

// slowLearn is what the document says of the matrix with the join of a row and a vector.
func slowLearn(m Matrix, i int, v api.Vec) (w Matrix) {
	for k := range places {
		w[k] = m[k]
		if k == i {
			w[k] = slowJoin(m[k], v)
		}
	}
	return w
}

// slowRow seeks the row.
func slowRow(m Matrix, i int) (v api.Vec) {
	for k := range places {
		if k == i {
			v = m[k]
		}
	}
	return v
}

// slowFrontier seeks of each replica the least number of the first n rows.
func slowFrontier(m Matrix, n int) (v api.Vec) {
	if n < 1 || n > 16 {
		return v
	}
	for r := range places {
		v[r] = math.MaxInt
		for i := 0; i < n; i++ {
			if m[i][r] < v[r] {
				v[r] = m[i][r]
			}
		}
	}
	return v
}

// slowHas is what the document says of a vector's dots.
func slowHas(v api.Vec, d api.Dot) bool {
	return d.R >= 0 && d.R <= 15 && d.N >= 1 && d.N <= mostSeq && !(d.N > v[d.R])
}

// slowBehind counts, of right vectors, the numbers of dots that one of the first n rows has and the row i has not.
func slowBehind(m Matrix, n, i int) (count int) {
	if n < 1 || n > 16 || i < 0 || i > 15 {
		return 0
	}
	for r := range places {
		most := m[i][r]
		for k := 0; k < n; k++ {
			if m[k][r] > most {
				most = m[k][r]
			}
		}
		count += most - m[i][r]
	}
	return count
}

// raised tells whether no number of one vector is greater than another one's.
func raised(a, b api.Vec) bool { return slowJoin(a, b) == b }

// Promise 7.1: a row learns what it has not yet, and keeps what it has.
func TestLearn(t *testing.T) {
	m := Matrix{{2, 1}, {1, 3}, {}, {5, 0, 7}}
	for _, c := range []struct {
		i       int
		v, want api.Vec
	}{
		{0, api.Vec{}, api.Vec{2, 1}},
		{0, api.Vec{2, 1}, api.Vec{2, 1}},
		{0, api.Vec{1, 1}, api.Vec{2, 1}},
		{0, api.Vec{3, 0}, api.Vec{3, 1}},
		{1, api.Vec{0, 4, 1}, api.Vec{1, 4, 1}},
		{2, api.Vec{9}, api.Vec{9}},
		{2, rising(), rising()},
		{3, api.Vec{6, 1, 6}, api.Vec{6, 1, 7}},
		{3, api.Vec{4, 2, 8, 3}, api.Vec{5, 2, 8, 3}},
		{15, api.Vec{15: 1}, api.Vec{15: 1}},
		{15, full(mostSeq), full(mostSeq)},
		{3, full(-1), api.Vec{5, 0, 7}},
		{3, api.Vec{-1, 8, -1}, api.Vec{5, 8, 7}},
		{3, full(math.MinInt), api.Vec{5, 0, 7}},
		{3, full(mostSeq + 1), full(mostSeq + 1)},
		{0, api.Vec{mostSeq + 1, -1}, api.Vec{mostSeq + 1, 1}},
		{0, full(math.MaxInt), full(math.MaxInt)},
	} {
		got := m.Learn(c.i, c.v)
		if got[c.i] != c.want || got.Row(c.i) != c.want {
			t.Errorf("the row %d has learnt %v: %v, want %v", c.i, c.v, got[c.i], c.want)
		}
		if with(got, c.i, m[c.i]) != m {
			t.Errorf("that the row %d learnt %v has changed another row: %v", c.i, c.v, got)
		}
	}
	if m != (Matrix{{2, 1}, {1, 3}, {}, {5, 0, 7}}) {
		t.Errorf("the matrix that was asked is %v now", m)
	}
}

// Promise 7.1: what a row is whose number is none, and what it learns; held against what the document says at each other one.
func TestLearnAndRowOfAnyNumber(t *testing.T) {
	for _, m := range append(ordinary(), unright()...) {
		for _, i := range ints() {
			none := i < 0 || i > 15
			if got := m.Row(i); got != slowRow(m, i) || none && got != (api.Vec{}) {
				t.Fatalf("the row %d of %v: %v", i, m, got)
			}
			for _, v := range vectors() {
				if got := m.Learn(i, v); got != slowLearn(m, i, v) || none && got != m {
					t.Fatalf("the row %d of %v has learnt %v: %v", i, m, v, got)
				}
			}
		}
		for i := range places {
			if m.Row(i) != m[i] {
				t.Fatalf("the row %d of %v: %v", i, m, m.Row(i))
			}
		}
	}
}

// Promise 7.1: each number of each row is learnt by itself, whatever it is.
func TestLearnEachNumber(t *testing.T) {
	for _, m := range []Matrix{{}, all(rising()), all(full(mostSeq)), all(full(-5))} {
		for i := range places {
			for r := range places {
				for _, n := range numbers() {
					v := full(math.MinInt)
					v[r] = n
					want := m
					if n > m[i][r] {
						want[i][r] = n
					}
					if got := m.Learn(i, v); got != want {
						t.Fatalf("the row %d of %v has learnt %d of %d: %v", i, m, n, r, got)
					}
				}
			}
		}
	}
}

// Promise 7.1: a join has of each row what one of both has.
func TestJoin(t *testing.T) {
	for _, c := range []struct{ a, b, want Matrix }{
		{Matrix{}, Matrix{}, Matrix{}},
		{Matrix{{2, 1}, {1, 3}}, Matrix{{1, 2}, {0, 4}}, Matrix{{2, 2}, {1, 4}}},
		{Matrix{{2, 1}}, Matrix{1: {1, 3}}, Matrix{{2, 1}, {1, 3}}},
		{Matrix{0: {9}}, Matrix{15: {15: 9}}, Matrix{0: {9}, 15: {15: 9}}},
		{Matrix{0: {1: 3}, 15: {2: 5}}, Matrix{0: {1: 4}, 15: {2: 4}}, Matrix{0: {1: 4}, 15: {2: 5}}},
		{all(rising()), all(full(16)), all(full(16))},
		{all(full(mostSeq)), all(rising()), all(full(mostSeq))},
		{all(full(-1)), Matrix{}, Matrix{}},
		{all(full(-1)), all(full(-2)), all(full(-1))},
		{all(full(mostSeq + 1)), all(full(mostSeq)), all(full(mostSeq + 1))},
		{all(full(math.MinInt)), all(full(math.MaxInt)), all(full(math.MaxInt))},
	} {
		if c.a.Join(c.b) != c.want || c.b.Join(c.a) != c.want {
			t.Errorf("%v and %v: %v, and the other way round %v", c.a, c.b, c.a.Join(c.b), c.b.Join(c.a))
		}
	}
	for _, a := range append(ordinary(), unright()...) {
		for _, b := range append(ordinary(), unright()...) {
			got := a.Join(b)
			for i := range places {
				if got[i] != slowJoin(a[i], b[i]) {
					t.Fatalf("the row %d of the join of %v and %v: %v", i, a, b, got[i])
				}
			}
		}
	}
}

// Promise 7.1: each number of each row is joined with the one at its own place.
func TestJoinEachNumber(t *testing.T) {
	for i := range places {
		for r := range places {
			var a, b Matrix
			a[i][r], b[i][r] = 3, 4
			if a.Join(b) != b || b.Join(a) != b || a.Join(Matrix{}) != a || (Matrix{}).Join(a) != a {
				t.Fatalf("3 and 4 in the row %d of %d", i, r)
			}
			b[r][i]++
			if got := a.Join(b); got[i][r] != b[i][r] || got[r][i] != b[r][i] {
				t.Fatalf("the rows %d and %d are mixed up: %v", i, r, got)
			}
		}
	}
}

// It follows from 7.1: joins are the same the other way round, in other brackets, and with what one has already; what is learnt is joined.
func TestJoinsOfMany(t *testing.T) {
	l := append(append(ordinary(), unright()...), small(0, 2)...)
	for _, a := range l {
		if a.Join(a) != a {
			t.Fatalf("%v and itself: %v", a, a.Join(a))
		}
		for _, b := range l {
			if a.Join(b) != b.Join(a) {
				t.Fatalf("%v and %v, the other way round", a, b)
			}
			if a.Join(b).Join(b) != a.Join(b) || a.Join(a.Join(b)) != a.Join(b) {
				t.Fatalf("%v and %v, twice", a, b)
			}
		}
		for i := range places {
			for _, v := range vectors() {
				if a.Learn(i, v) != a.Join(with(all(full(math.MinInt)), i, v)) || a.Learn(i, v).Learn(i, v) != a.Learn(i, v) {
					t.Fatalf("the row %d of %v has learnt %v, and a join has not", i, a, v)
				}
			}
		}
	}
	for _, a := range l[:30] {
		for _, b := range l {
			for _, c := range l[10:] {
				if a.Join(b).Join(c) != a.Join(b.Join(c)) {
					t.Fatalf("%v, %v and %v in other brackets", a, b, c)
				}
			}
		}
	}
}

// Promise 7.2: a frontier is what each of the first rows has; rows behind them do not matter.
func TestFrontier(t *testing.T) {
	two := Matrix{{2, 1}, {1, 3}}
	three := Matrix{{3, 1}, {2, 5}, {2}}
	for _, c := range []struct {
		m    Matrix
		n    int
		want api.Vec
	}{
		{two, 2, api.Vec{1, 1}},
		{two, 1, api.Vec{2, 1}}, {two, 3, api.Vec{}}, {two, 15, api.Vec{}}, {two, 16, api.Vec{}},
		{two, 0, api.Vec{}}, {two, -1, api.Vec{}}, {two, 17, api.Vec{}}, {two, math.MinInt, api.Vec{}}, {two, math.MaxInt, api.Vec{}},
		{three, 1, api.Vec{3, 1}}, {three, 2, api.Vec{2, 1}}, {three, 3, api.Vec{2}}, {three, 4, api.Vec{}},
		{all(rising()), -1, api.Vec{}}, {all(rising()), 0, api.Vec{}}, {all(rising()), 17, api.Vec{}}, {all(rising()), 18, api.Vec{}},
		{all(rising()), math.MinInt, api.Vec{}}, {all(rising()), math.MaxInt, api.Vec{}},
		{all(rising()), 1, rising()}, {all(rising()), 15, rising()}, {all(rising()), 16, rising()},
		{with(all(rising()), 15, api.Vec{}), 15, rising()}, {with(all(rising()), 15, api.Vec{}), 16, api.Vec{}},
		{with(all(rising()), 15, full(3)), 16, api.Vec{1, 2, 3, 3, 3, 3, 3, 3, 3, 3, 3, 3, 3, 3, 3, 3}},
		{with(all(rising()), 1, full(-1)), 1, rising()}, {with(all(rising()), 1, full(-1)), 2, full(-1)},
		{with(all(rising()), 0, full(mostSeq+1)), 1, full(mostSeq + 1)}, {with(all(rising()), 0, full(mostSeq+1)), 2, rising()},
		{all(full(math.MaxInt)), 16, full(math.MaxInt)}, {all(full(math.MinInt)), 16, full(math.MinInt)},
		{Matrix{{-1, -2}, {-2, -1}}, 2, api.Vec{-2, -2}}, {Matrix{{math.MaxInt, 1}, {math.MinInt, 2}}, 2, api.Vec{math.MinInt, 1}},
	} {
		if got := c.m.Frontier(c.n); got != c.want {
			t.Errorf("the frontier of the first %d of %v: %v, want %v", c.n, c.m, got, c.want)
		}
	}
	for _, m := range append(append(ordinary(), unright()...), small(-1, 0, 2)...) {
		for _, n := range ints() {
			if got := m.Frontier(n); got != slowFrontier(m, n) {
				t.Fatalf("the frontier of the first %d of %v: %v", n, m, got)
			}
		}
	}
}

// Promise 7.2: one lesser number lowers the frontier just if its row is among the first ones.
func TestFrontierOfEachNumber(t *testing.T) {
	for i := range places {
		for r := range places {
			m := all(rising())
			m[i][r] = 0
			for n := 1; n <= places; n++ {
				want := rising()
				if i < n {
					want[r] = 0
				}
				if got := m.Frontier(n); got != want {
					t.Fatalf("the frontier of the first %d, where the row %d has none of %d: %v", n, i, r, got)
				}
			}
		}
	}
}

// Promise 7.2: a dot is stable at the frontier's number and below it; no dot is that is not right.
func TestStable(t *testing.T) {
	m := Matrix{{3, 1}, {2, 5}, {2}, full(-1), full(mostSeq)}
	for _, c := range []struct {
		m    Matrix
		n    int
		d    api.Dot
		want bool
	}{
		{m, 2, api.Dot{R: 0, N: 1}, true}, {m, 2, api.Dot{R: 0, N: 2}, true}, {m, 2, api.Dot{R: 0, N: 3}, false}, {m, 1, api.Dot{R: 0, N: 3}, true},
		{m, 2, api.Dot{R: 1, N: 1}, true}, {m, 2, api.Dot{R: 1, N: 2}, false}, {m, 3, api.Dot{R: 1, N: 1}, false}, {m, 3, api.Dot{R: 0, N: 2}, true},
		{m, 4, api.Dot{R: 0, N: 1}, false}, {m, 5, api.Dot{R: 0, N: 1}, false}, {m, 2, api.Dot{R: 15, N: 1}, false}, {m, 2, api.Dot{R: 0, N: 0}, false}, {m, 4, api.Dot{R: 0, N: -1}, false},
		{m, 0, api.Dot{R: 0, N: 1}, false}, {m, -1, api.Dot{R: 0, N: 1}, false}, {m, 17, api.Dot{R: 0, N: 1}, false}, {m, 16, api.Dot{R: 0, N: 1}, false},
		{all(full(1)), 16, api.Dot{R: 15, N: 1}, true}, {all(full(1)), 15, api.Dot{R: 0, N: 1}, true}, {all(full(1)), 17, api.Dot{R: 0, N: 1}, false}, {all(full(1)), 0, api.Dot{R: 0, N: 1}, false},
		{all(full(1)), -1, api.Dot{R: 0, N: 1}, false}, {all(full(1)), math.MinInt, api.Dot{R: 0, N: 1}, false}, {all(full(1)), math.MaxInt, api.Dot{R: 0, N: 1}, false},
		{all(full(1)), 16, api.Dot{R: -1, N: 1}, false}, {all(full(1)), 16, api.Dot{R: 16, N: 1}, false}, {all(full(1)), 16, api.Dot{R: 0, N: 0}, false},
		{all(full(mostSeq)), 16, api.Dot{R: 7, N: mostSeq}, true}, {all(full(mostSeq)), 16, api.Dot{R: 7, N: mostSeq + 1}, false}, {all(full(mostSeq + 1)), 16, api.Dot{R: 7, N: mostSeq + 1}, false},
		{all(full(mostSeq + 1)), 16, api.Dot{R: 7, N: mostSeq}, true}, {all(full(math.MaxInt)), 16, api.Dot{R: math.MaxInt, N: math.MaxInt}, false}, {all(full(math.MinInt)), 16, api.Dot{R: math.MinInt, N: math.MinInt}, false},
		{Matrix{}, 1, api.Dot{}, false}, {Matrix{}, 16, api.Dot{R: 0, N: 1}, false},
	} {
		if got := c.m.Stable(c.n, c.d); got != c.want {
			t.Errorf("%v is stable by the first %d of %v: %t", c.d, c.n, c.m, got)
		}
	}
	for _, m := range append(ordinary(), unright()...) {
		for _, n := range ints() {
			at := slowFrontier(m, n)
			for r := -1; r <= places; r++ {
				edge := at[min(max(r, 0), 15)]
				for _, k := range []int{0, 1, edge - 1, edge, edge + 1, mostSeq, mostSeq + 1} {
					d := api.Dot{R: r, N: k}
					if got := m.Stable(n, d); got != slowHas(at, d) {
						t.Fatalf("%v is stable by the first %d of %v: %t", d, n, m, got)
					}
				}
			}
		}
	}
}

// Promise 7.2: how many dots a row has not, that one of the first ones has.
func TestBehind(t *testing.T) {
	m := Matrix{{3, 1}, {2, 5}, {2}, {0: 9, 15: 1}}
	wide := with(Matrix{}, 0, full(mostSeq))
	for _, c := range []struct {
		m          Matrix
		n, i, want int
	}{
		{m, 1, 0, 0}, {m, 2, 0, 4}, {m, 2, 1, 1}, {m, 3, 0, 4}, {m, 3, 1, 1}, {m, 3, 2, 6}, {m, 4, 0, 11}, {m, 4, 3, 5}, {m, 16, 3, 5},
		{m, 1, 1, 1}, {m, 1, 2, 2}, {m, 1, 3, 1}, {m, 2, 3, 5}, {m, 3, 3, 5}, {m, 2, 4, 8}, {m, 2, 15, 8}, {m, 16, 15, 15},
		{m, 0, 0, 0}, {m, 0, 2, 0}, {m, -1, 2, 0}, {m, 17, 2, 0}, {m, math.MinInt, 2, 0}, {m, math.MaxInt, 2, 0},
		{m, 3, -1, 0}, {m, 3, 16, 0}, {m, 3, 17, 0}, {m, 3, math.MinInt, 0}, {m, 3, math.MaxInt, 0}, {m, 17, 16, 0}, {m, 0, -1, 0},
		{Matrix{}, 16, 15, 0}, {all(rising()), 16, 7, 0}, {with(all(rising()), 7, api.Vec{}), 16, 7, 136},
		{wide, 1, 0, 0}, {wide, 1, 1, 16 * mostSeq}, {wide, 16, 15, 16 * mostSeq}, {wide, 16, 0, 0}, {wide, 15, 15, 16 * mostSeq},
		{with(Matrix{}, 15, full(mostSeq)), 16, 0, 16 * mostSeq}, {with(Matrix{}, 15, full(mostSeq)), 15, 0, 0}, {with(Matrix{}, 15, full(mostSeq)), 15, 15, 0},
	} {
		if got := c.m.Behind(c.n, c.i); got != c.want {
			t.Errorf("the row %d is %d behind the first %d of %v, want %d", c.i, got, c.n, c.m, c.want)
		}
	}
	for _, m := range append(ordinary(), small(0, 1, 3)...) {
		for _, n := range ints() {
			for _, i := range ints() {
				if got := m.Behind(n, i); got != slowBehind(m, n, i) {
					t.Fatalf("the row %d is %d behind the first %d of %v", i, got, n, m)
				}
			}
		}
	}
}

// Promise 7.2: what a row is behind is what it has not of the dots of the first rows, counted one by one; who has all is behind in none.
func TestBehindCountsDots(t *testing.T) {
	for _, m := range ordinary()[11:] {
		for _, n := range []int{1, 2, 5, 16} {
			for i := range places {
				count := 0
				for r := range places {
					for k := range 21 {
						d, has := api.Dot{R: r, N: k}, false
						for _, row := range m[:n] {
							has = has || slowHas(row, d)
						}
						if has && !slowHas(m[i], d) {
							count++
						}
					}
				}
				if m.Behind(n, i) != count {
					t.Fatalf("the row %d is %d behind the first %d of %v, want %d", i, m.Behind(n, i), n, m, count)
				}
				if w := m.Learn(i, full(20)); w.Behind(n, i) != 0 {
					t.Fatalf("the row %d has all, and is %d behind", i, w.Behind(n, i))
				}
			}
		}
	}
}

// Promise 7.3: what is learnt, and what is joined, only raises the frontier, and what was stable stays so.
func TestLearningRaises(t *testing.T) {
	for _, m := range append(append(ordinary(), unright()...), small(0, 2)...) {
		var later []Matrix
		for i := -1; i <= places; i++ {
			for _, v := range vectors() {
				later = append(later, m.Learn(i, v))
			}
		}
		for _, o := range ordinary() {
			later = append(later, m.Join(o))
		}
		for _, w := range later {
			for _, n := range []int{-1, 0, 1, 2, 3, 8, 15, 16, 17} {
				was, is := m.Frontier(n), w.Frontier(n)
				if !raised(was, is) {
					t.Fatalf("the frontier of the first %d was %v, and is %v", n, was, is)
				}
				for r := range places {
					if d := (api.Dot{R: r, N: was[r]}); m.Stable(n, d) && !w.Stable(n, d) {
						t.Fatalf("%v was stable by the first %d, and is no more", d, n)
					}
				}
			}
		}
	}
}

// Promise 7.3: a dot is stable just if each of the rows has it; the more replicas, the less is stable.
func TestStableByEach(t *testing.T) {
	for _, m := range append(append(ordinary(), unright()...), small(0, 1, 3)...) {
		for n := 1; n <= places; n++ {
			if n > 1 && !raised(m.Frontier(n), m.Frontier(n-1)) {
				t.Fatalf("the frontier of the first %d of %v is not below that of one fewer", n, m)
			}
			for r := -1; r <= places; r++ {
				for _, k := range []int{-1, 0, 1, 2, 3, 4, 9, mostSeq, mostSeq + 1} {
					d, each := api.Dot{R: r, N: k}, true
					for _, row := range m[:n] {
						each = each && slowHas(row, d)
					}
					if m.Stable(n, d) != each {
						t.Fatalf("%v is stable by the first %d of %v: %t", d, n, m, !each)
					}
					if n > 1 && each && !m.Stable(n-1, d) {
						t.Fatalf("%v is stable by the first %d of %v, not by one fewer", d, n, m)
					}
				}
			}
		}
	}
}

// P1 and R1: every call ends, whatever it is given, also of vectors that are not right.
func TestAnyArguments(t *testing.T) {
	for _, m := range append(ordinary(), unright()...) {
		for _, n := range ints() {
			for _, i := range ints() {
				got := m.Behind(n, i)
				if (n < 1 || n > 16 || i < 0 || i > 15) && got != 0 {
					t.Fatalf("the row %d is %d behind the first %d of %v", i, got, n, m)
				}
				if m.Stable(n, api.Dot{R: i, N: n}) != slowHas(slowFrontier(m, n), api.Dot{R: i, N: n}) {
					t.Fatalf("%d.%d by the first %d of %v", i, n, n, m)
				}
			}
		}
	}
}

// R4 and R5: nothing that came in is changed, a changed answer changes nothing, and all is answered the same again.
func TestTheSameAgain(t *testing.T) {
	for _, m := range append(ordinary(), unright()...) {
		for _, i := range []int{-1, 0, 7, 15, 16} {
			was, o, v := m, mixed(40), rising()
			d := api.Dot{R: 2, N: 3}
			learnt, row, joined, frontier, stable, behind := m.Learn(i, v), m.Row(i), m.Join(o), m.Frontier(i+1), m.Stable(i+1, d), m.Behind(16, i)
			l, r, j, f := learnt, row, joined, frontier
			for k := range places {
				l[k][k], j[k][k], r[k], f[k] = 77, 77, 77, 77
			}
			if m != was || o != mixed(40) || v != rising() {
				t.Fatalf("%v was changed to %v, or what it was asked with to %v, %v", was, m, o, v)
			}
			if m.Learn(i, v) != learnt || m.Row(i) != row || m.Join(o) != joined || m.Frontier(i+1) != frontier || m.Stable(i+1, d) != stable || m.Behind(16, i) != behind {
				t.Fatalf("%v is answered in two ways", m)
			}
		}
	}
}
