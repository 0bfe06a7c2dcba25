package total

import (
	"fmt"
	"math"
	"slices"
	"testing"

	"palinode/api"
	"palinode/live"
	"palinode/op"
	"palinode/tally"
	"palinode/txn"
)

const (
	mostSeq    = 1048576       // the greatest number that a dot may have: 2^20
	mostTime   = 1099511627776 // the greatest time: 2^40
	mostAmount = 2147483647    // the greatest amount of an Inc: 2^31 - 1
	mostOps    = 16            // how many operations a transaction has at the most
	mostSeen   = 256           // how many others an operation names at the most
	mostTxns   = 1000          // how many transactions there are at the most
	mostUndo   = 64            // the most that a transaction may be undone and redone
)

// dotOf tells a dot: its replica, and its number there.
func dotOf(r, n int) api.Dot { return api.Dot{R: r, N: n} }

// ref tells an operation's name: its dot's replica and number, and its place.
func ref(r, n, i int) api.Ref { return api.Ref{D: dotOf(r, n), I: i} }

// refs tells operations' names, one by one.
func refs(l ...api.Ref) []api.Ref { return l }

// of tells parts of a path, one by one.
func of(parts ...string) []string { return parts }

// ints tells amounts, one by one.
func ints(l ...int) []int { return l }

// items tells items, one by one.
func items(l ...live.Item) []live.Item { return l }

// row tells transactions, one by one.
func row(l ...api.Txn) []api.Txn { return l }

// undos tells counts, one by one.
func undos(l ...api.Undo) []api.Undo { return l }

// un tells a count: of a dot, and how often.
func un(r, n, often int) api.Undo { return api.Undo{D: dotOf(r, n), N: often} }

func number(n int) api.Value { return api.Value{Kind: api.Int, N: n} }

func put(p []string, v api.Value, seen ...api.Ref) api.Op {
	return api.Op{Kind: api.Put, Path: p, V: v, Seen: seen}
}

func add(p []string, v api.Value) api.Op { return api.Op{Kind: api.Add, Path: p, V: v} }

func inc(p []string, n int) api.Op { return api.Op{Kind: api.Inc, Path: p, N: n} }

func remove(p []string, v api.Value, seen ...api.Ref) api.Op {
	return api.Op{Kind: api.Remove, Path: p, V: v, Seen: seen}
}

func reset(p []string, seen ...api.Ref) api.Op {
	return api.Op{Kind: api.Reset, Path: p, Seen: seen}
}

// done tells a transaction of a replica, a number there, and a time.
func done(r, n, time int, ops ...api.Op) api.Txn {
	return api.Txn{D: dotOf(r, n), User: r % 8, Time: time, Ops: ops}
}

// item tells one that counts.
func item(x api.Ref, time int, o api.Op) live.Item { return live.Item{X: x, O: o, Time: time} }

// incAll tells Incs by amounts at a path, of transactions that rise, at times that rise.
func incAll(p []string, amounts ...int) (all []live.Item) {
	for i, n := range amounts {
		all = append(all, item(ref(i/4%16, i/64*4+i%4+1, i%3), i+1, inc(p, n)))
	}
	return all
}

// amounts tells amounts, rising: at the edges, and between.
func amounts() []int {
	return ints(-mostAmount, -mostAmount+1, -1<<30, -65536, -256, -255, -10, -5, -2, -1, 1, 2, 5, 10, 255, 256, 65536, 1<<30, mostAmount-1, mostAmount)
}

// odd tells amounts that may not be.
func odd() []int {
	return ints(0, mostAmount+1, -mostAmount-1, math.MaxInt, math.MinInt, math.MinInt+1)
}

// dice rolls numbers that are the same in each run.
type dice uint64

// roll tells a number from 0 on, below another one.
func (d *dice) roll(below int) int {
	*d = *d*6364136223846793005 + 1442695040888963407
	return int(uint64(*d) >> 33 % uint64(below))
}

// mixed tells a list in another order.
func mixed[E any](d *dice, l []E) []E {
	l = slices.Clone(l)
	for i := range l {
		k := i + d.roll(len(l)-i)
		l[i], l[k] = l[k], l[i]
	}
	return l
}

// paths tells paths, of which some begin as others do, by parts or by letters.
func paths() [][]string {
	return [][]string{of("a"), of("a"), of("a", "b"), of("a", "b", "c"), of("ab"), of("a/b"), of("b"), of("é"), of("a", "b", "c", "d", "e", "f", "g", "h")}
}

// asked tells paths that are asked for: those above, and such as are not there.
func asked() [][]string {
	return append(paths(), nil, of(), of(""), of("", "a"), of("a", ""), of("a", "c"), of("a", "b", "c", "d"), of("a", "b", "c", "d", "e", "f", "g"), of("A"), of("\xFF"), slices.Repeat(of("a"), 30))
}

// stored is what is known of: transactions that rise, and counts.
type stored struct {
	l []api.Txn
	u []api.Undo
}

// anyOp tells an operation of any Kind, that covers some of others if it may.
func anyOp(d *dice, others []api.Ref) api.Op {
	p, few := paths()[d.roll(len(paths()))], number(d.roll(4))
	n := amounts()[d.roll(len(amounts()))]
	if d.roll(5) > 0 { // one of two, so that some are counted twice, and some sums are 0
		n = ints(5, -5)[d.roll(2)]
	}
	var seen []api.Ref
	for _, x := range others {
		if d.roll(len(others)) < 2 && len(seen) < mostSeen {
			seen = append(seen, x)
		}
	}
	switch d.roll(14) {
	case 0:
		return put(p, few, seen...)
	case 1:
		return add(p, few)
	case 2:
		return remove(p, few, seen...)
	case 3, 4, 5:
		return reset(p, seen...)
	}
	return inc(p, n)
}

// store tells so many transactions, each with up to so many operations, that cover each other as it comes, and counts of some.
func store(d *dice, many, most int) (s stored) {
	var dots []api.Dot
	for i := range many {
		dots = append(dots, dotOf(i%16, i/16*3+1+d.roll(3)))
	}
	slices.SortFunc(dots, func(a, b api.Dot) int { return (a.R-b.R)*mostSeq*2 + a.N - b.N })
	var all []api.Ref
	for _, x := range dots {
		for i := range most {
			all = append(all, api.Ref{D: x, I: i})
		}
	}
	for _, x := range dots {
		t := done(x.R, x.N, 1+d.roll(1+many/3))
		for range 1 + d.roll(most) {
			t.Ops = append(t.Ops, anyOp(d, all))
		}
		if t.Thin = d.roll(5) == 0; t.Thin {
			t.Ops[d.roll(len(t.Ops))] = api.Op{}
		}
		s.l = append(s.l, t)
		if d.roll(3) == 0 {
			s.u = append(s.u, api.Undo{D: x, N: 1 + d.roll(4)})
		}
	}
	return s
}

// stores tells many that are unlike: none, a few, and many transactions, with one operation or many.
func stores() (all []stored) {
	d := dice(16)
	all = append(all, stored{}, stored{l: []api.Txn{}, u: []api.Undo{}})
	for i := range 400 {
		all = append(all, store(&d, 1+i%12, 1+i%6))
	}
	for i := range 20 {
		all = append(all, store(&d, 10+5*i, 1+i%mostOps))
	}
	return append(all, store(&d, 200, mostOps))
}

// told is what is told of a counter.
type told struct{ sum, up, down, many int }

// toldAt tells it.
func toldAt(l []live.Item, p []string) (x told) {
	x.sum, x.many = Sum(l, p), Count(l, p)
	x.up, x.down = Parts(l, p)
	return x
}

// counted is what the document says of amounts that are counted: all of them; those above 0; those below 0, without their signs.
func counted(amounts ...int) (x told) {
	above, below := 0, 0
	for _, n := range amounts {
		x.sum += n
		switch {
		case n > 0:
			x.up, above = x.up+n, above+1
		case n < 0:
			x.down, below = x.down+max(n, -n), below+1
		}
	}
	x.many = above + below
	return x
}

// slow tells the amounts of the Incs at a path.
func slow(l []live.Item, p []string) (all []int) {
	for _, x := range l {
		if x.O.Kind == 3 && len(x.O.Path) == len(p) && slices.Equal(x.O.Path, p) {
			all = append(all, x.O.N)
		}
	}
	return all
}

// short tells the beginning of what is tested, for a message.
func short(x any) string { return fmt.Sprintf("%.300s", fmt.Sprint(x)) }

// want holds what is told at a path against amounts: all these are counted there, and nothing else is.
func want(t *testing.T, what string, l []live.Item, p []string, amounts ...int) {
	t.Helper()
	got, wanted := toldAt(l, p), counted(amounts...)
	if got != wanted {
		t.Fatalf("%s: %+v, want %+v, of %s", what, got, wanted, short(amounts))
	}
	if got.sum != got.up-got.down || got.up < 0 || got.down < 0 || got.many != len(amounts) {
		t.Fatalf("%s: %+v does not hold together, of %s", what, got, short(amounts))
	}
}

// checked tells the items of transactions that may be.
func checked(t *testing.T, l []api.Txn, u []api.Undo) []live.Item {
	t.Helper()
	for i, x := range l {
		if e := txn.Check(x); e != api.OK {
			t.Fatalf("the transaction %d may not be: %d", i, e)
		}
	}
	if !txn.Rises(l) || !tally.Right(u) {
		t.Fatal("no such transactions, or counts")
	}
	return live.All(l, u)
}

// turned tells counts with one of a dot that was turned so often.
func turned(u []api.Undo, d api.Dot, n int) []api.Undo { return tally.Put(u, api.Undo{D: d, N: n}) }

// The test's own lists are what they say they are.
func TestLists(t *testing.T) {
	for i, n := range amounts() {
		if e := op.Check(inc(of("a"), n)); e != api.OK || i > 0 && amounts()[i-1] >= n {
			t.Errorf("the amount %d is wrong, or out of order: %d", n, e)
		}
	}
	for _, n := range odd() {
		if e := op.Check(inc(of("a"), n)); e != api.ErrArg {
			t.Errorf("the amount %d may be: %d", n, e)
		}
	}
	if api.MaxSeq != mostSeq || txn.MaxTime != mostTime || api.MaxAmount != mostAmount || api.MaxOps != mostOps || api.MaxSeen != mostSeen || api.MaxTxns != mostTxns || api.MaxUndo != mostUndo {
		t.Error("other limits")
	}
	var none, one, many, up, down, even, covered int
	for _, s := range stores() {
		l, ever := checked(t, s.l, s.u), 0
		for _, x := range s.l {
			for _, o := range x.Ops {
				if o.Kind == api.Inc && tally.Seen(s.u, x.D) {
					ever++
				}
			}
		}
		for _, p := range paths()[1:] {
			all := slow(l, p)
			switch ever -= len(all); {
			case len(all) == 0:
				none++
			case len(all) == 1:
				one++
			default:
				many++
			}
			switch n := counted(all...).sum; {
			case n > 0:
				up++
			case n < 0:
				down++
			case len(all) > 0:
				even++
			}
		}
		covered += ever
	}
	if min(none, one, many, up, down, even, covered) < 100 {
		t.Errorf("%d without Incs, %d with one, %d with many; %d sums above 0, %d below 0, %d 0; %d covered", none, one, many, up, down, even, covered)
	}
}

// Promise 16.1: sums, parts and counts as numbers that are written out.
func TestNumbers(t *testing.T) {
	p := of("a")
	for i, c := range []struct {
		come   []int
		wanted told
	}{
		{nil, told{}},
		{ints(1), told{1, 1, 0, 1}},
		{ints(-1), told{-1, 0, 1, 1}},
		{ints(5, -2), told{3, 5, 2, 2}},
		{ints(-2, 5), told{3, 5, 2, 2}},
		{ints(2, -5), told{-3, 2, 5, 2}},
		{ints(5, -5), told{0, 5, 5, 2}},
		{ints(1, 1), told{2, 2, 0, 2}},
		{ints(-1, -1, -1), told{-3, 0, 3, 3}},
		{ints(1, -1, 1, -1), told{0, 2, 2, 4}},
		{ints(1, 2, 3, 4), told{10, 10, 0, 4}},
		{ints(-1, -2, -3, -4), told{-10, 0, 10, 4}},
		{ints(7, 8, -9, -10), told{-4, 15, 19, 4}},
		{ints(7, -9, 8, -10, 11), told{7, 26, 19, 5}},
		{ints(2147483647), told{2147483647, 2147483647, 0, 1}},
		{ints(-2147483647), told{-2147483647, 0, 2147483647, 1}},
		{ints(2147483647, 1), told{2147483648, 2147483648, 0, 2}},
		{ints(-2147483647, -1), told{-2147483648, 0, 2147483648, 2}},
		{ints(-1, -2147483647, -1), told{-2147483649, 0, 2147483649, 3}},
		{ints(2147483647, 2147483647), told{4294967294, 4294967294, 0, 2}},
		{ints(2147483647, 2147483647, 2147483647), told{6442450941, 6442450941, 0, 3}},
		{ints(-2147483647, -2147483647, -2147483647), told{-6442450941, 0, 6442450941, 3}},
		{ints(2147483647, -2147483647), told{0, 2147483647, 2147483647, 2}},
		{ints(2147483647, 2147483647, -2147483647, -2147483647, -1), told{-1, 4294967294, 4294967295, 5}},
	} {
		if got := toldAt(incAll(p, c.come...), p); got != c.wanted {
			t.Errorf("%d, of %v: %+v, want %+v", i, c.come, got, c.wanted)
		}
	}
}

// Promise 16.1: of no items nothing is counted, wherever.
func TestOfNone(t *testing.T) {
	for _, l := range [][]live.Item{nil, {}, make([]live.Item, 0, 4), incAll(of("a"), 1, 2)[:0], incAll(nil, 1, 2)[:0]} {
		for i, p := range asked() {
			want(t, fmt.Sprint("path ", i), l, p)
		}
	}
}

// Promise 16.1: of one Inc just its amount is counted, whatever its name and its time are.
func TestOfOne(t *testing.T) {
	for _, n := range amounts() {
		for _, p := range paths() {
			for _, x := range refs(ref(0, 1, 0), ref(7, 20, 3), ref(15, mostSeq, 15)) {
				for _, time := range []int{1, 2, 1000, mostTime} {
					l := items(item(x, time, inc(p, n)))
					want(t, fmt.Sprint(n), l, p, n)
					want(t, fmt.Sprint(n, " elsewhere"), l, append(p[:len(p):len(p)], "z"))
				}
			}
		}
	}
}

// Promise 16.1: of two Incs, each amount with each other one, and with itself.
func TestOfTwo(t *testing.T) {
	p := of("a")
	for _, n := range amounts() {
		for _, m := range amounts() {
			for _, x := range refs(ref(2, 3, 5), ref(2, 4, 0), ref(3, 1, 0)) {
				for _, times := range [][]int{{1, 2}, {5, 5}, {7, 3}, {1, mostTime}} {
					l := items(item(ref(2, 3, 4), times[0], inc(p, n)), item(x, times[1], inc(p, m)))
					want(t, fmt.Sprint(n, " and ", m), l, p, n, m)
					want(t, fmt.Sprint(n, " alone"), l[:1], p, n)
					want(t, fmt.Sprint(m, " alone"), l[1:], p, m)
				}
			}
		}
	}
}

// Promise 16.1: of many Incs: up alone, down alone, and both, beside each other and mixed.
func TestOfMany(t *testing.T) {
	all, p, d := amounts(), of("a", "b"), dice(1)
	half := len(all) / 2
	down, up := all[:half], all[half:]
	want(t, "rising", incAll(p, all...), p, all...)
	want(t, "up alone", incAll(p, up...), p, up...)
	want(t, "down alone", incAll(p, down...), p, down...)
	want(t, "up, then down", incAll(p, slices.Concat(up, down)...), p, slices.Concat(up, down)...)
	if got := toldAt(incAll(p, all...), p); got.sum != 0 || got.up != got.down || got.many != 20 {
		t.Errorf("all, and as much below: %+v", got)
	}
	for k := range 200 {
		some := mixed(&d, all)
		want(t, fmt.Sprint("mixed ", k), incAll(p, some...), p, all...)
		for n := range len(some) + 1 {
			want(t, fmt.Sprint("up to ", n), incAll(p, some[:n]...), p, some[:n]...)
			want(t, fmt.Sprint("from ", n), incAll(p, some[n:]...), p, some[n:]...)
		}
		var above, below []int
		for range k {
			above, below = append(above, 1+d.roll(mostAmount)), append(below, -1-d.roll(mostAmount))
		}
		want(t, fmt.Sprint("above ", k), incAll(p, above...), p, above...)
		want(t, fmt.Sprint("below ", k), incAll(p, below...), p, below...)
		want(t, fmt.Sprint("both ", k), incAll(p, mixed(&d, slices.Concat(above, below))...), p, slices.Concat(above, below)...)
	}
	for i := range all { // all but one, which is what the sum lacks
		want(t, "all but one", incAll(p, slices.Delete(slices.Clone(all), i, i+1)...), p, slices.Delete(slices.Clone(all), i, i+1)...)
		if got := Sum(incAll(p, slices.Delete(slices.Clone(all), i, i+1)...), p); got != -all[i] {
			t.Errorf("all but %d: %d", all[i], got)
		}
	}
}

// Promise 16.1: the same amount, counted twice and many times, is counted as often: by one transaction and by several.
func TestCountedAgain(t *testing.T) {
	p := of("a")
	for i, n := range amounts() {
		for k := 1; k <= 50; k++ {
			if got := toldAt(incAll(p, slices.Repeat(ints(n), k)...), p); got != (told{k * n, k * max(n, 0), k * max(-n, 0), k}) {
				t.Fatalf("%d times %d: %+v", k, n, got)
			}
			var one, several, first []live.Item // in one transaction after the other, of one replica, of each replica at falling times
			for i := range k {
				one = append(one, item(ref(1+i/mostOps, 1, i%mostOps), 7, inc(p, n)))
				several = append(several, item(ref(1, i+1, 15-i%mostOps), 7, inc(p, n)))
				first = append(first, item(ref(i%16, 1+i/16, 0), 99-i, inc(p, n)))
			}
			for _, l := range [][]live.Item{one, several, first} {
				want(t, fmt.Sprint(k, " times ", n), l, p, slices.Repeat(ints(n), k)...)
			}
			m := amounts()[(i+k)%len(amounts())]
			want(t, "turn and turn about", incAll(p, slices.Repeat(ints(n, m), k)...), p, slices.Repeat(ints(n, m), k)...)
			want(t, "with another one", incAll(p, append(slices.Repeat(ints(n), k), m)...), p, append(slices.Repeat(ints(n), k), m)...)
		}
	}
	all := row() // as many as there may be
	for i := range mostTxns {
		all = append(all, done(i/100, i%100+1, i+1, slices.Repeat([]api.Op{inc(p, mostAmount)}, mostOps)...))
	}
	for _, c := range []struct {
		many   int
		wanted told
	}{{1, told{34359738352, 34359738352, 0, 16}}, {2, told{68719476704, 68719476704, 0, 32}}, {mostTxns, told{34359738352000, 34359738352000, 0, 16000}}} {
		if got := toldAt(checked(t, all[:c.many], nil), p); got != c.wanted {
			t.Errorf("the greatest amount of %d: %+v", c.many, got)
		}
	}
	for i := range all {
		for k := range all[i].Ops {
			all[i].Ops[k].N = -mostAmount
		}
	}
	if got := toldAt(checked(t, all, nil), p); got != (told{-34359738352000, 0, 34359738352000, 16000}) {
		t.Errorf("the least amount: %+v", got)
	}
}

// Promise 16.1: at a path that is there, not there, the beginning of one, one that goes on behind it, and the empty one.
func TestPaths(t *testing.T) {
	var l []live.Item
	all := [][]string{of("a"), of("a", "b"), of("a", "b", "c"), of("ab"), of("a/b"), of("b"), of("b", "a"), of("é"), of("a", "b", "c", "d", "e", "f", "g", "h"), of("x", "y"), of("x y"), of("a", "a"), of("A")}
	for i, p := range all { // one up and one down of its own, and one that all have
		l = append(l, item(ref(1, i+1, 0), 50-i, inc(p, 10+i)), item(ref(1, i+1, 1), 50-i, inc(p, -100-i)), item(ref(1, i+1, 2), 50-i, inc(p, 999)))
	}
	for i, p := range all {
		want(t, fmt.Sprint("there ", p), l, p, 10+i, -100-i, 999)
		want(t, fmt.Sprint("one at ", p), l[3*i:3*i+1], p, 10+i)
		for n := range len(p) + 1 {
			for _, q := range [][]string{p[:n], p[n:], append(p[:n:n], "z"), append(of("z"), p[:n]...), append(p[:n:n], ""), append(p[:n:n], "a", "a")} {
				want(t, fmt.Sprint("at ", q), l, q, slow(l, q)...)
				if !slices.ContainsFunc(all, func(other []string) bool { return slices.Equal(other, q) }) {
					want(t, fmt.Sprint("not there ", q), l, q)
				}
			}
		}
		for k := range all { // what lies elsewhere
			if k != i {
				want(t, fmt.Sprint("elsewhere ", p), l[3*k:3*k+3], p)
			}
		}
	}
	for _, q := range [][]string{nil, of(), of(""), of("x"), of("y"), of("c"), of("a", "b", "c", "d"), of("a", "b", "c", "d", "e", "f", "g"), of("a", "b", "c", "d", "e", "f", "g", "h", "i"), of("", "a"), of("a", ""), of("a/"), of("/a"), of("e\u0301"), of("\xC3"), of("a b"), of("a", "c"), of("c", "a")} {
		want(t, fmt.Sprint("not there ", q), l, q)
	}
	// of one length, with one part alike
	three := items(item(ref(0, 1, 0), 1, inc(of("a", "b"), 1)), item(ref(0, 1, 1), 1, inc(of("a", "c"), -20)), item(ref(0, 1, 2), 1, inc(of("c", "b"), 300)))
	want(t, "the first part alike", three, of("a", "b"), 1)
	want(t, "the first part alike", three, of("a", "c"), -20)
	want(t, "the last part alike", three, of("c", "b"), 300)
	want(t, "both parts of others", three, of("c", "c"))
}

// Promise 16.1: Puts and Adds at the path don't count, whatever their values, their times and their places are.
func TestKinds(t *testing.T) {
	p := of("a")
	values := []api.Value{number(0), number(1), number(-1), number(5), number(mostAmount), number(-mostAmount), {Kind: api.Text}, {Kind: api.Text, S: "5"}, {Kind: api.Bool}, {Kind: api.Bool, N: 1}}
	for i, v := range values {
		others := items(item(ref(0, 1, 0), mostTime, put(p, v)), item(ref(0, 1, 1), mostTime, add(p, v)), item(ref(0, 1, 2), 1, put(p, v, ref(0, 2, 0))))
		behind := items(item(ref(15, mostSeq, 14), mostTime, add(p, v)), item(ref(15, mostSeq, 15), mostTime, put(p, v)))
		for _, l := range [][]live.Item{others, others[:1], others[1:2], others[2:], behind, slices.Concat(others, behind)} {
			want(t, fmt.Sprint("no Inc ", i), l, p)
		}
		for _, n := range amounts() {
			one := items(item(ref(3, 3, 3), 3, inc(p, n)))
			for _, l := range [][]live.Item{slices.Concat(others, one), slices.Concat(one, behind), slices.Concat(others, one, behind), slices.Concat(others[:1], one, behind[1:]), slices.Concat(others[1:], one, behind[:1])} {
				want(t, fmt.Sprint("one Inc ", i), l, p, n)
			}
			two := slices.Concat(others, one, others, items(item(ref(3, 4, 0), 2, inc(p, -7))), behind)
			want(t, fmt.Sprint("two Incs ", i), two, p, n, -7)
		}
	}
}

// Promise 16.1: of all lists of up to four items, of a few amounts, paths and Kinds, in each order, held against the document's words.
func TestAllSmall(t *testing.T) {
	p, q := of("a"), of("a", "b")
	ops := []api.Op{inc(p, 5), inc(p, -2), inc(p, 1), inc(p, -1), inc(p, mostAmount), inc(p, -mostAmount), inc(q, 100), inc(q, -30), put(p, number(1)), add(p, number(9))}
	for _, names := range [][]api.Ref{refs(ref(0, 1, 0), ref(0, 2, 0), ref(1, 1, 0), ref(1, 2, 0)), refs(ref(0, 1, 3), ref(0, 1, 4), ref(1, 1, 1), ref(1, 1, 2)), refs(ref(2, 2, 0), ref(1, 3, 1), ref(1, 2, 2), ref(0, 4, 3))} {
		for n := range 5 {
			many := 1
			for range n {
				many *= len(ops)
			}
			l := make([]live.Item, n)
			for k := range many {
				for i := range n {
					l[i] = item(names[i], (k+i)%3+1, ops[k%len(ops)])
					k /= len(ops)
				}
				for _, x := range [][]string{p, q, nil} {
					want(t, "small", l, x, slow(l, x)...)
				}
			}
		}
	}
}

// Promise 16.1: of stores that are made up, at each path that is there, and at others, held against the document's words; in another order it is the same.
func TestOfStores(t *testing.T) {
	d := dice(3)
	for i, s := range stores() {
		l := live.All(s.l, s.u)
		other := mixed(&d, l)
		all := 0
		for _, p := range asked() {
			want(t, fmt.Sprint("store ", i, " at ", short(p)), l, p, slow(l, p)...)
			want(t, fmt.Sprint("store ", i, " mixed, at ", short(p)), other, p, slow(l, p)...)
		}
		for _, p := range paths()[1:] {
			all += Count(l, p)
		}
		for _, x := range l {
			if x.O.Kind == api.Inc {
				all--
			}
		}
		if all != 0 {
			t.Fatalf("store %d: some Incs are counted at no path, or at two: %d", i, all)
		}
	}
}

// Promise 16.2: an Inc adds its amount, at its path and at no other one; undone it takes that away again, and redone it adds it.
func TestIncsOfStores(t *testing.T) {
	for i, s := range stores()[:402] {
		ahead := live.All(s.l, s.u)
		for k, p := range paths()[1:] {
			n, d := amounts()[(i+k)%len(amounts())], dotOf((i+k)%16, mostSeq-k)
			with := txn.Put(s.l, done(d.R, d.N, 1+i%5, add(of("z"), number(1)), inc(p, n)))
			what := fmt.Sprint("store ", i, " at ", p, ": ", n)
			was := slow(ahead, p)
			now := checked(t, with, s.u)
			want(t, what, now, p, append(was, n)...)
			if Sum(now, p) != Sum(ahead, p)+n || Count(now, p) != Count(ahead, p)+1 {
				t.Fatalf("%s: %+v, behind %+v", what, toldAt(now, p), toldAt(ahead, p))
			}
			for _, q := range asked() {
				if !slices.Equal(p, q) {
					want(t, what+", at another path", now, q, slow(ahead, q)...)
				}
				want(t, what+", undone", live.All(with, turned(s.u, d, 1)), q, slow(ahead, q)...)
			}
			want(t, what+", redone", live.All(with, turned(s.u, d, 2)), p, append(was, n)...)
		}
	}
}

// Promise 16.2: Incs that are undone, and redone, in each way, by one user or by several.
func TestUndoneIncs(t *testing.T) {
	p, q := of("a"), of("a", "b")
	var l []api.Txn
	all := ints(5, -2, mostAmount, -mostAmount, 1, -1, 100)
	for i, n := range all {
		l = append(l, done(i/2, i%2+1, 9-i, inc(p, n), inc(q, -n), inc(p, n)))
	}
	for k := range 1 << len(all) {
		var u []api.Undo
		var left, other []int
		for i, n := range all {
			if k>>i%2 == 1 { // not at all, or twice, or more often
				u = turned(u, l[i].D, 1+2*(i%3))
				continue
			}
			if i%3 == 1 {
				u = turned(u, l[i].D, 2)
			}
			left, other = append(left, n, n), append(other, -n)
		}
		now := checked(t, l, u)
		want(t, fmt.Sprint("undone ", k), now, p, left...)
		want(t, fmt.Sprint("undone ", k), now, q, other...)
	}
	for i, n := range all { // one alone, turned ever more often
		for k := range mostUndo + 1 {
			want(t, fmt.Sprint("turned ", k), checked(t, l[i:i+1], turned(nil, l[i].D, k)), p, slices.Repeat(ints(n, n), 1-k%2)...)
		}
	}
}

// everywhere asks that a Reset's transaction leaves amounts at paths, and that without it there are those that were there: done, undone and redone.
func everywhere(t *testing.T, what string, l []api.Txn, u []api.Undo, by api.Txn, left func(x live.Item) bool) {
	t.Helper()
	ahead := live.All(l, u)
	with := txn.Put(l, by)
	if len(with) != len(l)+1 {
		t.Fatalf("%s: no such transactions", what)
	}
	now := slices.DeleteFunc(slices.Clone(ahead), func(x live.Item) bool { return !left(x) })
	for n := range 4 {
		got, wanted := checked(t, with, turned(u, by.D, n)), now
		if n%2 == 1 {
			wanted = ahead
		}
		for _, p := range asked() {
			want(t, fmt.Sprint(what, " turned ", n, ", at ", short(p)), got, p, slow(wanted, p)...)
		}
	}
}

// Promise 16.2: a Reset that covers all makes the sum 0, whatever was counted, by whichever transaction and at whatever time; undone, all is there again.
func TestResetOfAll(t *testing.T) {
	p, q := of("a"), of("b")
	all := ints(3, -5, mostAmount, mostAmount, -1, 3, -mostAmount)
	for n := range len(all) + 1 {
		var l []api.Txn
		for i, a := range all[:n] {
			l = append(l, done(2*i+1, 5, 10+i%3, put(of("r"), number(i)), inc(p, a), inc(q, a), inc(p, a)))
		}
		ahead := checked(t, l, nil)
		seen := live.Refs(live.At(ahead, p, op.Counter))
		want(t, "ahead", ahead, p, slices.Concat(all[:n], all[:n])...)
		if len(seen) != 2*n {
			t.Fatalf("%d: %v are there", n, seen)
		}
		for _, d := range []api.Dot{dotOf(0, 1), dotOf(1, 4), dotOf(1, 6), dotOf(4, 1), dotOf(6, mostSeq), dotOf(15, 1)} {
			for _, time := range []int{1, 11, mostTime} {
				what := fmt.Sprint(n, " reset by ", d, time)
				by := done(d.R, d.N, time, reset(p, seen...))
				now := checked(t, txn.Put(l, by), nil)
				want(t, what, now, p)
				want(t, what+", at another path", now, q, all[:n]...)
				everywhere(t, what, l, nil, by, func(x live.Item) bool { return !slices.Contains(seen, x.X) })
				// what is counted behind it, or at once, is not covered
				more := txn.Put(txn.Put(l, by), done(9, 9, time, inc(p, -8)))
				want(t, what+", and counted", checked(t, more, nil), p, -8)
				want(t, what+", and counted, undone", checked(t, more, turned(nil, d, 1)), p, slices.Concat(all[:n], all[:n], ints(-8))...)
				want(t, what+", and both undone", checked(t, more, turned(turned(nil, d, 1), dotOf(9, 9), 1)), p, slices.Concat(all[:n], all[:n])...)
				want(t, what+", and the Inc undone", checked(t, more, turned(nil, dotOf(9, 9), 1)), p)
			}
		}
	}
	// as many as one Reset can name
	var l []api.Txn
	for i := range mostSeen / mostOps {
		l = append(l, done(i, 1, 1, slices.Repeat([]api.Op{inc(p, i-5)}, mostOps)...))
	}
	l[5].Ops = slices.Repeat([]api.Op{inc(p, mostAmount)}, mostOps)
	seen := live.Refs(checked(t, l, nil))
	if len(seen) != mostSeen {
		t.Fatal("no such Incs")
	}
	everywhere(t, "the most", l, nil, done(3, 2, 2, reset(p, seen...)), func(x live.Item) bool { return false })
	want(t, "the most", checked(t, append(l, done(15, 2, 2, reset(p, seen...))), nil), p)
}

// Promise 16.2: a Reset that covers some of the Incs, each choice of them, or none, or such as are not there, or lie elsewhere.
func TestResetOfSome(t *testing.T) {
	p, q := of("a"), of("a", "b")
	var l []api.Txn
	var names, others []api.Ref
	all := ints(5, -2, mostAmount, -mostAmount, 1)
	for i, n := range all {
		l = append(l, done(i+1, 1, 5, inc(q, 10*(i+1)), inc(p, n), add(p, number(n))))
		names, others = append(names, ref(i+1, 1, 1)), append(others, ref(i+1, 1, 0))
	}
	for k := range 1 << len(all) {
		var seen, gone []api.Ref
		var left, rest []int
		for i, n := range all {
			if k>>i%2 == 1 {
				seen, gone = append(seen, names[i]), append(gone, others[i])
			} else {
				left, rest = append(left, n), append(rest, 10*(i+1))
			}
		}
		for _, d := range []api.Dot{dotOf(0, 1), dotOf(2, 9), dotOf(9, 1)} {
			what := fmt.Sprint("some ", k, d)
			for _, o := range []api.Op{reset(p, seen...), reset(of("z"), seen...), put(p, number(5), seen...), remove(p, number(5), seen...)} {
				by := done(d.R, d.N, 6, o)
				now := checked(t, txn.Put(l, by), nil)
				want(t, what, now, p, left...)
				want(t, what, now, q, 10, 20, 30, 40, 50)
				everywhere(t, what, l, nil, by, func(x live.Item) bool { return !slices.Contains(seen, x.X) })
			}
			// at the path, but it names what lies under it
			by := done(d.R, d.N, 6, reset(p, gone...))
			now := checked(t, txn.Put(l, by), nil)
			want(t, what+", under it", now, p, all...)
			want(t, what+", under it", now, q, rest...)
			everywhere(t, what+", under it", l, nil, by, func(x live.Item) bool { return !slices.Contains(gone, x.X) })
			// what it names is not there
			by = done(d.R, d.N, 6, reset(p, ref(1, 2, 1), ref(3, 1, 3), ref(4, 1, 2), ref(12, 1, 1)))
			want(t, what+", of nothing", checked(t, txn.Put(l, by), nil), p, all...)
			everywhere(t, what+", of nothing", l, nil, by, func(x live.Item) bool { return true })
		}
	}
	// two Resets: an Inc is back when all that cover it are undone
	two := append(slices.Clone(l), done(7, 1, 9, reset(p, names...)), done(8, 1, 8, reset(p, names[:2]...)))
	for i, c := range []struct {
		u    []api.Undo
		left []int
	}{{nil, nil}, {undos(un(7, 1, 1)), all[2:]}, {undos(un(8, 1, 1)), nil}, {undos(un(7, 1, 1), un(8, 1, 1)), all}, {undos(un(7, 1, 2), un(8, 1, 1)), nil}, {undos(un(7, 1, 3), un(8, 1, 2)), all[2:]}} {
		want(t, fmt.Sprint("two Resets ", i), checked(t, two, c.u), p, c.left...)
	}
	// a Reset that another one covers covers all the same
	two[6].Ops = []api.Op{reset(p, ref(7, 1, 0))}
	want(t, "a Reset that is covered", checked(t, two, nil), p)
	want(t, "a Reset that is covered, undone", checked(t, two, undos(un(7, 1, 1))), p, all...)
}

// Promise 16.2: a Reset of a path with all that stands under it, at longer paths: all these are 0, others are as they were; undone, all is there again.
func TestResetOfAllUnder(t *testing.T) {
	for i, s := range stores()[:402] {
		ahead := live.All(s.l, s.u)
		for k, p := range paths()[1:] {
			d := dotOf((i+k)%16, mostSeq-k)
			what := fmt.Sprint("store ", i, " reset at ", p)
			at, under := live.Refs(live.At(ahead, p, op.Counter)), live.Refs(live.Under(ahead, p))
			if len(under) > mostSeen {
				t.Fatal("too many to be named")
			}
			by := done(d.R, d.N, 1+i%5, reset(p, at...))
			want(t, what, live.All(txn.Put(s.l, by), s.u), p)
			everywhere(t, what, s.l, s.u, by, func(x live.Item) bool { return !slices.Contains(at, x.X) })
			by = done(d.R, d.N, 1+i%5, reset(p, under...))
			now := live.All(txn.Put(s.l, by), s.u)
			for _, q := range paths() {
				if len(q) >= len(p) && slices.Equal(q[:len(p)], p) {
					want(t, what+", all under it", now, q)
				} else {
					want(t, what+", not under it", now, q, slow(ahead, q)...)
				}
			}
			everywhere(t, what+", all under it", s.l, s.u, by, func(x live.Item) bool { return !slices.Contains(under, x.X) })
		}
	}
}

// Promise 16.2: an Inc and a Reset in one transaction, in both orders, with the Reset naming the one ahead, its own, or both.
func TestInOne(t *testing.T) {
	p := of("a")
	first := row(done(0, 1, 1, inc(p, 5)))
	for i, c := range []struct {
		ops  []api.Op
		left []int
	}{
		{[]api.Op{reset(p, ref(0, 1, 0)), inc(p, -3)}, ints(-3)},
		{[]api.Op{inc(p, -3), reset(p, ref(0, 1, 0))}, ints(-3)},
		{[]api.Op{inc(p, -3), reset(p, ref(1, 1, 0))}, ints(5)},
		{[]api.Op{inc(p, -3), reset(p, ref(0, 1, 0), ref(1, 1, 0))}, nil},
		{[]api.Op{inc(p, -3), reset(p, ref(0, 1, 0), ref(1, 1, 0)), inc(p, 4)}, ints(4)},
		{[]api.Op{inc(p, -3), inc(p, -3), reset(p, ref(1, 1, 0)), inc(p, 5)}, ints(5, -3, 5)},
		{[]api.Op{reset(p), inc(p, 1)}, ints(5, 1)},
	} {
		l := append(slices.Clone(first), done(1, 1, 2, c.ops...))
		want(t, fmt.Sprint("in one ", i), checked(t, l, nil), p, c.left...)
		want(t, fmt.Sprint("in one, undone ", i), checked(t, l, undos(un(1, 1, 1))), p, 5)
		want(t, fmt.Sprint("in one, redone ", i), checked(t, l, undos(un(1, 1, 2))), p, c.left...)
	}
}

// Promise 16.2: a chain of Incs and of Resets that cover the one ahead, undone in each way.
func TestChain(t *testing.T) {
	p := of("a")
	var l []api.Txn
	all := ints(5, 0, -20, 0, 300, 0, -4000, 0)
	for i, n := range all {
		o := inc(p, n)
		if i%2 == 1 {
			o = reset(p, ref(0, i, 0))
		}
		l = append(l, done(0, i+1, i+1, o))
	}
	for k := range 1 << len(all) {
		var u []api.Undo
		var left []int
		for i, n := range all {
			if k>>i%2 == 1 {
				u = turned(u, dotOf(0, i+1), 1)
			} else if i%2 == 0 && k>>(i+1)%2 == 1 {
				left = append(left, n)
			}
		}
		want(t, fmt.Sprint("chain ", k), checked(t, l, u), p, left...)
	}
}

// alikeItems holds two lists of items against each other, field by field.
func alikeItems(a, b []live.Item) bool {
	return slices.EqualFunc(a, b, func(a, b live.Item) bool {
		return a.X == b.X && a.Time == b.Time && a.O.Kind == b.O.Kind && slices.Equal(a.O.Path, b.O.Path) && a.O.V == b.O.V && a.O.N == b.O.N && slices.Equal(a.O.Seen, b.O.Seen)
	})
}

// copied tells items with lists of their own.
func copied(l []live.Item) (all []live.Item) {
	for _, x := range l {
		x.O.Path, x.O.Seen = slices.Clone(x.O.Path), slices.Clone(x.O.Seen)
		all = append(all, x)
	}
	return all
}

// guarded tells items between others in the same memory, with paths that all lie beside each other, and whether all is as it was.
func guarded(l []live.Item) ([]live.Item, func() bool) {
	var parts []string
	var seen []api.Ref
	for _, x := range l {
		parts, seen = append(append(parts, x.O.Path...), "b", "\xFF"), append(append(seen, x.O.Seen...), ref(0, 1, 0))
	}
	all := incAll(of("a"), 77, -78)
	i, k := 0, 0
	for _, x := range l {
		x.O.Path, x.O.Seen = parts[i:i+len(x.O.Path)], seen[k:k+len(x.O.Seen)]
		i, k = i+len(x.O.Path)+2, k+len(x.O.Seen)+1
		all = append(all, x)
	}
	for _, p := range paths() {
		all = append(all, item(ref(15, mostSeq, 15), mostTime, inc(p, mostAmount)), item(ref(15, mostSeq, 15), mostTime, inc(p, -1)))
	}
	keptParts, keptSeen, kept := slices.Clone(parts), slices.Clone(seen), copied(all)
	return all[2 : 2+len(l)], func() bool {
		return slices.Equal(parts, keptParts) && slices.Equal(seen, keptSeen) && alikeItems(all, kept)
	}
}

// R4: no list that came in is changed, nor what lies behind its length read or written, also where lists share memory.
func TestNothingIsChanged(t *testing.T) {
	for i, s := range stores() {
		plain := live.All(s.l, s.u)
		l, kept := guarded(plain)
		for _, p := range asked() {
			behind := append(slices.Clone(p), "b", "behind")
			was := slices.Clone(behind)
			want(t, fmt.Sprint("store ", i, " at ", short(p)), l, behind[:len(p)], slow(plain, p)...)
			if !slices.Equal(behind, was) {
				t.Fatalf("store %d: the path %v was changed to %v", i, was, behind)
			}
		}
		for _, x := range l[:min(len(l), 20)] {
			for n := range len(x.O.Path) + 1 {
				p := x.O.Path[:n] // the items' own memory: behind it lies more
				want(t, fmt.Sprint("store ", i, " at its own ", p), l, p, slow(plain, slices.Clone(p))...)
			}
		}
		for n := range min(len(l), 20) { // a part of it, behind which lies the rest
			for _, p := range paths()[1:4] {
				want(t, fmt.Sprint("store ", i, " up to ", n), l[:n], p, slow(plain[:n], p)...)
				want(t, fmt.Sprint("store ", i, " from ", n), l[n:], p, slow(plain[n:], p)...)
			}
		}
		if !kept() {
			t.Fatalf("store %d was changed", i)
		}
	}
}

// P1 and R5: no call panics, whatever it is given, and each answers the same, however often it is asked.
func TestAnyArguments(t *testing.T) {
	strange := api.Op{Kind: api.Inc, Path: slices.Repeat(of(""), 20), V: api.Value{Kind: -1, N: math.MinInt, S: "\xFF"}, N: math.MinInt, Seen: slices.Repeat(refs(ref(-1, math.MinInt, math.MaxInt)), 300)}
	lists := [][]live.Item{
		nil, items(live.Item{}), items(live.Item{}, live.Item{}), items(item(ref(-1, math.MinInt, math.MaxInt), math.MinInt, strange), item(ref(math.MaxInt, math.MinInt, -1), math.MaxInt, strange), item(api.Ref{}, 0, strange)),
		items(item(ref(0, 1, 0), 1, api.Op{Kind: math.MaxInt, Path: of("a"), N: 1}), item(ref(0, 1, 0), 1, api.Op{Kind: math.MinInt, Path: of("a"), N: 1}), item(ref(0, 1, 0), 1, api.Op{Kind: api.Inc, Path: of("a")}), item(ref(0, 1, 0), 1, reset(of("a"))), item(ref(0, 1, 0), 1, put(of("a"), number(1)))),
		items(item(api.Ref{}, 0, inc(nil, 1)), item(api.Ref{}, 0, inc(of(), 1))), slices.Repeat(incAll(of("a"), amounts()...), 3), incAll(of("a"), odd()...),
	}
	for _, s := range stores()[:100] {
		lists = append(lists, live.All(s.l, s.u))
	}
	for i, l := range lists {
		for _, p := range append(asked(), strange.Path, strange.Path[:19]) {
			first := toldAt(l, p)
			for range 20 {
				if got := toldAt(l, p); got != first {
					t.Fatalf("%d at %s is answered in two ways: %+v and %+v", i, short(p), got, first)
				}
			}
		}
	}
}

// The document's examples: Incs by 5 and by -2; an Inc that is undone, and redone.
func TestExamples(t *testing.T) {
	p := of("a")
	l := row(done(0, 1, 1, inc(p, 5)), done(1, 1, 2, inc(p, -2)))
	if got := toldAt(checked(t, l, nil), p); got != (told{3, 5, 2, 2}) {
		t.Errorf("5 and -2: %+v", got)
	}
	for n, wanted := range []told{{5, 5, 0, 1}, {}, {5, 5, 0, 1}} {
		if got := toldAt(checked(t, l[:1], turned(nil, l[0].D, n)), p); got != wanted {
			t.Errorf("5 turned %d times: %+v, want %+v", n, got, wanted)
		}
	}
}
