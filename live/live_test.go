package live

import (
	"fmt"
	"math"
	"slices"
	"testing"

	"palinode/api"
	"palinode/op"
	"palinode/tally"
	"palinode/txn"
)

const (
	mostSeq  = 1048576       // the greatest number that a dot may have: 2^20
	mostTime = 1099511627776 // the greatest time: 2^40
	mostUndo = 64            // the most that a transaction may be undone and redone
	mostOps  = 16            // how many operations a transaction has at the most
	mostSeen = 256           // how many others an operation covers at the most
)

// dotOf tells a dot: its replica, and its number there.
func dotOf(r, n int) api.Dot { return api.Dot{R: r, N: n} }

// ref tells an operation's name: its dot's replica and number, and its place.
func ref(r, n, i int) api.Ref { return api.Ref{D: dotOf(r, n), I: i} }

// refs tells operations' names, one by one.
func refs(l ...api.Ref) []api.Ref { return l }

// of tells parts of a path, one by one.
func of(parts ...string) []string { return parts }

// row tells transactions, one by one.
func row(l ...api.Txn) []api.Txn { return l }

// items tells items, one by one.
func items(l ...Item) []Item { return l }

// un tells a count: of a dot, and how often.
func un(r, n, often int) api.Undo { return api.Undo{D: dotOf(r, n), N: often} }

// undos tells counts, one by one.
func undos(l ...api.Undo) []api.Undo { return l }

func number(n int) api.Value { return api.Value{Kind: api.Int, N: n} }

func put(p []string, n int, seen ...api.Ref) api.Op {
	return api.Op{Kind: api.Put, Path: p, V: number(n), Seen: seen}
}

func add(p []string, n int) api.Op { return api.Op{Kind: api.Add, Path: p, V: number(n)} }

func inc(p []string, n int) api.Op { return api.Op{Kind: api.Inc, Path: p, N: n} }

func remove(p []string, n int, seen ...api.Ref) api.Op {
	return api.Op{Kind: api.Remove, Path: p, V: number(n), Seen: seen}
}

func reset(p []string, seen ...api.Ref) api.Op {
	return api.Op{Kind: api.Reset, Path: p, Seen: seen}
}

// done tells a transaction of a replica, a number there, and a time.
func done(r, n, time int, ops ...api.Op) api.Txn {
	return api.Txn{D: dotOf(r, n), User: r % 8, Time: time, Ops: ops}
}

// thinned tells a transaction that is Thin.
func thinned(t api.Txn) api.Txn {
	t.Thin = true
	return t
}

// dice rolls numbers that are the same in each run.
type dice uint64

// roll tells a number from 0 on, below another one.
func (d *dice) roll(below int) int {
	*d = *d*6364136223846793005 + 1442695040888963407
	return int(uint64(*d) >> 33 % uint64(below))
}

// stored is what is known of: transactions that rise, and counts.
type stored struct {
	l []api.Txn
	u []api.Undo
}

// paths tells paths, of which some begin as others do, by parts or by letters.
func paths() [][]string {
	return [][]string{of("a"), of("a", "b"), of("a", "b", "c"), of("ab"), of("a", "bc"), of("a/b"), of("b"), of("é", "世"), of("é"), of("a", "b", "c", "d", "e", "f", "g", "h"), of("A"), of("b", "a")}
}

// anyOp tells an operation of any Kind that covers some of others.
func anyOp(d *dice, others []api.Ref) api.Op {
	p, n := paths()[d.roll(len(paths()))], 1+d.roll(3)
	var seen []api.Ref
	for _, x := range others {
		if d.roll(len(others)) < 2 && len(seen) < mostSeen {
			seen = append(seen, x)
		}
	}
	switch d.roll(9) {
	case 0, 1:
		return add(p, n)
	case 2, 3:
		return inc(p, n)
	case 4:
		return remove(p, n, seen...)
	case 5:
		return reset(p, seen...)
	case 6:
		return put(p, n)
	}
	return put(p, n, seen...)
}

// store tells so many transactions, each with up to so many operations, that cover each other as it comes, and counts of some.
func store(d *dice, many, most int) (s stored) {
	var dots []api.Dot
	var all []api.Ref
	for i := range many {
		dots = append(dots, dotOf(i/7%16, i%7*2+1+14*(i/112)))
	}
	slices.SortFunc(dots, slowDots)
	for _, x := range dots {
		for i := range most + 1 { // one place past what any has
			if i < mostOps {
				all = append(all, api.Ref{D: x, I: i})
			}
		}
		if d.roll(5) == 0 { // and one of a dot that is not there
			all = append(all, ref(x.R, x.N+1, d.roll(2)))
		}
	}
	for _, x := range dots {
		t := done(x.R, x.N, 1+d.roll(many))
		for range 1 + d.roll(most) {
			t.Ops = append(t.Ops, anyOp(d, all))
		}
		if t.Thin = d.roll(3) == 0; t.Thin {
			t.Ops[d.roll(len(t.Ops))] = api.Op{}
		}
		s.l = append(s.l, t)
		if d.roll(2) == 0 {
			s.u = append(s.u, api.Undo{D: x, N: 1 + d.roll(4)})
		}
		if d.roll(8) == 0 { // a count of one that is not there
			s.u = append(s.u, un(x.R, x.N+1, 1+d.roll(2)))
		}
	}
	return s
}

// stores tells many that are unlike: none, a few, and many transactions, with one operation or many.
func stores() (all []stored) {
	d := dice(7)
	all = append(all, stored{}, stored{u: undos(un(0, 1, 1))}, stored{l: []api.Txn{}, u: []api.Undo{}})
	for i := range 300 {
		all = append(all, store(&d, 1+i%9, 1+i%5))
	}
	for i := range 20 {
		all = append(all, store(&d, 10+3*i, 1+i%mostOps))
	}
	return append(all, store(&d, 120, mostOps))
}

// slowDots tells whether a dot stands ahead of another one (below 0), behind it (above 0), or is the same.
func slowDots(a, b api.Dot) int {
	if a.R != b.R {
		return a.R - b.R
	}
	return a.N - b.N
}

// slowCounts tells whether a transaction counts.
func slowCounts(u []api.Undo, d api.Dot) bool {
	for _, x := range u {
		if x.D.R == d.R && x.D.N == d.N {
			return x.N%2 == 0
		}
	}
	return true
}

// slowCovers tells whether an operation of a transaction names another one.
func slowCovers(t api.Txn, x api.Ref) bool {
	for _, o := range t.Ops {
		for _, y := range o.Seen {
			if x.D.R == y.D.R && x.D.N == y.D.N && x.I == y.I {
				return true
			}
		}
	}
	return false
}

// slowAll is what the document says of operations that count, each of which is held against all others.
func slowAll(l []api.Txn, u []api.Undo) (all []Item) {
	for _, t := range l {
		for i, o := range t.Ops {
			counts := slowCounts(u, t.D) && o.Kind >= 1 && o.Kind <= 3
			for _, other := range l {
				counts = counts && !(slowCounts(u, other.D) && slowCovers(other, api.Ref{D: t.D, I: i}))
			}
			if counts {
				all = append(all, Item{api.Ref{D: t.D, I: i}, o, t.Time})
			}
		}
	}
	return all
}

// slowAt is what the document says of items at a path.
func slowAt(l []Item, p []string, leaf int) (all []Item) {
	for _, x := range l {
		its := []int{0, 1, 2, 3, 2, 0}[x.O.Kind]
		if its == leaf && slices.Equal(x.O.Path, p) {
			all = append(all, x)
		}
	}
	return all
}

// slowUnder is what the document says of items at a path, and under it.
func slowUnder(l []Item, p []string) (all []Item) {
	for _, x := range l {
		begins := len(p) <= len(x.O.Path)
		for i := range p {
			begins = begins && p[i] == x.O.Path[i]
		}
		if begins {
			all = append(all, x)
		}
	}
	return all
}

// slowWith is what the document says of transactions with another one.
func slowWith(l []api.Txn, t api.Txn) (all []api.Txn) {
	there := len(t.Ops) == 0
	for _, other := range l {
		there = there || other.D == t.D
		if !there && slowDots(other.D, t.D) > 0 {
			all, there = append(all, t), true
		}
		all = append(all, other)
	}
	if !there {
		all = append(all, t)
	}
	return all
}

// alikeOps holds two operations against each other, field by field.
func alikeOps(a, b api.Op) bool {
	return a.Kind == b.Kind && slices.Equal(a.Path, b.Path) && a.V.Kind == b.V.Kind && a.V.N == b.V.N && a.V.S == b.V.S && a.N == b.N && slices.Equal(a.Seen, b.Seen)
}

// alikeItems holds two items against each other, field by field.
func alikeItems(a, b Item) bool {
	return a.X.D.R == b.X.D.R && a.X.D.N == b.X.D.N && a.X.I == b.X.I && alikeOps(a.O, b.O) && a.Time == b.Time
}

// alike holds two lists of items against each other.
func alike(a, b []Item) bool { return slices.EqualFunc(a, b, alikeItems) }

// alikeTxns holds two lists of transactions against each other, field by field.
func alikeTxns(a, b []api.Txn) bool {
	return slices.EqualFunc(a, b, func(a, b api.Txn) bool {
		return a.D.R == b.D.R && a.D.N == b.D.N && a.User == b.User && a.Time == b.Time && a.Thin == b.Thin && slices.EqualFunc(a.Ops, b.Ops, alikeOps)
	})
}

// copiedOp tells an operation with lists of its own.
func copiedOp(o api.Op) api.Op {
	o.Path, o.Seen = append(make([]string, 0, len(o.Path)+2), o.Path...), append(make([]api.Ref, 0, len(o.Seen)+2), o.Seen...)
	return o
}

// copied tells transactions with lists of their own.
func copied(l []api.Txn) []api.Txn {
	all := make([]api.Txn, 0, len(l)+2)
	for _, t := range l {
		ops := make([]api.Op, 0, len(t.Ops)+2)
		for _, o := range t.Ops {
			ops = append(ops, copiedOp(o))
		}
		t.Ops = ops
		all = append(all, t)
	}
	return all
}

// copiedItems tells items with lists of their own.
func copiedItems(l []Item) []Item {
	all := make([]Item, 0, len(l)+2)
	for _, x := range l {
		x.O = copiedOp(x.O)
		all = append(all, x)
	}
	return all
}

// short tells the beginning of what is tested, for a message.
func short(x any) string { return fmt.Sprintf("%.300s", fmt.Sprint(x)) }

// want holds items against those that are wanted.
func want(t *testing.T, what string, got, wanted []Item) {
	t.Helper()
	if !alike(got, wanted) {
		t.Fatalf("%s: %s, want %s", what, short(got), short(wanted))
	}
}

// wantAll holds what All tells against the names of those that are wanted, and against the slow form.
func wantAll(t *testing.T, what string, l []api.Txn, u []api.Undo, wanted ...api.Ref) {
	t.Helper()
	for i, x := range l {
		if e := txn.Check(x); e != api.OK {
			t.Fatalf("%s: the transaction %d may not be: %d", what, i, e)
		}
	}
	if !txn.Rises(l) || !tally.Right(u) {
		t.Fatalf("%s: no such arguments", what)
	}
	got := All(l, u)
	if len(got) != len(wanted) {
		t.Fatalf("%s: %s, want %v", what, short(got), wanted)
	}
	for i, x := range got {
		if x.X != wanted[i] {
			t.Fatalf("%s: %s, want %v", what, short(got), wanted)
		}
	}
	want(t, what, got, slowAll(l, u))
}

// The test's own lists are what they say they are.
func TestLists(t *testing.T) {
	kinds, covered, items, none := map[int]int{}, 0, 0, 0
	for i, s := range stores() {
		if !txn.Rises(s.l) || !tally.Right(s.u) {
			t.Fatalf("the store %d has no such lists", i)
		}
		all := slowAll(s.l, s.u)
		items += len(all)
		for _, x := range s.l {
			if e := txn.Check(x); e != api.OK {
				t.Fatalf("a transaction of the store %d may not be: %d", i, e)
			}
			if !slowCounts(s.u, x.D) {
				none++
				continue
			}
			for j, o := range x.Ops {
				kinds[o.Kind]++
				if o.Kind >= 1 && o.Kind <= 3 && !slices.ContainsFunc(all, func(y Item) bool { return y.X == api.Ref{D: x.D, I: j} }) {
					covered++
				}
			}
		}
	}
	for kind := range 6 {
		if kinds[kind] < 200 {
			t.Errorf("%d operations of the Kind %d", kinds[kind], kind)
		}
	}
	if covered < 500 || items < 500 || none < 500 {
		t.Errorf("%d are covered, %d are items, %d transactions don't count", covered, items, none)
	}
	if api.MaxSeq != mostSeq || txn.MaxTime != mostTime || api.MaxUndo != mostUndo || api.MaxOps != mostOps || api.MaxSeen != mostSeen {
		t.Error("other limits")
	}
	if a := row(done(1, 1, 1, put(of("a"), 1, ref(1, 1, 1)))); !alikeTxns(a, copied(a)) || alikeTxns(a, row(done(1, 1, 1, put(of("a"), 1, ref(1, 1, 2))))) || alikeTxns(a, nil) {
		t.Error("alike")
	}
}

// Promise 13.1: of no transactions there are no items, whatever the counts are.
func TestAllOfNone(t *testing.T) {
	for _, l := range [][]api.Txn{nil, {}, make([]api.Txn, 0, 4), row(done(0, 1, 1, inc(of("a"), 1)))[:0]} {
		for _, u := range [][]api.Undo{nil, {}, undos(un(0, 1, 1)), undos(un(0, 1, 2), un(3, 4, 5))} {
			wantAll(t, "of none", l, u)
		}
	}
}

// Promise 13.1: of each Kind of operation, alone, and behind another one: a Put, an Add and an Inc are items, with their Time; a Remove, a Reset and one that is gone are none.
func TestAllOfEachKind(t *testing.T) {
	a, b := of("a"), of("b", "c")
	for i, c := range []struct {
		o      api.Op
		counts bool
	}{
		{put(a, 1), true}, {put(b, 0), true}, {put(a, 5, ref(9, 9, 9)), true}, {add(a, 1), true}, {add(b, -7), true}, {inc(a, 1), true}, {inc(b, -1), true},
		{api.Op{Kind: api.Put, Path: a, V: api.Value{Kind: api.Text, S: "x"}}, true}, {api.Op{Kind: api.Add, Path: a, V: api.Value{Kind: api.Bool}}, true},
		{remove(a, 1), false}, {remove(b, 1, ref(9, 9, 9)), false}, {reset(a), false}, {reset(b, ref(9, 9, 9)), false}, {api.Op{}, false},
	} {
		what := fmt.Sprint("operation ", i)
		var one, two []api.Ref
		if c.counts {
			one, two = refs(ref(3, 4, 0)), refs(ref(3, 4, 1))
		}
		wantAll(t, what, row(thinned(done(3, 4, 7, c.o))), nil, one...)
		wantAll(t, what, row(thinned(done(3, 4, mostTime, reset(a), c.o))), nil, two...)
		if op.Gone(c.o) {
			continue
		}
		wantAll(t, what, row(done(3, 4, 7, c.o)), nil, one...)
		wantAll(t, what, row(done(3, 4, 7, inc(a, 1), c.o, inc(a, 2))), nil, slices.Concat(refs(ref(3, 4, 0)), two, refs(ref(3, 4, 2)))...)
		if c.counts {
			want(t, what, All(row(done(3, 4, 7, c.o)), nil), items(Item{ref(3, 4, 0), c.o, 7}))
			want(t, what, All(row(thinned(done(0, 1, mostTime, api.Op{}, c.o))), nil), items(Item{ref(0, 1, 1), c.o, mostTime}))
			want(t, what, All(row(done(15, mostSeq, 1, reset(a), remove(a, 1), c.o)), nil), items(Item{ref(15, mostSeq, 2), c.o, 1}))
		}
	}
}

// Promise 13.1: several operations in one transaction, up to sixteen: each has its place, and is told in order.
func TestAllOfPlaces(t *testing.T) {
	for n := 1; n <= mostOps; n++ {
		var ops []api.Op
		var all []api.Ref
		for i := range n {
			ops, all = append(ops, inc(of("a"), i+1)), append(all, ref(2, 5, i))
		}
		wantAll(t, "so many", row(done(2, 5, 3, ops...)), nil, all...)
		for i := range n { // each one alone: the others cover, are gone, or are covered
			for _, other := range []api.Op{reset(of("a")), remove(of("a"), 1), {}} {
				some := slices.Repeat([]api.Op{other}, n)
				some[i] = inc(of("a"), 9)
				l := row(thinned(done(2, 5, 3, some...)))
				wantAll(t, "one alone", l, nil, ref(2, 5, i))
				want(t, "one alone", All(l, nil), items(Item{ref(2, 5, i), inc(of("a"), 9), 3}))
			}
			cover := done(7, 1, 9, reset(of("z"), slices.Delete(slices.Clone(all), i, i+1)...))
			wantAll(t, "all but one", row(done(2, 5, 3, ops...), cover), nil, all[i])
			cover = done(7, 1, 9, reset(of("z"), all[i]))
			wantAll(t, "one covered", row(done(2, 5, 3, ops...), cover), nil, slices.Delete(slices.Clone(all), i, i+1)...)
			own := slices.Clone(ops) // covered by the last one of its own
			own[n-1] = put(of("a"), 1, all[i])
			wantAll(t, "by its own", row(done(2, 5, 3, own...)), nil, slices.Delete(slices.Clone(all), i, i+1)...)
		}
	}
}

// Promise 13.1: a transaction counts, while it was undone and redone 0, 2, 4 .. times; counts of others matter nothing.
func TestAllOfCounts(t *testing.T) {
	l := row(done(0, 1, 1, inc(of("a"), 1)), done(0, 2, 2, inc(of("a"), 2), add(of("b"), 1)), done(4, 1, 3, inc(of("a"), 3)))
	all := refs(ref(0, 1, 0), ref(0, 2, 0), ref(0, 2, 1), ref(4, 1, 0))
	wantAll(t, "without counts", l, nil, all...)
	for n := 1; n <= mostUndo; n++ {
		for i, c := range []struct {
			u    []api.Undo
			left []api.Ref
		}{
			{undos(un(0, 1, n)), all[1:]},
			{undos(un(0, 2, n)), refs(all[0], all[3])},
			{undos(un(4, 1, n)), all[:3]},
			{undos(un(0, 1, n), un(0, 2, n)), all[3:]},
			{undos(un(0, 1, n), un(0, 2, n), un(4, 1, n)), nil},
			{undos(un(0, 1, n), un(0, 2, 2), un(4, 1, n)), all[1:3]},
			{undos(un(0, 3, 1), un(1, 1, 1), un(4, 1, n), un(4, 2, 1)), all[:3]},
			{undos(un(0, 1, n), un(2, 1, 1), un(15, mostSeq, mostUndo)), all[1:]},
		} {
			if n%2 == 0 {
				c.left = all
			}
			wantAll(t, fmt.Sprint(n, " times, counts ", i), l, c.u, c.left...)
		}
		wantAll(t, "of none of them", l, undos(un(0, 3, n), un(1, 1, n), un(1, 2, n), un(3, 1, n), un(4, 2, n), un(15, mostSeq, n)), all...)
	}
}

// coverers tells operations that cover others, by a Put, a Remove and a Reset.
func coverers(p []string, seen ...api.Ref) []api.Op {
	return []api.Op{put(p, 7, seen...), remove(p, 7, seen...), reset(p, seen...)}
}

// counted tells the places of those operations that count by their Kind.
func counted(t api.Txn) (l []api.Ref) {
	for i, o := range t.Ops {
		if o.Kind >= 1 && o.Kind <= 3 {
			l = append(l, api.Ref{D: t.D, I: i})
		}
	}
	return l
}

// without tells names without some.
func without(l []api.Ref, out ...api.Ref) (left []api.Ref) {
	for _, x := range l {
		if !slices.Contains(out, x) {
			left = append(left, x)
		}
	}
	return left
}

// Promise 13.1: an operation is covered by a Put, by a Remove and by a Reset, of an earlier transaction, of a later one, and of its own, wherever it is, and whatever it is.
func TestCovered(t *testing.T) {
	old := done(5, 5, 5, put(of("a"), 1), add(of("b"), 2), inc(of("c"), 3))
	for i := range old.Ops {
		x := ref(5, 5, i)
		for k, o := range coverers(of("z", "z"), x) {
			what := fmt.Sprint("operation ", i, " by ", k)
			for _, d := range []api.Dot{dotOf(0, 1), dotOf(5, 4), dotOf(4, mostSeq), dotOf(5, 6), dotOf(6, 1), dotOf(15, mostSeq)} {
				for _, time := range []int{1, 5, 6, mostTime} { // times matter nothing
					cover := done(d.R, d.N, time, inc(of("y"), 1), o)
					l := txn.Put(row(old), cover)
					left := slices.Concat(without(counted(l[0]), x), without(counted(l[1]), x))
					wantAll(t, what, l, nil, left...)
					wantAll(t, what, l, undos(api.Undo{D: d, N: 2}), left...)
					wantAll(t, what, l, undos(api.Undo{D: d, N: 1}), counted(old)...)
					wantAll(t, what, l, undos(un(5, 5, 1)), counted(cover)...)
				}
			}
			// of its own transaction, behind it and ahead of it
			own := done(5, 5, 5, append(slices.Clone(old.Ops), o)...)
			wantAll(t, what, row(own), nil, without(counted(own), x)...)
			wantAll(t, what, row(own), undos(un(5, 5, 1)))
			wantAll(t, what, row(own), undos(un(5, 5, 2)), without(counted(own), x)...)
			ahead := coverers(of("z"), ref(5, 5, i+1))[k]
			own = done(5, 5, 5, append([]api.Op{ahead}, old.Ops...)...)
			wantAll(t, what, row(own), nil, without(counted(own), ref(5, 5, i+1))...)
		}
	}
	// one that covers itself, by name, does not count
	wantAll(t, "itself", row(done(5, 5, 5, put(of("a"), 1, ref(5, 5, 0)))), nil)
	wantAll(t, "itself, of two", row(done(5, 5, 5, put(of("a"), 1, ref(5, 5, 0)), put(of("a"), 2))), nil, ref(5, 5, 1))
}

// Promise 13.1: neither the path, nor the Kind, nor the value of what covers is asked: just what it names.
func TestCoversByNameAlone(t *testing.T) {
	a := of("a")
	old := done(1, 1, 1, put(a, 1), put(a, 1), add(a, 1), inc(a, 1))
	for _, p := range paths() {
		for _, o := range coverers(p, ref(1, 1, 1), ref(1, 1, 3)) {
			wantAll(t, "by name", row(old, done(1, 2, 2, inc(p, 1), o)), nil, slices.Concat(refs(ref(1, 1, 0), ref(1, 1, 2), ref(1, 2, 0)), counted(done(1, 2, 2, api.Op{}, o)))...)
		}
		for _, o := range coverers(p) { // at the same path, of the same value, but naming none
			wantAll(t, "naming none", row(old, done(1, 2, 2, o)), nil, slices.Concat(counted(old), counted(done(1, 2, 2, o)))...)
		}
	}
}

// Promise 13.1: an operation is covered, if one of two that cover it counts.
func TestCoveredByTwo(t *testing.T) {
	x := ref(3, 3, 0)
	old := done(3, 3, 3, put(of("a"), 1), inc(of("b"), 1))
	for i, one := range coverers(of("a"), x) {
		for j, other := range coverers(of("a"), x) {
			for _, dots := range [][]api.Dot{{dotOf(3, 1), dotOf(3, 2)}, {dotOf(3, 2), dotOf(3, 4)}, {dotOf(4, 1), dotOf(5, 1)}, {dotOf(0, 1), dotOf(15, 1)}} {
				a, b := done(dots[0].R, dots[0].N, 1, inc(of("c"), 1), one), done(dots[1].R, dots[1].N, 9, other, inc(of("c"), 1))
				l := txn.Put(txn.Put(row(old), a), b)
				for n := range 4 {
					for m := range 4 {
						u := tally.Put(tally.Put(nil, api.Undo{D: a.D, N: n}), api.Undo{D: b.D, N: m})
						wanted := counted(old)
						if n%2 == 0 || m%2 == 0 {
							wanted = without(wanted, x)
						}
						if n%2 == 0 {
							wanted = append(wanted, counted(a)...)
						}
						if m%2 == 0 {
							wanted = append(wanted, counted(b)...)
						}
						slices.SortFunc(wanted, func(a, b api.Ref) int { return slowDots(a.D, b.D)*mostOps*2 + a.I - b.I })
						wantAll(t, fmt.Sprint(i, j, n, m), l, u, wanted...)
					}
				}
			}
			// by two of one transaction, and of its own and another one
			a := done(9, 1, 1, one, inc(of("c"), 1), other)
			wantAll(t, "two of one", row(old, a), nil, slices.Concat(refs(ref(3, 3, 1)), counted(a))...)
			wantAll(t, "two of one", row(old, a), undos(un(9, 1, 1)), counted(old)...)
			own := done(3, 3, 3, old.Ops[0], one)
			b := done(9, 1, 1, other)
			wantAll(t, "its own", row(own, b), nil, slices.Concat(without(counted(own), x), counted(b))...)
			wantAll(t, "its own", row(own, b), undos(un(9, 1, 1)), without(counted(own), x)...)
			wantAll(t, "its own", row(own, b), undos(un(3, 3, 1)), counted(b)...)
		}
	}
}

// Promise 13.1: one that is covered itself covers all the same; one whose transaction does not count covers nothing.
func TestCoveredThatCovers(t *testing.T) {
	a := of("a")
	l := row(done(1, 1, 1, put(a, 1)), done(1, 2, 2, put(a, 2, ref(1, 1, 0))), done(1, 3, 3, put(a, 3, ref(1, 2, 0))), done(1, 4, 4, put(a, 4, ref(1, 3, 0))))
	first, second, third, fourth := ref(1, 1, 0), ref(1, 2, 0), ref(1, 3, 0), ref(1, 4, 0)
	for i, c := range []struct {
		u    []api.Undo
		left []api.Ref
	}{
		{nil, refs(fourth)},
		{undos(un(1, 1, 1)), refs(fourth)},
		{undos(un(1, 2, 1)), refs(first, fourth)},
		{undos(un(1, 3, 1)), refs(second, fourth)},
		{undos(un(1, 4, 1)), refs(third)},
		{undos(un(1, 1, 1), un(1, 2, 1)), refs(fourth)},
		{undos(un(1, 2, 1), un(1, 3, 1)), refs(first, fourth)},
		{undos(un(1, 3, 1), un(1, 4, 1)), refs(second)},
		{undos(un(1, 2, 1), un(1, 4, 1)), refs(first, third)},
		{undos(un(1, 2, 1), un(1, 3, 1), un(1, 4, 1)), refs(first)},
		{undos(un(1, 1, 1), un(1, 3, 1), un(1, 4, 1)), refs(second)},
		{undos(un(1, 1, 1), un(1, 2, 1), un(1, 3, 1), un(1, 4, 1)), nil},
		{undos(un(1, 1, 2), un(1, 2, 4), un(1, 3, 6), un(1, 4, 64)), refs(fourth)},
	} {
		wantAll(t, fmt.Sprint("a chain ", i), l, c.u, c.left...)
	}
	// a Reset is named, too: nothing of it is taken away, and it covers as ahead
	l = row(done(1, 1, 1, inc(a, 1)), done(1, 2, 2, reset(a, ref(1, 1, 0))), done(1, 3, 3, reset(a, ref(1, 2, 0))), done(1, 4, 4, remove(a, 1, ref(1, 2, 0), ref(1, 3, 0)), inc(a, 5)))
	wantAll(t, "a Reset that is named", l, nil, ref(1, 4, 1))
	wantAll(t, "a Reset that is undone", l, undos(un(1, 2, 1)), ref(1, 1, 0), ref(1, 4, 1))
	wantAll(t, "and the others", l, undos(un(1, 3, 1), un(1, 4, 1)))
	// within one transaction
	l = row(done(1, 1, 1, put(a, 1), put(a, 2, ref(1, 1, 0)), put(a, 3, ref(1, 1, 1)), put(a, 4, ref(1, 1, 2))))
	wantAll(t, "a chain of its own", l, nil, ref(1, 1, 3))
}

// Promise 13.1: of two transactions of which each covers an operation of the other one, and of a ring of three.
func TestCoveredByEachOther(t *testing.T) {
	a := of("a")
	l := row(done(1, 1, 1, put(a, 1, ref(2, 1, 0)), put(a, 2)), done(2, 1, 2, put(a, 3), put(a, 4, ref(1, 1, 1))))
	wantAll(t, "both", l, nil, ref(1, 1, 0), ref(2, 1, 1))
	wantAll(t, "the first one undone", l, undos(un(1, 1, 1)), ref(2, 1, 0), ref(2, 1, 1))
	wantAll(t, "the second one undone", l, undos(un(2, 1, 3)), ref(1, 1, 0), ref(1, 1, 1))
	wantAll(t, "both undone", l, undos(un(1, 1, 1), un(2, 1, 1)))
	// just the two that cover
	l = row(done(1, 1, 1, put(a, 1, ref(2, 1, 0))), done(2, 1, 2, put(a, 2, ref(1, 1, 0))))
	wantAll(t, "each other", l, nil)
	wantAll(t, "each other, one undone", l, undos(un(1, 1, 1)), ref(2, 1, 0))
	wantAll(t, "each other, the other one undone", l, undos(un(2, 1, 1)), ref(1, 1, 0))
	l = row(done(1, 1, 1, put(a, 1, ref(2, 1, 0))), done(2, 1, 2, put(a, 2, ref(3, 1, 0))), done(3, 1, 2, put(a, 2, ref(1, 1, 0))))
	wantAll(t, "a ring", l, nil)
	wantAll(t, "a ring, one undone", l, undos(un(2, 1, 1)), ref(3, 1, 0))
}

// Promise 13.1: what names nothing that is there takes nothing away: a dot that is none's, a place past the operations, a Remove, a Reset; and one may name many.
func TestSeenOfOthers(t *testing.T) {
	a := of("a")
	old := done(4, 4, 4, inc(a, 1), remove(a, 1), reset(a), add(a, 1))
	for i, x := range refs(ref(4, 3, 0), ref(4, 5, 0), ref(3, 4, 0), ref(5, 4, 0), ref(0, 1, 0), ref(15, mostSeq, 15), ref(0, 4, 0), ref(4, 1, 0), ref(4, 4, 4), ref(4, 4, 5), ref(4, 4, 15), ref(4, 4, 1), ref(4, 4, 2)) {
		for _, o := range coverers(a, x) {
			cover := done(9, 9, 9, o)
			wantAll(t, fmt.Sprint("of another one ", i), row(old, cover), nil, slices.Concat(counted(old), counted(cover))...)
		}
	}
	for k := range 20 { // whose number is another one in a single bit
		for _, o := range coverers(a, ref(4, 4^1<<k, 0), ref(5, 4, 3)) {
			if k != 2 {
				wantAll(t, fmt.Sprint("of another one, bit ", k), row(old, done(9, 9, 9, o)), nil, slices.Concat(counted(old), counted(done(9, 9, 9, o)))...)
			}
		}
	}
	// 256 names, of which all are there, or every second one
	var l []api.Txn
	var all, some []api.Ref
	for i := range 2 * mostSeen / mostOps {
		t := done(i%2, i/2+1, 1, slices.Repeat([]api.Op{inc(a, 1)}, mostOps)...)
		l = txn.Put(l, t)
	}
	for _, t := range l {
		all = append(all, counted(t)...)
	}
	for i, x := range all {
		if i%2 == 0 {
			some = append(some, x)
		}
	}
	for _, o := range coverers(a, some...) {
		cover := done(9, 9, 9, o)
		wantAll(t, "every second one", append(slices.Clone(l), cover), nil, slices.Concat(without(all, some...), counted(cover))...)
		wantAll(t, "every second one, undone", append(slices.Clone(l), cover), undos(un(9, 9, 1)), all...)
	}
	for _, o := range coverers(a, all[:mostSeen]...) {
		for _, p := range coverers(a, all[mostSeen:]...) {
			cover := done(9, 9, 9, o, p)
			wantAll(t, "all", append(slices.Clone(l), cover), nil, counted(cover)...)
			wantAll(t, "the second half", append(slices.Clone(l), done(9, 8, 1, o), done(9, 9, 9, p)), undos(un(9, 8, 1)), slices.Concat(all[:mostSeen], counted(done(9, 9, 9, p)))...)
		}
	}
}

// Promise 13.1: items are told in the order of the transactions, then of their places, whatever the Time.
func TestAllInOrder(t *testing.T) {
	l := row(done(0, 1, 9, inc(of("z"), 1), inc(of("b"), 2)), done(0, 2, 3, add(of("y"), 3)), done(0, 10, 8, put(of("c"), 4), put(of("a"), 5), reset(of("q")), add(of("b"), 6)), done(1, 1, 1, inc(of("a"), 7)), done(2, 9, 3, inc(of("a"), 8)), done(10, 2, 2, inc(of("a"), 9)))
	wantAll(t, "in order", l, nil, ref(0, 1, 0), ref(0, 1, 1), ref(0, 2, 0), ref(0, 10, 0), ref(0, 10, 1), ref(0, 10, 3), ref(1, 1, 0), ref(2, 9, 0), ref(10, 2, 0))
	want(t, "in order", All(l, undos(un(0, 10, 1), un(1, 1, 2))), items(
		Item{ref(0, 1, 0), inc(of("z"), 1), 9}, Item{ref(0, 1, 1), inc(of("b"), 2), 9}, Item{ref(0, 2, 0), add(of("y"), 3), 3},
		Item{ref(1, 1, 0), inc(of("a"), 7), 1}, Item{ref(2, 9, 0), inc(of("a"), 8), 3}, Item{ref(10, 2, 0), inc(of("a"), 9), 2}))
}

// Promise 13.1: all that four operations of two transactions may cover of each other, and of three transactions with one each, by all counts.
func TestAllSmall(t *testing.T) {
	named := refs(ref(1, 1, 0), ref(1, 1, 1), ref(2, 1, 0), ref(2, 1, 1))
	seen := make([][]api.Ref, 16)
	for i := range seen {
		for k, x := range named {
			if i>>k%2 == 1 {
				seen[i] = append(seen[i], x)
			}
		}
	}
	counts := [][]api.Undo{nil, undos(un(1, 1, 1)), undos(un(2, 1, 1)), undos(un(1, 1, 1), un(2, 1, 1))}
	p := of("a")
	for i := range 1 << 16 {
		var ops []api.Op
		for k := range 4 {
			ops = append(ops, put(p, k, seen[i>>(4*k)%16]...))
		}
		ops[i%3].Kind += i / 3 % 2 * (api.Reset - api.Put) // some that are no items
		l := row(done(1, 1, 1, ops[:2]...), done(2, 1, 2, ops[2:]...))
		for k, u := range counts {
			if got, wanted := All(l, u), slowAll(l, u); !alike(got, wanted) {
				t.Fatalf("%d, %d: %s, want %s", i, k, short(got), short(wanted))
			}
		}
	}
	named = refs(ref(1, 1, 0), ref(1, 2, 0), ref(2, 1, 0))
	for i := range 1 << 9 {
		var l []api.Txn
		for k, x := range named {
			o := put(p, k)
			for m, y := range named {
				if i>>(3*k+m)%2 == 1 {
					o.Seen = append(o.Seen, y)
				}
			}
			l = append(l, done(x.D.R, x.D.N, k+1, o))
		}
		for n := range 64 {
			var u []api.Undo
			for k, x := range named {
				u = tally.Put(u, api.Undo{D: x.D, N: n >> (2 * k) % 4})
			}
			if got, wanted := All(l, u), slowAll(l, u); !alike(got, wanted) {
				t.Fatalf("%d, %d: %s, want %s", i, n, short(got), short(wanted))
			}
		}
	}
}

// Promise 13.1: of many that cover each other as it comes, held against the document's words.
func TestAllOfStores(t *testing.T) {
	for i, s := range stores() {
		want(t, fmt.Sprint("store ", i), All(s.l, s.u), slowAll(s.l, s.u))
		want(t, fmt.Sprint("store ", i, " without counts"), All(s.l, nil), slowAll(s.l, nil))
		if got := Refs(All(s.l, s.u)); !slices.Equal(got, namesOf(slowAll(s.l, s.u))) {
			t.Fatalf("store %d: %s", i, short(got))
		}
	}
}

// Promise 13.1: a thousand transactions, and each of them covered by the next one.
func TestAllOfThousand(t *testing.T) {
	var l []api.Txn
	var u []api.Undo
	var left []api.Ref
	for i := range api.MaxTxns {
		o := put(of("a"), i)
		if i > 0 {
			o.Seen = refs(ref(0, i, 0))
		}
		l = append(l, done(0, i+1, i+1, o))
		if i%3 == 2 {
			u = append(u, un(0, i+1, 1+i%4/2*2))
		}
		if i%3 == 1 || i == api.MaxTxns-1 {
			left = append(left, ref(0, i+1, 0))
		}
	}
	wantAll(t, "a chain", l, nil, ref(0, api.MaxTxns, 0))
	wantAll(t, "a chain, some of it undone", l, u, left...)
}

// told tells the items of many stores.
func told() (all [][]Item) {
	for _, s := range stores() {
		all = append(all, slowAll(s.l, s.u))
	}
	return all
}

// namesOf tells items' names.
func namesOf(l []Item) (all []api.Ref) {
	for _, x := range l {
		all = append(all, x.X)
	}
	return all
}

// many tells items at all paths, of all Kinds that items have, no two of which are alike.
func many() (l []Item) {
	n := 0
	for range 2 {
		for _, p := range paths() {
			for _, o := range []api.Op{put(p, n), add(p, n), inc(p, n+1), put(p, n, ref(1, 1, 1))} {
				n++
				l = append(l, Item{ref(n%3, n, n%16), o, 1 + n%5})
			}
		}
	}
	return l
}

// Promise 13.1: At tells those of a path and a leaf, in order.
func TestAt(t *testing.T) {
	a, b := of("a"), of("a", "b")
	one, two, three, four, five := Item{ref(0, 1, 0), put(a, 1), 1}, Item{ref(0, 1, 1), add(b, 2), 1}, Item{ref(0, 2, 0), inc(b, 3), 2}, Item{ref(1, 1, 0), put(b, 4), 3}, Item{ref(1, 2, 0), put(a, 5), 3}
	l := items(one, two, three, four, five)
	for i, c := range []struct {
		p    []string
		leaf int
		want []Item
	}{
		{a, op.Register, items(one, five)}, {a, op.Bag, nil}, {a, op.Counter, nil}, {a, op.None, nil}, {a, -1, nil}, {a, 4, nil}, {a, 5, nil}, {a, math.MinInt, nil}, {a, math.MaxInt, nil}, {a, 1 << 32, nil}, {a, 1<<32 + 1, nil}, {a, -3, nil},
		{b, op.Register, items(four)}, {b, op.Bag, items(two)}, {b, op.Counter, items(three)}, {b, op.None, nil}, {b, -1, nil}, {b, 4, nil},
		{of("a", "b", "c"), op.Register, nil}, {of("a", "b", "c"), op.Bag, nil}, {of("b"), op.Register, nil}, {of("A"), op.Register, nil}, {of("ab"), op.Bag, nil}, {of("a/b"), op.Bag, nil}, {of("a", "bc"), op.Bag, nil},
		{of("a", ""), op.Register, nil}, {of(""), op.Register, nil}, {of("", "a"), op.Register, nil}, {nil, op.Register, nil}, {of(), op.Register, nil}, {nil, op.None, nil}, {of("b", "a"), op.Bag, nil}, {of("a", "a"), op.Register, nil},
	} {
		want(t, fmt.Sprint("at ", i), At(l, c.p, c.leaf), c.want)
		want(t, fmt.Sprint("of none at ", i), At(nil, c.p, c.leaf), nil)
		want(t, fmt.Sprint("of none at ", i), At([]Item{}, c.p, c.leaf), nil)
		want(t, fmt.Sprint("of one at ", i), At(l[1:2], c.p, c.leaf), slowAt(l[1:2], c.p, c.leaf))
	}
	lists := told()
	for _, leaf := range []int{-1, 0, 1, 2, 3, 4} {
		for _, p := range append(paths(), nil, of(), of(""), of("a", "b", "c", "d"), of("a", "b", "c", "d", "e", "f", "g"), of("x"), of("bc")) {
			want(t, fmt.Sprint("at ", p, leaf), At(many(), p, leaf), slowAt(many(), p, leaf))
			for _, l := range lists {
				want(t, fmt.Sprint("at ", p, leaf), At(l, p, leaf), slowAt(l, p, leaf))
			}
		}
	}
}

// Promise 13.1: At asks for the leaf alone, and not for the Kind: Removes and Resets, which All does not tell, have theirs.
func TestAtOfOtherKinds(t *testing.T) {
	a := of("a")
	l := items(Item{ref(0, 1, 0), remove(a, 1), 1}, Item{ref(0, 1, 1), reset(a), 1}, Item{ref(0, 1, 2), add(a, 1), 1})
	want(t, "a bag", At(l, a, op.Bag), items(l[0], l[2]))
	want(t, "no leaf", At(l, a, op.None), l[1:2])
	want(t, "a register", At(l, a, op.Register), nil)
}

// Promise 13.1: Under tells those whose path begins with another one, part by part.
func TestUnder(t *testing.T) {
	l := items(Item{ref(0, 1, 0), put(of("a"), 1), 1}, Item{ref(0, 1, 1), add(of("a", "b"), 2), 1}, Item{ref(0, 2, 0), inc(of("ab"), 3), 2}, Item{ref(1, 1, 0), put(of("a", "b", "c"), 4), 3}, Item{ref(1, 2, 0), put(of("b"), 5), 3}, Item{ref(1, 2, 1), put(of("a", "bc"), 6), 3}, Item{ref(1, 2, 2), put(of("a/b"), 7), 3})
	pick := func(places ...int) (some []Item) {
		for _, i := range places {
			some = append(some, l[i])
		}
		return some
	}
	for i, c := range []struct {
		p    []string
		want []Item
	}{
		{nil, l}, {of(), l}, {of("a"), pick(0, 1, 3, 5)}, {of("a", "b"), pick(1, 3)}, {of("a", "b", "c"), pick(3)}, {of("a", "b", "c", "d"), nil}, {of("ab"), pick(2)}, {of("b"), pick(4)}, {of("a", "bc"), pick(5)}, {of("a/b"), pick(6)},
		{of("a/"), nil}, {of("c"), nil}, {of("A"), nil}, {of(""), nil}, {of("a", ""), nil}, {of("", "a"), nil}, {of("a", "c"), nil}, {of("b", "a"), nil}, {of("abc"), nil}, {of("a", "a"), nil}, {of("b", "b"), nil},
	} {
		want(t, fmt.Sprint("under ", i), Under(l, c.p), c.want)
		want(t, fmt.Sprint("of none under ", i), Under(nil, c.p), nil)
		want(t, fmt.Sprint("of none under ", i), Under([]Item{}, c.p), nil)
	}
	lists := told()
	for _, p := range paths() {
		for i := range len(p) + 1 {
			for _, q := range [][]string{p[:i], append(p[:i:i], "b"), append(p[:i:i], "x")} {
				want(t, fmt.Sprint("under ", q), Under(many(), q), slowUnder(many(), q))
				for _, l := range lists {
					want(t, fmt.Sprint("under ", q), Under(l, q), slowUnder(l, q))
				}
			}
		}
	}
}

// Promise 13.1: Refs tells which ones items are: none, one, many, one of them twice, in their order.
func TestRefs(t *testing.T) {
	for i, c := range []struct {
		l    []Item
		want []api.Ref
	}{
		{nil, nil}, {[]Item{}, nil}, {items(Item{}), refs(api.Ref{})},
		{items(Item{ref(3, 4, 5), put(of("a"), 1, ref(6, 7, 8)), 9}), refs(ref(3, 4, 5))},
		{items(Item{X: ref(3, 4, 5)}, Item{X: ref(0, 1, 15)}, Item{X: ref(15, mostSeq, 0)}), refs(ref(3, 4, 5), ref(0, 1, 15), ref(15, mostSeq, 0))},
		{items(Item{X: ref(3, 4, 5)}, Item{X: ref(3, 4, 5)}), refs(ref(3, 4, 5), ref(3, 4, 5))},
		{many(), namesOf(many())},
	} {
		if got := Refs(c.l); !slices.Equal(got, c.want) {
			t.Errorf("%d: %v, want %v", i, got, c.want)
		}
	}
}

// Promise 13.1: a transaction stands in its place, unless there is one of its dot, or it has no operations.
func TestWith(t *testing.T) {
	l := row(done(1, 2, 5, inc(of("a"), 1)), done(1, 4, 3, inc(of("a"), 2)), done(3, 1, 1, inc(of("a"), 3), inc(of("b"), 1)))
	for i, c := range []struct {
		d     api.Dot
		place int
	}{
		{dotOf(0, 1), 0}, {dotOf(0, mostSeq), 0}, {dotOf(1, 1), 0}, {dotOf(1, 3), 1}, {dotOf(1, 5), 2}, {dotOf(1, mostSeq), 2}, {dotOf(2, 1), 2}, {dotOf(2, mostSeq), 2}, {dotOf(3, 2), 3}, {dotOf(4, 1), 3}, {dotOf(15, mostSeq), 3},
		{dotOf(1, 2), -1}, {dotOf(1, 4), -1}, {dotOf(3, 1), -1},
	} {
		for _, x := range row(done(c.d.R, c.d.N, 1, inc(of("a"), 1)), thinned(done(c.d.R, c.d.N, mostTime, api.Op{})), done(c.d.R, c.d.N, 5, put(of("x"), 1, ref(1, 2, 0)), reset(of("y")))) {
			wanted := l
			if c.place >= 0 {
				wanted = slices.Insert(slices.Clone(l), c.place, x)
			}
			if got := With(l, x); !alikeTxns(got, wanted) || !alikeTxns(got, slowWith(l, x)) || !txn.Rises(got) {
				t.Errorf("%d: %s", i, short(got))
			}
			for _, none := range [][]api.Txn{nil, {}, l[:0]} {
				if got := With(none, x); !alikeTxns(got, row(x)) {
					t.Errorf("%d alone: %s", i, short(got))
				}
			}
			if got := With(l[:1], x); !alikeTxns(got, slowWith(l[:1], x)) {
				t.Errorf("%d with one: %s", i, short(got))
			}
			for _, ops := range [][]api.Op{nil, {}, x.Ops[:0], make([]api.Op, 0, 9)} {
				for _, thin := range []bool{false, true} {
					y := api.Txn{D: x.D, User: x.User, Time: x.Time, Thin: thin, Ops: ops}
					if got := With(l, y); !alikeTxns(got, l) {
						t.Errorf("%d without operations: %s", i, short(got))
					}
					if len(With(nil, y)) != 0 || len(With([]api.Txn{}, y)) != 0 {
						t.Errorf("%d without operations, alone", i)
					}
				}
			}
		}
	}
	for _, x := range l { // one that is there, alike
		if got := With(l, x); !alikeTxns(got, l) {
			t.Errorf("once more: %s", short(got))
		}
	}
	if got := With(l, api.Txn{}); !alikeTxns(got, l) {
		t.Errorf("nothing: %s", short(got))
	}
	for _, s := range stores()[:100] {
		for i, x := range s.l {
			left := slices.Delete(slices.Clone(s.l), i, i+1)
			if !alikeTxns(With(left, x), s.l) || !alikeTxns(With(s.l, x), s.l) || !alikeTxns(With(left, api.Txn{D: x.D}), left) {
				t.Fatalf("with %s", short(x))
			}
		}
	}
}

// Promise 13.1: what a transaction that is not yet done covers, and adds, counts with it.
func TestAllWith(t *testing.T) {
	a := of("a")
	l := row(done(1, 1, 1, put(a, 1)), done(3, 1, 2, inc(of("b"), 2)))
	open := api.Txn{D: dotOf(2, 1), User: 1, Time: 3}
	wantAll(t, "without operations", With(l, open), nil, ref(1, 1, 0), ref(3, 1, 0))
	open.Ops = append(open.Ops, put(a, 2, ref(1, 1, 0)))
	wantAll(t, "with one", With(l, open), nil, ref(2, 1, 0), ref(3, 1, 0))
	open.Ops = append(open.Ops, reset(a, ref(2, 1, 0)), inc(a, 9))
	wantAll(t, "with three", With(l, open), nil, ref(2, 1, 2), ref(3, 1, 0))
	wantAll(t, "undone", With(l, open), undos(un(2, 1, 1)), ref(1, 1, 0), ref(3, 1, 0))
}

// unlike tells items that are unlike one, each in one thing alone.
func unlike(x Item) (l []Item) {
	change := func(f func(y *Item)) {
		y := copiedItems(items(x))[0]
		f(&y)
		l = append(l, y)
	}
	for _, k := range []int{-1, 1, 1 << 32} {
		change(func(y *Item) { y.X.D.R += k })
		change(func(y *Item) { y.X.D.N += k })
		change(func(y *Item) { y.X.I += k })
		change(func(y *Item) { y.Time += k })
		change(func(y *Item) { y.O.Kind += k })
		change(func(y *Item) { y.O.N += k })
		change(func(y *Item) { y.O.V.N += k })
		change(func(y *Item) { y.O.V.Kind += k })
	}
	change(func(y *Item) { y.Time = -y.Time })
	change(func(y *Item) { y.O.V.S += "x" })
	change(func(y *Item) { y.O.Path = append(y.O.Path, "x") })
	change(func(y *Item) { y.O.Path = append(of("x"), y.O.Path...) })
	change(func(y *Item) { y.O.Path[0] += "x" })
	change(func(y *Item) { y.O.Path[len(y.O.Path)-1] += "y" })
	change(func(y *Item) { y.O.Path = y.O.Path[1:] })
	change(func(y *Item) { y.O.Path = y.O.Path[:len(y.O.Path)-1] })
	change(func(y *Item) { y.O.Seen = append(y.O.Seen, ref(15, mostSeq, 15)) })
	change(func(y *Item) { y.O.Seen = append(refs(ref(0, 1, 0)), y.O.Seen...) })
	change(func(y *Item) { y.O.Seen = y.O.Seen[1:] })
	change(func(y *Item) { y.O.Seen = y.O.Seen[:len(y.O.Seen)-1] })
	change(func(y *Item) { y.O.Seen[0].D.R++ })
	change(func(y *Item) { y.O.Seen[0].D.N++ })
	change(func(y *Item) { y.O.Seen[len(y.O.Seen)-1].I++ })
	return l
}

// wantSame holds Same, both ways round, against what is wanted.
func wantSame(t *testing.T, a, b []Item, wanted bool) {
	t.Helper()
	if Same(a, b) != wanted || Same(b, a) != wanted {
		t.Errorf("%s and %s: not %t", short(a), short(b), wanted)
	}
}

// Promise 13.1: items are the same, if all of each is; nil and empty lists are.
func TestSame(t *testing.T) {
	x := Item{ref(3, 4, 5), api.Op{Kind: api.Put, Path: of("a", "b"), V: api.Value{Kind: api.Text, S: "t"}, Seen: refs(ref(1, 1, 1), ref(1, 2, 0))}, 7}
	wantSame(t, nil, nil, true)
	wantSame(t, nil, []Item{}, true)
	wantSame(t, nil, items(x)[:0], true)
	wantSame(t, nil, items(x), false)
	wantSame(t, []Item{}, items(Item{}), false)
	wantSame(t, items(Item{}), items(Item{}), true)
	wantSame(t, items(Item{}), items(Item{}, Item{}), false)
	wantSame(t, items(Item{O: api.Op{Path: of(), Seen: refs()}}), items(Item{}), true)
	wantSame(t, items(x), copiedItems(items(x)), true)
	for i, y := range unlike(x) {
		for n := 1; n <= 4; n++ { // the first one, one between, or the last one
			a := slices.Repeat(items(x), n)
			for k := range n {
				b := copiedItems(a)
				b[k] = y
				wantSame(t, a, b, false)
				wantSame(t, b, copiedItems(b), true)
			}
		}
		for _, z := range unlike(x)[:i] {
			wantSame(t, items(y), items(z), alikeItems(y, z))
		}
	}
	all := many()
	wantSame(t, all, copiedItems(all), true)
	for i := range all {
		wantSame(t, all[:i], all, false)
		wantSame(t, all[i+1:], all, false)
		wantSame(t, all[:i], all[:i:i], true)
		wantSame(t, slices.Delete(slices.Clone(all), i, i+1), all, false)
		for k := range i {
			b := slices.Clone(all)
			b[i], b[k] = b[k], b[i]
			wantSame(t, all, b, false)
		}
	}
	for _, s := range stores()[:100] {
		wantSame(t, All(s.l, s.u), All(copied(s.l), slices.Clone(s.u)), true)
	}
}

// turned tells counts, one of which is raised.
func turned(t *testing.T, u []api.Undo, d api.Dot) []api.Undo {
	t.Helper()
	x, e := tally.Raise(u, d)
	if e != api.OK {
		t.Fatalf("%v can't be raised: %d", d, e)
	}
	return tally.Put(u, x)
}

// Promise 13.2: a transaction that does not count matters no more than if it was not there, and none of its operations is told.
func TestUncountedMattersNothing(t *testing.T) {
	for i, s := range stores() {
		var left []api.Txn
		for _, x := range s.l {
			if slowCounts(s.u, x.D) {
				left = append(left, x)
			}
		}
		got := All(s.l, s.u)
		for _, x := range got {
			if !slowCounts(s.u, x.X.D) {
				t.Fatalf("store %d: %v does not count", i, x.X)
			}
		}
		if !Same(got, All(left, s.u)) || !Same(got, All(left, nil)) {
			t.Fatalf("store %d: without those that don't count %s, want %s", i, short(All(left, nil)), short(got))
		}
		if i > 150 {
			continue
		}
		for k, x := range s.l { // one alone, left out while it does not count
			if slowCounts(s.u, x.D) {
				continue
			}
			if others := slices.Delete(slices.Clone(s.l), k, k+1); !Same(got, All(others, s.u)) {
				t.Fatalf("store %d: without %v %s, want %s", i, x.D, short(All(others, s.u)), short(got))
			}
		}
	}
}

// Promise 13.2: one that is undone and redone leaves what was told ahead, by one user, and by two at two replicas that do so at once.
func TestUndoneAndRedone(t *testing.T) {
	for i, s := range stores()[:200] {
		ahead := All(s.l, s.u)
		for _, x := range s.l {
			once := turned(t, s.u, x.D)
			twice := turned(t, once, x.D)
			want(t, fmt.Sprint("store ", i, " undone and redone ", x.D), All(s.l, twice), ahead)
			// a second replica undoes what the first one undid, not having seen that: both together it is undone once
			other := turned(t, s.u, x.D)
			want(t, fmt.Sprint("store ", i, " undone twice at once ", x.D), All(s.l, tally.Join(once, other)), All(s.l, once))
			// one redoes it, and the other one has seen no more than the undo: the redo stands
			want(t, fmt.Sprint("store ", i, " redone ", x.D), All(s.l, tally.Join(twice, other)), ahead)
			want(t, fmt.Sprint("store ", i, " redone twice at once ", x.D), All(s.l, tally.Join(turned(t, once, x.D), turned(t, other, x.D))), ahead)
			want(t, fmt.Sprint("store ", i, " undone thrice ", x.D), All(s.l, turned(t, twice, x.D)), All(s.l, once))
		}
		// two transactions undone, and redone in any order
		if len(s.l) < 2 {
			continue
		}
		a, b := s.l[0].D, s.l[len(s.l)-1].D
		both := turned(t, turned(t, s.u, a), b)
		want(t, fmt.Sprint("store ", i, " both undone"), All(s.l, turned(t, turned(t, s.u, b), a)), All(s.l, both))
		want(t, fmt.Sprint("store ", i, " both redone"), All(s.l, turned(t, turned(t, both, a), b)), ahead)
		want(t, fmt.Sprint("store ", i, " both redone"), All(s.l, turned(t, turned(t, both, b), a)), ahead)
	}
}

// Promise 13.2: an undo takes away all of its transaction, and brings back what it covered, unless somebody else covers it, or its own transaction does not count; all else stays.
func TestUndoneBringsBack(t *testing.T) {
	back, still, uncounted := 0, 0, 0
	for i, s := range stores()[:310] {
		ahead := All(s.l, s.u)
		for _, x := range s.l {
			if !slowCounts(s.u, x.D) {
				continue
			}
			u := turned(t, s.u, x.D)
			got := namesOf(All(s.l, u))
			var wanted []api.Ref
			for _, other := range s.l {
				for _, y := range counted(other) {
					was := slices.Contains(namesOf(ahead), y)
					others := slices.ContainsFunc(s.l, func(z api.Txn) bool { return z.D != x.D && slowCounts(s.u, z.D) && slowCovers(z, y) })
					switch {
					case other.D == x.D:
					case was:
						wanted = append(wanted, y)
					case !slowCovers(x, y):
					case !slowCounts(s.u, other.D):
						uncounted++
					case others:
						still++
					default:
						back++
						wanted = append(wanted, y)
					}
				}
			}
			if !slices.Equal(got, wanted) {
				t.Fatalf("store %d, %v undone: %s, want %s", i, x.D, short(got), short(wanted))
			}
		}
	}
	if back < 50 || still < 50 || uncounted < 50 {
		t.Errorf("%d are back, %d are still covered, %d are of such as don't count", back, still, uncounted)
	}
}

// Promise 13.2: what an undone transaction covered, step by step.
func TestUndoneStepByStep(t *testing.T) {
	a := of("a")
	l := row(done(1, 1, 1, put(a, 1), inc(of("n"), 1)), done(1, 2, 2, put(a, 2, ref(1, 1, 0)), reset(of("n"), ref(1, 1, 1))), done(2, 1, 3, put(a, 3, ref(1, 1, 0))))
	wantAll(t, "all count", l, nil, ref(1, 2, 0), ref(2, 1, 0))
	wantAll(t, "somebody else covers the first one", l, undos(un(1, 2, 1)), ref(1, 1, 1), ref(2, 1, 0))
	wantAll(t, "somebody else covers all", l, undos(un(2, 1, 1)), ref(1, 2, 0))
	wantAll(t, "nobody covers", l, undos(un(1, 2, 1), un(2, 1, 1)), ref(1, 1, 0), ref(1, 1, 1))
	wantAll(t, "its own does not count", l, undos(un(1, 1, 1), un(1, 2, 1), un(2, 1, 1)))
	wantAll(t, "all redone", l, undos(un(1, 1, 2), un(1, 2, 2), un(2, 1, 2)), ref(1, 2, 0), ref(2, 1, 0))
}

// Promise 13.2: all operations of a transaction appear and vanish together, if nobody covers one of them.
func TestTogether(t *testing.T) {
	for n := 1; n <= mostOps; n++ {
		var ops []api.Op
		for i := range n {
			ops = append(ops, []api.Op{put(of("a"), i), add(of("b"), i), inc(of("c"), i+1)}[i%3])
		}
		x := done(3, 3, 3, ops...)
		l := row(done(1, 1, 1, inc(of("d"), 1)), x, done(4, 4, 4, inc(of("e"), 1)))
		var u []api.Undo
		for i := range mostUndo + 1 {
			wanted := refs(ref(1, 1, 0))
			if i%2 == 0 {
				wanted = append(wanted, counted(x)...)
			}
			wantAll(t, fmt.Sprint(n, " turned ", i), l, u, append(wanted, ref(4, 4, 0))...)
			if i < mostUndo {
				u = turned(t, u, x.D)
			}
		}
	}
}

// guarded tells a store whose lists all have others behind them, and ahead of them, in the same memory, and whether all is as it was.
func guarded(s stored) (stored, func() bool) {
	var parts []string
	var seen []api.Ref
	var ops []api.Op
	txns, counts := row(done(15, 1, 1, reset(of("a"), ref(0, 1, 0)))), undos(un(0, 1, 1))
	var named []api.Ref
	for _, t := range s.l {
		named = append(named, counted(t)...)
	}
	named = append(named, ref(0, 1, 0))
	for _, t := range s.l {
		for _, o := range t.Ops {
			parts, seen = append(append(parts, o.Path...), "b", "\xFF"), append(append(seen, o.Seen...), named...)
		}
	}
	keptParts, keptSeen := slices.Clone(parts), slices.Clone(seen)
	p, k := 0, 0
	for _, t := range s.l {
		for _, o := range t.Ops {
			o.Path, o.Seen = parts[p:p+len(o.Path)], seen[k:k+len(o.Seen)]
			p, k = p+len(o.Path)+2, k+len(o.Seen)+len(named)
			ops = append(ops, o)
		}
		ops = append(ops, inc(of("a"), 77), reset(of("a"), named...))
	}
	at := 0
	for _, t := range s.l {
		t.Ops = ops[at : at+len(t.Ops)]
		at += len(t.Ops) + 2
		txns = append(txns, t)
	}
	txns = append(txns, done(15, mostSeq, 1, inc(of("a"), 1), reset(of("a"), named...)), done(15, 1, 1, reset(of("a"), named...)))
	for _, x := range s.u {
		counts = append(counts, x)
	}
	for _, t := range s.l {
		counts = append(counts, api.Undo{D: t.D, N: 1})
	}
	keptTxns, keptOps, keptCounts := copied(txns), copied(row(api.Txn{Ops: ops}))[0].Ops, slices.Clone(counts)
	g := stored{txns[1 : 1+len(s.l)], counts[1 : 1+len(s.u)]}
	return g, func() bool {
		return alikeTxns(txns, keptTxns) && slices.EqualFunc(ops, keptOps, alikeOps) && slices.Equal(parts, keptParts) && slices.Equal(seen, keptSeen) && slices.Equal(counts, keptCounts)
	}
}

// R4: no list that came in is changed, nor what lies behind its length read or written, also where lists share memory.
func TestNothingIsChanged(t *testing.T) {
	for i, s := range stores()[:150] {
		g, kept := guarded(s)
		wanted := slowAll(s.l, s.u)
		got := All(g.l, g.u)
		want(t, fmt.Sprint("store ", i), got, wanted)
		if !slices.Equal(Refs(got), namesOf(wanted)) || !Same(got, wanted) || !Same(got, All(g.l, g.u)) {
			t.Fatalf("store %d: %s", i, short(got))
		}
		behind := append(slices.Clone(got), Item{ref(0, 1, 0), put(of("a"), 1), 1}, Item{ref(0, 1, 1), add(of("a"), 1), 1}) // some that lie behind
		few := behind[:len(got)]
		keptItems := copiedItems(behind)
		for _, x := range behind {
			for n := range len(x.O.Path) + 1 {
				p := x.O.Path[:n] // the items' own memory: behind it lies more of the path
				want(t, fmt.Sprint("store ", i, " under ", p), Under(few, p), slowUnder(few, p))
				for leaf := range 5 {
					want(t, fmt.Sprint("store ", i, " at ", p), At(few, p, leaf), slowAt(few, p, leaf))
				}
			}
		}
		if !slices.Equal(Refs(few), namesOf(wanted)) || !Same(few, wanted) || Same(few, behind) || !Same(few, behind[:len(got):len(got)]) {
			t.Fatalf("store %d: what lies behind is read", i)
		}
		for k, x := range s.l {
			if !alikeTxns(With(g.l, g.l[k]), s.l) || !alikeTxns(With(g.l[:k], g.l[k]), s.l[:k+1]) || !alikeTxns(With(g.l[k+1:], g.l[k]), s.l[k:]) || !alikeTxns(With(g.l[:k], api.Txn{D: x.D, Ops: g.l[k].Ops[:0]}), s.l[:k]) {
				t.Fatalf("store %d: with %v", i, x.D)
			}
			other := api.Txn{D: dotOf(15, mostSeq-1), User: 1, Time: 1, Ops: g.l[k].Ops}
			if !alikeTxns(With(g.l, other), slowWith(s.l, api.Txn{D: other.D, User: 1, Time: 1, Ops: x.Ops})) {
				t.Fatalf("store %d: with another one", i)
			}
		}
		if !kept() || !alike(behind, keptItems) {
			t.Fatalf("store %d was changed", i)
		}
	}
}

// R4: answers that are changed change neither what came in, nor each other.
func TestAnswersAreNew(t *testing.T) {
	s := stores()[200]
	l, u := copied(s.l), slices.Clone(s.u)
	wanted := slowAll(s.l, s.u)
	all := All(l, u)
	changed := All(l, u)
	for i := range changed[:cap(changed)] {
		changed[:cap(changed)][i] = Item{X: ref(-7, -7, -7), O: inc(of("spoilt"), 7), Time: -7}
	}
	spoilItems := func(some []Item) {
		for i := range some[:cap(some)] {
			some[:cap(some)][i] = Item{X: ref(-7, -7, -7), O: inc(of("spoilt"), 7), Time: -7}
		}
	}
	for _, p := range append(paths(), nil) {
		spoilItems(Under(all, p))
		for leaf := range 5 {
			spoilItems(At(all, p, leaf))
		}
	}
	for i := range all { // all of one path
		spoilItems(At(all[i:i+1], all[i].O.Path, op.Leaf(all[i].O.Kind)))
	}
	names := Refs(all)
	for i := range names[:cap(names)] {
		names[:cap(names)][i] = ref(-7, -7, -7)
	}
	for _, x := range append(slices.Clone(l), api.Txn{}, done(0, 2, 1, inc(of("a"), 1)), done(15, mostSeq, 1, inc(of("a"), 1))) {
		more := With(l, x)
		for i := range more[:cap(more)] {
			more[:cap(more)][i] = done(-7, -7, -7)
		}
	}
	if len(all) < 3 || !alike(all, wanted) || !alikeTxns(l, s.l) || !slices.Equal(u, s.u) || !alike(All(l, u), wanted) || !slices.Equal(Refs(all), namesOf(wanted)) {
		t.Errorf("%s, want %s", short(all), short(wanted))
	}
}

// The document's example: a Put of 1, and one of 2 that covers it: the second one counts; if its transaction is undone, the first one.
func TestExamples(t *testing.T) {
	a := of("a")
	l := row(done(0, 1, 1, put(a, 1)), done(0, 2, 2, put(a, 2, ref(0, 1, 0))))
	want(t, "both", All(l, nil), items(Item{ref(0, 2, 0), put(a, 2, ref(0, 1, 0)), 2}))
	want(t, "the second one undone", All(l, undos(un(0, 2, 1))), items(Item{ref(0, 1, 0), put(a, 1), 1}))
}

// wrongTxns tells transactions that may not be, and lists that don't rise.
func wrongTxns() [][]api.Txn {
	odd := api.Op{Kind: math.MaxInt, Path: slices.Repeat(of(""), 20), V: api.Value{Kind: -1, N: math.MinInt, S: "\xFF"}, N: math.MinInt, Seen: slices.Repeat(refs(ref(-1, math.MinInt, math.MaxInt)), 300)}
	one := done(1, 1, 1, put(of("a"), 1, ref(1, 1, 0)))
	return [][]api.Txn{
		row(api.Txn{}), row(api.Txn{}, api.Txn{}), row(one, one), row(one, done(0, 1, 1, inc(of("a"), 1))), row(done(-1, -1, -1, odd, odd)), row(done(math.MaxInt, math.MinInt, math.MinInt, slices.Repeat([]api.Op{odd, inc(nil, 0)}, 40)...)),
		row(done(2, 2, 2, api.Op{Kind: -1}, api.Op{Kind: 4}, api.Op{Kind: 6}, api.Op{Kind: 1}, api.Op{Kind: math.MinInt})), row(api.Txn{Ops: make([]api.Op, 5000)}),
		row(done(1, 1, 1, put(of("a"), 1, ref(3, 1, 0), ref(1, 1, 0), ref(3, 1, 0)), inc(of("a"), 1))),
	}
}

// P1 and R5: no call panics, whatever it is given, and each answers the same, however often it is asked.
func TestAnyArguments(t *testing.T) {
	all := wrongTxns()
	for _, s := range stores()[:40] {
		all = append(all, s.l)
	}
	counts := [][]api.Undo{nil, undos(api.Undo{}), undos(un(1, 1, 0)), undos(un(1, 1, -1)), undos(un(1, 1, math.MinInt), un(1, 1, math.MaxInt)), undos(un(3, 1, 1), un(1, 1, 1), un(-1, -1, 99)), stores()[30].u}
	for i, l := range all {
		for k, u := range counts {
			first := All(l, u)
			for range 20 {
				if !alike(All(l, u), first) || !Same(All(l, u), first) {
					t.Fatalf("%d, %d is answered in two ways", i, k)
				}
			}
			for _, p := range [][]string{nil, of(""), of("a"), slices.Repeat(of("\xFF"), 50)} {
				for _, leaf := range []int{math.MinInt, -1, 0, 1, 2, 3, 4, math.MaxInt} {
					if !alike(At(first, p, leaf), At(first, p, leaf)) || !alike(Under(first, p), Under(first, p)) {
						t.Fatalf("%d, %d is answered in two ways", i, k)
					}
				}
			}
			if !slices.Equal(Refs(first), Refs(first)) {
				t.Fatalf("%d, %d is answered in two ways", i, k)
			}
		}
		for _, other := range all {
			for _, x := range other {
				if !alikeTxns(With(l, x), With(l, x)) {
					t.Fatalf("%d is answered in two ways", i)
				}
			}
		}
	}
	odd := items(Item{X: ref(-1, math.MinInt, math.MaxInt), O: all[4][0].Ops[0], Time: math.MinInt}, Item{})
	if !Same(odd, odd) || Same(odd, odd[:1]) || len(Refs(odd)) != 2 || len(Under(odd, nil)) != 2 || len(At(odd, nil, 0)) != 1 {
		t.Error("odd items")
	}
}
