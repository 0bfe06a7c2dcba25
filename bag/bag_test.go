package bag

import (
	"fmt"
	"math"
	"slices"
	"strings"
	"testing"

	"palinode/api"
	"palinode/live"
	"palinode/op"
	"palinode/tally"
	"palinode/txn"
	"palinode/value"
)

const (
	mostSeq    = 1048576       // the greatest number that a dot may have: 2^20
	mostTime   = 1099511627776 // the greatest time: 2^40
	mostAmount = 2147483647    // the greatest number of a value: 2^31 - 1
	mostText   = 64            // how many bytes a text of a value has at the most
	mostOps    = 16            // how many operations a transaction has at the most
	mostUndo   = 64            // the most that a transaction may be undone and redone
)

// dotOf tells a dot: its replica, and its number there.
func dotOf(r, n int) api.Dot { return api.Dot{R: r, N: n} }

// ref tells an operation's name: its dot's replica and number, and its place.
func ref(r, n, i int) api.Ref { return api.Ref{D: dotOf(r, n), I: i} }

// refs tells operations' names, one by one.
func refs(l ...api.Ref) []api.Ref { return l }

// of tells parts of a path, one by one.
func of(parts ...string) []string { return parts }

// items tells items, one by one.
func items(l ...live.Item) []live.Item { return l }

// vals tells values, one by one.
func vals(l ...api.Value) []api.Value { return l }

// row tells transactions, one by one.
func row(l ...api.Txn) []api.Txn { return l }

// undos tells counts, one by one.
func undos(l ...api.Undo) []api.Undo { return l }

// un tells a count: of a dot, and how often.
func un(r, n, often int) api.Undo { return api.Undo{D: dotOf(r, n), N: often} }

func number(n int) api.Value { return api.Value{Kind: api.Int, N: n} }

func text(s string) api.Value { return api.Value{Kind: api.Text, S: s} }

func truth(n int) api.Value { return api.Value{Kind: api.Bool, N: n} }

func put(p []string, v api.Value, seen ...api.Ref) api.Op {
	return api.Op{Kind: api.Put, Path: p, V: v, Seen: seen}
}

func add(p []string, v api.Value) api.Op { return api.Op{Kind: api.Add, Path: p, V: v} }

func inc(p []string, n int) api.Op { return api.Op{Kind: api.Inc, Path: p, N: n} }

func remove(p []string, v api.Value, seen ...api.Ref) api.Op {
	return api.Op{Kind: api.Remove, Path: p, V: v, Seen: seen}
}

func reset(p []string, seen ...api.Ref) api.Op {
	return api.Op{Kind: api.Reset, Path: p, Seen: seen}
}

// done tells a transaction of a replica, a number there, and a time.
func done(r, n, time int, ops ...api.Op) api.Txn {
	return api.Txn{D: dotOf(r, n), User: r % 8, Time: time, Ops: ops}
}

// item tells one that counts.
func item(x api.Ref, time int, o api.Op) live.Item { return live.Item{X: x, O: o, Time: time} }

// addAll tells Adds of values at a path, of transactions that rise, at times that rise.
func addAll(p []string, l ...api.Value) (all []live.Item) {
	for i, v := range l {
		all = append(all, item(ref(i/4, i%4+1, i%3), i+1, add(p, v)))
	}
	return all
}

// long is a text that is one byte short of the longest ones.
var long = strings.Repeat("a", mostText-1)

// rising tells values of each Kind, in their order: at the edges, and between.
func rising() []api.Value {
	return vals(number(-mostAmount), number(-mostAmount+1), number(-65536), number(-10), number(-9), number(-2), number(-1), number(0), number(1), number(2), number(9), number(10), number(255), number(256), number(1<<30), number(mostAmount-1), number(mostAmount),
		text(""), text(" "), text("-1"), text("0"), text("10"), text("9"), text("A"), text("B"), text("a"), text("aa"), text(long), text(long+"a"), text(long+"b"), text("ab"), text("b"), text("true"), text("z"), text("~"), text("é"), text("世"), text("世世"), text("😀"),
		truth(0), truth(1))
}

// never tells values that may not be, or that nobody adds here.
func never() []api.Value {
	return vals(api.Value{}, api.Value{Kind: 4}, api.Value{Kind: -1, N: 1}, api.Value{Kind: api.Bool, N: 2}, api.Value{Kind: api.Bool, N: -1}, api.Value{Kind: api.Bool, S: "a"}, api.Value{Kind: api.Int, S: "a"}, api.Value{Kind: api.Int, N: 1, S: "1"}, api.Value{Kind: api.Text, N: 1}, api.Value{Kind: api.Text, N: 1, S: "a"}, number(mostAmount+1), number(-mostAmount-1), number(math.MinInt), number(math.MaxInt), text(long+"ab"), text("\xFF"), text("a\n"), api.Value{N: 1}, api.Value{S: "a"}, number(77), text("never"))
}

// dice rolls numbers that are the same in each run.
type dice uint64

// roll tells a number from 0 on, below another one.
func (d *dice) roll(below int) int {
	*d = *d*6364136223846793005 + 1442695040888963407
	return int(uint64(*d) >> 33 % uint64(below))
}

// inOrder tells some of the values above, or others, in their order.
func inOrder(l []api.Value) []api.Value {
	l = slices.Clone(l)
	slices.SortFunc(l, func(a, b api.Value) int {
		switch {
		case slowAhead(a, b):
			return -1
		case slowAhead(b, a):
			return 1
		}
		return 0
	})
	return l
}

// mixed tells a list in another order.
func mixed[E any](d *dice, l []E) []E {
	l = slices.Clone(l)
	for i := range l {
		k := i + d.roll(len(l)-i)
		l[i], l[k] = l[k], l[i]
	}
	return l
}

// stored is what is known of: transactions that rise, and counts.
type stored struct {
	l []api.Txn
	u []api.Undo
}

// paths tells paths, of which some begin as others do, by parts or by letters.
func paths() [][]string {
	return [][]string{of("a"), of("a"), of("a", "b"), of("a", "b", "c"), of("ab"), of("a/b"), of("b"), of("é"), of("a", "b", "c", "d", "e", "f", "g", "h")}
}

// asked tells paths that are asked for: those above, and such as are not there.
func asked() [][]string {
	return append(paths(), nil, of(), of(""), of("", "a"), of("a", ""), of("a", "c"), of("a", "b", "c", "d"), of("a", "b", "c", "d", "e", "f", "g"), of("A"), of("\xFF"), slices.Repeat(of("a"), 30))
}

// few tells a few values, that are added more often than others.
func few() []api.Value { return vals(number(0), number(1), text(""), truth(1)) }

// anyOp tells an operation of any Kind that covers some of others.
func anyOp(d *dice, values []api.Value, others []api.Ref) api.Op {
	p, v := paths()[d.roll(len(paths()))], values[d.roll(len(values))]
	if d.roll(4) > 0 { // one of a few, so that some are added twice
		v = few()[d.roll(4)]
	}
	var seen []api.Ref
	for _, x := range others {
		if d.roll(len(others)) < 2 && len(seen) < api.MaxSeen {
			seen = append(seen, x)
		}
	}
	switch d.roll(12) {
	case 0:
		return put(p, v, seen...)
	case 1:
		return inc(p, 1+d.roll(9))
	case 2, 3:
		return remove(p, v, seen...)
	case 4:
		return reset(p, seen...)
	case 5:
		return put(p, v)
	}
	return add(p, v)
}

// store tells so many transactions, each with up to so many operations, that cover each other as it comes, and counts of some.
func store(d *dice, many, most int) (s stored) {
	var dots []api.Dot
	for i := range many {
		dots = append(dots, dotOf(i%16, i/16*3+1+d.roll(3)))
	}
	slices.SortFunc(dots, func(a, b api.Dot) int { return (a.R-b.R)*mostSeq*2 + a.N - b.N })
	var all []api.Ref
	for _, x := range dots {
		for i := range most {
			all = append(all, api.Ref{D: x, I: i})
		}
	}
	values := rising()
	for _, x := range dots {
		t := done(x.R, x.N, 1+d.roll(1+many/3))
		for range 1 + d.roll(most) {
			t.Ops = append(t.Ops, anyOp(d, values, all))
		}
		if t.Thin = d.roll(5) == 0; t.Thin {
			t.Ops[d.roll(len(t.Ops))] = api.Op{}
		}
		s.l = append(s.l, t)
		if d.roll(3) == 0 {
			s.u = append(s.u, api.Undo{D: x, N: 1 + d.roll(4)})
		}
	}
	return s
}

// stores tells many that are unlike: none, a few, and many transactions, with one operation or many.
func stores() (all []stored) {
	d := dice(15)
	all = append(all, stored{}, stored{l: []api.Txn{}, u: []api.Undo{}})
	for i := range 400 {
		all = append(all, store(&d, 1+i%12, 1+i%6))
	}
	for i := range 20 {
		all = append(all, store(&d, 10+5*i, 1+i%mostOps))
	}
	return append(all, store(&d, 200, mostOps))
}

// slowAdds tells the Adds at a path.
func slowAdds(l []live.Item, p []string) (all []live.Item) {
	for _, x := range l {
		if x.O.Kind == 2 && len(x.O.Path) == len(p) && slices.Equal(x.O.Path, p) {
			all = append(all, x)
		}
	}
	return all
}

// slowAhead tells whether a value stands ahead of another one: by its Kind, its number, its bytes.
func slowAhead(a, b api.Value) bool {
	if a.Kind != b.Kind {
		return a.Kind < b.Kind
	}
	if a.N != b.N {
		return a.N < b.N
	}
	return a.S < b.S
}

// slowValues is what the document says of values: each, that no earlier Add has, in its place.
func slowValues(l []live.Item, p []string) (all []api.Value) {
	for _, x := range slowAdds(l, p) {
		place := 0
		for _, v := range all {
			if slowAhead(v, x.O.V) {
				place++
			}
		}
		if place == len(all) || slowAhead(x.O.V, all[place]) {
			all = slices.Insert(all, place, x.O.V)
		}
	}
	return all
}

// slowWhich is what the document says of which operations add a value: the Adds at the path, none of whose value's parts is another one.
func slowWhich(l []live.Item, p []string, v api.Value) (all []api.Ref) {
	for _, x := range slowAdds(l, p) {
		if !slowAhead(x.O.V, v) && !slowAhead(v, x.O.V) {
			all = append(all, x.X)
		}
	}
	return all
}

// short tells the beginning of what is tested, for a message.
func short(x any) string { return fmt.Sprintf("%.300s", fmt.Sprint(x)) }

// wantValues holds the values at a path against those that are wanted: there they are, and nothing else is.
func wantValues(t *testing.T, what string, l []live.Item, p []string, wanted ...api.Value) {
	t.Helper()
	if got := Values(l, p); !slices.Equal(got, wanted) {
		t.Fatalf("%s: the values %s, want %s", what, short(got), short(wanted))
	}
	for _, v := range wanted {
		if !Has(l, p, v) || len(Adds(l, p, v)) == 0 {
			t.Fatalf("%s: %v is not in it, added by %v", what, v, Adds(l, p, v))
		}
	}
}

// wantAdds holds which operations add a value against those that are wanted, and whether there is one.
func wantAdds(t *testing.T, what string, l []live.Item, p []string, v api.Value, wanted ...api.Ref) {
	t.Helper()
	if got := Adds(l, p, v); !slices.Equal(got, wanted) {
		t.Fatalf("%s: %v is added by %s, want %s", what, v, short(got), short(wanted))
	}
	if got := Has(l, p, v); got != (len(wanted) >= 1) {
		t.Fatalf("%s: %v is there: %t", what, v, got)
	}
}

// wantNone asks that at a path nothing is told, of any value.
func wantNone(t *testing.T, what string, l []live.Item, p []string) {
	t.Helper()
	wantValues(t, what, l, p)
	for _, v := range few() {
		wantAdds(t, what, l, p, v)
	}
	for _, x := range l[:min(len(l), 30)] {
		wantAdds(t, what, l, p, x.O.V)
	}
}

// wantSlow holds what is told at a path, and of some values there, against the document's words.
func wantSlow(t *testing.T, what string, l []live.Item, p []string, values ...api.Value) {
	t.Helper()
	wantValues(t, what, l, p, slowValues(l, p)...)
	for _, v := range slices.Concat(values, slowValues(l, p)) {
		wantAdds(t, what, l, p, v, slowWhich(l, p, v)...)
	}
}

// checked tells the items of transactions that may be.
func checked(t *testing.T, l []api.Txn, u []api.Undo) []live.Item {
	t.Helper()
	for i, x := range l {
		if e := txn.Check(x); e != api.OK {
			t.Fatalf("the transaction %d may not be: %d", i, e)
		}
	}
	if !txn.Rises(l) || !tally.Right(u) {
		t.Fatal("no such transactions, or counts")
	}
	return live.All(l, u)
}

// The test's own lists are what they say they are.
func TestLists(t *testing.T) {
	all := rising()
	for i, v := range all {
		if !value.Right(v) || i > 0 && (!slowAhead(all[i-1], v) || value.Compare(all[i-1], v) >= 0 || slowAhead(v, all[i-1]) || slowAhead(v, v)) {
			t.Errorf("the value %d is wrong, or out of order", i)
		}
	}
	wrong := 0
	for _, v := range never() {
		if !value.Right(v) {
			wrong++
		}
		if slices.Contains(all, v) {
			t.Errorf("%v is added", v)
		}
	}
	if wrong != len(never())-3 || len(all) < 40 || api.MaxSeq != mostSeq || txn.MaxTime != mostTime || api.MaxAmount != mostAmount || api.MaxText != mostText || api.MaxOps != mostOps || api.MaxUndo != mostUndo {
		t.Error("other limits")
	}
	none, one, twice, many, removed := 0, 0, 0, 0, 0
	for _, s := range stores() {
		l, ever := checked(t, s.l, s.u), 0
		for _, x := range s.l {
			for _, o := range x.Ops {
				if o.Kind == api.Add && tally.Seen(s.u, x.D) {
					ever++
				}
			}
		}
		for _, p := range paths()[1:] {
			switch there := slowAdds(l, p); {
			case len(there) == 0:
				none++
			case len(there) == 1:
				one++
			case len(slowValues(l, p)) < len(there):
				twice++
			default:
				many++
			}
			ever -= len(slowAdds(l, p))
		}
		removed += ever
	}
	if none < 200 || one < 200 || twice < 200 || many < 200 || removed < 200 {
		t.Errorf("%d without Adds, %d with one, %d with one value twice, %d with many, %d covered", none, one, twice, many, removed)
	}
	for _, x := range addAll(of("a"), all...) {
		if e := op.Check(x.O); e != api.OK {
			t.Errorf("%v may not be: %d", x.O, e)
		}
	}
}

// Promise 15.1: of no items there are no values, wherever, and nobody added any.
func TestOfNone(t *testing.T) {
	for _, l := range [][]live.Item{nil, {}, make([]live.Item, 0, 4), addAll(of("a"), number(1), number(2))[:0]} {
		for i, p := range asked() {
			wantNone(t, fmt.Sprint("path ", i), l, p)
			for _, v := range slices.Concat(rising(), never()) {
				wantAdds(t, fmt.Sprint("path ", i), l, p, v)
			}
		}
	}
}

// Promise 15.1: of one Add there is its value, whichever it is, and whatever its name and its time are, and no other one.
func TestOfOne(t *testing.T) {
	all, others := rising(), slices.Concat(rising(), never())
	for _, v := range all {
		for k, p := range paths() {
			for _, x := range refs(ref(0, 1, 0), ref(7, 20, 3), ref(15, mostSeq, 15)) {
				for _, time := range []int{1, 2, 1000, mostTime} {
					l := items(item(x, time, add(p, v)))
					wantValues(t, fmt.Sprint(v), l, p, v)
					wantAdds(t, fmt.Sprint(v), l, p, v, x)
					for _, w := range others {
						if w != v && k < 2 {
							wantAdds(t, fmt.Sprint("of ", v), l, p, w)
						}
					}
				}
			}
		}
	}
}

// Promise 15.1: of two Adds, each value with each other one: both in order, each by its own, or the one that both have, by both.
func TestOfTwo(t *testing.T) {
	all, p := rising(), of("a")
	for i, v := range all {
		for k, w := range all {
			what := fmt.Sprint(v, " and ", w)
			for _, x := range refs(ref(2, 3, 5), ref(2, 4, 0), ref(3, 1, 0)) {
				for _, times := range [][]int{{1, 2}, {5, 5}, {7, 3}, {1, mostTime}} {
					l := items(item(ref(2, 3, 4), times[0], add(p, v)), item(x, times[1], add(p, w)))
					if i == k {
						wantValues(t, what, l, p, v)
						wantAdds(t, what, l, p, v, ref(2, 3, 4), x)
						continue
					}
					wantValues(t, what, l, p, all[min(i, k)], all[max(i, k)])
					wantAdds(t, what, l, p, v, ref(2, 3, 4))
					wantAdds(t, what, l, p, w, x)
				}
			}
			between := addAll(p, v, w)
			for j := range all {
				if j != i && j != k {
					wantAdds(t, what, between, p, all[j])
				}
			}
		}
	}
}

// Promise 15.1: of many values, that come rising, falling and mixed: all, rising, each once, and each added by its own.
func TestOfMany(t *testing.T) {
	all, p, d := rising(), of("a", "b"), dice(1)
	falling := slices.Clone(all)
	slices.Reverse(falling)
	wantValues(t, "rising", addAll(p, all...), p, all...)
	wantValues(t, "falling", addAll(p, falling...), p, all...)
	for i, v := range all {
		wantAdds(t, "rising", addAll(p, all...), p, v, ref(i/4, i%4+1, i%3))
		k := len(all) - 1 - i
		wantAdds(t, "falling", addAll(p, falling...), p, v, ref(k/4, k%4+1, k%3))
	}
	for n := range 200 {
		some := mixed(&d, all)
		l := addAll(p, some...)
		wantValues(t, fmt.Sprint("mixed ", n), l, p, all...)
		for i, v := range some {
			wantAdds(t, fmt.Sprint("mixed ", n), l, p, v, ref(i/4, i%4+1, i%3))
		}
		twice := mixed(&d, slices.Concat(all, some[:n%len(some)], all[:n/5]))
		wantValues(t, fmt.Sprint("some twice ", n), addAll(p, twice...), p, all...)
		wantSlow(t, fmt.Sprint("some twice ", n), addAll(p, twice...), p)
		less := some[:n%len(some)+1]
		wantValues(t, fmt.Sprint("a few ", n), addAll(p, less...), p, inOrder(less)...)
		wantSlow(t, fmt.Sprint("a few ", n), addAll(p, less...), p, all...)
	}
	for i := range all { // all but one, and from one on
		wantValues(t, "all but one", addAll(p, slices.Delete(slices.Clone(falling), i, i+1)...), p, slices.Delete(slices.Clone(all), len(all)-1-i, len(all)-i)...)
		wantAdds(t, "all but one", addAll(p, slices.Delete(slices.Clone(falling), i, i+1)...), p, falling[i])
		wantValues(t, "from one on", addAll(p, all[i:]...), p, all[i:]...)
		wantValues(t, "up to one", addAll(p, falling[i:]...), p, all[:len(all)-i]...)
	}
	var l []live.Item
	var wanted []api.Value
	for i := range 600 {
		l = append(l, item(ref(i/40, i%40+1, 0), (i*7)%600+1, add(p, number((i*101)%600-300))))
		wanted = append(wanted, number(i-300))
	}
	wantValues(t, "six hundred", l, p, wanted...)
	wantAdds(t, "six hundred", l, p, number(-300), ref(0, 1, 0))
	wantAdds(t, "six hundred", l, p, number(300))
}

// Promise 15.1: of values of unlike Kinds: the numbers, then the texts, then the truths, whatever is in them, each by its own.
func TestOfUnlikeKinds(t *testing.T) {
	p := of("a")
	for i, c := range []struct{ come, wanted []api.Value }{
		{vals(truth(0), text(""), number(mostAmount)), vals(number(mostAmount), text(""), truth(0))},
		{vals(truth(1), number(1), text("1"), truth(0), number(0), text("0"), text("")), vals(number(0), number(1), text(""), text("0"), text("1"), truth(0), truth(1))},
		{vals(text("true"), truth(1), text("false"), truth(0)), vals(text("false"), text("true"), truth(0), truth(1))},
		{vals(number(10), number(9), number(-9), number(-10), number(0)), vals(number(-10), number(-9), number(0), number(9), number(10))},
		{vals(text("10"), text("9"), text("é"), text("z"), text("Z"), text("zz")), vals(text("10"), text("9"), text("Z"), text("z"), text("zz"), text("é"))},
		{vals(text(long+"c"), text(long+"a"), text(long), text(long+"b")), vals(text(long), text(long+"a"), text(long+"b"), text(long+"c"))},
		{vals(truth(1), truth(0)), vals(truth(0), truth(1))},
		// such as differ in the Kind alone, the number alone, the text alone
		{vals(truth(0), number(0), text("")), vals(number(0), text(""), truth(0))},
		{vals(truth(1), number(1)), vals(number(1), truth(1))},
		{vals(number(mostAmount), number(-mostAmount), number(1)), vals(number(-mostAmount), number(1), number(mostAmount))},
		{vals(text("aa"), text("a"), text("")), vals(text(""), text("a"), text("aa"))},
	} {
		l := addAll(p, c.come...)
		wantValues(t, fmt.Sprint("Kinds ", i), l, p, c.wanted...)
		for k, v := range c.come {
			wantAdds(t, fmt.Sprint("Kinds ", i), l, p, v, l[k].X)
			wantValues(t, fmt.Sprint("Kinds, one of ", i), l[k:k+1], p, v)
			for _, w := range c.come { // each alone, and all but one
				if w != v {
					wantAdds(t, fmt.Sprint("Kinds, one of ", i), l[k:k+1], p, w)
					wantAdds(t, fmt.Sprint("Kinds, all but one of ", i), slices.Delete(slices.Clone(l), k, k+1), p, v)
				}
			}
		}
	}
}

// Promise 15.1: a value that is added twice, and many times, is told once, and added by each: beside each other, with another one between, by one transaction and by several.
func TestEachOnce(t *testing.T) {
	p := of("a")
	all := vals(number(0), number(-5), text(""), text("a"), truth(0), truth(1))
	for i, v := range all {
		for n := 1; n <= 40; n++ {
			same := slices.Repeat(vals(v), n)
			wantValues(t, fmt.Sprint(n, " times"), addAll(p, same...), p, v)
			wantAdds(t, fmt.Sprint(n, " times"), addAll(p, same...), p, v, live.Refs(addAll(p, same...))...)
			for _, more := range [][]api.Value{slices.Concat(vals(all[(i+1)%6]), same), slices.Concat(same, vals(all[(i+2)%6])), slices.Concat(same, vals(all[(i+3)%6]), same)} {
				wantSlow(t, "with another one", addAll(p, more...), p, all...)
			}
			var one, several, first []live.Item // in one transaction after the other, of each replica one, at falling times
			for k := range n {
				one = append(one, item(ref(1+k/mostOps, 1, k%mostOps), 7, add(p, v)))
				several = append(several, item(ref(1, k+1, 15-k%mostOps), 7, add(p, v)))
				first = append(first, item(ref(k%16, 1+k/16, 0), 99-k, add(p, v)))
			}
			for _, l := range [][]live.Item{one, several, first} {
				wantValues(t, "one value", l, p, v)
				wantAdds(t, "one value", l, p, v, live.Refs(l)...)
				wantAdds(t, "one value", l, p, all[(i+1)%6])
			}
		}
		for _, w := range all {
			if v == w {
				continue
			}
			for n := range 30 {
				l := addAll(p, slices.Repeat(vals(v, w), n+1)...)
				wantSlow(t, "turn and turn about", l, p, all...)
				alone := slices.DeleteFunc(slices.Clone(l), func(x live.Item) bool { return x.O.V == w })
				wantValues(t, "of one alone", alone, p, v)
				wantAdds(t, "of one alone", l, p, v, live.Refs(alone)...)
			}
		}
	}
}

// Promise 15.1: who added a value is told in the order in which they stand among the items: that of the items, not of names, nor of times.
func TestInTheirOrder(t *testing.T) {
	p, d := of("a"), dice(9)
	names := refs(ref(0, 1, 0), ref(0, 1, 1), ref(0, 1, 15), ref(0, 2, 0), ref(0, mostSeq, 3), ref(1, 1, 0), ref(1, 1, 2), ref(9, 4, 4), ref(10, 3, 3), ref(15, mostSeq, 15))
	for n := range 300 {
		order := mixed(&d, names)
		if n < 2 { // rising, and falling
			order = slices.Clone(names)
			if n == 1 {
				slices.Reverse(order)
			}
		}
		var l []live.Item
		var wanted []api.Ref
		for i, x := range order {
			l = append(l, item(x, 1+d.roll(4), add(p, number(5))))
			wanted = append(wanted, x)
			wantAdds(t, fmt.Sprint("order ", n, i), l, p, number(5), wanted...)
			l = append(l, item(ref(3, 3+i, 3), 1, add(p, number(6))), item(ref(3, 3+i, 4), 1, put(p, number(5))))[:len(l)+d.roll(3)]
		}
		wantAdds(t, fmt.Sprint("order ", n), l, p, number(5), wanted...)
		wantSlow(t, fmt.Sprint("order ", n), l, p, number(6))
	}
}

// Promise 15.1: at a path that is there, not there, the beginning of one, one that goes on behind it, and the empty one.
func TestPaths(t *testing.T) {
	var l []live.Item
	all := [][]string{of("a"), of("a", "b"), of("a", "b", "c"), of("ab"), of("a/b"), of("b"), of("b", "a"), of("é"), of("a", "b", "c", "d", "e", "f", "g", "h"), of("x", "y"), of("x y"), of("a", "a"), of("A")}
	for i, p := range all { // two of its own, and one that all have
		l = append(l, item(ref(1, i+1, 0), 50-i, add(p, number(i))), item(ref(1, i+1, 1), 50-i, add(p, number(100+i))), item(ref(1, i+1, 2), 50-i, add(p, number(999))))
	}
	for i, p := range all {
		wantValues(t, fmt.Sprint("there ", p), l, p, number(i), number(100+i), number(999))
		wantAdds(t, fmt.Sprint("there ", p), l, p, number(i), ref(1, i+1, 0))
		wantAdds(t, fmt.Sprint("there ", p), l, p, number(999), ref(1, i+1, 2))
		wantValues(t, fmt.Sprint("one at ", p), l[3*i:3*i+1], p, number(i))
		for n := range len(p) + 1 {
			for _, q := range [][]string{p[:n], p[n:], append(p[:n:n], "z"), append(of("z"), p[:n]...), append(p[:n:n], ""), append(p[:n:n], "a", "a")} {
				wantSlow(t, fmt.Sprint("at ", q), l, q, number(i), number(999))
				if !slices.ContainsFunc(all, func(other []string) bool { return slices.Equal(other, q) }) {
					wantNone(t, fmt.Sprint("not there ", q), l, q)
				}
			}
		}
		for k := range all { // what lies elsewhere
			if k != i {
				wantNone(t, fmt.Sprint("elsewhere ", p), l[3*k:3*k+3], p)
				wantAdds(t, fmt.Sprint("elsewhere ", p), l, p, number(k))
			}
		}
	}
	for _, q := range [][]string{nil, of(), of(""), of("x"), of("y"), of("c"), of("a", "b", "c", "d"), of("a", "b", "c", "d", "e", "f", "g"), of("a", "b", "c", "d", "e", "f", "g", "h", "i"), of("", "a"), of("a", ""), of("a/"), of("/a"), of("e\u0301"), of("\xC3"), of("a b"), of("a", "c"), of("c", "a")} {
		wantNone(t, fmt.Sprint("not there ", q), l, q)
	}
	// two with one part alike, both of one length
	two := items(item(ref(0, 1, 0), 1, add(of("a", "b"), number(1))), item(ref(0, 1, 1), 1, add(of("a", "c"), number(1))), item(ref(0, 1, 2), 1, add(of("c", "b"), number(1))))
	wantAdds(t, "the first part alike", two, of("a", "b"), number(1), ref(0, 1, 0))
	wantAdds(t, "the first part alike", two, of("a", "c"), number(1), ref(0, 1, 1))
	wantAdds(t, "the last part alike", two, of("c", "b"), number(1), ref(0, 1, 2))
	wantNone(t, "both parts of others", two, of("c", "c"))
}

// Promise 15.1: Puts and Incs at the path don't count, whatever their values, their times and their places are.
func TestKinds(t *testing.T) {
	p := of("a")
	for i, v := range rising() {
		others := items(item(ref(0, 1, 0), mostTime, put(p, v)), item(ref(0, 1, 1), mostTime, inc(p, 5)), item(ref(0, 1, 2), 1, put(p, v, ref(0, 1, 0))))
		behind := items(item(ref(15, mostSeq, 14), mostTime, inc(p, -5)), item(ref(15, mostSeq, 15), mostTime, put(p, v)))
		for _, l := range [][]live.Item{others, others[:1], others[1:2], others[2:], behind, slices.Concat(others, behind)} {
			wantNone(t, fmt.Sprint("no Add ", i), l, p)
			wantAdds(t, fmt.Sprint("only put ", i), l, p, v)
			wantAdds(t, fmt.Sprint("an Inc's amount ", i), l, p, number(5))
		}
		for _, w := range vals(v, number(3), text(""), truth(0)) {
			one := item(ref(3, 3, 3), 3, add(p, w))
			for _, l := range [][]live.Item{slices.Concat(others, items(one)), slices.Concat(items(one), behind), slices.Concat(others, items(one), behind), slices.Concat(others[:1], items(one), behind[1:]), slices.Concat(others[1:], items(one), behind[:1])} {
				wantValues(t, fmt.Sprint("one Add ", i), l, p, w)
				wantAdds(t, fmt.Sprint("one Add ", i), l, p, w, ref(3, 3, 3))
				if v != w {
					wantAdds(t, fmt.Sprint("only put ", i), l, p, v)
				}
			}
			two := items(one, item(ref(3, 4, 0), 2, add(p, number(7))))
			l := slices.Concat(others, two[:1], items(item(ref(3, 3, 4), 9, put(p, truth(1)))), two[1:], behind, items(item(ref(15, mostSeq, 16), 2, add(p, w))))
			wantSlow(t, fmt.Sprint("some Adds ", i), l, p, slices.Concat(vals(v, truth(1)), few())...)
		}
	}
}

// Promise 15.1: values that are added never, once, twice and many times, that are only put, and such as may not be.
func TestNeverAdded(t *testing.T) {
	p := of("a", "b")
	l := addAll(p, rising()...)
	for i, v := range rising() {
		l = append(l, item(ref(14, i+1, 0), 5, put(p, v)), item(ref(14, i+1, 1), 5, add(p[:1], number(77))), item(ref(14, i+1, 2), 5, put(p, text("never"))), item(ref(14, i+1, 3), 5, inc(p, 77)))
		for range i % 5 { // of some none, of others four more
			l = append(l, item(ref(15, len(l), 0), 5, add(p, v)))
		}
	}
	for i, v := range rising() {
		if got := Adds(l, p, v); len(got) != 1+i%5 || !Has(l, p, v) {
			t.Fatalf("%v is added by %v", v, got)
		}
		wantSlow(t, fmt.Sprint("value ", i), l, p, v)
	}
	for _, v := range never() {
		wantAdds(t, "never added", l, p, v)
		wantAdds(t, "never added, nor others", nil, p, v)
	}
	wantAdds(t, "at another path", l, p[:1], number(77), func() (all []api.Ref) {
		for i := range rising() {
			all = append(all, ref(14, i+1, 1))
		}
		return all
	}()...)
	wantValues(t, "at another path", l, p[:1], number(77))
}

// Promise 15.1: of all lists of up to four items, of a few values, paths and Kinds, in each order, held against the document's words.
func TestAllSmall(t *testing.T) {
	p, q := of("a"), of("a", "b")
	values := vals(number(0), number(1), text(""), truth(0))
	var ops []api.Op
	for _, v := range values {
		ops = append(ops, add(p, v))
	}
	ops = append(ops, add(q, number(1)), put(p, number(1)), inc(p, 1))
	for _, names := range [][]api.Ref{refs(ref(0, 1, 0), ref(0, 2, 0), ref(1, 1, 0), ref(1, 2, 0)), refs(ref(0, 1, 3), ref(0, 1, 4), ref(1, 1, 1), ref(1, 1, 2)), refs(ref(2, 2, 0), ref(1, 3, 1), ref(1, 2, 2), ref(0, 4, 3))} {
		for n := range 5 {
			many := 1
			for range n {
				many *= len(ops)
			}
			l := make([]live.Item, n)
			for k := range many {
				for i := range n {
					l[i] = item(names[i], (k+i)%3+1, ops[k%len(ops)])
					k /= len(ops)
				}
				if !slices.Equal(Values(l, p), slowValues(l, p)) {
					t.Fatalf("%v: %v, want %v", l, Values(l, p), slowValues(l, p))
				}
				for _, v := range values {
					wanted := slowWhich(l, p, v)
					if !slices.Equal(Adds(l, p, v), wanted) || Has(l, p, v) != (wanted != nil) {
						t.Fatalf("%v: %v is added by %v, want %v", l, v, Adds(l, p, v), wanted)
					}
				}
			}
		}
	}
}

// Promise 15.1: of stores that are made up, at each path that is there, and at others, held against the document's words.
func TestOfStores(t *testing.T) {
	d, all := dice(3), slices.Concat(rising(), never())
	for i, s := range stores() {
		l := live.All(s.l, s.u)
		other := mixed(&d, l)
		for k, p := range asked() {
			wantSlow(t, fmt.Sprint("store ", i, " at ", short(p)), l, p, all[(i+k)%len(all)], all[(7*i+k)%len(all)], few()[k%4])
			if !slices.Equal(Values(other, p), Values(l, p)) { // they rise in whatever order they come
				t.Fatalf("store %d at %s: mixed %s", i, short(p), short(Values(other, p)))
			}
			wantSlow(t, fmt.Sprint("store ", i, " mixed, at ", short(p)), other, p, few()[k%4])
		}
	}
}

// told is what is told at a path: the values, and of each who added it.
type told struct {
	all []api.Value
	who [][]api.Ref
}

// toldAt tells it.
func toldAt(l []live.Item, p []string) (x told) {
	x.all = Values(l, p)
	for _, v := range slices.Concat(x.all, few()) {
		x.who = append(x.who, Adds(l, p, v))
	}
	return x
}

// alike holds what is told against what else is told.
func alike(a, b told) bool {
	return slices.Equal(a.all, b.all) && slices.EqualFunc(a.who, b.who, func(a, b []api.Ref) bool { return slices.Equal(a, b) })
}

// turned tells counts with one of a dot that was turned so often.
func turned(u []api.Undo, d api.Dot, n int) []api.Undo { return tally.Put(u, api.Undo{D: d, N: n}) }

// without tells a list of values without one of them.
func without(l []api.Value, v api.Value) []api.Value {
	return slices.DeleteFunc(slices.Clone(l), func(w api.Value) bool { return w == v })
}

// Promise 15.2: a Remove that covers all that added a value takes it out, and nothing else; undone, it brings it back; redone, it takes it out.
func TestRemoveOfAll(t *testing.T) {
	p, q := of("a"), of("b")
	all := vals(number(3), text("t"), number(-1), truth(1), number(3), number(0), number(3))
	for n := range len(all) + 1 {
		var l []api.Txn
		for i, v := range all[:n] {
			l = append(l, done(2*i+1, 5, 10+i%3, put(of("r"), v), add(p, v), add(q, v), add(p, v)))
		}
		ahead := checked(t, l, nil)
		was := toldAt(ahead, p)
		for _, v := range vals(number(3), text("t"), number(-1), truth(1), number(0), text("new")) {
			seen := Adds(ahead, p, v)
			if len(seen) != 2*len(slices.DeleteFunc(slices.Clone(all[:n]), func(w api.Value) bool { return w != v })) {
				t.Fatalf("%d: %v is added by %v", n, v, seen)
			}
			for _, d := range []api.Dot{dotOf(0, 1), dotOf(1, 4), dotOf(1, 6), dotOf(4, 1), dotOf(6, mostSeq), dotOf(15, 1)} {
				for _, time := range []int{1, 11, mostTime} {
					what := fmt.Sprint(n, " ", v, " removed by ", d, time)
					with := txn.Put(l, done(d.R, d.N, time, remove(p, v, seen...)))
					if len(with) != n+1 {
						t.Fatal("no such transactions")
					}
					now := checked(t, with, nil)
					wantValues(t, what, now, p, without(was.all, v)...)
					wantAdds(t, what, now, p, v)
					for _, w := range without(was.all, v) {
						wantAdds(t, what, now, p, w, Adds(ahead, p, w)...)
					}
					if other := toldAt(now, q); !alike(other, toldAt(ahead, q)) {
						t.Fatalf("%s: at another path %v", what, other)
					}
					if back := checked(t, with, turned(nil, d, 1)); !alike(toldAt(back, p), was) || !slices.Equal(Adds(back, p, v), seen) {
						t.Fatalf("%s: undone: %v, want %v", what, toldAt(back, p), was)
					}
				}
				with := txn.Put(l, done(d.R, d.N, 11, remove(p, v, seen...)))
				for k := range mostUndo + 1 {
					got := live.All(with, turned(nil, d, k))
					if k%2 == 0 && Has(got, p, v) || k%2 == 1 && !alike(toldAt(got, p), was) {
						t.Fatalf("%d %v turned %d times: %v", n, v, k, toldAt(got, p))
					}
				}
			}
		}
	}
}

// Promise 15.2: a Remove that covers some of those that added a value, none of them, or those that added another one; done, undone and redone.
func TestRemoveOfSome(t *testing.T) {
	p := of("a")
	var l []api.Txn
	var names, others []api.Ref
	for i := range 4 { // of each transaction the second one adds 5
		l = append(l, done(i+1, 1, 5, add(p, number(i)), add(p, number(5))))
		names, others = append(names, ref(i+1, 1, 1)), append(others, ref(i+1, 1, 0))
	}
	ahead := checked(t, l, nil)
	was := toldAt(ahead, p)
	wantAdds(t, "all", ahead, p, number(5), names...)
	for k := range 16 {
		var seen, left, gone []api.Ref
		rest := vals(number(5))
		for i := range 4 {
			if k>>i%2 == 1 {
				seen, gone = append(seen, names[i]), append(gone, others[i])
			} else {
				left, rest = append(left, names[i]), append(rest, number(i))
			}
		}
		for _, d := range []api.Dot{dotOf(0, 1), dotOf(2, 9), dotOf(9, 1)} {
			what := fmt.Sprint("some ", k, d)
			with := txn.Put(l, done(d.R, d.N, 6, remove(p, number(5), seen...)))
			now := checked(t, with, nil)
			wantAdds(t, what, now, p, number(5), left...)
			values := vals(number(0), number(1), number(2), number(3))
			if len(left) > 0 {
				values = append(values, number(5))
			}
			wantValues(t, what, now, p, values...)
			back := checked(t, with, turned(nil, d, 1))
			if !alike(toldAt(back, p), was) {
				t.Fatalf("%s undone: %v, want %v", what, toldAt(back, p), was)
			}
			wantAdds(t, what, back, p, number(5), names...)
			wantAdds(t, what, checked(t, with, turned(nil, d, 2)), p, number(5), left...)
			// it names what added other values: those are out, and 5 is in as ahead
			with = txn.Put(l, done(d.R, d.N, 6, remove(p, number(5), gone...)))
			now = checked(t, with, nil)
			wantAdds(t, what, now, p, number(5), names...)
			wantValues(t, what, now, p, inOrder(rest)...)
			if back := toldAt(checked(t, with, turned(nil, d, 1)), p); !alike(back, was) {
				t.Fatalf("%s, of another value, undone: %v, want %v", what, back, was)
			}
			// what it names is not there: nothing is out
			with = txn.Put(l, done(d.R, d.N, 6, remove(p, number(5), ref(1, 2, 1), ref(3, 1, 2), ref(12, 1, 1))))
			if got := toldAt(checked(t, with, nil), p); !alike(got, was) {
				t.Fatalf("%s, of nothing: %v, want %v", what, got, was)
			}
			// by a Reset, and a Put, alike
			for _, o := range []api.Op{reset(p, seen...), put(p, number(5), seen...), reset(p[:1], seen...), remove(of("z"), number(9), seen...)} {
				with = txn.Put(l, done(d.R, d.N, 6, o))
				wantAdds(t, what, checked(t, with, nil), p, number(5), left...)
				wantAdds(t, what, checked(t, with, turned(nil, d, 1)), p, number(5), names...)
			}
		}
	}
	// two Removes of the same: the value is back when both are undone
	two := append(slices.Clone(l), done(7, 1, 9, remove(p, number(5), names...)), done(8, 1, 8, remove(p, number(5), names[:2]...)))
	for i, c := range []struct {
		u    []api.Undo
		left []api.Ref
	}{{nil, nil}, {undos(un(7, 1, 1)), names[2:]}, {undos(un(8, 1, 1)), nil}, {undos(un(7, 1, 1), un(8, 1, 1)), names}, {undos(un(7, 1, 2), un(8, 1, 1)), nil}, {undos(un(7, 1, 3), un(8, 1, 2)), names[2:]}} {
		wantAdds(t, fmt.Sprint("two Removes ", i), checked(t, two, c.u), p, number(5), c.left...)
	}
}

// Promise 15.2, to add wins: who adds a value again, without being covered, has it in, whichever transaction stands ahead.
func TestAddedAgain(t *testing.T) {
	p := of("a")
	for _, v := range rising() {
		for i, d := range []api.Dot{dotOf(0, 1), dotOf(2, 1), dotOf(3, 2), dotOf(3, 4), dotOf(9, 1), dotOf(15, mostSeq)} {
			for _, time := range []int{1, 3, 4, 5, mostTime} {
				what := fmt.Sprint(v, " again by ", d, time)
				first := row(done(3, 1, 3, add(p, v), add(p, number(77))), done(3, 3, 4, remove(p, v, ref(3, 1, 0))))
				wantValues(t, what, checked(t, first, nil), p, number(77))
				l := txn.Put(first, done(d.R, d.N, time, add(of("b"), v), add(p, v)))
				again := api.Ref{D: d, I: 1}
				if len(l) != 3 || d == l[0].D != (i < 2) {
					t.Fatal("no such transactions")
				}
				both := inOrder(vals(v, number(77)))
				wantValues(t, what, checked(t, l, nil), p, both...)
				wantAdds(t, what, checked(t, l, nil), p, v, again)
				wantAdds(t, what+", the other value", checked(t, l, nil), p, number(77), ref(3, 1, 1))
				// the Remove undone: both added it, in the order of their transactions
				wanted := refs(ref(3, 1, 0), again)
				if i < 2 {
					wanted = refs(again, ref(3, 1, 0))
				}
				wantAdds(t, what, checked(t, l, undos(un(3, 3, 1))), p, v, wanted...)
				// the Add undone, and redone
				wantValues(t, what, checked(t, l, turned(nil, d, 1)), p, number(77))
				wantAdds(t, what, checked(t, l, turned(nil, d, 1)), p, v)
				wantAdds(t, what, checked(t, l, turned(nil, d, 2)), p, v, again)
				// a Remove that names it too has it out
				more := txn.Put(l, done(10, 1, 2, remove(p, v, Adds(live.All(l, nil), p, v)...)))
				wantAdds(t, what, checked(t, more, nil), p, v)
				wantAdds(t, what, checked(t, more, undos(un(10, 1, 1))), p, v, again)
			}
		}
	}
	// in the Remove's own transaction, ahead of it and behind it
	first := row(done(0, 1, 1, add(p, number(5))))
	for i, ops := range [][]api.Op{{remove(p, number(5), ref(0, 1, 0)), add(p, number(5))}, {add(p, number(5)), remove(p, number(5), ref(0, 1, 0))}} {
		l := append(slices.Clone(first), done(1, 1, 2, ops...))
		wantAdds(t, "in one", checked(t, l, nil), p, number(5), ref(1, 1, 1-i))
		wantAdds(t, "in one, undone", checked(t, l, undos(un(1, 1, 1))), p, number(5), ref(0, 1, 0))
		wantAdds(t, "in one, redone", checked(t, l, undos(un(1, 1, 2))), p, number(5), ref(1, 1, 1-i))
	}
	own := row(done(1, 1, 2, add(p, number(5)), remove(p, number(5), ref(1, 1, 0)), add(p, number(5)), add(p, number(6))))
	wantAdds(t, "of its own", checked(t, own, nil), p, number(5), ref(1, 1, 2))
	wantNone(t, "of its own, undone", checked(t, own, undos(un(1, 1, 1))), p)
}

// Promise 15.2: an Add that is undone, and redone, with others of the same value, and without; its Remove changes nothing while it is undone.
func TestUndoneAdds(t *testing.T) {
	p := of("a")
	var l []api.Txn
	for i := range 6 {
		l = append(l, done(i, 2, 9-i, add(p, number(i%2)), inc(of("n"), 1)))
	}
	remover := done(7, 1, 1, remove(p, number(1), ref(1, 2, 0), ref(3, 2, 0)))
	for k := range 128 {
		var u []api.Undo
		left := [2][]api.Ref{}
		for i := range 6 {
			if k>>i%2 == 1 {
				u = turned(u, dotOf(i, 2), 1+2*(i%3))
				continue
			}
			if i%3 == 1 {
				u = turned(u, dotOf(i, 2), 2)
			}
			if k>>6 == 1 || i%2 == 0 || i == 5 {
				left[i%2] = append(left[i%2], ref(i, 2, 0))
			}
		}
		with := append(slices.Clone(l), remover)
		if k>>6 == 1 {
			u = turned(u, remover.D, 1)
		}
		now := checked(t, with, u)
		var values []api.Value
		for i := range 2 {
			wantAdds(t, fmt.Sprint("undone ", k), now, p, number(i), left[i]...)
			if len(left[i]) > 0 {
				values = append(values, number(i))
			}
		}
		wantValues(t, fmt.Sprint("undone ", k), now, p, values...)
	}
	for k := range mostUndo + 1 { // one alone, turned ever more often
		now := checked(t, l[:1], turned(nil, dotOf(0, 2), k))
		if Has(now, p, number(0)) != (k%2 == 0) {
			t.Fatalf("turned %d times: %v", k, Values(now, p))
		}
	}
}

// Promise 15.2: a chain of Adds and Removes of one value, undone in each way.
func TestChain(t *testing.T) {
	p := of("a")
	var l []api.Txn
	for i := range 8 { // each second one removes what the one ahead added
		o := add(p, number(1))
		if i%2 == 1 {
			o = remove(p, number(1), ref(0, i, 0))
		}
		l = append(l, done(0, i+1, i+1, o))
	}
	for k := range 256 {
		var u []api.Undo
		var left []api.Ref
		for i := range 8 {
			if k>>i%2 == 1 {
				u = turned(u, dotOf(0, i+1), 1)
			} else if i%2 == 0 && k>>(i+1)%2 == 1 {
				left = append(left, ref(0, i+1, 0))
			}
		}
		wantAdds(t, fmt.Sprint("chain ", k), checked(t, l, u), p, number(1), left...)
	}
}

// Promise 15.2: in stores that are made up: a Remove that covers all that added a value at a path, undone; and one that adds it again at once.
func TestRemovesOfStores(t *testing.T) {
	for i, s := range stores()[:402] {
		ahead := live.All(s.l, s.u)
		for k, p := range paths()[1:] {
			was := toldAt(ahead, p)
			v := few()[(i+k)%4]
			if len(was.all) > 0 && i%3 > 0 {
				v = was.all[i%len(was.all)]
			}
			d, other := dotOf((i+k)%16, mostSeq-k), dotOf((i+3*k)%16, mostSeq-20-k)
			with := txn.Put(s.l, done(d.R, d.N, 1+i%5, remove(p, v, Adds(ahead, p, v)...)))
			what := fmt.Sprint("store ", i, " at ", p, ": ", v)
			now := checked(t, with, s.u)
			wantValues(t, what, now, p, without(was.all, v)...)
			wantAdds(t, what, now, p, v)
			if got := toldAt(live.All(with, turned(s.u, d, 1)), p); !alike(got, was) {
				t.Fatalf("%s, undone: %v, want %v", what, got, was)
			}
			both := txn.Put(with, done(other.R, other.N, 1+k, add(p, v)))
			wantAdds(t, what+" again", checked(t, both, s.u), p, v, api.Ref{D: other})
			wantAdds(t, what+" again, undone", live.All(both, turned(s.u, other, 1)), p, v)
			for _, q := range paths() {
				if !slices.Equal(p, q) && !alike(toldAt(now, q), toldAt(ahead, q)) {
					t.Fatalf("%s: another path", what)
				}
			}
		}
	}
}

// alikeItems holds two lists of items against each other, field by field.
func alikeItems(a, b []live.Item) bool {
	return slices.EqualFunc(a, b, func(a, b live.Item) bool {
		return a.X == b.X && a.Time == b.Time && a.O.Kind == b.O.Kind && slices.Equal(a.O.Path, b.O.Path) && a.O.V == b.O.V && a.O.N == b.O.N && slices.Equal(a.O.Seen, b.O.Seen)
	})
}

// copied tells items with lists of their own.
func copied(l []live.Item) (all []live.Item) {
	for _, x := range l {
		x.O.Path, x.O.Seen = slices.Clone(x.O.Path), slices.Clone(x.O.Seen)
		all = append(all, x)
	}
	return all
}

// guarded tells items between others in the same memory, with paths that all lie beside each other, and whether all is as it was.
func guarded(l []live.Item) ([]live.Item, func() bool) {
	var parts []string
	var seen []api.Ref
	for _, x := range l {
		parts, seen = append(append(parts, x.O.Path...), "b", "\xFF"), append(append(seen, x.O.Seen...), ref(0, 1, 0))
	}
	all := addAll(of("a"), number(77), text("behind"))
	i, k := 0, 0
	for _, x := range l {
		x.O.Path, x.O.Seen = parts[i:i+len(x.O.Path)], seen[k:k+len(x.O.Seen)]
		i, k = i+len(x.O.Path)+2, k+len(x.O.Seen)+1
		all = append(all, x)
	}
	for _, p := range paths() {
		all = append(all, item(ref(15, mostSeq, 15), mostTime, add(p, text("behind"))), item(ref(15, mostSeq, 15), mostTime, add(p, number(0))))
	}
	keptParts, keptSeen, kept := slices.Clone(parts), slices.Clone(seen), copied(all)
	return all[2 : 2+len(l)], func() bool {
		return slices.Equal(parts, keptParts) && slices.Equal(seen, keptSeen) && alikeItems(all, kept)
	}
}

// R4: no list that came in is changed, nor what lies behind its length read or written, also where lists share memory.
func TestNothingIsChanged(t *testing.T) {
	for i, s := range stores() {
		plain := live.All(s.l, s.u)
		l, kept := guarded(plain)
		for _, p := range asked() {
			wantSlow(t, fmt.Sprint("store ", i, " at ", short(p)), l, p, text("behind"), number(0))
		}
		for _, x := range l[:min(len(l), 20)] {
			for n := range len(x.O.Path) + 1 {
				p := x.O.Path[:n] // the items' own memory: behind it lies more
				wanted := toldAt(plain, slices.Clone(p))
				if got := toldAt(l, p); !alike(got, wanted) {
					t.Fatalf("store %d at %v: %v, want %v", i, p, got, wanted)
				}
			}
		}
		for n := range min(len(l), 20) { // a part of it, behind which lies the rest
			for _, p := range paths()[1:4] {
				wantSlow(t, fmt.Sprint("store ", i, " up to ", n), l[:n], p, number(0))
				wantSlow(t, fmt.Sprint("store ", i, " from ", n), l[n:], p, number(0))
			}
		}
		if !kept() {
			t.Fatalf("store %d was changed", i)
		}
	}
}

// R4: answers that are changed change neither what came in, nor each other.
func TestAnswersAreNew(t *testing.T) {
	p := of("a")
	for _, l := range [][]live.Item{addAll(p, number(1)), addAll(p, number(1), number(1)), addAll(p, rising()...), addAll(p, slices.Repeat(rising(), 3)...)} {
		kept, v := copied(l), l[0].O.V
		values, names := slowValues(l, p), slowWhich(l, p, v)
		first, second, who, others := Values(l, p), Values(l, p), Adds(l, p, v), Adds(l, p, v)
		for i := range first[:cap(first)] {
			first[:cap(first)][i] = text("spoilt")
		}
		for i := range who[:cap(who)] {
			who[:cap(who)][i] = ref(-1, -1, -1)
		}
		if !slices.Equal(second, values) || !slices.Equal(Values(l, p), values) || !slices.Equal(others, names) || !slices.Equal(Adds(l, p, v), names) || !alikeItems(l, kept) {
			t.Errorf("%s, want %s; %s, want %s", short(second), short(values), short(others), short(names))
		}
	}
}

// P1 and R5: no call panics, whatever it is given, and each answers the same, however often it is asked.
func TestAnyArguments(t *testing.T) {
	odd := api.Op{Kind: api.Add, Path: slices.Repeat(of(""), 20), V: api.Value{Kind: -1, N: math.MinInt, S: "\xFF"}, N: math.MinInt, Seen: slices.Repeat(refs(ref(-1, math.MinInt, math.MaxInt)), 300)}
	lists := [][]live.Item{
		nil, items(live.Item{}), items(live.Item{}, live.Item{}), items(item(ref(-1, math.MinInt, math.MaxInt), math.MinInt, odd), item(ref(math.MaxInt, math.MinInt, -1), math.MaxInt, odd), item(api.Ref{}, 0, odd)),
		items(item(ref(0, 1, 0), 1, api.Op{Kind: math.MaxInt, Path: of("a")}), item(ref(0, 1, 0), 1, api.Op{Kind: math.MinInt, Path: of("a")}), item(ref(0, 1, 0), 1, api.Op{Kind: api.Add, Path: of("a")}), item(ref(0, 1, 0), 1, reset(of("a"))), item(ref(0, 1, 0), 1, put(of("a"), number(1)))),
		items(item(api.Ref{}, 0, add(nil, number(1))), item(api.Ref{}, 0, add(of(), number(1)))), slices.Repeat(addAll(of("a"), rising()...), 3),
	}
	for _, s := range stores()[:100] {
		lists = append(lists, live.All(s.l, s.u))
	}
	values := append(never(), odd.V)
	for i, l := range lists {
		for _, p := range append(asked(), odd.Path, odd.Path[:19]) {
			first := toldAt(l, p)
			for range 10 {
				if got := toldAt(l, p); !alike(got, first) {
					t.Fatalf("%d at %s is answered in two ways: %v and %v", i, short(p), got, first)
				}
			}
			for _, v := range values {
				if Has(l, p, v) != slices.Contains(first.all, v) || Has(l, p, v) != (len(Adds(l, p, v)) > 0) {
					t.Fatalf("%d at %s: %v of %v", i, short(p), v, first)
				}
			}
		}
	}
}

// The document's examples: Adds of 5 by two transactions, of which a Remove covers one; who adds again what another one removes, not having seen that, has it in.
func TestExamples(t *testing.T) {
	p := of("a")
	l := row(done(0, 1, 1, add(p, number(5))), done(1, 1, 2, add(p, number(5))), done(2, 1, 3, remove(p, number(5), ref(0, 1, 0))))
	wantValues(t, "5 is in", checked(t, l, nil), p, number(5))
	wantAdds(t, "5 is in", live.All(l, nil), p, number(5), ref(1, 1, 0))
	l = row(done(0, 1, 1, add(p, number(5))), done(0, 2, 2, remove(p, number(5), ref(0, 1, 0))))
	wantNone(t, "removed", checked(t, l, nil), p)
	wantValues(t, "added again at once", checked(t, append(l, done(1, 1, 2, add(p, number(5)))), nil), p, number(5))
}
