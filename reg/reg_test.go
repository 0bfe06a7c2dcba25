package reg

import (
	"fmt"
	"math"
	"slices"
	"strings"
	"testing"

	"palinode/api"
	"palinode/live"
	"palinode/op"
	"palinode/tally"
	"palinode/txn"
	"palinode/value"
)

const (
	mostSeq    = 1048576       // the greatest number that a dot may have: 2^20
	mostTime   = 1099511627776 // the greatest time: 2^40
	mostAmount = 2147483647    // the greatest number of a value: 2^31 - 1
	mostText   = 64            // how many bytes a text of a value has at the most
	mostOps    = 16            // how many operations a transaction has at the most
	mostUndo   = 64            // the most that a transaction may be undone and redone
)

// dotOf tells a dot: its replica, and its number there.
func dotOf(r, n int) api.Dot { return api.Dot{R: r, N: n} }

// ref tells an operation's name: its dot's replica and number, and its place.
func ref(r, n, i int) api.Ref { return api.Ref{D: dotOf(r, n), I: i} }

// refs tells operations' names, one by one.
func refs(l ...api.Ref) []api.Ref { return l }

// of tells parts of a path, one by one.
func of(parts ...string) []string { return parts }

// items tells items, one by one.
func items(l ...live.Item) []live.Item { return l }

// vals tells values, one by one.
func vals(l ...api.Value) []api.Value { return l }

// row tells transactions, one by one.
func row(l ...api.Txn) []api.Txn { return l }

// undos tells counts, one by one.
func undos(l ...api.Undo) []api.Undo { return l }

// un tells a count: of a dot, and how often.
func un(r, n, often int) api.Undo { return api.Undo{D: dotOf(r, n), N: often} }

func number(n int) api.Value { return api.Value{Kind: api.Int, N: n} }

func text(s string) api.Value { return api.Value{Kind: api.Text, S: s} }

func truth(n int) api.Value { return api.Value{Kind: api.Bool, N: n} }

func put(p []string, v api.Value, seen ...api.Ref) api.Op {
	return api.Op{Kind: api.Put, Path: p, V: v, Seen: seen}
}

func add(p []string, v api.Value) api.Op { return api.Op{Kind: api.Add, Path: p, V: v} }

func inc(p []string, n int) api.Op { return api.Op{Kind: api.Inc, Path: p, N: n} }

func remove(p []string, v api.Value, seen ...api.Ref) api.Op {
	return api.Op{Kind: api.Remove, Path: p, V: v, Seen: seen}
}

func reset(p []string, seen ...api.Ref) api.Op {
	return api.Op{Kind: api.Reset, Path: p, Seen: seen}
}

// done tells a transaction of a replica, a number there, and a time.
func done(r, n, time int, ops ...api.Op) api.Txn {
	return api.Txn{D: dotOf(r, n), User: r % 8, Time: time, Ops: ops}
}

// item tells one that counts.
func item(x api.Ref, time int, o api.Op) live.Item { return live.Item{X: x, O: o, Time: time} }

// putAll tells Puts of values at a path, of transactions that rise, at times that rise.
func putAll(p []string, l ...api.Value) (all []live.Item) {
	for i, v := range l {
		all = append(all, item(ref(i/4, i%4+1, i%3), i+1, put(p, v)))
	}
	return all
}

// rising tells values of each Kind, in their order: at the edges, and between.
func rising() []api.Value {
	long := strings.Repeat("a", mostText-1)
	return vals(number(-mostAmount), number(-mostAmount+1), number(-65536), number(-10), number(-9), number(-2), number(-1), number(0), number(1), number(2), number(9), number(10), number(255), number(256), number(1<<30), number(mostAmount-1), number(mostAmount),
		text(""), text(" "), text("-1"), text("0"), text("10"), text("9"), text("A"), text("B"), text("a"), text("aa"), text(long), text(long+"a"), text(long+"b"), text("ab"), text("b"), text("true"), text("z"), text("~"), text("é"), text("世"), text("世世"), text("😀"),
		truth(0), truth(1))
}

// dice rolls numbers that are the same in each run.
type dice uint64

// roll tells a number from 0 on, below another one.
func (d *dice) roll(below int) int {
	*d = *d*6364136223846793005 + 1442695040888963407
	return int(uint64(*d) >> 33 % uint64(below))
}

// inOrder tells some of the values above, or others, in their order.
func inOrder(l []api.Value) []api.Value {
	l = slices.Clone(l)
	slices.SortFunc(l, func(a, b api.Value) int {
		switch {
		case slowAhead(a, b):
			return -1
		case slowAhead(b, a):
			return 1
		}
		return 0
	})
	return l
}

// mixed tells a list in another order.
func mixed[E any](d *dice, l []E) []E {
	l = slices.Clone(l)
	for i := range l {
		k := i + d.roll(len(l)-i)
		l[i], l[k] = l[k], l[i]
	}
	return l
}

// stored is what is known of: transactions that rise, and counts.
type stored struct {
	l []api.Txn
	u []api.Undo
}

// paths tells paths, of which some begin as others do, by parts or by letters.
func paths() [][]string {
	return [][]string{of("a"), of("a"), of("a", "b"), of("a", "b", "c"), of("ab"), of("a/b"), of("b"), of("é"), of("a", "b", "c", "d", "e", "f", "g", "h")}
}

// asked tells paths that are asked for: those above, and such as are not there.
func asked() [][]string {
	return append(paths(), nil, of(), of(""), of("", "a"), of("a", ""), of("a", "c"), of("a", "b", "c", "d"), of("a", "b", "c", "d", "e", "f", "g"), of("A"), of("\xFF"), slices.Repeat(of("a"), 30))
}

// anyOp tells an operation of any Kind that covers some of others.
func anyOp(d *dice, others []api.Ref) api.Op {
	p, v := paths()[d.roll(len(paths()))], rising()[d.roll(len(rising()))]
	if d.roll(2) == 0 { // one of a few, so that some are put twice
		v = vals(number(0), number(1), text(""), truth(1))[d.roll(4)]
	}
	var seen []api.Ref
	for _, x := range others {
		if d.roll(len(others)) < 2 && len(seen) < api.MaxSeen {
			seen = append(seen, x)
		}
	}
	switch d.roll(12) {
	case 0:
		return add(p, v)
	case 1:
		return inc(p, 1+d.roll(9))
	case 2:
		return remove(p, v, seen...)
	case 3:
		return reset(p, seen...)
	case 4, 5, 6:
		return put(p, v, seen...)
	}
	return put(p, v)
}

// store tells so many transactions, each with up to so many operations, that cover each other as it comes, and counts of some.
func store(d *dice, many, most int) (s stored) {
	var dots []api.Dot
	for i := range many {
		dots = append(dots, dotOf(i%16, i/16*3+1+d.roll(3)))
	}
	slices.SortFunc(dots, func(a, b api.Dot) int { return (a.R-b.R)*mostSeq*2 + a.N - b.N })
	var all []api.Ref
	for _, x := range dots {
		for i := range most {
			all = append(all, api.Ref{D: x, I: i})
		}
	}
	for _, x := range dots {
		t := done(x.R, x.N, 1+d.roll(1+many/3))
		for range 1 + d.roll(most) {
			t.Ops = append(t.Ops, anyOp(d, all))
		}
		if t.Thin = d.roll(5) == 0; t.Thin {
			t.Ops[d.roll(len(t.Ops))] = api.Op{}
		}
		s.l = append(s.l, t)
		if d.roll(3) == 0 {
			s.u = append(s.u, api.Undo{D: x, N: 1 + d.roll(4)})
		}
	}
	return s
}

// stores tells many that are unlike: none, a few, and many transactions, with one operation or many.
func stores() (all []stored) {
	d := dice(14)
	all = append(all, stored{}, stored{l: []api.Txn{}, u: []api.Undo{}})
	for i := range 400 {
		all = append(all, store(&d, 1+i%12, 1+i%6))
	}
	for i := range 20 {
		all = append(all, store(&d, 10+5*i, 1+i%mostOps))
	}
	return append(all, store(&d, 200, mostOps))
}

// slowPuts tells the Puts at a path.
func slowPuts(l []live.Item, p []string) (all []live.Item) {
	for _, x := range l {
		if x.O.Kind == 1 && len(x.O.Path) == len(p) && slices.Equal(x.O.Path, p) {
			all = append(all, x)
		}
	}
	return all
}

// slowAhead tells whether a value stands ahead of another one: by its Kind, its number, its bytes.
func slowAhead(a, b api.Value) bool {
	if a.Kind != b.Kind {
		return a.Kind < b.Kind
	}
	if a.N != b.N {
		return a.N < b.N
	}
	return a.S < b.S
}

// slowValues is what the document says of values: each, that no earlier Put has, in its place.
func slowValues(l []live.Item, p []string) (all []api.Value) {
	for _, x := range slowPuts(l, p) {
		place := 0
		for _, v := range all {
			if slowAhead(v, x.O.V) {
				place++
			}
		}
		if place == len(all) || slowAhead(x.O.V, all[place]) {
			all = slices.Insert(all, place, x.O.V)
		}
	}
	return all
}

// slowLater tells whether an item was put later than another one: by its time, its replica, its number, its place.
func slowLater(a, b live.Item) bool {
	of := func(x live.Item) []int { return []int{x.Time, x.X.D.R, x.X.D.N, x.X.I} }
	return slices.Compare(of(a), of(b)) > 0
}

// slowLatest is what the document says of the last one: the Put behind which no other one stands.
func slowLatest(l []live.Item, p []string) (api.Value, bool) {
	all := slowPuts(l, p)
	for _, x := range all {
		if !slices.ContainsFunc(all, func(y live.Item) bool { return slowLater(y, x) }) {
			return x.O.V, true
		}
	}
	return api.Value{}, false
}

// slowConflict tells whether two of the Puts at a path have values that differ.
func slowConflict(l []live.Item, p []string) bool {
	for _, x := range slowPuts(l, p) {
		for _, y := range slowPuts(l, p) {
			if x.O.V.Kind != y.O.V.Kind || x.O.V.N != y.O.V.N || x.O.V.S != y.O.V.S {
				return true
			}
		}
	}
	return false
}

// short tells the beginning of what is tested, for a message.
func short(x any) string { return fmt.Sprintf("%.300s", fmt.Sprint(x)) }

// wantValues holds the values at a path, and whether they conflict, against those that are wanted.
func wantValues(t *testing.T, what string, l []live.Item, p []string, wanted ...api.Value) {
	t.Helper()
	if got := Values(l, p); !slices.Equal(got, wanted) {
		t.Fatalf("%s: the values %s, want %s", what, short(got), short(wanted))
	}
	if got := Conflict(l, p); got != (len(wanted) >= 2) {
		t.Fatalf("%s: a conflict: %t", what, got)
	}
}

// wantLatest holds the last value at a path against the one that is wanted.
func wantLatest(t *testing.T, what string, l []live.Item, p []string, wanted api.Value) {
	t.Helper()
	if got, ok := Latest(l, p); !ok || got != wanted {
		t.Fatalf("%s: the last one %v, %t, want %v", what, got, ok, wanted)
	}
}

// wantNone holds against each other what is told at a path at which there is none, and nothing.
func wantNone(t *testing.T, what string, l []live.Item, p []string) {
	t.Helper()
	wantValues(t, what, l, p)
	if got, ok := Latest(l, p); ok || got != (api.Value{}) {
		t.Fatalf("%s: the last one %v, %t, want none", what, got, ok)
	}
}

// wantSlow holds what is told at a path against the document's words.
func wantSlow(t *testing.T, what string, l []live.Item, p []string) {
	t.Helper()
	wantValues(t, what, l, p, slowValues(l, p)...)
	if got := slowConflict(l, p); got != Conflict(l, p) {
		t.Fatalf("%s: a conflict: %t", what, !got)
	}
	if last, ok := slowLatest(l, p); ok {
		wantLatest(t, what, l, p, last)
	} else {
		wantNone(t, what, l, p)
	}
}

// checked tells the items of transactions that may be.
func checked(t *testing.T, l []api.Txn, u []api.Undo) []live.Item {
	t.Helper()
	for i, x := range l {
		if e := txn.Check(x); e != api.OK {
			t.Fatalf("the transaction %d may not be: %d", i, e)
		}
	}
	if !txn.Rises(l) || !tally.Right(u) {
		t.Fatal("no such transactions, or counts")
	}
	return live.All(l, u)
}

// The test's own lists are what they say they are.
func TestLists(t *testing.T) {
	all := rising()
	for i, v := range all {
		if !value.Right(v) || i > 0 && (!slowAhead(all[i-1], v) || value.Compare(all[i-1], v) >= 0 || slowAhead(v, all[i-1]) || slowAhead(v, v)) {
			t.Errorf("the value %d is wrong, or out of order", i)
		}
	}
	if len(all) < 40 || api.MaxSeq != mostSeq || txn.MaxTime != mostTime || api.MaxAmount != mostAmount || api.MaxText != mostText || api.MaxOps != mostOps || api.MaxUndo != mostUndo {
		t.Error("other limits")
	}
	none, one, twice, conflicts, ties, earlier := 0, 0, 0, 0, 0, 0
	for _, s := range stores() {
		l := checked(t, s.l, s.u)
		for _, p := range paths()[1:] {
			there := slowPuts(l, p)
			last, _ := slowLatest(l, p)
			switch {
			case len(there) == 0:
				none++
			case len(there) == 1:
				one++
			case slowConflict(l, p):
				conflicts++
			default:
				twice++
			}
			for i, x := range there {
				if i > 0 && x.Time == there[i-1].Time {
					ties++
				}
			}
			if len(there) > 0 && there[len(there)-1].O.V != last {
				earlier++
			}
		}
	}
	if none < 200 || one < 200 || twice < 20 || conflicts < 200 || ties < 200 || earlier < 200 {
		t.Errorf("%d without Puts, %d with one, %d with one value twice, %d with conflicts, %d at one time, %d whose last one is not the last item", none, one, twice, conflicts, ties, earlier)
	}
	for _, x := range putAll(of("a"), all...) {
		if e := op.Check(x.O); e != api.OK {
			t.Errorf("%v may not be: %d", x.O, e)
		}
	}
}

// Promise 14.1: of no items there are no values, wherever.
func TestOfNone(t *testing.T) {
	for _, l := range [][]live.Item{nil, {}, make([]live.Item, 0, 4), putAll(of("a"), number(1), number(2))[:0]} {
		for i, p := range asked() {
			wantNone(t, fmt.Sprint("path ", i), l, p)
		}
	}
}

// Promise 14.1: of one Put there is its value, whichever it is, and whatever its name and its time are.
func TestOfOne(t *testing.T) {
	for _, v := range rising() {
		for _, p := range paths() {
			for _, x := range refs(ref(0, 1, 0), ref(7, 20, 3), ref(15, mostSeq, 15)) {
				for _, time := range []int{1, 2, 1000, mostTime} {
					for _, o := range []api.Op{put(p, v), put(p, v, ref(9, 9, 9))} {
						l := items(item(x, time, o))
						wantValues(t, fmt.Sprint(v), l, p, v)
						wantLatest(t, fmt.Sprint(v), l, p, v)
					}
				}
			}
		}
	}
}

// Promise 14.1: of two Puts, each value with each other one: both in order, or the one that both have; the later one is the last one.
func TestOfTwo(t *testing.T) {
	all, p := rising(), of("a")
	for i, v := range all {
		for k, w := range all {
			what := fmt.Sprint(v, " and ", w)
			wanted := []api.Value{all[min(i, k)], all[max(i, k)]}
			if i == k {
				wanted = wanted[:1]
			}
			for _, x := range refs(ref(2, 3, 5), ref(2, 4, 0), ref(3, 1, 0)) {
				for _, times := range [][]int{{1, 2}, {5, 5}, {7, 3}, {1, mostTime}, {mostTime, mostTime - 1}} {
					l := items(item(ref(2, 3, 4), times[0], put(p, v)), item(x, times[1], put(p, w)))
					wantValues(t, what, l, p, wanted...)
					last := w
					if times[0] > times[1] {
						last = v
					}
					wantLatest(t, what, l, p, last)
				}
			}
		}
	}
}

// Promise 14.1: of many values, that come rising, falling and mixed: all, rising, each once.
func TestOfMany(t *testing.T) {
	all, p, d := rising(), of("a", "b"), dice(1)
	falling := slices.Clone(all)
	slices.Reverse(falling)
	wantValues(t, "rising", putAll(p, all...), p, all...)
	wantLatest(t, "rising", putAll(p, all...), p, truth(1))
	wantValues(t, "falling", putAll(p, falling...), p, all...)
	wantLatest(t, "falling", putAll(p, falling...), p, number(-mostAmount))
	for n := range 200 {
		some := mixed(&d, all)
		wantValues(t, fmt.Sprint("mixed ", n), putAll(p, some...), p, all...)
		wantLatest(t, fmt.Sprint("mixed ", n), putAll(p, some...), p, some[len(some)-1])
		twice := mixed(&d, slices.Concat(all, some[:n%len(some)], all[:n/5]))
		wantValues(t, fmt.Sprint("some twice ", n), putAll(p, twice...), p, all...)
		few := some[:n%len(some)+1]
		wantValues(t, fmt.Sprint("a few ", n), putAll(p, few...), p, inOrder(few)...)
	}
	for i := range all { // all but one, and from one on
		wantValues(t, "all but one", putAll(p, slices.Delete(slices.Clone(falling), i, i+1)...), p, slices.Delete(slices.Clone(all), len(all)-1-i, len(all)-i)...)
		wantValues(t, "from one on", putAll(p, all[i:]...), p, all[i:]...)
		wantValues(t, "up to one", putAll(p, falling[i:]...), p, all[:len(all)-i]...)
	}
	var numbers, wanted []api.Value
	for i := range 3000 {
		numbers, wanted = append(numbers, number((i*1009)%3000-1500)), append(wanted, number(i-1500))
	}
	var l []live.Item
	for i, v := range numbers {
		l = append(l, item(ref(i/400, i%400+1, 0), (i*7)%3000+1, put(p, v)))
	}
	wantValues(t, "three thousand", l, p, wanted...)
	wantLatest(t, "three thousand", l, p, numbers[(2999*2143)%3000]) // 7 * 2143 is 1 more than 5 * 3000
}

// Promise 14.1: of values of unlike Kinds: the numbers, then the texts, then the truths, whatever is in them.
func TestOfUnlikeKinds(t *testing.T) {
	p := of("a")
	wantValues(t, "three Kinds", putAll(p, truth(0), text(""), number(mostAmount)), p, number(mostAmount), text(""), truth(0))
	wantValues(t, "as one number", putAll(p, truth(1), number(1), text("1"), truth(0), number(0), text("0"), text("")), p, number(0), number(1), text(""), text("0"), text("1"), truth(0), truth(1))
	wantValues(t, "as one text", putAll(p, text("true"), truth(1), text("false"), truth(0)), p, text("false"), text("true"), truth(0), truth(1))
	wantValues(t, "by numbers", putAll(p, number(10), number(9), number(-9), number(-10), number(0)), p, number(-10), number(-9), number(0), number(9), number(10))
	wantValues(t, "by bytes", putAll(p, text("10"), text("9"), text("é"), text("z"), text("Z"), text("zz")), p, text("10"), text("9"), text("Z"), text("z"), text("zz"), text("é"))
	long := strings.Repeat("世", 21)
	wantValues(t, "of 64 bytes", putAll(p, text(long+"c"), text(long+"a"), text(long), text(long+"b"), text(long+"a")), p, text(long), text(long+"a"), text(long+"b"), text(long+"c"))
	zero := items(item(ref(0, 1, 0), 1, put(p, number(0))), item(ref(0, 1, 1), 1, put(p, truth(0))), item(ref(0, 1, 2), 1, put(p, text(""))))
	for i, v := range vals(number(0), truth(0), text("")) {
		wantValues(t, "a zero", zero[i:i+1], p, v)
		wantLatest(t, "a zero", zero[i:i+1], p, v)
	}
	wantValues(t, "zeros", zero, p, number(0), text(""), truth(0))
}

// Promise 14.1: a value that is put twice, and many times, is told once: beside each other, with another one between, at one time and at others.
func TestEachOnce(t *testing.T) {
	p := of("a")
	all := vals(number(0), number(-5), text(""), text("a"), truth(0), truth(1))
	for i, v := range all {
		for n := 1; n <= 40; n++ {
			same := slices.Repeat(vals(v), n)
			wantValues(t, fmt.Sprint(n, " times"), putAll(p, same...), p, v)
			wantLatest(t, fmt.Sprint(n, " times"), putAll(p, same...), p, v)
			wantSlow(t, "with another one ahead", putAll(p, slices.Concat(vals(all[(i+1)%6]), same)...), p)
			wantSlow(t, "with another one behind", putAll(p, slices.Concat(same, vals(all[(i+2)%6]))...), p)
			wantSlow(t, "with another one between", putAll(p, slices.Concat(same, vals(all[(i+3)%6]), same)...), p)
			var one, first, last []live.Item // all at one time; the first ones the latest; in one transaction
			for k := range n {
				one = append(one, item(ref(1, k+1, 0), 7, put(p, v)))
				first = append(first, item(ref(1, k+1, 0), 99-k, put(p, v)))
				last = append(last, item(ref(1+k/mostOps, 1, k%mostOps), 7, put(p, v)))
			}
			for _, l := range [][]live.Item{one, first, last} {
				wantValues(t, "at times", l, p, v)
				wantLatest(t, "at times", l, p, v)
			}
		}
		for _, w := range all {
			if v == w {
				continue
			}
			for n := range 30 {
				l := putAll(p, slices.Repeat(vals(v, w), n+1)...)
				wantSlow(t, "turn and turn about", l, p)
				wantValues(t, "of one alone", slices.DeleteFunc(slices.Clone(l), func(x live.Item) bool { return x.O.V == w }), p, v)
			}
		}
	}
}

// Promise 14.1: at a path that is there, not there, the beginning of one, one that goes on behind it, and the empty one.
func TestPaths(t *testing.T) {
	var l []live.Item
	all := [][]string{of("a"), of("a", "b"), of("a", "b", "c"), of("ab"), of("a/b"), of("b"), of("b", "a"), of("é"), of("a", "b", "c", "d", "e", "f", "g", "h"), of("x", "y"), of("x y"), of("a", "a"), of("A")}
	for i, p := range all {
		l = append(l, item(ref(1, i+1, 0), 50-i, put(p, number(i))), item(ref(1, i+1, 1), 50-i, put(p, number(100+i))))
	}
	for i, p := range all {
		wantValues(t, fmt.Sprint("there ", p), l, p, number(i), number(100+i))
		wantLatest(t, fmt.Sprint("there ", p), l, p, number(100+i))
		wantValues(t, fmt.Sprint("one at ", p), l[2*i:2*i+1], p, number(i))
		for n := range len(p) + 1 {
			for _, q := range [][]string{p[:n], p[n:], append(p[:n:n], "z"), append(of("z"), p[:n]...), append(p[:n:n], ""), append(p[:n:n], "a", "a")} {
				wantSlow(t, fmt.Sprint("at ", q), l, q)
				if !slices.ContainsFunc(all, func(other []string) bool { return slices.Equal(other, q) }) {
					wantNone(t, fmt.Sprint("not there ", q), l, q)
				}
			}
		}
		for k := range l { // of one that lies elsewhere
			if k/2 != i {
				wantNone(t, fmt.Sprint("elsewhere ", p), l[k:k+1], p)
			}
		}
	}
	for _, q := range [][]string{nil, of(), of(""), of("x"), of("y"), of("c"), of("a", "b", "c", "d"), of("a", "b", "c", "d", "e", "f", "g"), of("a", "b", "c", "d", "e", "f", "g", "h", "i"), of("", "a"), of("a", ""), of("a/"), of("/a"), of("e\u0301"), of("\xC3"), of("a b"), of("a", "c"), of("c", "a")} {
		wantNone(t, fmt.Sprint("not there ", q), l, q)
	}
	// two with one part alike, both of one length
	two := items(item(ref(0, 1, 0), 1, put(of("a", "b"), number(1))), item(ref(0, 1, 1), 1, put(of("a", "c"), number(2))), item(ref(0, 1, 2), 1, put(of("c", "b"), number(3))))
	wantValues(t, "the first part alike", two, of("a", "b"), number(1))
	wantValues(t, "the first part alike", two, of("a", "c"), number(2))
	wantValues(t, "the last part alike", two, of("c", "b"), number(3))
	wantNone(t, "both parts of others", two, of("c", "c"))
}

// Promise 14.1: Adds and Incs at the path don't count, whatever their values, their times and their places are.
func TestKinds(t *testing.T) {
	p := of("a")
	for i, v := range rising() {
		others := items(item(ref(0, 1, 0), mostTime, add(p, v)), item(ref(0, 1, 1), mostTime, inc(p, 5)))
		behind := items(item(ref(15, mostSeq, 14), mostTime, inc(p, -5)), item(ref(15, mostSeq, 15), mostTime, add(p, v)))
		for _, l := range [][]live.Item{others, others[:1], others[1:], slices.Concat(others, behind)} {
			wantNone(t, fmt.Sprint("no Put ", i), l, p)
		}
		for _, w := range vals(v, number(3), text(""), truth(0)) {
			one := item(ref(3, 3, 3), 3, put(p, w))
			for _, l := range [][]live.Item{slices.Concat(others, items(one)), slices.Concat(items(one), behind), slices.Concat(others, items(one), behind), slices.Concat(others[:1], items(one), behind[1:]), slices.Concat(others[1:], items(one), behind[:1])} {
				wantValues(t, fmt.Sprint("one Put ", i), l, p, w)
				wantLatest(t, fmt.Sprint("one Put ", i), l, p, w)
			}
			two := items(one, item(ref(3, 4, 0), 2, put(p, number(7))))
			l := slices.Concat(others, two[:1], items(item(ref(3, 3, 4), 9, add(p, truth(1)))), two[1:], behind)
			wantSlow(t, fmt.Sprint("two Puts ", i), l, p)
			wantLatest(t, fmt.Sprint("two Puts ", i), l, p, w)
		}
	}
	// which covers others, or is of another one's path: neither matters
	one := items(item(ref(3, 3, 3), 3, put(p, number(1), ref(0, 1, 0), ref(3, 3, 2))), item(ref(3, 3, 4), 3, put(p, number(2), ref(3, 3, 3))))
	wantValues(t, "names others", one, p, number(1), number(2))
}

// Promise 14.1: the last one is that of the greatest Time: the first item's, the last one's, and one's between.
func TestLatestByTime(t *testing.T) {
	p := of("a")
	for n := 1; n <= 12; n++ {
		for k := range n {
			for _, far := range []int{0, 1, mostTime - 2*n} {
				for _, down := range []bool{false, true} {
					var l []live.Item
					for i := range n {
						time := i + 1
						if down {
							time = n - i
						}
						if i == k {
							time = n + 1 + far
						}
						l = append(l, item(ref(i/3, i%3+1, i%2), time, put(p, number(-i))))
					}
					wantLatest(t, fmt.Sprint(k, " of ", n), l, p, number(-k))
					l[k].O.V = text("last") // and where others have one value
					wantLatest(t, fmt.Sprint(k, " of ", n), l, p, text("last"))
				}
			}
		}
	}
	// times that differ in one bit
	for k := range 41 {
		l := items(item(ref(0, 1, 0), 1<<k, put(p, number(2))), item(ref(0, 2, 0), max(1<<k-1, 1), put(p, number(1))))
		last := number(2)
		if k == 0 { // both at the time 1
			last = number(1)
		}
		wantLatest(t, fmt.Sprint("bit ", k), l, p, last)
		l = items(item(ref(0, 1, 0), 1<<k, put(p, number(2))), item(ref(0, 2, 0), 1<<k+1, put(p, number(1))))
		if k < 40 {
			wantLatest(t, fmt.Sprint("bit ", k), l, p, number(1))
		}
	}
}

// Promise 14.1: of equal Times the last one is told by the dot's replica, by its number, and by the place.
func TestLatestByName(t *testing.T) {
	p := of("a")
	for i, c := range [][]api.Ref{
		{ref(0, 1, 0), ref(1, 1, 0)}, {ref(0, mostSeq, 15), ref(1, 1, 0)}, {ref(14, mostSeq, 15), ref(15, 1, 0)}, {ref(9, 5, 3), ref(10, 4, 2)}, {ref(2, 2, 2), ref(10, 2, 2)},
		{ref(3, 1, 0), ref(3, 2, 0)}, {ref(3, 1, 15), ref(3, 2, 0)}, {ref(3, mostSeq-1, 15), ref(3, mostSeq, 0)}, {ref(3, 9, 9), ref(3, 10, 8)}, {ref(3, 2, 4), ref(3, 10, 4)},
		{ref(3, 3, 0), ref(3, 3, 1)}, {ref(3, 3, 14), ref(3, 3, 15)}, {ref(0, 1, 9), ref(0, 1, 10)}, {ref(15, mostSeq, 0), ref(15, mostSeq, 15)},
		{ref(0, 9, 9), ref(1, 8, 8), ref(2, 7, 7)}, {ref(4, 1, 9), ref(4, 2, 8), ref(4, 3, 7)}, {ref(4, 4, 1), ref(4, 4, 2), ref(4, 4, 3)}, {ref(1, 1, 1), ref(1, 1, 2), ref(1, 2, 0), ref(2, 1, 0)},
	} {
		for _, time := range []int{1, 44, mostTime} {
			var l []live.Item
			for k, x := range c { // the later, the smaller
				l = append(l, item(x, time, put(p, number(100-k))))
			}
			wanted := number(100 - len(c) + 1)
			wantLatest(t, fmt.Sprint("names ", i), l, p, wanted)
			for _, v := range vals(number(mostAmount), text("z"), truth(1)) { // and the smallest, or the greatest
				l[len(l)-1].O.V = v
				wantLatest(t, fmt.Sprint("names ", i), l, p, v)
			}
			l[len(l)-1].O.V = number(-9)
			wantLatest(t, fmt.Sprint("names ", i), l, p, number(-9))
			for k := range len(l) - 1 { // an earlier one has a greater time
				l[k].Time = time + 1
				wantLatest(t, fmt.Sprint("names ", i), l, p, l[k].O.V)
				l[k].Time = time
			}
			// the words ask for the name, not for the place in the list
			slices.Reverse(l)
			wantLatest(t, fmt.Sprint("names, the other way round ", i), l, p, number(-9))
		}
	}
	// some at the greatest time, among others behind them that are earlier
	l := items(item(ref(0, 1, 0), 5, put(p, number(1))), item(ref(0, 1, 1), 5, put(p, number(2))), item(ref(0, 2, 0), 4, put(p, number(3))), item(ref(1, 1, 0), 5, put(p, number(4))), item(ref(1, 2, 0), 3, put(p, number(5))), item(ref(2, 1, 0), 4, put(p, number(6))))
	for n, wanted := range []int{1, 2, 2, 4, 4, 4} {
		wantLatest(t, fmt.Sprint("some at one time ", n), l[:n+1], p, number(wanted))
	}
	for n, wanted := range []int{4, 4, 4, 4, 6, 6} {
		wantLatest(t, fmt.Sprint("some at one time, from ", n), l[n:], p, number(wanted))
	}
}

// Promise 14.1: one of a greater Time at another path, or one that is no Put, is not the last one.
func TestLatestOfOthers(t *testing.T) {
	p, one := of("a", "b"), number(5)
	for _, q := range [][]string{of("a"), of("b"), of("a", "b", "c"), of("a", "c"), of("ab"), of("b", "a"), of("a/b"), of("a", "B")} {
		for _, o := range []api.Op{put(q, number(9)), put(q, one), add(q, number(9)), inc(q, 9), add(p, number(9)), add(p, one), inc(p, 9)} {
			for _, time := range []int{1, 2, 3, mostTime} {
				for _, x := range refs(ref(0, 1, 0), ref(4, 4, 3), ref(4, 4, 5), ref(15, mostSeq, 15)) {
					l := items(item(ref(4, 4, 4), 2, put(p, one)), item(x, time, o))
					wantLatest(t, "of another one", l, p, one)
					wantValues(t, "of another one", l, p, one)
					l[0], l[1] = l[1], l[0]
					wantLatest(t, "of another one", l, p, one)
					wantNone(t, "of another one alone", l[:1], p)
					wantNone(t, "of no path", l, nil)
				}
			}
		}
	}
}

// Promise 14.1: a conflict: of no value, of one, of one that is put twice, of two that differ, of many.
func TestConflict(t *testing.T) {
	p, all := of("a"), rising()
	for i, c := range []struct {
		l    []live.Item
		want bool
	}{
		{nil, false}, {[]live.Item{}, false}, {putAll(p, number(1)), false}, {putAll(p, number(1), number(1)), false}, {putAll(p, number(1), number(2)), true}, {putAll(p, number(2), number(1)), true},
		{putAll(p, slices.Repeat(vals(text("a")), 30)...), false}, {putAll(p, append(slices.Repeat(vals(text("a")), 30), text("b"))...), true}, {putAll(p, append(vals(text("b")), slices.Repeat(vals(text("a")), 30)...)...), true},
		{putAll(p, number(0), truth(0)), true}, {putAll(p, number(1), truth(1)), true}, {putAll(p, text(""), number(0)), true}, {putAll(p, text(""), truth(0)), true}, {putAll(p, text("1"), number(1)), true},
		{putAll(p, number(1), number(1), number(2), number(1)), true}, {putAll(p, number(1), number(2), number(3)), true}, {putAll(of("b"), number(1), number(2)), false}, {putAll(nil, number(1), number(2)), false},
		{slices.Concat(putAll(p, number(1)), putAll(of("b"), number(2))), false}, {slices.Concat(putAll(p, number(1)), items(item(ref(9, 9, 9), 9, add(p, number(2))))), false}, {slices.Concat(putAll(p, number(1)), items(item(ref(9, 9, 9), 9, inc(p, 2)))), false},
		{items(item(ref(9, 9, 8), 9, add(p, number(1))), item(ref(9, 9, 9), 9, add(p, number(2)))), false}, {putAll(p, all...), true}, {putAll(p, all[:2]...), true}, {putAll(p, all[:1]...), false},
	} {
		if got := Conflict(c.l, p); got != c.want {
			t.Errorf("%d: %t", i, got)
		}
		wantSlow(t, fmt.Sprint("conflict ", i), c.l, p)
	}
}

// Promise 14.1: of all lists of up to four items, of a few values, times, paths and Kinds, in each order, held against the document's words.
func TestAllSmall(t *testing.T) {
	p, q := of("a"), of("a", "b")
	var ops []api.Op
	for _, v := range vals(number(0), number(1), text("")) {
		ops = append(ops, put(p, v))
	}
	ops = append(ops, put(q, number(1)), add(p, number(1)), inc(p, 1))
	for _, names := range [][]api.Ref{refs(ref(0, 1, 0), ref(0, 2, 0), ref(1, 1, 0), ref(1, 2, 0)), refs(ref(0, 1, 3), ref(0, 2, 2), ref(1, 1, 1), ref(1, 1, 2)), refs(ref(2, 2, 0), ref(1, 3, 1), ref(1, 2, 2), ref(0, 4, 3))} {
		for n := range 5 {
			many := 1
			for range n {
				many *= len(ops) * 2
			}
			l := make([]live.Item, n)
			for k := range many {
				for i := range n {
					l[i] = item(names[i], k%2+1, ops[k/2%len(ops)])
					k /= 2 * len(ops)
				}
				if !slices.Equal(Values(l, p), slowValues(l, p)) || Conflict(l, p) != slowConflict(l, p) {
					t.Fatalf("%v: %v, want %v", l, Values(l, p), slowValues(l, p))
				}
				got, ok := Latest(l, p)
				wanted, there := slowLatest(l, p)
				if got != wanted || ok != there {
					t.Fatalf("%v: %v, %t, want %v, %t", l, got, ok, wanted, there)
				}
			}
		}
	}
}

// Promise 14.1: of stores that are made up, at each path that is there, and at others, held against the document's words.
func TestOfStores(t *testing.T) {
	d := dice(3)
	for i, s := range stores() {
		l := live.All(s.l, s.u)
		for _, p := range asked() {
			wantSlow(t, fmt.Sprint("store ", i, " at ", short(p)), l, p)
			other := mixed(&d, l)
			if !slices.Equal(Values(other, p), Values(l, p)) { // they rise in whatever order they come
				t.Fatalf("store %d at %s: mixed %s", i, short(p), short(Values(other, p)))
			}
		}
	}
}

// told is what is told at a path.
type told struct {
	all      []api.Value
	last     api.Value
	is, many bool
}

// toldAt tells it.
func toldAt(l []live.Item, p []string) (x told) {
	x.all, x.many = Values(l, p), Conflict(l, p)
	x.last, x.is = Latest(l, p)
	return x
}

// alike holds what is told against what else is told.
func alike(a, b told) bool {
	return slices.Equal(a.all, b.all) && a.last == b.last && a.is == b.is && a.many == b.many
}

// turned tells a count of a dot that was turned so often.
func turned(u []api.Undo, d api.Dot, n int) []api.Undo { return tally.Put(u, api.Undo{D: d, N: n}) }

// Promise 14.2: a Put that covers all that were there leaves its value alone; undone, it leaves those that were there; redone, its own again.
func TestCoversAll(t *testing.T) {
	p, q := of("a"), of("b")
	all := vals(number(3), text("t"), number(-1), truth(1), number(3), number(0))
	for n := range len(all) + 1 {
		var l []api.Txn
		for i, v := range all[:n] {
			l = append(l, done(2*i+1, 5, 10+i%3, inc(of("n"), 1), put(p, v), put(q, v)))
		}
		ahead := checked(t, l, nil)
		was := toldAt(ahead, p)
		seen := live.Refs(live.At(ahead, p, op.Register))
		if len(seen) != n || len(was.all) != len(slowValues(ahead, p)) {
			t.Fatalf("%d are there, %d values", len(seen), len(was.all))
		}
		for _, d := range []api.Dot{dotOf(0, 1), dotOf(1, 4), dotOf(1, 6), dotOf(4, 1), dotOf(6, mostSeq), dotOf(15, 1)} {
			for _, time := range []int{1, 10, 11, 12, 13, mostTime} {
				for _, v := range vals(number(3), number(-7), text(""), truth(0), truth(1)) {
					what := fmt.Sprint(n, " covered by ", d, time, v)
					with := txn.Put(l, done(d.R, d.N, time, put(p, v, seen...)))
					if len(with) != n+1 {
						t.Fatal("no such transactions")
					}
					wantValues(t, what, checked(t, with, nil), p, v)
					wantLatest(t, what, checked(t, with, nil), p, v)
					if !alike(toldAt(checked(t, with, undos(api.Undo{D: d, N: 1})), p), was) {
						t.Fatalf("%s: undone: %v, want %v", what, toldAt(live.All(with, undos(api.Undo{D: d, N: 1})), p), was)
					}
					if other := toldAt(live.All(with, nil), q); !alike(other, toldAt(ahead, q)) {
						t.Fatalf("%s: at another path %v", what, other)
					}
				}
			}
			with := txn.Put(l, done(d.R, d.N, 11, put(p, text("new"), seen...)))
			for k := range mostUndo + 1 {
				got := toldAt(live.All(with, turned(nil, d, k)), p)
				if k%2 == 0 && !alike(got, told{vals(text("new")), text("new"), true, false}) || k%2 == 1 && !alike(got, was) {
					t.Fatalf("%d turned %d times: %v", n, k, got)
				}
			}
		}
		// which of those below it count is asked when it is undone
		with := txn.Put(l, done(15, 1, 1, put(p, text("new"), seen...)))
		for k := range n {
			u := turned(nil, l[k].D, 1)
			wantValues(t, "one below undone", checked(t, with, u), p, text("new"))
			got, left := toldAt(live.All(with, turned(u, dotOf(15, 1), 1)), p), toldAt(live.All(slices.Delete(slices.Clone(l), k, k+1), nil), p)
			if !alike(got, left) {
				t.Fatalf("both undone: %v, want %v", got, left)
			}
		}
	}
}

// Promise 14.2: a Put that covers some leaves the others, and its own; undone, it leaves all; two that cover the same are both there.
func TestCoversSome(t *testing.T) {
	p := of("a")
	all := vals(number(4), text("x"), number(2), truth(0))
	var l []api.Txn
	var names []api.Ref
	for i, v := range all {
		l, names = append(l, done(i+1, 1, 5, put(p, v))), append(names, ref(i+1, 1, 0))
	}
	was := toldAt(checked(t, l, nil), p)
	for k := range 16 {
		var seen []api.Ref
		left := vals(number(3))
		for i, v := range all {
			if k>>i%2 == 1 {
				seen = append(seen, names[i])
			} else {
				left = append(left, v)
			}
		}
		left = inOrder(left)
		for _, d := range []api.Dot{dotOf(0, 1), dotOf(2, 9), dotOf(9, 1)} {
			with := txn.Put(l, done(d.R, d.N, 6, put(p, number(3), seen...)))
			wantValues(t, fmt.Sprint("some ", k), checked(t, with, nil), p, left...)
			wantLatest(t, fmt.Sprint("some ", k), checked(t, with, nil), p, number(3))
			if got := toldAt(checked(t, with, turned(nil, d, 1)), p); !alike(got, was) {
				t.Fatalf("some %d undone: %v, want %v", k, got, was)
			}
			// by a Reset, and a Remove, alike, but for a value of its own
			for _, o := range []api.Op{reset(p, seen...), remove(p, number(9), seen...)} {
				with = txn.Put(l, done(d.R, d.N, 6, o))
				wantValues(t, fmt.Sprint("taken away ", k), checked(t, with, nil), p, slices.DeleteFunc(slices.Clone(left), func(v api.Value) bool { return v == number(3) })...)
			}
		}
	}
	two := append(slices.Clone(l), done(7, 1, 9, put(p, number(7), names...)), done(8, 1, 8, put(p, number(6), names...)))
	wantValues(t, "two that cover all", checked(t, two, nil), p, number(6), number(7))
	wantLatest(t, "two that cover all", checked(t, two, nil), p, number(7))
	wantValues(t, "one of them undone", checked(t, two, undos(un(7, 1, 1))), p, number(6))
	wantLatest(t, "one of them undone", checked(t, two, undos(un(7, 1, 1))), p, number(6))
	wantValues(t, "the other one undone", checked(t, two, undos(un(8, 1, 1))), p, number(7))
	if got := toldAt(checked(t, two, undos(un(7, 1, 1), un(8, 1, 1))), p); !alike(got, was) {
		t.Fatalf("both undone: %v, want %v", got, was)
	}
}

// Promise 14.2: a chain of Puts, each covering the one ahead, undone one by one and all mixed.
func TestChain(t *testing.T) {
	p := of("a")
	var l []api.Txn
	for i := range 8 {
		o := put(p, number(i))
		if i > 0 {
			o.Seen = refs(ref(0, i, 0))
		}
		l = append(l, done(0, i+1, i+1, o))
	}
	for k := range 256 {
		var u []api.Undo
		var left []api.Value
		for i := range 8 {
			if k>>i%2 == 1 {
				u = turned(u, dotOf(0, i+1), 1)
			} else if i == 7 || k>>(i+1)%2 == 1 {
				left = append(left, number(i))
			}
		}
		wantValues(t, fmt.Sprint("chain ", k), checked(t, l, u), p, left...)
		if len(left) > 0 {
			wantLatest(t, fmt.Sprint("chain ", k), live.All(l, u), p, left[len(left)-1])
		} else {
			wantNone(t, fmt.Sprint("chain ", k), live.All(l, u), p)
		}
	}
	// in one transaction, the last one of three that cover each other
	one := row(done(1, 1, 1, put(p, number(3)), put(p, number(2), ref(1, 1, 0)), put(p, number(1), ref(1, 1, 1))))
	wantValues(t, "in one", checked(t, one, nil), p, number(1))
	wantLatest(t, "in one", checked(t, one, nil), p, number(1))
	wantNone(t, "in one, undone", checked(t, one, undos(un(1, 1, 1))), p)
	wantValues(t, "in one, redone", checked(t, one, undos(un(1, 1, 2))), p, number(1))
}

// Promise 14.2: of Puts that don't cover each other all values are there, whichever of their transactions stands ahead.
func TestAllAreThere(t *testing.T) {
	p, all, d := of("a"), rising(), dice(5)
	dots := []api.Dot{dotOf(0, 1), dotOf(0, 2), dotOf(1, 1), dotOf(1, 9), dotOf(9, 3), dotOf(10, 3), dotOf(15, mostSeq)}
	for n := range 500 {
		many := 1 + n%len(dots)
		some := mixed(&d, all)[:many]
		rise := inOrder(some)
		for range 10 {
			var l []api.Txn
			for i, x := range mixed(&d, dots)[:many] {
				l = txn.Put(l, done(x.R, x.N, 1+d.roll(3), add(of("b"), number(1)), put(p, some[i])))
			}
			wantValues(t, fmt.Sprint("all ", n), checked(t, l, nil), p, rise...)
			wantSlow(t, fmt.Sprint("all ", n), live.All(l, nil), p)
		}
		// all in one transaction, at one time: the last one of them is told by its place
		var one api.Txn
		for _, v := range some {
			one = done(3, 3, 3, append(one.Ops, put(p, v))...)
		}
		wantValues(t, fmt.Sprint("in one ", n), checked(t, row(one), nil), p, rise...)
		wantLatest(t, fmt.Sprint("in one ", n), live.All(row(one), nil), p, some[many-1])
	}
	for i, v := range all { // each two of them, either way round
		for _, w := range all[:i] {
			for _, time := range []int{1, 2, 3} {
				l := row(done(4, 4, 2, put(p, v)), done(5, 5, time, put(p, w)))
				wantValues(t, "of two", live.All(l, nil), p, w, v)
				l[0].Ops, l[1].Ops = l[1].Ops, l[0].Ops
				wantValues(t, "of two", live.All(l, nil), p, w, v)
				wantValues(t, "of two, one undone", live.All(l, undos(un(4, 4, 1))), p, v)
				wantValues(t, "of two, the other one undone", live.All(l, undos(un(5, 5, 3))), p, w)
				wantNone(t, "of two, both undone", live.All(l, undos(un(4, 4, 1), un(5, 5, 1))), p)
			}
		}
	}
}

// Promise 14.2: in stores that are made up: a Put that covers all that are told at a path, and then undone.
func TestCoversAllOfStores(t *testing.T) {
	for i, s := range stores()[:402] {
		ahead := live.All(s.l, s.u)
		for k, p := range paths()[1:] {
			was := toldAt(ahead, p)
			d := dotOf((i+k)%16, mostSeq-k)
			v := rising()[(i+7*k)%len(rising())]
			with := txn.Put(s.l, done(d.R, d.N, 1+i%5, put(p, v, live.Refs(live.At(ahead, p, op.Register))...)))
			if got := toldAt(checked(t, with, s.u), p); !alike(got, told{vals(v), v, true, false}) {
				t.Fatalf("store %d at %v: %v, want %v", i, p, got, v)
			}
			if got := toldAt(live.All(with, turned(s.u, d, 1)), p); !alike(got, was) {
				t.Fatalf("store %d at %v, undone: %v, want %v", i, p, got, was)
			}
			for _, q := range paths() {
				if !slices.Equal(p, q) && !alike(toldAt(live.All(with, s.u), q), toldAt(ahead, q)) {
					t.Fatalf("store %d at %v: another path", i, q)
				}
			}
		}
	}
}

// alikeItems holds two lists of items against each other, field by field.
func alikeItems(a, b []live.Item) bool {
	return slices.EqualFunc(a, b, func(a, b live.Item) bool {
		return a.X == b.X && a.Time == b.Time && a.O.Kind == b.O.Kind && slices.Equal(a.O.Path, b.O.Path) && a.O.V == b.O.V && a.O.N == b.O.N && slices.Equal(a.O.Seen, b.O.Seen)
	})
}

// copied tells items with lists of their own.
func copied(l []live.Item) (all []live.Item) {
	for _, x := range l {
		x.O.Path, x.O.Seen = slices.Clone(x.O.Path), slices.Clone(x.O.Seen)
		all = append(all, x)
	}
	return all
}

// guarded tells items between others in the same memory, with paths that all lie beside each other, and whether all is as it was.
func guarded(l []live.Item) ([]live.Item, func() bool) {
	var parts []string
	var seen []api.Ref
	for _, x := range l {
		parts, seen = append(append(parts, x.O.Path...), "b", "\xFF"), append(append(seen, x.O.Seen...), ref(0, 1, 0))
	}
	all := putAll(of("a"), number(77), text("behind"))
	i, k := 0, 0
	for _, x := range l {
		x.O.Path, x.O.Seen = parts[i:i+len(x.O.Path)], seen[k:k+len(x.O.Seen)]
		i, k = i+len(x.O.Path)+2, k+len(x.O.Seen)+1
		all = append(all, x)
	}
	for _, p := range paths() {
		all = append(all, item(ref(15, mostSeq, 15), mostTime, put(p, text("behind"))))
	}
	keptParts, keptSeen, kept := slices.Clone(parts), slices.Clone(seen), copied(all)
	return all[2 : 2+len(l)], func() bool {
		return slices.Equal(parts, keptParts) && slices.Equal(seen, keptSeen) && alikeItems(all, kept)
	}
}

// R4: no list that came in is changed, nor what lies behind its length read or written, also where lists share memory.
func TestNothingIsChanged(t *testing.T) {
	for i, s := range stores() {
		plain := live.All(s.l, s.u)
		l, kept := guarded(plain)
		for _, p := range asked() {
			wantSlow(t, fmt.Sprint("store ", i, " at ", short(p)), l, p)
		}
		for _, x := range l[:min(len(l), 20)] {
			for n := range len(x.O.Path) + 1 {
				p := x.O.Path[:n] // the items' own memory: behind it lies more
				wanted := toldAt(plain, slices.Clone(p))
				if got := toldAt(l, p); !alike(got, wanted) {
					t.Fatalf("store %d at %v: %v, want %v", i, p, got, wanted)
				}
			}
		}
		for n := range min(len(l), 20) { // a part of it, behind which lies the rest
			for _, p := range paths()[1:4] {
				wantSlow(t, fmt.Sprint("store ", i, " up to ", n), l[:n], p)
				wantSlow(t, fmt.Sprint("store ", i, " from ", n), l[n:], p)
			}
		}
		if !kept() {
			t.Fatalf("store %d was changed", i)
		}
	}
}

// R4: answers that are changed change neither what came in, nor each other.
func TestAnswersAreNew(t *testing.T) {
	p := of("a")
	for _, l := range [][]live.Item{putAll(p, number(1)), putAll(p, number(1), number(1)), putAll(p, rising()...), putAll(p, slices.Repeat(rising(), 3)...)} {
		kept := copied(l)
		wanted := slowValues(l, p)
		first, second := Values(l, p), Values(l, p)
		for i := range first[:cap(first)] {
			first[:cap(first)][i] = text("spoilt")
		}
		if !slices.Equal(second, wanted) || !slices.Equal(Values(l, p), wanted) || !alikeItems(l, kept) {
			t.Errorf("%s, want %s", short(second), short(wanted))
		}
	}
}

// P1 and R5: no call panics, whatever it is given, and each answers the same, however often it is asked.
func TestAnyArguments(t *testing.T) {
	odd := api.Op{Kind: api.Put, Path: slices.Repeat(of(""), 20), V: api.Value{Kind: -1, N: math.MinInt, S: "\xFF"}, N: math.MinInt, Seen: slices.Repeat(refs(ref(-1, math.MinInt, math.MaxInt)), 300)}
	lists := [][]live.Item{
		nil, items(live.Item{}), items(live.Item{}, live.Item{}), items(item(ref(-1, math.MinInt, math.MaxInt), math.MinInt, odd), item(ref(math.MaxInt, math.MinInt, -1), math.MaxInt, odd), item(api.Ref{}, 0, odd)),
		items(item(ref(0, 1, 0), 1, api.Op{Kind: math.MaxInt, Path: of("a")}), item(ref(0, 1, 0), 1, api.Op{Kind: math.MinInt, Path: of("a")}), item(ref(0, 1, 0), 1, api.Op{Kind: api.Put, Path: of("a")}), item(ref(0, 1, 0), 1, reset(of("a"))), item(ref(0, 1, 0), 1, remove(of("a"), number(1)))),
		items(item(api.Ref{}, 0, put(nil, number(1))), item(api.Ref{}, 0, put(of(), number(1)))), slices.Repeat(putAll(of("a"), rising()...), 3),
	}
	for _, s := range stores()[:100] {
		lists = append(lists, live.All(s.l, s.u))
	}
	for i, l := range lists {
		for _, p := range append(asked(), odd.Path, odd.Path[:19]) {
			first := toldAt(l, p)
			for range 10 {
				if got := toldAt(l, p); !alike(got, first) {
					t.Fatalf("%d at %s is answered in two ways: %v and %v", i, short(p), got, first)
				}
			}
			if first.is != (len(first.all) > 0) || first.many != (len(first.all) > 1) || first.is && !slices.Contains(first.all, first.last) {
				t.Fatalf("%d at %s: %v", i, short(p), first)
			}
		}
	}
}

// The document's example: Puts of 1 and 2 that do not cover each other: 1, 2.
func TestExamples(t *testing.T) {
	p := of("a")
	l := row(done(0, 1, 1, put(p, number(1))), done(1, 1, 2, put(p, number(2))))
	wantValues(t, "both", checked(t, l, nil), p, number(1), number(2))
	wantLatest(t, "both", live.All(l, nil), p, number(2))
}
