package check

import (
	"fmt"
	"math"
	"slices"
	"strings"
	"testing"

	"palinode/api"
	"palinode/live"
	"palinode/op"
	"palinode/path"
	"palinode/tally"
	"palinode/txn"
	"palinode/value"
)

const (
	mostSeq    = 1048576       // the greatest number that a dot may have: 2^20
	mostTime   = 1099511627776 // the greatest time: 2^40
	mostAmount = 2147483647    // the greatest number of a value, and of an Inc: 2^31 - 1
	mostText   = 64            // how many bytes a text of a value has at the most
	mostParts  = 8             // how many parts a path has at the most
	mostChars  = 24            // how many characters a name has at the most
	mostOps    = 16            // how many operations a transaction has at the most
	mostSeen   = 256           // how many others an operation covers at the most
	mostTxns   = 1000          // how many transactions there are at the most
)

// dotOf tells a dot: its replica, and its number there.
func dotOf(r, n int) api.Dot { return api.Dot{R: r, N: n} }

// ref tells an operation's name: its dot's replica and number, and its place.
func ref(r, n, i int) api.Ref { return api.Ref{D: dotOf(r, n), I: i} }

// refs tells operations' names, one by one.
func refs(l ...api.Ref) []api.Ref { return l }

// of tells parts of a path, one by one.
func of(parts ...string) []string { return parts }

// times tells a text, so many times.
func times(s string, n int) string { return strings.Repeat(s, n) }

// many tells so many parts that are all alike.
func many(part string, n int) []string { return slices.Repeat(of(part), n) }

// vals tells values, one by one.
func vals(l ...api.Value) []api.Value { return l }

// items tells items, one by one.
func items(l ...live.Item) []live.Item { return l }

// row tells transactions, one by one.
func row(l ...api.Txn) []api.Txn { return l }

// ops tells operations, one by one.
func ops(l ...api.Op) []api.Op { return l }

// undos tells counts, one by one.
func undos(l ...api.Undo) []api.Undo { return l }

// un tells a count: of a dot, and how often.
func un(r, n, often int) api.Undo { return api.Undo{D: dotOf(r, n), N: often} }

// turned tells counts with one of a dot that was turned so often.
func turned(u []api.Undo, d api.Dot, n int) []api.Undo { return tally.Put(u, api.Undo{D: d, N: n}) }

func number(n int) api.Value { return api.Value{Kind: api.Int, N: n} }

func text(s string) api.Value { return api.Value{Kind: api.Text, S: s} }

func truth(n int) api.Value { return api.Value{Kind: api.Bool, N: n} }

func put(p []string, v api.Value, seen ...api.Ref) api.Op {
	return api.Op{Kind: api.Put, Path: p, V: v, Seen: seen}
}

func add(p []string, v api.Value) api.Op { return api.Op{Kind: api.Add, Path: p, V: v} }

func inc(p []string, n int) api.Op { return api.Op{Kind: api.Inc, Path: p, N: n} }

func remove(p []string, v api.Value, seen ...api.Ref) api.Op {
	return api.Op{Kind: api.Remove, Path: p, V: v, Seen: seen}
}

func reset(p []string, seen ...api.Ref) api.Op {
	return api.Op{Kind: api.Reset, Path: p, Seen: seen}
}

// done tells a transaction of a replica, a number there, and a time.
func done(r, n, time int, ops ...api.Op) api.Txn {
	return api.Txn{D: dotOf(r, n), User: r % 8, Time: time, Ops: ops}
}

// item tells one that counts.
func item(x api.Ref, time int, o api.Op) live.Item { return live.Item{X: x, O: o, Time: time} }

// nth tells names that rise, one by one: of each replica many, with eight places each.
func nth(i int) api.Ref { return ref(i/4096, i/8%512+1, i%8) }

// itemsOf tells items that are these operations, in this order, with names that rise, at times that fall.
func itemsOf(l ...api.Op) (all []live.Item) {
	for i, o := range l {
		all = append(all, item(nth(i), mostTime-i, o))
	}
	return all
}

// names tells the names of so many items, from the first one that itemsOf tells on.
func names(n int) (all []api.Ref) {
	for i := range n {
		all = append(all, nth(i))
	}
	return all
}

// dice rolls numbers that are the same in each run.
type dice uint64

// roll tells a number from 0 on, below another one.
func (d *dice) roll(below int) int {
	*d = *d*6364136223846793005 + 1442695040888963407
	return int(uint64(*d) >> 33 % uint64(below))
}

// mixed tells a list in another order.
func mixed[E any](d *dice, l []E) []E {
	l = slices.Clone(l)
	for i := range l {
		k := i + d.roll(len(l)-i)
		l[i], l[k] = l[k], l[i]
	}
	return l
}

// backwards tells a list from its end on.
func backwards[E any](l []E) []E {
	l = slices.Clone(l)
	slices.Reverse(l)
	return l
}

// rising tells values of each Kind: at the edges, and between; some have the same number, or look like another one.
func rising() []api.Value {
	long := times("a", mostText-1)
	return vals(number(-mostAmount), number(-65536), number(-1), number(0), number(1), number(2), number(10), number(255), number(256), number(mostAmount-1), number(mostAmount),
		text(""), text(" "), text("-1"), text("0"), text("1"), text("A"), text("a"), text("aa"), text(long), text(long+"a"), text(long+"b"), text("b"), text("true"), text("é"), text("世"), text("\U0010FFFF"),
		truth(0), truth(1))
}

// few tells a few of them.
func few() []api.Value {
	return vals(number(0), number(1), number(2), text(""), text("1"), truth(0), truth(1))
}

// never tells values that may not be.
func never() []api.Value {
	return vals(api.Value{}, api.Value{Kind: 4}, api.Value{Kind: -1, N: 1}, truth(2), truth(-1), api.Value{Kind: api.Bool, S: "a"}, api.Value{Kind: api.Int, S: "a"}, api.Value{Kind: api.Int, N: 1, S: "1"}, api.Value{Kind: api.Text, N: 1}, api.Value{Kind: api.Text, N: 1, S: "a"}, number(mostAmount+1), number(-mostAmount-1), number(math.MinInt), number(math.MaxInt), text(times("a", mostText+1)), text("\xFF"), api.Value{N: 1}, api.Value{S: "a"})
}

// edges tells paths: some begin as others do, by parts or by letters alone, of one part and of eight; some have the same letters, split otherwise.
func edges() [][]string {
	return [][]string{
		of(" "), of("/"), of("/", "/"), of("//"), of(`\`), of(`\`, `\`), of("A"), of("A", "b"), of("a"), of("a", "B"), of("a", "a"), of("a", "a", "a"), of("aa", "a"), of("a", "aa"), of("aaa"), many("a", 7), many("a", 8), append(many("a", 7), "b"), of("a", "b"), of("a", "b", "c"), of("ab", "c"), of("a", "bc"), of("abc"), of("a", "c"), of("a", "b", "c", "d", "e", "f", "g", "h"), of("a", "b", "c", "d", "e", "f", "g", "i"), of("a", "b/c"), of("a/b", "c"), of("a/b/c"), of("a/b"), of("a", "/"), of("a/"), of("ab"), of("b"), of("b", "a"), of("m", "k"), of("m", "n", "x"), of("é"), of("é", "a"), of("e"), of("世", "界"), of("世界"), many(times("𝄞", mostChars), mostParts),
	}
}

// paths tells a few paths for stores, the first one more than once.
func paths() [][]string {
	return [][]string{of("a"), of("a"), of("a", "b"), of("a", "b", "c"), of("ab"), of("a/b"), of("b"), of("é"), of("A"), of("b", "c"), of("a", "b", "c", "d", "e", "f", "g", "h")}
}

// asked tells paths at which an operation is asked for: those for stores, and such as are not there.
func asked() [][]string {
	return append(paths(), of("a", "c"), of("a", "bc"), of("a", "b", "c", "d"), of("a", "b", "c", "d", "e", "f", "g"), of("a", "b", "c", "d", "e", "f", "g", "i"), of("b", "c", "d"), of("x"), of("é", "x"), of("ab", "c"))
}

// around tells paths that may be: each beginning of one, what goes on behind it, and what differs in a part alone.
func around(p []string) (all [][]string) {
	for n := 1; n <= len(p); n++ {
		all = append(all, slices.Clone(p[:n]))
	}
	for n := range p {
		for _, part := range of("x", p[n]+"a", p[n]+"/", "a"+p[n], times("a", mostChars)) {
			other := slices.Clone(p)
			other[n] = part
			all = append(all, other, other[:n+1], append(slices.Clone(p), part))
		}
	}
	all = append(all, append(slices.Clone(p), p...), of(strings.Join(p, "")), of(strings.Join(p, "/")), append(of("x"), p...), backwards(p))
	return slices.DeleteFunc(all, func(p []string) bool { return path.Check(p) != api.OK })
}

// one tells an operation of each kind at a path, that may be: of the kinds from Put to Reset.
func one(p []string, v api.Value) []api.Op {
	return ops(put(p, v), add(p, v), inc(p, 5), remove(p, v), reset(p))
}

// each tells one of each kind, for each value.
func each(p []string, l ...api.Value) (all []api.Op) {
	for _, v := range l {
		all = append(all, put(p, v), add(p, v), remove(p, v))
	}
	return append(all, inc(p, 1), inc(p, -1), inc(p, mostAmount), inc(p, -mostAmount), reset(p))
}

// leafOf tells the kind of leaf of operations of each kind: none, the register, the bag, the counter, the bag again, none.
func leafOf(kind int) int { return []int{0, 1, 2, 3, 2, 0}[kind] }

// spelt tells a path as one text, in which no name has what stands behind each part.
func spelt(p []string) string { return strings.Join(append(slices.Clone(p), ""), "\x00") }

// begins tells whether a path begins with another one, by their texts.
func begins(p, with []string) bool { return strings.HasPrefix(spelt(p), spelt(with)) }

// slowClash is what the document says of a clash.
func slowClash(l []live.Item, o api.Op) bool {
	for _, x := range l {
		at, below, above := spelt(x.O.Path) == spelt(o.Path), begins(x.O.Path, o.Path), begins(o.Path, x.O.Path)
		if o.Kind != 5 && (at && leafOf(x.O.Kind) != leafOf(o.Kind) || !at && (below || above)) {
			return true
		}
	}
	return false
}

// refAhead tells whether a name stands ahead of another one: by its replica, its number there, its place.
func refAhead(a, b api.Ref) bool {
	if a.D.R != b.D.R {
		return a.D.R < b.D.R
	}
	if a.D.N != b.D.N {
		return a.D.N < b.D.N
	}
	return a.I < b.I
}

// inPlace tells names with one more, in its place, unless it is there.
func inPlace(l []api.Ref, x api.Ref) []api.Ref {
	i := 0
	for i < len(l) && refAhead(l[i], x) {
		i++
	}
	if i < len(l) && l[i] == x {
		return l
	}
	return slices.Insert(l, i, x)
}

// slowSeen is what the document says of what is covered.
func slowSeen(l []live.Item, o api.Op) (seen []api.Ref) {
	for _, x := range l {
		at := spelt(x.O.Path) == spelt(o.Path)
		switch {
		case o.Kind == 1 && at && x.O.Kind == 1, o.Kind == 4 && at && x.O.Kind == 2 && x.O.V == o.V, o.Kind == 5 && begins(x.O.Path, o.Path):
			seen = inPlace(seen, x.X)
		}
	}
	return seen
}

// slowMake is what the document says: of an operation, what it covers, and what is wrong.
func slowMake(l []live.Item, o api.Op) ([]api.Ref, api.Errno) {
	o.Seen = nil
	if e := op.Check(o); e != api.OK {
		return nil, e
	}
	if slowClash(l, o) {
		return nil, api.ErrClash
	}
	seen := slowSeen(l, o)
	if len(seen) == 0 && (o.Kind == 4 || o.Kind == 5) {
		return nil, api.ErrNothing
	}
	if len(seen) > mostSeen {
		return nil, api.ErrFull
	}
	return seen, api.OK
}

// short tells the beginning of what is tested, for a message.
func short(x any) string { return fmt.Sprintf("%.300s", fmt.Sprintf("%q", x)) }

// alike holds two operations against each other, field by field.
func alike(a, b api.Op) bool {
	return a.Kind == b.Kind && slices.Equal(a.Path, b.Path) && a.V == b.V && a.N == b.N && slices.Equal(a.Seen, b.Seen)
}

// wantMade asks that an operation is made: with just these in Seen, and nothing else that was not asked for; and that it may be.
func wantMade(t *testing.T, what string, l []live.Item, o api.Op, seen ...api.Ref) {
	t.Helper()
	got, e := Make(l, o)
	wanted := o
	wanted.Seen = seen
	if e != api.OK || !alike(got, wanted) {
		t.Fatalf("%s: of %s is made %s, %d, want %s", what, short(o), short(got), e, short(wanted))
	}
	if e := op.Check(got); e != api.OK {
		t.Fatalf("%s: of %s is made %s, which may not be: %d", what, short(o), short(got), e)
	}
}

// wantError asks that an operation is not made: nothing is told but an error.
func wantError(t *testing.T, what string, l []live.Item, o api.Op, wanted api.Errno) {
	t.Helper()
	got, e := Make(l, o)
	if e != wanted || got.Kind != 0 || got.Path != nil || got.V != (api.Value{}) || got.N != 0 || got.Seen != nil {
		t.Fatalf("%s: of %s is made %s, %d, want the error %d", what, short(o), short(got), e, wanted)
	}
}

// want holds what is made against what is wanted: these that are covered, or an error.
func want(t *testing.T, what string, l []live.Item, o api.Op, e api.Errno, seen ...api.Ref) {
	t.Helper()
	if e != api.OK {
		wantError(t, what, l, o, e)
		return
	}
	wantMade(t, what, l, o, seen...)
}

// wantSlow holds what is made against the document's words, and tells the error.
func wantSlow(t *testing.T, what string, l []live.Item, o api.Op) api.Errno {
	t.Helper()
	seen, e := slowMake(l, o)
	want(t, what, l, o, e, seen...)
	return e
}

// checked tells the items of transactions that may be.
func checked(t *testing.T, l []api.Txn, u []api.Undo) []live.Item {
	t.Helper()
	for i, x := range l {
		if e := txn.Check(x); e != api.OK {
			t.Fatalf("the transaction %d may not be: %d", i, e)
		}
	}
	if !txn.Rises(l) || !tally.Right(u) {
		t.Fatal("no such transactions, or counts")
	}
	return live.All(l, u)
}

// stored is what is known of: transactions that rise, and counts.
type stored struct {
	l []api.Txn
	u []api.Undo
}

// anyOp tells an operation of any Kind, that covers some of others if it may.
func anyOp(d *dice, others []api.Ref) api.Op {
	p, v := paths()[d.roll(len(paths()))], few()[d.roll(len(few()))]
	var seen []api.Ref
	for _, x := range others {
		if d.roll(len(others)) < 2 && len(seen) < mostSeen {
			seen = append(seen, x)
		}
	}
	switch d.roll(12) {
	case 0:
		return put(p, v, seen...)
	case 1, 2:
		return put(p, v)
	case 3, 4, 5, 6:
		return add(p, v)
	case 7, 8:
		return inc(p, 1+d.roll(9))
	case 9, 10:
		return remove(p, v, seen...)
	}
	return reset(p, seen...)
}

// store tells so many transactions, each with up to so many operations, that cover each other as it comes, and counts of some.
func store(d *dice, many, most int) (s stored) {
	var dots []api.Dot
	for i := range many {
		dots = append(dots, dotOf(i%16, i/16*3+1+d.roll(3)))
	}
	slices.SortFunc(dots, func(a, b api.Dot) int { return (a.R-b.R)*mostSeq*2 + a.N - b.N })
	var all []api.Ref
	for _, x := range dots {
		for i := range most {
			all = append(all, api.Ref{D: x, I: i})
		}
	}
	for _, x := range dots {
		t := done(x.R, x.N, 1+d.roll(1+many/3))
		for range 1 + d.roll(most) {
			t.Ops = append(t.Ops, anyOp(d, all))
		}
		if t.Thin = d.roll(5) == 0; t.Thin {
			t.Ops[d.roll(len(t.Ops))] = api.Op{}
		}
		s.l = append(s.l, t)
		if d.roll(3) == 0 {
			s.u = append(s.u, api.Undo{D: x, N: 1 + d.roll(4)})
		}
	}
	return s
}

// stores tells many that are unlike: none, a few, and many transactions, with one operation or many.
func stores() (all []stored) {
	d := dice(19)
	all = append(all, stored{}, stored{l: []api.Txn{}, u: []api.Undo{}})
	for i := range 400 {
		all = append(all, store(&d, 1+i%12, 1+i%6))
	}
	for i := range 20 {
		all = append(all, store(&d, 10+5*i, 1+i%mostOps))
	}
	return append(all, store(&d, 200, mostOps), store(&d, 600, mostOps))
}

// The test's own limits, kinds, values and paths are what they say they are.
func TestLists(t *testing.T) {
	if api.MaxSeq != mostSeq || txn.MaxTime != mostTime || api.MaxAmount != mostAmount || api.MaxText != mostText || api.MaxDepth != mostParts || api.MaxName != mostChars || api.MaxOps != mostOps || api.MaxSeen != mostSeen || api.MaxTxns != mostTxns {
		t.Error("other limits")
	}
	if api.Put != 1 || api.Add != 2 || api.Inc != 3 || api.Remove != 4 || api.Reset != 5 {
		t.Error("other kinds")
	}
	for kind := range 6 {
		if op.Leaf(kind) != leafOf(kind) {
			t.Errorf("another leaf of %d", kind)
		}
	}
	for _, v := range slices.Concat(rising(), few()) {
		if !value.Right(v) {
			t.Errorf("%+v is wrong", v)
		}
	}
	for _, v := range never() {
		if value.Right(v) {
			t.Errorf("%+v is right", v)
		}
	}
	for _, p := range slices.Concat(edges(), asked()) {
		if e := path.Check(p); e != api.OK {
			t.Errorf("%q is wrong: %d", p, e)
		}
		for _, o := range each(p, few()...) {
			if e := op.Check(o); e != api.OK {
				t.Errorf("%s is wrong: %d", short(o), e)
			}
		}
	}
	for i, l := 1, names(40000); i < len(l); i++ {
		if !op.Refs(l[i-1:i+1]) || !refAhead(l[i-1], l[i]) || refAhead(l[i], l[i-1]) {
			t.Fatalf("names that don't rise: %v, %v", l[i-1], l[i])
		}
	}
}

// The stores that are made up may be, and bring each answer of each kind of operation.
func TestStores(t *testing.T) {
	found := map[api.Errno][6]int{}
	for _, s := range stores() {
		l := checked(t, s.l, s.u)
		for _, p := range asked() {
			for _, o := range each(p, few()...) {
				_, e := slowMake(l, o)
				n := found[e]
				n[o.Kind]++
				found[e] = n
			}
		}
	}
	for kind := 1; kind <= 5; kind++ {
		vain := kind == api.Remove || kind == api.Reset
		if found[api.OK][kind] < 100 || (found[api.ErrClash][kind] < 100) != (kind == api.Reset) || (found[api.ErrNothing][kind] > 100) != vain || found[api.ErrFull][api.Reset] < 1 {
			t.Errorf("%d: %v", kind, found)
		}
	}
}

// Promise 19.1: answers that are written out.
func TestWritten(t *testing.T) {
	a, ab, m, mk := of("a"), of("a", "b"), of("m"), of("m", "k")
	n1, n2, s1 := number(1), number(2), text("1")
	l := items(
		item(ref(0, 1, 0), 9, put(a, n1)),
		item(ref(0, 1, 2), 9, put(a, n2)),
		item(ref(0, 2, 0), 3, add(mk, n1)),
		item(ref(0, 2, 1), 3, add(mk, n2)),
		item(ref(1, 1, 0), 5, add(mk, n1)),
		item(ref(1, 1, 1), 5, inc(of("m", "n"), 7)),
		item(ref(1, 1, 15), 5, put(a, n1, ref(2, 2, 2))),
		item(ref(2, 1, 0), 1, inc(of("m", "n"), -7)),
		item(ref(15, mostSeq, 15), mostTime, put(of("m", "x", "y"), s1)),
	)
	for i, c := range []struct {
		o    api.Op
		e    api.Errno
		seen []api.Ref
	}{
		{put(a, n1), api.OK, refs(ref(0, 1, 0), ref(0, 1, 2), ref(1, 1, 15))},
		{put(a, text("z")), api.OK, refs(ref(0, 1, 0), ref(0, 1, 2), ref(1, 1, 15))},
		{put(of("m", "x", "y"), n1), api.OK, refs(ref(15, mostSeq, 15))},
		{put(of("z"), n1), api.OK, nil},
		{put(of("m", "z"), n1), api.OK, nil},
		{put(of("m", "x", "z"), n1), api.OK, nil},
		{put(mk, n1), api.ErrClash, nil},
		{put(m, n1), api.ErrClash, nil},
		{put(of("m", "x"), n1), api.ErrClash, nil},
		{put(ab, n1), api.ErrClash, nil},
		{put(of("m", "x", "y", "z"), n1), api.ErrClash, nil},
		{add(mk, n1), api.OK, nil},
		{add(mk, s1), api.OK, nil},
		{add(a, n1), api.ErrClash, nil},
		{add(of("m", "n"), n1), api.ErrClash, nil},
		{inc(of("m", "n"), 1), api.OK, nil},
		{inc(of("n"), 1), api.OK, nil},
		{inc(mk, 1), api.ErrClash, nil},
		{inc(m, 1), api.ErrClash, nil},
		{remove(mk, n1), api.OK, refs(ref(0, 2, 0), ref(1, 1, 0))},
		{remove(mk, n2), api.OK, refs(ref(0, 2, 1))},
		{remove(mk, s1), api.ErrNothing, nil},
		{remove(mk, truth(1)), api.ErrNothing, nil},
		{remove(mk, number(3)), api.ErrNothing, nil},
		{remove(of("z"), n1), api.ErrNothing, nil},
		{remove(a, n1), api.ErrClash, nil},
		{remove(m, n1), api.ErrClash, nil},
		{remove(of("m", "k", "z"), n1), api.ErrClash, nil},
		{reset(a), api.OK, refs(ref(0, 1, 0), ref(0, 1, 2), ref(1, 1, 15))},
		{reset(mk), api.OK, refs(ref(0, 2, 0), ref(0, 2, 1), ref(1, 1, 0))},
		{reset(m), api.OK, refs(ref(0, 2, 0), ref(0, 2, 1), ref(1, 1, 0), ref(1, 1, 1), ref(2, 1, 0), ref(15, mostSeq, 15))},
		{reset(of("m", "n")), api.OK, refs(ref(1, 1, 1), ref(2, 1, 0))},
		{reset(of("m", "x")), api.OK, refs(ref(15, mostSeq, 15))},
		{reset(of("m", "x", "y")), api.OK, refs(ref(15, mostSeq, 15))},
		{reset(of("m", "x", "y", "z")), api.ErrNothing, nil},
		{reset(ab), api.ErrNothing, nil},
		{reset(of("z")), api.ErrNothing, nil},
		{put(nil, n1), api.ErrPath, nil},
		{put(many("m", 9), n1), api.ErrDeep, nil},
		{put(of("m", ""), n1), api.ErrPath, nil},
		{put(mk, truth(2)), api.ErrArg, nil},
		{add(a, api.Value{}), api.ErrArg, nil},
		{inc(a, 0), api.ErrArg, nil},
		{api.Op{Kind: api.Put, Path: mk, V: n1, N: 1}, api.ErrArg, nil},
		{api.Op{Kind: api.Reset, Path: of("z"), V: n1}, api.ErrArg, nil},
		{api.Op{Path: m}, api.ErrKind, nil},
		{api.Op{Kind: 6, Path: m}, api.ErrKind, nil},
		{api.Op{}, api.ErrKind, nil},
	} {
		want(t, fmt.Sprint("written ", i), l, c.o, c.e, c.seen...)
		want(t, fmt.Sprint("written, backwards ", i), backwards(l), c.o, c.e, c.seen...)
		wantSlow(t, fmt.Sprint("written, slowly ", i), l, c.o)
	}
}

// Promise 19.1: of no items: what need not cover any is made with nothing in Seen, wherever; what must is ErrNothing.
func TestOfNone(t *testing.T) {
	all := itemsOf(one(of("a"), number(1))[:3]...)
	for i, l := range [][]live.Item{nil, {}, make([]live.Item, 0, 4), all[:0], all[3:]} {
		what := fmt.Sprint("none ", i)
		for _, p := range edges() {
			for k, v := range rising() {
				wantMade(t, what, l, put(p, v))
				wantMade(t, what, l, add(p, v))
				wantMade(t, what, l, inc(p, []int{1, -1, k + 2, mostAmount, -mostAmount}[k%5]))
				wantError(t, what, l, remove(p, v), api.ErrNothing)
			}
			wantError(t, what, l, reset(p), api.ErrNothing)
		}
	}
}

// spoiler is what makes an operation wrong, and the error of that.
type spoiler struct {
	spoil func(o *api.Op)
	e     api.Errno
}

// right tells what is wrong with nothing.
func right() spoiler { return spoiler{func(*api.Op) {}, api.OK} }

// kindFaults tells kinds that are none.
func kindFaults() []spoiler {
	all := []spoiler{right()}
	for _, kind := range []int{0, 6, 7, -1, 9, 257, math.MinInt, math.MaxInt} {
		all = append(all, spoiler{func(o *api.Op) { o.Kind = kind }, api.ErrKind})
	}
	return all
}

// pathFaults tells paths that are none: without parts, with too many, with such as are no names.
func pathFaults() []spoiler {
	all := []spoiler{right()}
	for _, p := range [][]string{nil, {}, of(""), of("a", ""), of("", "a"), of("a", "b", "\x00"), of("a\n"), of("\xFF"), of("a", "\xFF", "c"), of("a", "b", times("b", mostChars+1)), of(times("é", mostChars+1), "a")} {
		all = append(all, spoiler{func(o *api.Op) { o.Path = p }, api.ErrPath})
	}
	for _, p := range [][]string{many("a", 9), many("a", 100), many("", 9), append(many("a", 8), ""), many("\xFF", 30)} {
		all = append(all, spoiler{func(o *api.Op) { o.Path = p }, api.ErrDeep})
	}
	return all
}

// argFaults tells, of a kind, values and amounts that it may not have.
func argFaults(kind int) []spoiler {
	all := []spoiler{right()}
	if kind == api.Inc || kind == api.Reset {
		for _, v := range slices.Concat(few(), never()[1:]) {
			all = append(all, spoiler{func(o *api.Op) { o.V = v }, api.ErrArg})
		}
	} else {
		for _, v := range never() {
			all = append(all, spoiler{func(o *api.Op) { o.V = v }, api.ErrArg})
		}
	}
	amounts := []int{1, -1, 5, mostAmount, math.MinInt, math.MaxInt}
	if kind == api.Inc {
		amounts = []int{0, mostAmount + 1, -mostAmount - 1, math.MinInt, math.MaxInt}
	}
	for _, n := range amounts {
		all = append(all, spoiler{func(o *api.Op) { o.N = n }, api.ErrArg})
	}
	return append(all, spoiler{func(o *api.Op) { o.V, o.N = truth(7), math.MinInt }, api.ErrArg})
}

// Promise 19.1, P1, R2: each error of op.Check alone, and with others: the first one is told, ahead of a clash, of nothing to cover, and of too much to cover.
func TestErrorsOfOp(t *testing.T) {
	p := of("a", "b")
	clash := itemsOf(put(of("a"), number(1)), put(p, number(1)), add(p, number(1)), inc(p, 1), inc(of("a", "b", "c"), 1))
	full := itemsOf(slices.Repeat(ops(put(p, number(1)), add(p, number(1))), mostSeen+1)...)
	named := [][]api.Ref{nil, names(3), names(mostSeen + 1)}
	for i, o := range one(p, number(1)) {
		errors := map[api.Errno]int{}
		for _, k := range kindFaults() {
			for _, q := range pathFaults() {
				for _, a := range argFaults(o.Kind) {
					spoilt, first := o, k.e
					for _, f := range []spoiler{k, q, a} {
						f.spoil(&spoilt)
						if first == api.OK {
							first = f.e
						}
					}
					errors[first]++
					if first == api.OK {
						continue
					}
					for j, l := range [][]live.Item{nil, clash, clash[1:2], clash[2:3], full, full[:2*mostSeen]} {
						spoilt.Seen = named[(i+j)%len(named)]
						wantError(t, fmt.Sprint("faults of ", i, " beside ", j), l, spoilt, first)
					}
				}
			}
		}
		if errors[api.OK] != 1 || errors[api.ErrKind] < 100 || errors[api.ErrPath] < 100 || errors[api.ErrDeep] < 50 || errors[api.ErrArg] < 9 {
			t.Errorf("%d: %v", o.Kind, errors)
		}
	}
	for _, o := range ops(put(p, number(1)), add(p, number(1)), inc(p, 1), remove(p, number(1)), remove(p, number(7))) {
		wantError(t, "a clash", clash, o, api.ErrClash)
		wantError(t, "a clash ahead of too much", full, o, api.ErrClash)
	}
	wantError(t, "too much", full, reset(p), api.ErrFull)
	wantError(t, "nothing", full, reset(of("a", "c")), api.ErrNothing)
}

// Promise 19.1: what an operation names in Seen, as it is asked for, does not count, be it right or wrong, too many, or of a kind that covers nothing.
func TestSeenDoesNotCount(t *testing.T) {
	a, b := of("a"), of("b")
	l := itemsOf(put(a, number(1)), put(a, number(2)), add(b, number(1)), add(b, number(2)), add(b, number(1)), inc(of("c"), 4))
	wrong := refs(ref(-1, math.MinInt, math.MaxInt), ref(0, 0, 0), ref(16, 1, 16), ref(0, mostSeq+1, -1), ref(3, 3, 3), ref(2, 2, 2), ref(2, 2, 2))
	for i, seen := range [][]api.Ref{nil, {}, names(1), names(2), names(6), backwards(names(6)), slices.Repeat(names(1), 2), refs(nth(5)), refs(ref(9, 9, 9)), names(mostSeen), names(mostSeen + 1), names(5000), wrong, wrong[:1], wrong[1:2], slices.Repeat(wrong, 99), refs(api.Ref{})} {
		kept, what := slices.Clone(seen), fmt.Sprint("came with ", i)
		with := func(o api.Op) api.Op {
			o.Seen = seen
			return o
		}
		for _, l := range [][]live.Item{l, mixed(new(dice), l)} {
			wantMade(t, what, l, with(put(a, number(9))), nth(0), nth(1))
			wantMade(t, what, l, with(put(of("z"), number(9))))
			wantMade(t, what, l, with(add(b, number(9))))
			wantMade(t, what, l, with(inc(of("c"), 9)))
			wantMade(t, what, l, with(remove(b, number(1))), nth(2), nth(4))
			wantMade(t, what, l, with(reset(a)), nth(0), nth(1))
			wantMade(t, what, l, with(reset(b)), nth(2), nth(3), nth(4))
			wantError(t, what, l, with(remove(b, number(3))), api.ErrNothing)
			wantError(t, what, l, with(reset(of("z"))), api.ErrNothing)
			wantError(t, what, l, with(put(b, number(1))), api.ErrClash)
			wantError(t, what, l, with(inc(of("c"), 0)), api.ErrArg)
		}
		if !slices.Equal(seen, kept) {
			t.Fatalf("%s: what came was changed", what)
		}
		// a Seen that was made, asked for again elsewhere
		first, _ := Make(l, with(put(a, number(9))))
		wantMade(t, what, l[1:], first, nth(1))
		wantMade(t, what, l[2:], first)
		wantMade(t, what, l, first, nth(0), nth(1))
	}
}

// Promise 19.1: of one item, at each path, of each kind, and each operation at each path: what is there bars it, is covered, or neither.
func TestOfOne(t *testing.T) {
	for _, x := range []api.Ref{ref(0, 1, 0), ref(7, 20, 3), ref(15, mostSeq, 15)} {
		for i, p := range edges() {
			for k, q := range edges() {
				for _, there := range one(p, number(1))[:3] {
					l := items(item(x, i+1, there))
					apart := !begins(p, q) && !begins(q, p)
					for _, o := range one(q, number(1)) {
						e, seen := api.OK, refs()
						switch {
						case o.Kind == api.Reset && begins(p, q), o.Kind == api.Put && i == k && there.Kind == api.Put, o.Kind == api.Remove && i == k && there.Kind == api.Add:
							seen = refs(x)
						case o.Kind == api.Reset, o.Kind == api.Remove && apart:
							e = api.ErrNothing
						case !apart && !(i == k && there.Kind == o.Kind):
							e = api.ErrClash
						}
						want(t, short(there), l, o, e, seen...)
					}
				}
			}
		}
	}
}

// Promise 19.1: around an item's path: at each beginning of it, at what goes on behind it, at what differs in one part, or has its letters in other parts.
func TestAround(t *testing.T) {
	for _, p := range edges() {
		for n := range 8 {
			var there []api.Op
			for k := range 3 {
				if n>>k%2 == 1 {
					there = append(there, one(p, number(1))[k])
				}
			}
			l := itemsOf(there...)
			for _, q := range append(around(p), p) {
				for _, o := range each(q, number(1), text("1")) {
					wantSlow(t, "around", l, o)
				}
			}
		}
	}
}

// Promise 19.1: where each choice of kinds of leaves is at a path, and under another one beside it: an operation of a kind may be made, if no other one is there, above it or below it; a Reset in any case.
func TestKindsThere(t *testing.T) {
	top, p, under := of("a"), of("a", "b"), of("a", "b", "c")
	for n := range 512 {
		var there [3][]int // of each path, the kinds that are there
		var come []api.Op
		for i, q := range [][]string{top, p, under} {
			for k := range 3 {
				if n>>(3*i+k)%2 == 1 {
					there[i] = append(there[i], k+1)
					come = append(come, one(q, number(1))[k])
				}
			}
		}
		l := itemsOf(come...)
		for kind := 1; kind <= 4; kind++ {
			barred := len(there[0])+len(there[2]) > 0 || slices.ContainsFunc(there[1], func(k int) bool { return k != leafOf(kind) })
			o := one(p, number(1))[kind-1]
			at := slices.IndexFunc(come, func(x api.Op) bool { return slices.Equal(x.Path, p) && x.Kind == leafOf(kind) })
			switch {
			case barred:
				wantError(t, fmt.Sprint("kinds ", n), l, o, api.ErrClash)
			case kind == api.Remove && at < 0:
				wantError(t, fmt.Sprint("kinds ", n), l, o, api.ErrNothing)
			case at >= 0 && (kind == api.Put || kind == api.Remove):
				wantMade(t, fmt.Sprint("kinds ", n), l, o, nth(at))
			default:
				wantMade(t, fmt.Sprint("kinds ", n), l, o)
			}
		}
		above := len(there[0])
		for i, q := range [][]string{top, p, under, of("a", "b", "c", "d"), of("a", "c"), of("ab")} {
			seen := names(len(come))
			switch i {
			case 1:
				seen = seen[above:]
			case 2:
				seen = seen[above+len(there[1]):]
			case 3, 4, 5:
				seen = nil
			}
			if len(seen) == 0 {
				wantError(t, fmt.Sprint("kinds ", n), l, reset(q), api.ErrNothing)
				continue
			}
			wantMade(t, fmt.Sprint("kinds ", n), l, reset(q), seen...)
		}
	}
}

// Promise 19.1: a Remove covers the Adds of its value at its path: added once, often, never; not such as were only put, nor values that look alike.
func TestRemoves(t *testing.T) {
	p, q, all := of("a", "b"), of("a", "c"), rising()
	for i, v := range all {
		wantError(t, "put, not added", itemsOf(put(q, v), inc(of("b"), 1)), remove(p, v), api.ErrNothing)
		wantError(t, "put, not added, there", itemsOf(put(p, v)), remove(p, v), api.ErrClash)
		wantError(t, "added elsewhere", itemsOf(add(q, v), add(of("b"), v), add(of("ab"), v)), remove(p, v), api.ErrNothing)
		for k, w := range all {
			l := itemsOf(add(p, w), add(q, v), add(p, w), put(of("b"), v))
			if i == k {
				wantMade(t, "twice", l, remove(p, v), nth(0), nth(2))
				continue
			}
			wantError(t, "another one", l, remove(p, v), api.ErrNothing)
			wantMade(t, "beside another one", itemsOf(add(p, w), add(p, v), add(p, w), add(q, w)), remove(p, v), nth(1))
		}
	}
	for n := range 40 { // one of them n times, among all others
		for k, v := range few() {
			var come []api.Op
			var seen []api.Ref
			for i := range n {
				for j, w := range few() {
					if j != k {
						come = append(come, add(p, w))
					}
					if j == (i+k)%len(few()) {
						seen = append(seen, nth(len(come)))
						come = append(come, add(p, v), add(q, v))
					}
				}
			}
			e := api.OK
			if n == 0 {
				e = api.ErrNothing
			}
			want(t, fmt.Sprint("among others ", n), itemsOf(come...), remove(p, v), e, seen...)
		}
	}
	var come []api.Op
	for _, v := range all {
		come = append(come, add(p, v))
	}
	for i, v := range all {
		wantMade(t, "each", itemsOf(come...), remove(p, v), nth(i))
		wantError(t, "all but that", itemsOf(slices.Delete(slices.Clone(come), i, i+1)...), remove(p, v), api.ErrNothing)
	}
}

// Promise 19.1: a Put covers the Puts at its path, whichever values they put: none, one, many; and no others.
func TestPuts(t *testing.T) {
	p, all := of("a", "b"), rising()
	beside := ops(put(of("a", "c"), number(1)), add(of("ab"), number(1)), inc(of("b"), 1), put(of("a", "bc"), number(1)), put(of("A", "b"), number(1)))
	for n := range 30 {
		come := slices.Clone(beside)
		var seen []api.Ref
		for i := range n {
			seen = append(seen, nth(len(come)))
			come = append(come, put(p, all[i%len(all)], ref(3, 3, 3)))
			come = append(come, beside[i%len(beside)])
		}
		for _, v := range all {
			wantMade(t, fmt.Sprint("puts ", n), itemsOf(come...), put(p, v), seen...)
		}
	}
}

// Promise 19.1: how many an operation covers: none, and from 1 to 256, but no more.
func TestHowMany(t *testing.T) {
	p, v := of("a", "b"), number(1)
	others := ops(put(of("a", "c"), v), add(of("b"), v), inc(of("ab"), 1))
	for _, n := range []int{0, 1, 2, 3, 15, 16, 17, 127, 128, 129, 254, 255, 256, 257, 258, 300, 512, 513, 1000, 16000} {
		for i, c := range []struct {
			there []api.Op
			o     api.Op
		}{
			{ops(put(p, v)), put(p, v)},
			{ops(put(p, number(2)), put(p, text("")), put(p, truth(1))), put(p, v)},
			{ops(add(p, v)), remove(p, v)},
			{ops(put(p, v)), reset(p)},
			{ops(add(p, v), inc(p, 5), put(p, v)), reset(p)},
			{ops(add(p, v), inc(of("a", "b", "c"), 5), put(of("a", "b", "d"), v)), reset(p)},
			{ops(add(of("a", "b", "d"), v), inc(of("a", "b", "c"), 5)), reset(p)},
			{ops(add(p, v)), reset(p)},
			{ops(inc(p, 1)), reset(p)},
		} {
			come := slices.Clone(others)
			for k := range n {
				come = append(come, c.there[k%len(c.there)])
			}
			l, seen, e := itemsOf(append(come, others...)...), names(n + 3)[3:], api.OK
			switch {
			case n == 0 && c.o.Kind != api.Put:
				e = api.ErrNothing
			case n > mostSeen:
				e = api.ErrFull
			}
			want(t, fmt.Sprint("so many ", n, ", ", i), l, c.o, e, seen...)
			want(t, fmt.Sprint("so many, backwards ", n, ", ", i), backwards(l), c.o, e, seen...)
			l = append(l, itemsOf(slices.Repeat(ops(add(of("b"), v)), 400)...)...) // many that are not covered
			want(t, fmt.Sprint("so many beside many ", n, ", ", i), l, c.o, e, seen...)
		}
	}
	full := slices.Repeat(ops(add(p, v)), mostSeen)
	l := itemsOf(slices.Concat(full, slices.Repeat(ops(add(p, number(2)), add(of("a", "c"), v)), 99))...)
	wantMade(t, "beside other values", l, remove(p, v), names(mostSeen)...)
	wantError(t, "with other values", l, reset(p), api.ErrFull)
	wantMade(t, "fewer", l, remove(p, number(2)), slowSeen(l, remove(p, number(2)))...)
	for _, o := range ops(add(p, v), inc(of("d"), 1), put(of("d"), v)) { // these cover none of so many
		wantMade(t, "others", itemsOf(slices.Repeat(full, 9)...), o)
	}
}

// Promise 19.1: a Reset covers all that is at its path, or under it, of each kind of leaf: where something is there, where it only goes on, and both.
func TestResets(t *testing.T) {
	for _, p := range edges() {
		var come []api.Op
		var at, under []api.Ref
		for _, q := range edges() {
			for _, o := range one(q, truth(1))[:3] {
				switch {
				case spelt(p) == spelt(q):
					at = append(at, nth(len(come)))
				case begins(q, p):
					under = append(under, nth(len(come)))
				}
				come = append(come, o)
			}
		}
		l := itemsOf(come...)
		both := slices.Clone(at)
		for _, x := range under {
			both = inPlace(both, x)
		}
		wantMade(t, "both", l, reset(p), both...)
		only := slices.DeleteFunc(slices.Clone(l), func(x live.Item) bool { return spelt(x.O.Path) == spelt(p) })
		e := api.OK
		if len(under) == 0 {
			e = api.ErrNothing
		}
		want(t, "it goes on", only, reset(p), e, under...)
		there := slices.DeleteFunc(slices.Clone(l), func(x live.Item) bool { return slices.Contains(under, x.X) })
		wantMade(t, "it is there", there, reset(p), at...)
		wantError(t, "neither", slices.DeleteFunc(slices.Clone(there), func(x live.Item) bool { return slices.Contains(at, x.X) }), reset(p), api.ErrNothing)
		for k, o := range one(p, truth(1))[:3] {
			wantMade(t, "one there", append(slices.Clone(only), item(ref(15, 1, k), 1, o)), reset(p), append(slices.Clone(under), ref(15, 1, k))...)
		}
	}
}

// Promise 19.1: what is covered rises by its names, in whichever order the items come, and whatever their times are; each is named once.
func TestOrder(t *testing.T) {
	p, v := of("a"), number(1)
	some := refs(ref(0, 1, 0), ref(0, 1, 1), ref(0, 1, 15), ref(0, 2, 0), ref(0, 10, 3), ref(0, mostSeq, 1), ref(1, 1, 0), ref(1, 1, 2), ref(1, 3, 1), ref(2, 1, 9), ref(9, 100, 0), ref(10, 99, 10), ref(15, 1, 0), ref(15, mostSeq, 15))
	d := dice(3)
	for k := range 200 {
		n := 1 + k%len(some)
		chosen := mixed(&d, some)[:n]
		var rise []api.Ref
		for _, x := range chosen {
			rise = inPlace(rise, x)
		}
		for _, o := range one(p, v)[:3] {
			var l []live.Item
			for i, x := range chosen {
				l = append(l, item(x, 1+d.roll(5)*i, o))
			}
			wantMade(t, "a Reset", l, reset(p), rise...)
			wantMade(t, "a Reset, each twice", mixed(&d, append(l, l...)), reset(p), rise...)
			switch o.Kind {
			case api.Put:
				wantMade(t, "a Put", l, put(p, v), rise...)
			case api.Add:
				wantMade(t, "a Remove", l, remove(p, v), rise...)
			}
		}
	}
}

// leaves tells, of items, how many paths have two leaves or more, and which leaves are maps, or are in such as are leaves: by their texts.
func leaves(l []live.Item) (two, maps []string) {
	for _, x := range l {
		for _, y := range l {
			px, py := spelt(x.O.Path), spelt(y.O.Path)
			switch {
			case px == py && leafOf(x.O.Kind) < leafOf(y.O.Kind):
				two = append(two, px)
			case px != py && strings.HasPrefix(py, px):
				maps = append(maps, px)
			}
		}
	}
	slices.Sort(two)
	slices.Sort(maps)
	return slices.Compact(two), slices.Compact(maps)
}

// within tells whether each of some texts is one of others.
func within(l, others []string) bool {
	return !slices.ContainsFunc(l, func(s string) bool { return !slices.Contains(others, s) })
}

// wantDone asks of an operation that was made, done in a transaction of its own, what the document says of that: what it covers is gone, it is there if it counts, nothing else is changed, and there are no more paths that are two leaves, or leaves that are maps; undone all is as it was.
func wantDone(t *testing.T, what string, s stored, d api.Dot, time int, o api.Op) {
	t.Helper()
	now := live.All(s.l, s.u)
	made, e := Make(now, o)
	if e != api.OK {
		return
	}
	with := live.With(s.l, done(d.R, d.N, time, made))
	then := checked(t, with, s.u)
	var wanted []live.Item
	for _, x := range append(slices.Clone(now), item(api.Ref{D: d}, time, made)) {
		if !slices.Contains(made.Seen, x.X) && x.O.Kind <= 3 {
			wanted = append(wanted, x)
		}
	}
	slices.SortFunc(wanted, func(a, b live.Item) int { return map[bool]int{true: -1, false: 1}[refAhead(a.X, b.X)] })
	if !alikeItems(then, wanted) {
		t.Fatalf("%s: with %s there is %s, want %s", what, short(made), short(then), short(wanted))
	}
	two, maps := leaves(now)
	if more, other := leaves(then); !within(more, two) || !within(other, maps) {
		t.Fatalf("%s: with %s %q are two leaves, and %q are maps; ahead %q, and %q", what, short(made), more, other, two, maps)
	}
	for n := range 5 {
		wanted := then
		if n%2 == 1 {
			wanted = now
		}
		if got := live.All(with, turned(s.u, d, n)); !alikeItems(got, wanted) {
			t.Fatalf("%s: with %s, turned %d times, there is %s, want %s", what, short(made), n, short(got), short(wanted))
		}
	}
}

// Promise 19.2: what is made in stores that are made up, done in a transaction of its own.
func TestDone(t *testing.T) {
	for i, s := range stores()[:412] {
		for k, p := range asked() {
			for j, o := range each(p, few()[(i+k)%len(few())]) {
				if (i+j+k)%7 > 0 && i > 40 { // some are enough
					continue
				}
				wantDone(t, fmt.Sprint("store ", i), s, dotOf((i+k)%16, mostSeq-j), 1+i%5, o)
			}
		}
	}
}

// Promises 19.1 and 19.2: where each operation is made ahead of being done, no path is ever two leaves, and no leaf a map: in one transaction or many, of one replica, with some of them undone, if that brings none back.
func TestMadeOneByOne(t *testing.T) {
	for seed := range 60 {
		d := dice(seed)
		var s stored
		var open api.Txn
		errors := map[api.Errno]int{}
		for step := range 200 {
			if len(open.Ops) == 0 || len(open.Ops) == mostOps || d.roll(3) == 0 {
				s.l = live.With(s.l, open)
				open = done(seed%16, len(s.l)+1, step+1)
			}
			l := live.All(live.With(s.l, open), s.u)
			p, v := paths()[d.roll(len(paths()))], few()[d.roll(3)]
			o := each(p, v)[d.roll(8)]
			errors[wantSlow(t, fmt.Sprint("seed ", seed), l, o)]++
			if made, e := Make(l, o); e == api.OK {
				open.Ops = append(open.Ops, made)
			}
			now := checked(t, live.With(s.l, open), s.u)
			if two, maps := leaves(now); len(two)+len(maps) > 0 {
				t.Fatalf("seed %d, step %d: %q are two leaves, %q are maps", seed, step, two, maps)
			}
		}
		if min(errors[api.OK], errors[api.ErrClash], errors[api.ErrNothing]) < 5 {
			t.Errorf("seed %d: %v", seed, errors)
		}
	}
}

// Promise 19.1: what is covered is what counts: not what another one covers, nor what is undone; what is redone, or whose cover is undone, is covered again.
func TestCovered(t *testing.T) {
	a, b := of("a"), of("b", "c")
	one, two := number(1), number(2)
	l := row(
		done(0, 1, 1, put(a, one), add(b, one), add(b, one)),
		done(0, 2, 2, put(a, two, ref(0, 1, 0)), remove(b, one, ref(0, 1, 1))),
		done(1, 1, 2, reset(of("b"), ref(0, 1, 1), ref(0, 1, 2))),
		done(2, 1, 9, add(b, one), put(a, one)),
	)
	for i, c := range []struct {
		u              []api.Undo
		put, rem, both []api.Ref
	}{
		{nil, refs(ref(0, 2, 0), ref(2, 1, 1)), refs(ref(2, 1, 0)), refs(ref(2, 1, 0))},
		{undos(un(0, 2, 1)), refs(ref(0, 1, 0), ref(2, 1, 1)), refs(ref(2, 1, 0)), refs(ref(2, 1, 0))},
		{undos(un(0, 2, 2)), refs(ref(0, 2, 0), ref(2, 1, 1)), refs(ref(2, 1, 0)), refs(ref(2, 1, 0))},
		{undos(un(1, 1, 1)), refs(ref(0, 2, 0), ref(2, 1, 1)), refs(ref(0, 1, 2), ref(2, 1, 0)), refs(ref(0, 1, 2), ref(2, 1, 0))},
		{undos(un(0, 2, 3), un(1, 1, 5)), refs(ref(0, 1, 0), ref(2, 1, 1)), refs(ref(0, 1, 1), ref(0, 1, 2), ref(2, 1, 0)), refs(ref(0, 1, 1), ref(0, 1, 2), ref(2, 1, 0))},
		{undos(un(2, 1, 1)), refs(ref(0, 2, 0)), nil, nil},
		{undos(un(0, 1, 1), un(0, 2, 1), un(1, 1, 1), un(2, 1, 1)), nil, nil, nil},
		{undos(un(0, 1, 64), un(0, 2, 63), un(1, 1, 63), un(2, 1, 63)), refs(ref(0, 1, 0)), refs(ref(0, 1, 1), ref(0, 1, 2)), refs(ref(0, 1, 1), ref(0, 1, 2))},
		{undos(un(0, 1, 1)), refs(ref(0, 2, 0), ref(2, 1, 1)), refs(ref(2, 1, 0)), refs(ref(2, 1, 0))},
	} {
		all, what := checked(t, l, c.u), fmt.Sprint("covered ", i)
		wantMade(t, what, all, put(a, one), c.put...)
		e := api.OK
		if len(c.rem) == 0 {
			e = api.ErrNothing
		}
		want(t, what, all, remove(b, one), e, c.rem...)
		want(t, what, all, reset(of("b")), e, c.both...)
		want(t, what, all, reset(b), e, c.both...)
		wantError(t, what, all, remove(b, two), api.ErrNothing)
		if len(c.rem) > 0 {
			wantError(t, what, all, put(of("b"), one), api.ErrClash)
			continue
		}
		wantMade(t, what, all, put(of("b"), one)) // nothing is left of what was a map
		wantMade(t, what, all, inc(b, 1))
	}
	// a chain of Puts, each of which covers those that are there
	var chain []api.Txn
	for i := range 9 {
		now := live.All(chain, nil)
		o, e := Make(now, put(a, number(i)))
		if e != api.OK || i > 0 && !slices.Equal(o.Seen, refs(ref(3, i, 0))) {
			t.Fatalf("chain %d: %v, %d", i, o, e)
		}
		chain = append(chain, done(3, i+1, i+1, o))
	}
	for k := range 512 {
		var u []api.Undo
		var left []api.Ref
		for i := range chain {
			if k>>i%2 == 1 {
				u = turned(u, dotOf(3, i+1), 1)
			} else if i == len(chain)-1 || k>>(i+1)%2 == 1 {
				left = append(left, ref(3, i+1, 0))
			}
		}
		wantMade(t, fmt.Sprint("chain ", k), checked(t, chain, u), put(a, one), left...)
	}
}

// Promise 19.1: of all lists of up to three small items, each small operation.
func TestAllSmall(t *testing.T) {
	places := [][]string{of("a"), of("a", "b"), of("ab"), of("b", "a")}
	var there, come []api.Op
	for _, p := range places {
		there = append(there, put(p, number(1)), put(p, truth(1)), add(p, number(1)), add(p, truth(1)), inc(p, 1))
	}
	for _, p := range append(places, of("b"), of("a", "b", "c")) {
		come = append(come, put(p, number(1)), add(p, number(1)), inc(p, 2), remove(p, number(1)), remove(p, truth(1)), reset(p))
	}
	n := len(there) + 1
	for k := range n * n * n {
		var l []api.Op
		for i := k; i > 0; i /= n {
			if i%n > 0 {
				l = append(l, there[i%n-1])
			}
		}
		all := itemsOf(l...)
		for _, o := range come {
			wantSlow(t, fmt.Sprint("small ", k), all, o)
		}
	}
}

// Promise 19.1: in stores that are made up, each operation at each path that is there, and around it.
func TestOfStores(t *testing.T) {
	d := dice(7)
	for i, s := range stores() {
		l := checked(t, s.l, s.u)
		for _, p := range asked() {
			for _, o := range each(p, few()[i%len(few())], number(77)) {
				wantSlow(t, fmt.Sprint("store ", i), l, o)
				if i%5 == 0 {
					wantSlow(t, fmt.Sprint("store, mixed ", i), mixed(&d, l), o)
				}
			}
		}
		for k := range min(len(l), 12) { // parts of it, of which there may be fewer leaves
			x := l[k].O
			for _, o := range each(x.Path, x.V)[i%2*3:] {
				if x.Kind != api.Inc || o.Kind == api.Inc || o.Kind == api.Reset {
					wantSlow(t, fmt.Sprint("store, from ", i), l[k:], o)
					wantSlow(t, fmt.Sprint("store, up to ", i), l[:k], o)
					wantSlow(t, fmt.Sprint("store, one ", i), l[k:k+1], o)
				}
			}
		}
	}
}

// Promise 19.1: as many items as there may be: all at one path, each at a path of its own, and under one.
func TestMost(t *testing.T) {
	v := number(1)
	fill := func(o func(i int) api.Op) []live.Item {
		var all []api.Txn
		for i := range mostTxns {
			x := done(i/100, i%100+1, i+1)
			for k := range mostOps {
				x.Ops = append(x.Ops, o(i*mostOps+k))
			}
			all = append(all, x)
		}
		return checked(t, all, nil)
	}
	alike := fill(func(int) api.Op { return add(of("a"), v) })
	unlike := fill(func(i int) api.Op { return add(of("m", fmt.Sprint(i)), v) })
	few := fill(func(i int) api.Op { return add(of("m"), number(i/mostSeen)) })
	for range 20 {
		wantMade(t, "alike", alike, add(of("a"), v))
		wantError(t, "alike", alike, remove(of("a"), v), api.ErrFull)
		wantError(t, "alike", alike, remove(of("a"), number(2)), api.ErrNothing)
		wantError(t, "alike", alike, reset(of("a")), api.ErrFull)
		wantError(t, "alike", alike, put(of("a"), v), api.ErrClash)
		wantMade(t, "alike", alike, put(of("b"), v))
		wantMade(t, "unlike", unlike, remove(of("m", "15999"), v), ref(9, 100, 15))
		wantMade(t, "unlike", unlike, reset(of("m", "0")), ref(0, 1, 0))
		wantError(t, "unlike", unlike, reset(of("m")), api.ErrFull)
		wantError(t, "unlike", unlike, inc(of("m"), 1), api.ErrClash)
		wantMade(t, "unlike", unlike, inc(of("m", "16000"), 1))
	}
	for i := range 62 {
		o := remove(of("m"), number(i))
		wantMade(t, "few", few, o, slowSeen(few, o)...)
	}
	wantMade(t, "few", few, remove(of("m"), number(62)), slowSeen(few, remove(of("m"), number(62)))...)
	wantError(t, "few", few, remove(of("m"), number(63)), api.ErrNothing)
}

// alikeItems holds two lists of items against each other, field by field.
func alikeItems(a, b []live.Item) bool {
	return slices.EqualFunc(a, b, func(a, b live.Item) bool { return a.X == b.X && a.Time == b.Time && alike(a.O, b.O) })
}

// copied tells items with lists of their own.
func copied(l []live.Item) (all []live.Item) {
	for _, x := range l {
		x.O.Path, x.O.Seen = slices.Clone(x.O.Path), slices.Clone(x.O.Seen)
		all = append(all, x)
	}
	return all
}

// guarded tells items between others in the same memory, with paths that all lie beside each other, and whether all is as it was.
func guarded(l []live.Item) ([]live.Item, func() bool) {
	var parts []string
	var seen []api.Ref
	for _, x := range l {
		parts, seen = append(append(parts, x.O.Path...), "b", "c"), append(append(seen, x.O.Seen...), ref(0, 1, 0))
	}
	all := itemsOf(add(of("behind"), number(1)), inc(of("a", "behind"), 7))
	i, k := 0, 0
	for _, x := range l {
		x.O.Path, x.O.Seen = parts[i:i+len(x.O.Path)], seen[k:k+len(x.O.Seen)]
		i, k = i+len(x.O.Path)+2, k+len(x.O.Seen)+1
		all = append(all, x)
	}
	for _, p := range paths() {
		all = append(all, itemsOf(put(p, number(1)), add(p, number(1)), inc(p, 13))...)
	}
	keptParts, keptSeen, kept := slices.Clone(parts), slices.Clone(seen), copied(all)
	return all[2 : 2+len(l)], func() bool {
		return slices.Equal(parts, keptParts) && slices.Equal(seen, keptSeen) && alikeItems(all, kept)
	}
}

// behind tells an operation's lists with more behind them in the same memory, and whether all is as it was.
func behind(o api.Op) (api.Op, func() bool) {
	parts, seen := append(slices.Clone(o.Path), "b", "c", "d"), append(slices.Clone(o.Seen), names(9)...)
	o.Path, o.Seen = parts[:len(o.Path)], seen[:len(o.Seen)]
	keptParts, keptSeen := slices.Clone(parts), slices.Clone(seen)
	return o, func() bool { return slices.Equal(parts, keptParts) && slices.Equal(seen, keptSeen) }
}

// R4: no list that came in is changed, nor what lies behind its length read or written, also where the lists share memory.
func TestNothingIsChanged(t *testing.T) {
	for i, s := range stores()[:412] {
		plain := live.All(s.l, s.u)
		l, kept := guarded(plain)
		what := fmt.Sprint("store ", i)
		for k, p := range asked() {
			for _, o := range each(p, few()[(i+k)%len(few())]) {
				o.Seen = names((i + k) % 5)
				o, same := behind(o)
				seen, e := slowMake(plain, o)
				want(t, what, l, o, e, seen...)
				if !same() {
					t.Fatalf("%s: the operation was changed", what)
				}
			}
		}
		for _, x := range l[:min(len(l), 12)] {
			for n := range len(x.O.Path) {
				for _, o := range one(x.O.Path[:n+1], x.O.V)[i%3:] { // the items' own memory: behind it lies more
					o.Seen = x.O.Seen
					copy := o
					copy.Path = slices.Clone(o.Path)
					seen, e := slowMake(plain, copy)
					want(t, what+" at its own", l, o, e, seen...)
				}
			}
		}
		for n := range min(len(l), 12) { // a part of it, behind which lies the rest
			for _, o := range one(paths()[1+n%9], number(1)) {
				seen, e := slowMake(plain[:n], o)
				want(t, what+" up to", l[:n], o, e, seen...)
				seen, e = slowMake(plain[n:], o)
				want(t, what+" from", l[n:], o, e, seen...)
			}
		}
		if !kept() {
			t.Fatalf("%s was changed", what)
		}
	}
}

// R4: answers that are changed, and what lies behind them, change neither what came in, nor later answers.
func TestAnswersAreNew(t *testing.T) {
	for i, s := range stores()[:412] {
		plain := live.All(s.l, s.u)
		l, kept := guarded(plain)
		for k, p := range asked() {
			for _, o := range each(p, few()[(i+k)%len(few())]) {
				o.Seen = names((i + k) % 3)
				o, same := behind(o)
				first, e := Make(l, o)
				second, _ := Make(l, o)
				wanted := first
				wanted.Path, wanted.Seen = slices.Clone(first.Path), slices.Clone(first.Seen)
				for n := range first.Path[:cap(first.Path)] {
					first.Path[:cap(first.Path)][n] = "spoilt"
				}
				for n := range first.Seen[:cap(first.Seen)] {
					first.Seen[:cap(first.Seen)][n] = ref(-1, -1, -1)
				}
				third, other := Make(l, o)
				if !same() || e != other || !alike(second, wanted) || !alike(third, wanted) {
					t.Fatalf("store %d: %s and %s, want %s", i, short(second), short(third), short(wanted))
				}
			}
		}
		if !kept() {
			t.Fatalf("store %d was changed", i)
		}
	}
}

// P1 and R5: no call panics, whatever it is given, and each answers the same, however often it is asked; with an error nothing but that is told.
func TestAnyArguments(t *testing.T) {
	strange := api.Op{Kind: math.MinInt, Path: many("", 20), V: api.Value{Kind: -1, N: math.MinInt, S: "\xFF"}, N: math.MinInt, Seen: slices.Repeat(refs(ref(-1, math.MinInt, math.MaxInt)), 300)}
	wrong, odd := ops(strange, api.Op{}, put(nil, number(1)), inc(of(), 3)), ops(strange, api.Op{})
	for kind := -1; kind < 8; kind++ {
		for _, p := range [][]string{of("a"), nil, of("a", ""), of("\xFF", ""), many("a", 30)} {
			wrong = append(wrong, api.Op{Kind: kind, Path: p, V: never()[kind+1], N: kind})
			odd = append(odd, api.Op{Kind: kind, Path: p, V: number(1)}, api.Op{Kind: kind, Path: p, N: 4}, api.Op{Kind: kind, Path: p, Seen: names(300)}, api.Op{Kind: kind, Path: p, V: strange.V, N: strange.N, Seen: strange.Seen})
		}
	}
	lists := [][]live.Item{nil, {}, items(live.Item{}), items(live.Item{}, live.Item{}), itemsOf(wrong...), itemsOf(backwards(wrong)...)}
	for _, o := range wrong {
		lists = append(lists, items(item(ref(-1, math.MinInt, math.MaxInt), math.MinInt, o), item(ref(math.MaxInt, math.MinInt, -1), math.MaxInt, o), item(api.Ref{}, 0, o)))
	}
	for _, s := range stores()[:60] {
		lists = append(lists, live.All(s.l, s.u))
	}
	for _, p := range asked() {
		odd = append(odd, each(p, number(1), text("1"))...)
	}
	for i, l := range lists {
		for _, o := range odd {
			first, e := Make(l, o)
			if e != api.OK {
				wantError(t, fmt.Sprint("strange ", i), l, o, e)
			}
			for range 4 {
				if got, again := Make(l, o); e != again || !alike(got, first) {
					t.Fatalf("%d: %s is answered in two ways: %s, %d and %s, %d", i, short(o), short(first), e, short(got), again)
				}
			}
		}
	}
}

// The document's example: where a counter is at a, to put something at a, or at a/k, is ErrClash.
func TestExample(t *testing.T) {
	l := checked(t, row(done(0, 1, 1, inc(of("a"), 5))), nil)
	wantError(t, "at a", l, put(of("a"), number(1)), api.ErrClash)
	wantError(t, "at a/k", l, put(of("a", "k"), number(1)), api.ErrClash)
	wantMade(t, "at b", l, put(of("b"), number(1)))
	wantMade(t, "a Reset", l, reset(of("a")), ref(0, 1, 0))
}
