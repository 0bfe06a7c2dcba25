package tree

import (
	"fmt"
	"math"
	"slices"
	"strings"
	"testing"

	"palinode/api"
	"palinode/live"
	"palinode/op"
	"palinode/path"
	"palinode/tally"
	"palinode/txn"
)

const (
	mostSeq   = 1048576       // the greatest number that a dot may have: 2^20
	mostTime  = 1099511627776 // the greatest time: 2^40
	mostParts = 8             // how many parts a path has at the most
	mostChars = 24            // how many characters a name has at the most
	mostOps   = 16            // how many operations a transaction has at the most
	mostSeen  = 256           // how many others an operation names at the most
	mostTxns  = 1000          // how many transactions there are at the most
	mostUndo  = 64            // the most that a transaction may be undone and redone
)

// The kinds of leaves, as the document numbers them.
const (
	register = 1
	bag      = 2
	counter  = 3
)

// dotOf tells a dot: its replica, and its number there.
func dotOf(r, n int) api.Dot { return api.Dot{R: r, N: n} }

// ref tells an operation's name: its dot's replica and number, and its place.
func ref(r, n, i int) api.Ref { return api.Ref{D: dotOf(r, n), I: i} }

// refs tells operations' names, one by one.
func refs(l ...api.Ref) []api.Ref { return l }

// of tells parts of a path, one by one.
func of(parts ...string) []string { return parts }

// times tells a text, so many times.
func times(s string, n int) string { return strings.Repeat(s, n) }

// many tells so many parts that are all alike.
func many(part string, n int) []string { return slices.Repeat(of(part), n) }

// leaf tells one: its kind, and its path's parts.
func leaf(kind int, parts ...string) Leaf { return Leaf{P: parts, Kind: kind} }

// leaves tells them one by one.
func leaves(l ...Leaf) []Leaf { return l }

// items tells items, one by one.
func items(l ...live.Item) []live.Item { return l }

// row tells transactions, one by one.
func row(l ...api.Txn) []api.Txn { return l }

// ops tells operations, one by one.
func ops(l ...api.Op) []api.Op { return l }

// undos tells counts, one by one.
func undos(l ...api.Undo) []api.Undo { return l }

// un tells a count: of a dot, and how often.
func un(r, n, often int) api.Undo { return api.Undo{D: dotOf(r, n), N: often} }

// turned tells counts with one of a dot that was turned so often.
func turned(u []api.Undo, d api.Dot, n int) []api.Undo { return tally.Put(u, api.Undo{D: d, N: n}) }

func number(n int) api.Value { return api.Value{Kind: api.Int, N: n} }

func put(p []string, n int, seen ...api.Ref) api.Op {
	return api.Op{Kind: api.Put, Path: p, V: number(n), Seen: seen}
}

func add(p []string, n int) api.Op { return api.Op{Kind: api.Add, Path: p, V: number(n)} }

func inc(p []string, n int) api.Op { return api.Op{Kind: api.Inc, Path: p, N: n} }

func remove(p []string, n int, seen ...api.Ref) api.Op {
	return api.Op{Kind: api.Remove, Path: p, V: number(n), Seen: seen}
}

func reset(p []string, seen ...api.Ref) api.Op {
	return api.Op{Kind: api.Reset, Path: p, Seen: seen}
}

// making tells an operation that makes a leaf: of a Register a Put, of a Bag an Add, of a Counter an Inc.
func making(x Leaf, n int) api.Op {
	switch x.Kind {
	case register:
		return put(x.P, n)
	case bag:
		return add(x.P, n)
	}
	return inc(x.P, n+1)
}

// done tells a transaction of a replica, a number there, and a time.
func done(r, n, time int, ops ...api.Op) api.Txn {
	return api.Txn{D: dotOf(r, n), User: r % 8, Time: time, Ops: ops}
}

// item tells one that counts.
func item(x api.Ref, time int, o api.Op) live.Item { return live.Item{X: x, O: o, Time: time} }

// itemsAt tells items that make leaves, in this order, of transactions that rise, at times that rise.
func itemsAt(l ...Leaf) (all []live.Item) {
	for i, x := range l {
		all = append(all, item(ref(i/64%16, i/1024*8+i%64/8+1, i%8), i+1, making(x, i)))
	}
	return all
}

// eachKind tells the leaves of all kinds at a path, rising.
func eachKind(p []string) []Leaf {
	return leaves(Leaf{P: p, Kind: register}, Leaf{P: p, Kind: bag}, Leaf{P: p, Kind: counter})
}

// dice rolls numbers that are the same in each run.
type dice uint64

// roll tells a number from 0 on, below another one.
func (d *dice) roll(below int) int {
	*d = *d*6364136223846793005 + 1442695040888963407
	return int(uint64(*d) >> 33 % uint64(below))
}

// mixed tells a list in another order.
func mixed[E any](d *dice, l []E) []E {
	l = slices.Clone(l)
	for i := range l {
		k := i + d.roll(len(l)-i)
		l[i], l[k] = l[k], l[i]
	}
	return l
}

// backwards tells a list from its end on.
func backwards[E any](l []E) []E {
	l = slices.Clone(l)
	slices.Reverse(l)
	return l
}

// names tells names, rising byte by byte: at the edges of how many characters there may be, with slashes, of bytes of each number, great and small, and such as others begin with.
func names() []string {
	return []string{
		" ", "  ", " a", "!", "-", ".", "..", "/", "//", "/a", "0", "1", "10", "2", "A", "AB", "Aa", "B", "Z", `\`, `\/`, "_", "a", "a ", "a!", "a-", "a/", "a/b", "a0", "aA", "aB", `a\`, `a\/b`, "aa", "aaa",
		times("a", 22), times("a", 23), times("a", 24), times("a", 23) + "b", times("a", 23) + "é", "ab", "abc", "ac", "az", "aé", "a世", "a𝄞", "b", "ba", "k", "m", "z", "~",
		"\u00A0", "É", "Éa", "é", "é/", "éa", "éé", times("é", 24), "\u07FF", "\u0800", "世", times("世", 24), "世界", "\uD7FF", "\uE000", "\uFFFC", "\uFFFF", "\U00010000", "𝄞", "𝄞a", times("𝄞", 24), "\U0010FFFF",
	}
}

// edges tells paths, rising: some begin as others do, by parts or by letters alone, of one part and of eight.
func edges() [][]string {
	return [][]string{
		of("A"), of("A", "b"), of("B"), of("a"), of("a", "B"), of("a", "a"), of("a", "a", "a"), many("a", 7), many("a", 8), append(many("a", 7), "b"), of("a", "b"), of("a", "b", "c"), of("a", "b", "c", "d", "e", "f", "g", "h"), of("a", "b", "c", "d", "e", "f", "g", "i"), of("a", "b", "d"), of("a", "b/c"), of("a", "bc"), of("a", "c"), of("a", "é"),
		of("a/b"), of("a/b", "c"), of("a/b/c"), of("ab"), of("ab", "c"), of("abc"), of("b"), of("b", "a"), of("m", "k"), of("m", "n", "x"), many("z", 8), of("é"), of("é", "a"), of("世", "界"), many(times("𝄞", mostChars), mostParts),
	}
}

// paths tells a few paths for stores, the first one more than once.
func paths() [][]string {
	return [][]string{of("a"), of("a"), of("a", "b"), of("a", "b", "c"), of("ab"), of("a/b"), of("b"), of("é"), of("A"), of("a", "c"), of("a", "b/c"), of("c", "d"), of("a", "b", "c", "d", "e", "f", "g", "h"), of("a", "b", "c", "d", "e", "f", "g", "i")}
}

// slowAhead tells whether a text stands ahead of another one, byte by byte; one that goes on stands behind.
func slowAhead(a, b string) bool {
	for i := range len(a) {
		if i == len(b) {
			return false
		}
		if a[i] != b[i] {
			return a[i] < b[i]
		}
	}
	return len(a) < len(b)
}

// pathAhead tells whether a path stands ahead of another one, part by part; one that goes on stands behind.
func pathAhead(a, b []string) bool {
	for i := range a {
		if i == len(b) {
			return false
		}
		if a[i] != b[i] {
			return slowAhead(a[i], b[i])
		}
	}
	return len(a) < len(b)
}

// leafAhead tells whether a leaf stands ahead of another one: by its path, then by its kind.
func leafAhead(a, b Leaf) bool {
	return pathAhead(a.P, b.P) || !pathAhead(b.P, a.P) && a.Kind < b.Kind
}

// inPlace tells a list with one more, in its place, unless it is there.
func inPlace[E any](l []E, x E, ahead func(a, b E) bool) []E {
	i := 0
	for i < len(l) && ahead(l[i], x) {
		i++
	}
	if i < len(l) && !ahead(x, l[i]) {
		return l
	}
	return slices.Insert(l, i, x)
}

// made tells the leaves that items make, one by one, in their order, as often as they come.
func made(l []live.Item) (all []Leaf) {
	for _, x := range l {
		switch x.O.Kind {
		case 1:
			all = append(all, Leaf{P: x.O.Path, Kind: register})
		case 2:
			all = append(all, Leaf{P: x.O.Path, Kind: bag})
		case 3:
			all = append(all, Leaf{P: x.O.Path, Kind: counter})
		}
	}
	return all
}

// begins tells whether a path begins with another one, or is it.
func begins(p, above []string) bool {
	for i, part := range above {
		if i == len(p) || p[i] != part {
			return false
		}
	}
	return true
}

// slowLeaves is what the document says of leaves that are made: rising, each once.
func slowLeaves(l []Leaf) (all []Leaf) {
	for _, x := range l {
		all = inPlace(all, x, leafAhead)
	}
	return all
}

// slowKeys is what the document says of the names that stand next behind a path.
func slowKeys(l []Leaf, p []string) (all []string) {
	for _, x := range l {
		for i, part := range x.P {
			if i == len(p) && begins(x.P, p) {
				all = inPlace(all, part, slowAhead)
			}
		}
	}
	return all
}

// slowKinds is what the document says of the kinds at a path.
func slowKinds(l []Leaf, p []string) (all []int) {
	for kind := register; kind <= counter; kind++ {
		if slices.ContainsFunc(l, func(x Leaf) bool { return x.Kind == kind && begins(x.P, p) && begins(p, x.P) }) {
			all = append(all, kind)
		}
	}
	return all
}

// slowDeep is what the document says of the longest path.
func slowDeep(l []Leaf) int {
	for n := 0; ; n++ {
		if !slices.ContainsFunc(l, func(x Leaf) bool { return len(x.P) > n }) {
			return n
		}
	}
}

// short tells the beginning of what is tested, for a message.
func short(x any) string { return fmt.Sprintf("%.300s", fmt.Sprintf("%q", x)) }

// sameLeaves holds leaves against others, field by field.
func sameLeaves(a, b []Leaf) bool {
	return slices.EqualFunc(a, b, func(a, b Leaf) bool { return a.Kind == b.Kind && slices.Equal(a.P, b.P) })
}

// around tells paths that are asked for: each beginning of some, what goes on behind them, and what differs in its last part alone; and some others.
func around(l ...[]string) (all [][]string) {
	all = [][]string{nil, of(), of(""), of("", "a"), of("\xFF"), of("x"), many("a", 9), many("", 8), many("z", 30)}
	for _, p := range l {
		for n := range len(p) + 1 {
			all = append(all, slices.Clone(p[:n]))
		}
		all = append(all, append(slices.Clone(p), "a"), append(slices.Clone(p), ""), append(of("x"), p...))
		if n := len(p) - 1; n >= 0 {
			for _, last := range of("", "x", p[n]+"a", p[n]+"/", p[n][:max(0, len(p[n])-1)], strings.ToUpper(p[n])) {
				all = append(all, append(slices.Clone(p[:n]), last))
			}
			all = append(all, append(of("x"), p[1:]...), p[1:])
		}
	}
	return all
}

// pathsOf tells the paths of leaves.
func pathsOf(l []Leaf) (all [][]string) {
	for _, x := range l {
		all = append(all, x.P)
	}
	return all
}

// wantAt holds the keys and the kinds at a path against those that are wanted.
func wantAt(t *testing.T, what string, l []live.Item, p []string, keys []string, kinds []int) {
	t.Helper()
	if got := Keys(l, p); !slices.Equal(got, keys) {
		t.Fatalf("%s, at %s: the keys %s, want %s", what, short(p), short(got), short(keys))
	}
	if got := Kinds(l, p); !slices.Equal(got, kinds) {
		t.Fatalf("%s, at %s: the kinds %v, want %v", what, short(p), got, kinds)
	}
}

// wantTop holds all leaves, and how long the longest path is, against those that are wanted: these, rising.
func wantTop(t *testing.T, what string, l []live.Item, wanted []Leaf) {
	t.Helper()
	if got := Leaves(l); !sameLeaves(got, wanted) {
		t.Fatalf("%s: the leaves %s, want %s", what, short(got), short(wanted))
	}
	if got := Deep(l); got != slowDeep(wanted) {
		t.Fatalf("%s: %d deep, want %d", what, got, slowDeep(wanted))
	}
}

// want holds all that is told of items against the leaves that are wanted, in any order: there they are, and nothing else is.
func want(t *testing.T, what string, l []live.Item, wanted ...Leaf) {
	t.Helper()
	wanted = slowLeaves(wanted)
	wantTop(t, what, l, wanted)
	for _, p := range around(pathsOf(wanted)...) {
		wantAt(t, what, l, p, slowKeys(wanted, p), slowKinds(wanted, p))
	}
}

// checked tells the items of transactions that may be.
func checked(t *testing.T, l []api.Txn, u []api.Undo) []live.Item {
	t.Helper()
	for i, x := range l {
		if e := txn.Check(x); e != api.OK {
			t.Fatalf("the transaction %d may not be: %d", i, e)
		}
	}
	if !txn.Rises(l) || !tally.Right(u) {
		t.Fatal("no such transactions, or counts")
	}
	return live.All(l, u)
}

// stored is what is known of: transactions that rise, and counts.
type stored struct {
	l []api.Txn
	u []api.Undo
}

// anyOp tells an operation of any Kind, that covers some of others if it may.
func anyOp(d *dice, others []api.Ref) api.Op {
	p := paths()[d.roll(len(paths()))]
	var seen []api.Ref
	for _, x := range others {
		if d.roll(len(others)) < 2 && len(seen) < mostSeen {
			seen = append(seen, x)
		}
	}
	switch d.roll(10) {
	case 0, 1:
		return put(p, d.roll(4), seen...)
	case 2, 3:
		return add(p, d.roll(4))
	case 4, 5:
		return inc(p, 1+d.roll(4))
	case 6, 7:
		return remove(p, d.roll(4), seen...)
	}
	return reset(p, seen...)
}

// store tells so many transactions, each with up to so many operations, that cover each other as it comes, and counts of some.
func store(d *dice, many, most int) (s stored) {
	var dots []api.Dot
	for i := range many {
		dots = append(dots, dotOf(i%16, i/16*3+1+d.roll(3)))
	}
	slices.SortFunc(dots, func(a, b api.Dot) int { return (a.R-b.R)*mostSeq*2 + a.N - b.N })
	var all []api.Ref
	for _, x := range dots {
		for i := range most {
			all = append(all, api.Ref{D: x, I: i})
		}
	}
	for _, x := range dots {
		t := done(x.R, x.N, 1+d.roll(1+many/3))
		for range 1 + d.roll(most) {
			t.Ops = append(t.Ops, anyOp(d, all))
		}
		if t.Thin = d.roll(5) == 0; t.Thin {
			t.Ops[d.roll(len(t.Ops))] = api.Op{}
		}
		s.l = append(s.l, t)
		if d.roll(3) == 0 {
			s.u = append(s.u, api.Undo{D: x, N: 1 + d.roll(4)})
		}
	}
	return s
}

// stores tells many that are unlike: none, a few, and many transactions, with one operation or many.
func stores() (all []stored) {
	d := dice(17)
	all = append(all, stored{}, stored{l: []api.Txn{}, u: []api.Undo{}})
	for i := range 400 {
		all = append(all, store(&d, 1+i%12, 1+i%6))
	}
	for i := range 20 {
		all = append(all, store(&d, 10+5*i, 1+i%mostOps))
	}
	return append(all, store(&d, 200, mostOps))
}

// The test's own lists are what they say they are.
func TestLists(t *testing.T) {
	if api.MaxSeq != mostSeq || txn.MaxTime != mostTime || api.MaxDepth != mostParts || api.MaxName != mostChars || api.MaxOps != mostOps || api.MaxSeen != mostSeen || api.MaxTxns != mostTxns || api.MaxUndo != mostUndo {
		t.Error("other limits")
	}
	if op.Register != register || op.Bag != bag || op.Counter != counter || api.Put != 1 || api.Add != 2 || api.Inc != 3 {
		t.Error("other kinds")
	}
	for i, s := range names() {
		if e := path.Check(of(s)); e != api.OK || i > 0 && !slowAhead(names()[i-1], s) {
			t.Errorf("%q is wrong, or out of order: %d", s, e)
		}
	}
	for i, p := range edges() {
		if e := path.Check(p); e != api.OK || i > 0 && (!pathAhead(edges()[i-1], p) || pathAhead(p, edges()[i-1]) || path.Compare(edges()[i-1], p) != -1) {
			t.Errorf("%q is wrong, or out of order: %d", p, e)
		}
	}
	var none, one, several, twice, deep, covered int
	for _, s := range stores() {
		l := checked(t, s.l, s.u)
		switch n := len(slowLeaves(made(l))); {
		case n == 0:
			none++
		case n == 1:
			one++
		case n == len(l):
			several++
		default:
			twice++
		}
		if slowDeep(made(l)) == mostParts {
			deep++
		}
		var ever []live.Item // all that were made, if nothing was undone or covered
		for _, x := range s.l {
			for i, o := range x.Ops {
				ever = append(ever, item(api.Ref{D: x.D, I: i}, x.Time, o))
			}
		}
		if len(slowLeaves(made(ever))) > len(slowLeaves(made(l))) {
			covered++
		}
	}
	if min(none, one, several, twice, deep, covered) < 20 {
		t.Errorf("%d without leaves, %d with one, %d with several, %d with some twice; %d deep ones; %d with such as are gone", none, one, several, twice, deep, covered)
	}
}

// Promise 17.1: leaves, keys, kinds and depths that are written out.
func TestWritten(t *testing.T) {
	type at struct {
		p     []string
		keys  []string
		kinds []int
	}
	for i, c := range []struct {
		come   []live.Item
		leaves []Leaf
		deep   int
		there  []at
	}{
		{nil, nil, 0, []at{{nil, nil, nil}, {of("a"), nil, nil}}},
		{itemsAt(leaf(bag, "a")), leaves(leaf(bag, "a")), 1, []at{{nil, of("a"), nil}, {of(), of("a"), nil}, {of("a"), nil, []int{2}}, {of("a", "a"), nil, nil}, {of("b"), nil, nil}}},
		{itemsAt(leaf(counter, "m", "k"), leaf(bag, "a"), leaf(register, "m", "k"), leaf(bag, "a"), leaf(bag, "m", "n", "x")), leaves(leaf(bag, "a"), leaf(register, "m", "k"), leaf(counter, "m", "k"), leaf(bag, "m", "n", "x")), 3, []at{
			{nil, of("a", "m"), nil}, {of("a"), nil, []int{2}}, {of("m"), of("k", "n"), nil}, {of("m", "k"), nil, []int{1, 3}}, {of("m", "n"), of("x"), nil}, {of("m", "n", "x"), nil, []int{2}}, {of("m", "x"), nil, nil}, {of("m", "n", "x", "x"), nil, nil},
		}},
		// one path is the beginning of another one, which comes first
		{itemsAt(leaf(counter, "a", "b", "c"), leaf(register, "a"), leaf(bag, "a", "b")), leaves(leaf(register, "a"), leaf(bag, "a", "b"), leaf(counter, "a", "b", "c")), 3, []at{
			{nil, of("a"), nil}, {of("a"), of("b"), []int{1}}, {of("a", "b"), of("c"), []int{2}}, {of("a", "b", "c"), nil, []int{3}}, {of("b"), nil, nil}, {of("b", "c"), nil, nil}, {of("a", "c"), nil, nil},
		}},
		// a path comes ahead of what goes on, whatever the kinds are; a slash in a name parts nothing
		{itemsAt(leaf(register, "a", "b"), leaf(counter, "a"), leaf(register, "a/b"), leaf(register, "ab"), leaf(bag, "A")), leaves(leaf(bag, "A"), leaf(counter, "a"), leaf(register, "a", "b"), leaf(register, "a/b"), leaf(register, "ab")), 2, []at{
			{nil, of("A", "a", "a/b", "ab"), nil}, {of("a"), of("b"), []int{3}}, {of("a", "b"), nil, []int{1}}, {of("a/b"), nil, []int{1}}, {of("A"), nil, []int{2}}, {of("A", "b"), nil, nil}, {of("a/"), nil, nil},
		}},
		// numbers are texts; what has more bytes stands by its bytes, not by how many there are
		{itemsAt(leaf(bag, "é"), leaf(bag, "z"), leaf(bag, "10"), leaf(bag, "9"), leaf(bag, "Z"), leaf(bag, "世"), leaf(bag, "aa"), leaf(bag, "b")), leaves(leaf(bag, "10"), leaf(bag, "9"), leaf(bag, "Z"), leaf(bag, "aa"), leaf(bag, "b"), leaf(bag, "z"), leaf(bag, "é"), leaf(bag, "世")), 1, []at{
			{nil, of("10", "9", "Z", "aa", "b", "z", "é", "世"), nil}, {of("a"), nil, nil}, {of("é"), nil, []int{2}}, {of("\xC3"), nil, nil}, {of("1"), nil, nil},
		}},
		// the same kinds in each order
		{itemsAt(leaf(counter, "a"), leaf(bag, "a"), leaf(register, "a")), leaves(leaf(register, "a"), leaf(bag, "a"), leaf(counter, "a")), 1, []at{{nil, of("a"), nil}, {of("a"), nil, []int{1, 2, 3}}}},
		{itemsAt(leaf(bag, "a"), leaf(register, "a"), leaf(bag, "a"), leaf(register, "a")), leaves(leaf(register, "a"), leaf(bag, "a")), 1, []at{{nil, of("a"), nil}, {of("a"), nil, []int{1, 2}}}},
		// eight parts
		{itemsAt(leaf(counter, "1", "2", "3", "4", "5", "6", "7", "8"), leaf(bag, "1", "2", "3", "4", "5", "6", "7")), leaves(leaf(bag, "1", "2", "3", "4", "5", "6", "7"), leaf(counter, "1", "2", "3", "4", "5", "6", "7", "8")), 8, []at{
			{nil, of("1"), nil}, {of("1", "2", "3", "4", "5", "6"), of("7"), nil}, {of("1", "2", "3", "4", "5", "6", "7"), of("8"), []int{2}}, {of("1", "2", "3", "4", "5", "6", "7", "8"), nil, []int{3}}, {of("1", "2", "3", "4", "5", "6", "8"), nil, nil}, {of("1", "2", "3", "4", "5", "6", "7", "8", "9"), nil, nil},
		}},
	} {
		what := fmt.Sprint("written ", i)
		if got := Leaves(c.come); !sameLeaves(got, c.leaves) {
			t.Errorf("%s: %s, want %s", what, short(got), short(c.leaves))
		}
		if got := Deep(c.come); got != c.deep {
			t.Errorf("%s: %d deep, want %d", what, got, c.deep)
		}
		for _, x := range c.there {
			wantAt(t, what, c.come, x.p, x.keys, x.kinds)
		}
	}
}

// Promise 17.1: of no items there are no leaves, no keys and no kinds, wherever, and nothing is deep.
func TestOfNone(t *testing.T) {
	all := itemsAt(leaf(bag, "a"), leaf(register, "b", "c"))
	for i, l := range [][]live.Item{nil, {}, make([]live.Item, 0, 4), all[:0], all[2:]} {
		want(t, fmt.Sprint("none ", i), l)
		for _, p := range around(edges()...) {
			wantAt(t, fmt.Sprint("none ", i), l, p, nil, nil)
		}
		if got := Leaves(l); len(got) != 0 || Deep(l) != 0 {
			t.Errorf("none %d: %v, %d deep", i, got, Deep(l))
		}
	}
}

// Promise 17.1: of one item there is its leaf alone, whatever its name, its time, its value and what it covers are.
func TestOfOne(t *testing.T) {
	for _, p := range edges() {
		for _, wanted := range eachKind(p) {
			for _, x := range refs(ref(0, 1, 0), ref(7, 20, 3), ref(15, mostSeq, 15)) {
				for _, time := range []int{1, 1000, mostTime} {
					wantTop(t, "one", items(item(x, time, making(wanted, time%7))), leaves(wanted))
				}
			}
			l := itemsAt(wanted)
			want(t, "one", l, wanted)
			if Deep(l) != len(p) {
				t.Fatalf("%q is %d deep", p, Deep(l))
			}
			for n := range len(p) { // one key from the top down to the leaf, and none from there on
				wantAt(t, "one", l, p[:n], of(p[n]), nil)
			}
			wantAt(t, "one", l, p, nil, []int{wanted.Kind})
		}
		want(t, "a Put that covers", items(item(ref(3, 3, 3), 5, put(p, 1, ref(1, 1, 0), ref(2, 1, 0)))), Leaf{P: p, Kind: register})
	}
	for _, s := range names() {
		want(t, "a name", itemsAt(leaf(bag, s)), leaf(bag, s))
		want(t, "a name under another one", itemsAt(leaf(counter, "k", s)), leaf(counter, "k", s))
	}
}

// Promise 17.1: of two items, at each path and each other one, of each kind and each other one: both leaves, or the one that both make.
func TestOfTwo(t *testing.T) {
	for i, p := range edges() {
		for k, q := range edges() {
			for _, a := range eachKind(p) {
				for _, b := range eachKind(q) {
					l := itemsAt(a, b)
					wanted := leaves(a, b)
					switch {
					case i == k && a.Kind == b.Kind:
						wanted = leaves(a)
					case i > k || i == k && a.Kind > b.Kind:
						wanted = leaves(b, a)
					}
					wantTop(t, "two", l, wanted)
					wantTop(t, "the first one alone", l[:1], leaves(a))
					wantTop(t, "the second one alone", l[1:], leaves(b))
					for n := range max(len(p), len(q)) + 1 {
						for _, above := range [][]string{p[:min(n, len(p))], q[:min(n, len(q))]} {
							wantAt(t, "two", l, above, slowKeys(wanted, above), slowKinds(wanted, above))
						}
					}
				}
			}
		}
	}
}

// Promise 17.1: of many leaves, that come rising, falling and mixed, each once and more often: all, rising, each once.
func TestOfMany(t *testing.T) {
	var all []Leaf
	for _, p := range edges() {
		all = append(all, eachKind(p)...)
	}
	d := dice(1)
	want(t, "rising", itemsAt(all...), all...)
	for k := range 60 {
		some := mixed(&d, slices.Concat(all, all[k:], all[:k]))
		wantTop(t, fmt.Sprint("mixed ", k), itemsAt(some...), all)
		few := mixed(&d, all)[:k]
		want(t, fmt.Sprint("some ", k), itemsAt(few...), few...)
		want(t, fmt.Sprint("some, twice ", k), itemsAt(slices.Concat(few, few)...), few...)
	}
	for n := range len(all) + 1 { // rising, falling: from each one on, up to each one, and all but one
		wantTop(t, "up to", itemsAt(all[:n]...), all[:n])
		wantTop(t, "from", itemsAt(all[n:]...), all[n:])
		wantTop(t, "up to, falling", itemsAt(backwards(all[:n])...), all[:n])
		wantTop(t, "from, falling", itemsAt(backwards(all[n:])...), all[n:])
		wantTop(t, "turned round", itemsAt(slices.Concat(all[n:], all[:n])...), all)
		if n < len(all) {
			but := slices.Delete(slices.Clone(all), n, n+1)
			wantTop(t, "all but one", itemsAt(but...), but)
		}
	}
}

// Promise 17.1: names rise byte by byte, at the top and under a path, in whichever order they come, however often.
func TestNames(t *testing.T) {
	all, d := names(), dice(2)
	for k := range 40 {
		come := mixed(&d, slices.Concat(all, all[:k]))
		for _, above := range [][]string{nil, of("a"), of("a/b", "é"), many("a", 7)} {
			var l []Leaf
			for i, s := range come {
				l = append(l, Leaf{P: append(slices.Clone(above), s), Kind: 1 + i%3}, leaf(bag, "é", s), leaf(counter, "a", "a/b", s, "k"))
			}
			for _, p := range [][]string{above, of("é"), of("a", "a/b")} {
				wantAt(t, "names", itemsAt(l...), p, all, slowKinds(l, p))
			}
		}
	}
	for i, a := range all { // each with each other one, in both orders
		for k, b := range all {
			keys, wanted := of(a, b), leaves(leaf(bag, "m", a), leaf(bag, "m", b))
			switch {
			case i == k:
				keys, wanted = of(a), wanted[:1]
			case i > k:
				keys, wanted = of(b, a), leaves(wanted[1], wanted[0])
			}
			l := itemsAt(leaf(bag, "m", a), leaf(bag, "m", b))
			wantTop(t, "two names", l, wanted)
			wantAt(t, "two names", l, of("m"), keys, nil)
			wantAt(t, "two names at the top", itemsAt(leaf(bag, a, "m"), leaf(counter, b)), nil, keys, nil)
		}
	}
}

// Promise 17.1: a leaf that is made once, twice and many times is told once: beside each other, with others between, by one transaction and by several.
func TestEachOnce(t *testing.T) {
	for _, p := range [][]string{of("a"), of("a", "b"), many("a", 8)} {
		for _, x := range eachKind(p) {
			other := Leaf{P: x.P, Kind: x.Kind%3 + 1}
			beside := Leaf{P: append(slices.Clone(p[1:]), "z"), Kind: x.Kind}
			for k := 1; k <= 40; k++ {
				var one, several, first []live.Item // in one transaction after the other, of one replica, of each replica at falling times
				for i := range k {
					one = append(one, item(ref(1+i/mostOps, 1, i%mostOps), 7, making(x, i)))
					several = append(several, item(ref(1, i+1, 15-i%mostOps), 7, making(x, 3)))
					first = append(first, item(ref(i%16, 1+i/16, 0), 99-i, making(x, i%2)))
				}
				for _, l := range [][]live.Item{one, several, first, itemsAt(slices.Repeat(leaves(x), k)...)} {
					want(t, fmt.Sprint(k, " times"), l, x)
				}
				want(t, "turn and turn about", itemsAt(slices.Repeat(leaves(x, other, beside), k)...), x, other, beside)
				want(t, "one behind the other", itemsAt(slices.Concat(slices.Repeat(leaves(beside), k), slices.Repeat(leaves(x), k), leaves(other))...), x, other, beside)
			}
		}
	}
	var all []api.Txn // as many as there may be
	for i := range mostTxns {
		all = append(all, done(i/100, i%100+1, i+1, slices.Repeat(ops(put(of("a", "b"), 1), add(of("a", "b"), i), inc(many("z", 8), 1), add(of("a"), 1)), mostOps/4)...))
	}
	want(t, "the most", checked(t, all, nil), leaf(bag, "a"), leaf(register, "a", "b"), leaf(bag, "a", "b"), Leaf{P: many("z", 8), Kind: counter})
	var wanted []Leaf
	for i := range all { // each one a leaf of its own, falling
		for k := range all[i].Ops {
			x := leaf(1+k%3, fmt.Sprint(mostTxns-i), fmt.Sprint(k))
			all[i].Ops[k], wanted = making(x, i), append(wanted, x)
		}
	}
	slices.SortFunc(wanted, func(a, b Leaf) int {
		if leafAhead(a, b) {
			return -1
		}
		return 1
	})
	l := checked(t, all, nil)
	wantTop(t, "all unlike", l, wanted)
	if len(wanted) != 16000 || len(Keys(l, nil)) != 1000 {
		t.Errorf("all unlike: %d leaves, %d keys", len(wanted), len(Keys(l, nil)))
	}
	wantAt(t, "all unlike", l, of("77"), of("0", "1", "10", "11", "12", "13", "14", "15", "2", "3", "4", "5", "6", "7", "8", "9"), nil)
	wantAt(t, "all unlike", l, of("1000", "4"), nil, []int{bag})
}

// Promise 17.1: each choice of kinds at a path, and each choice under it, beside each other: the kinds at each are its own alone, rising.
func TestKindsAt(t *testing.T) {
	for _, p := range [][]string{of("a"), of("a", "b"), of("é", "a/b", "c")} {
		under := append(slices.Clone(p), "k")
		for n := range 64 {
			var come []Leaf
			var at, below []int
			for i := range 3 {
				if n>>i%2 == 1 {
					come, at = append(come, Leaf{P: p, Kind: i + 1}), append(at, i+1)
				}
				if n>>(3+i)%2 == 1 {
					come, below = append(come, Leaf{P: under, Kind: i + 1}), append(below, i+1)
				}
			}
			var keys []string
			if len(below) > 0 {
				keys = of("k")
			}
			for _, l := range [][]live.Item{itemsAt(come...), itemsAt(backwards(come)...), itemsAt(slices.Concat(come, backwards(come))...)} {
				want(t, fmt.Sprint("kinds ", n), l, come...)
				wantAt(t, fmt.Sprint("kinds ", n), l, p, keys, at)
				wantAt(t, fmt.Sprint("kinds ", n), l, under, nil, below)
			}
		}
	}
}

// Promise 17.1: keys and kinds at a path that is there, at a beginning of one, at one that is not there, that is as long as the longest, or longer, or differs in its last part alone; at the empty one, nil or not.
func TestPaths(t *testing.T) {
	var all []Leaf
	for i, p := range edges() {
		all = append(all, Leaf{P: p, Kind: 1 + i%3})
	}
	l := itemsAt(all...)
	want(t, "all", l, all...)
	for i, c := range []struct {
		p     []string
		keys  []string
		kinds []int
	}{
		{nil, of("A", "B", "a", "a/b", "a/b/c", "ab", "abc", "b", "m", "z", "é", "世", times("𝄞", mostChars)), nil},
		{of(), of("A", "B", "a", "a/b", "a/b/c", "ab", "abc", "b", "m", "z", "é", "世", times("𝄞", mostChars)), nil},
		{of("a"), of("B", "a", "b", "b/c", "bc", "c", "é"), []int{1}},
		{of("A"), of("b"), []int{1}},
		{of("B"), nil, []int{3}},
		{of("a", "b"), of("c", "d"), []int{2}},
		{of("a", "b", "c"), of("d"), []int{3}},
		{of("a", "b", "c", "d", "e", "f", "g"), of("h", "i"), nil},
		{of("a", "b", "c", "d", "e", "f", "g", "h"), nil, []int{1}},
		{of("a", "b", "c", "d", "e", "f", "g", "i"), nil, []int{2}},
		{of("a", "b", "c", "d", "e", "f", "g", "j"), nil, nil},
		{of("a", "b", "c", "d", "e", "f", "g", "h", "i"), nil, nil},
		{of("a", "b", "c", "d", "e", "f", "h"), nil, nil},
		{many("a", 6), of("a"), nil},
		{many("a", 7), of("a", "b"), []int{2}},
		{many("a", 8), nil, []int{3}},
		{many("a", 9), nil, nil},
		{many("z", 3), of("z"), nil},
		{of("a", "b/c"), nil, []int{1}},
		{of("a/b"), of("c"), []int{2}},
		{of("a/b", "c"), nil, []int{3}},
		{of("a/b/c"), nil, []int{1}},
		{of("m"), of("k", "n"), nil},
		{of("m", "n"), of("x"), nil},
		{of("m", "x"), nil, nil},
		{of("n"), nil, nil},
		{of("k"), nil, nil},
		{of("世"), of("界"), nil},
		{of("\xE4"), nil, nil},
		{of(""), nil, nil},
		{of("", "a"), nil, nil},
		{of("a", ""), nil, nil},
		{of("a", "b", ""), nil, nil},
	} {
		wantAt(t, fmt.Sprint("path ", i), l, c.p, c.keys, c.kinds)
	}
	for _, p := range edges() { // alone, and all but it
		var but []Leaf
		for _, x := range all {
			if !slices.Equal(x.P, p) {
				but = append(but, x)
			}
		}
		for _, q := range around(p) {
			wantAt(t, "all but one", itemsAt(but...), q, slowKeys(but, q), slowKinds(but, q))
		}
	}
}

// Promise 17.1: what stands at a path itself brings no key there, however often and of whichever kinds it is there.
func TestNoKeyOfItsOwn(t *testing.T) {
	for _, p := range edges() {
		at := slices.Concat(eachKind(p), eachKind(p))
		wantAt(t, "at the path", itemsAt(at...), p, nil, []int{1, 2, 3})
		for n := range len(p) { // and of its beginnings those that are next
			wantAt(t, "at its beginning", itemsAt(append(at, eachKind(p[:n])[:min(n, 3)]...)...), p, nil, []int{1, 2, 3})
			wantAt(t, "at its beginning", itemsAt(append(at, eachKind(p[:n])[:min(n, 3)]...)...), p[:n], of(p[n]), []int{1, 2, 3}[:min(n, 3)])
		}
		if len(p) < mostParts {
			more := append(slices.Clone(p), p[len(p)-1])
			wantAt(t, "at the path, and under it", itemsAt(append(at, Leaf{P: more, Kind: bag})...), p, of(p[len(p)-1]), []int{1, 2, 3})
		}
	}
}

// Promise 17.1: the longest path's number of parts, wherever it stands among the others.
func TestDeep(t *testing.T) {
	for n := 1; n <= mostParts; n++ {
		for m := 1; m <= mostParts; m++ {
			for k := range 4 {
				come := slices.Repeat(leaves(Leaf{P: many("a", m), Kind: 1 + k%3}), 3)
				come = slices.Insert(come, k, Leaf{P: many("b", n), Kind: 1 + m%3})
				if got := Deep(itemsAt(come...)); got != max(n, m) {
					t.Errorf("%d parts, and %d: %d deep", n, m, got)
				}
			}
		}
		if got := Deep(itemsAt(slices.Repeat(leaves(Leaf{P: many("a", n), Kind: bag}), 20)...)); got != n {
			t.Errorf("%d parts, many times: %d deep", n, got)
		}
		if got := Deep(itemsAt(leaf(register, times("a", mostChars)), Leaf{P: many("b", n), Kind: bag}, leaf(counter, times("/", mostChars)))); got != n {
			t.Errorf("%d parts, and long names: %d deep", n, got)
		}
	}
}

// Promise 17.1: of all lists of up to four items, of a few paths and kinds, in each order, held against the document's words.
func TestAllSmall(t *testing.T) {
	some := leaves(leaf(register, "a"), leaf(bag, "a"), leaf(counter, "a"), leaf(bag, "a", "b"), leaf(counter, "a", "b"), leaf(register, "a", "c"), leaf(bag, "ab"), leaf(register, "a/b"), leaf(counter, "b", "a"), leaf(register, "B"))
	asked := [][]string{nil, of("a"), of("b"), of("a", "b"), of("a", "a")}
	for n := range 5 {
		many := 1
		for range n {
			many *= len(some)
		}
		for k := range many {
			var come []Leaf
			for range n {
				come = append(come, some[k%len(some)])
				k /= len(some)
			}
			l := itemsAt(come...)
			wantTop(t, "small", l, slowLeaves(come))
			for _, p := range asked {
				wantAt(t, "small", l, p, slowKeys(come, p), slowKinds(come, p))
			}
		}
	}
}

// Promise 17.1: of stores that are made up, held against the document's words; in another order it is the same.
func TestOfStores(t *testing.T) {
	d := dice(3)
	for i, s := range stores() {
		l := live.All(s.l, s.u)
		all := made(l)
		want(t, fmt.Sprint("store ", i), l, all...)
		for _, p := range around(paths()...) {
			wantAt(t, fmt.Sprint("store ", i), l, p, slowKeys(all, p), slowKinds(all, p))
		}
		for range 3 {
			want(t, fmt.Sprint("store ", i, " mixed"), mixed(&d, l), all...)
		}
		want(t, fmt.Sprint("store ", i, " backwards"), backwards(l), all...)
	}
}

// down tells the leaves that are found by going down the keys from a path, in that order, and how deep that went.
func down(t *testing.T, l []live.Item, p []string) (all []Leaf, deep int) {
	t.Helper()
	deep = len(p)
	if deep > mostParts {
		t.Fatalf("%q is deeper than eight", p)
	}
	for _, kind := range Kinds(l, p) {
		all = append(all, Leaf{P: slices.Clone(p), Kind: kind})
	}
	keys := Keys(l, p)
	if len(p) > 0 && len(keys) == 0 && len(all) == 0 {
		t.Fatalf("nothing is at %q, nor under it", p)
	}
	for _, key := range keys {
		more, far := down(t, l, append(slices.Clone(p), key))
		if len(more) == 0 {
			t.Fatalf("the key %q leads to no leaf from %q", key, p)
		}
		all, deep = append(all, more...), max(deep, far)
	}
	return all, deep
}

// goesDown asks that just the leaves are found by going down from the top, in their order, and that nothing is below them but what goes on.
func goesDown(t *testing.T, what string, l []live.Item) {
	t.Helper()
	all := Leaves(l)
	found, deep := down(t, l, nil)
	if !sameLeaves(found, all) || deep != Deep(l) || deep > mostParts {
		t.Fatalf("%s: found are %s, %d deep; there are %s, %d deep", what, short(found), deep, short(all), Deep(l))
	}
	for _, x := range all {
		for n, part := range x.P {
			if !slices.Contains(Keys(l, x.P[:n]), part) {
				t.Fatalf("%s: %q has not the key %q", what, x.P[:n], part)
			}
		}
		if !slices.Contains(Kinds(l, x.P), x.Kind) {
			t.Fatalf("%s: %q has not the kind %d", what, x.P, x.Kind)
		}
		for _, key := range Keys(l, x.P) {
			goesOn := append(slices.Clone(x.P), key)
			if !slices.ContainsFunc(all, func(y Leaf) bool { return begins(y.P, goesOn) }) {
				t.Fatalf("%s: nothing goes on at %q", what, goesOn)
			}
		}
	}
	for _, p := range around(pathsOf(all)...) { // and what is found nowhere has no keys, and no kinds
		if !slices.ContainsFunc(all, func(x Leaf) bool { return begins(x.P, p) }) {
			wantAt(t, what+", not there", l, p, nil, nil)
		}
	}
}

// Promise 17.2: each leaf's path is found by going down the keys from the top, no deeper than eight, and no other one is.
func TestGoingDown(t *testing.T) {
	goesDown(t, "none", nil)
	for i, s := range stores() {
		goesDown(t, fmt.Sprint("store ", i), live.All(s.l, s.u))
	}
	var all []Leaf
	for i, p := range edges() {
		all = append(all, eachKind(p)[i%3:]...)
		goesDown(t, short(p), itemsAt(all...))
		goesDown(t, short(p)+" alone", itemsAt(eachKind(p)...))
	}
	all = nil
	for _, s := range names() {
		all = append(all, leaf(bag, s), leaf(counter, s, s), Leaf{P: many(s, 8), Kind: register})
	}
	goesDown(t, "names", itemsAt(all...))
	goesDown(t, "names backwards", itemsAt(backwards(all)...))
	var wide []Leaf // all paths of up to eight parts, each one of two
	for n := 1; n <= mostParts; n++ {
		for k := range 1 << n {
			var p []string
			for i := range n {
				p = append(p, of("a", "b")[k>>i%2])
			}
			wide = append(wide, Leaf{P: p, Kind: 1 + k%3})
		}
	}
	l := itemsAt(wide...)
	if found, deep := down(t, l, nil); len(wide) != 510 || deep != 8 || !sameLeaves(found, slowLeaves(wide)) || !sameLeaves(found, Leaves(l)) {
		t.Errorf("all paths of two names: %d are found, %d deep", len(found), deep)
	}
}

// Promises 17.1 and 17.2: a transaction that is undone takes the leaves that it alone makes, all at once, and no others; redone, it brings them again.
func TestUndone(t *testing.T) {
	each := [][]Leaf{ // of each transaction what it makes
		leaves(leaf(register, "a"), leaf(bag, "a", "b"), leaf(counter, "m", "n", "x")),
		leaves(leaf(register, "a"), leaf(counter, "a")),
		leaves(leaf(bag, "a", "b", "c"), leaf(bag, "a", "b", "c")),
		leaves(Leaf{P: many("z", 8), Kind: counter}, leaf(bag, "z")),
		leaves(leaf(bag, "m"), leaf(counter, "m", "n", "x")),
		leaves(leaf(register, "é")),
	}
	var l []api.Txn
	for i, all := range each {
		x := done(i/2, i%2+1, 9-i)
		for k, y := range all {
			x.Ops = append(x.Ops, making(y, k))
		}
		l = append(l, x)
	}
	for k := range 1 << len(each) {
		var u []api.Undo
		var left []Leaf
		for i, all := range each {
			if k>>i%2 == 1 { // not at all, or twice, or more often
				u = turned(u, l[i].D, 1+2*(i%3))
				continue
			}
			if i%3 == 1 {
				u = turned(u, l[i].D, 2)
			}
			left = append(left, all...)
		}
		now := checked(t, l, u)
		want(t, fmt.Sprint("undone ", k), now, left...)
		goesDown(t, fmt.Sprint("undone ", k), now)
	}
	for i, all := range each { // one alone, turned ever more often
		for k := range mostUndo + 1 {
			want(t, fmt.Sprint("turned ", k), checked(t, l[i:i+1], turned(nil, l[i].D, k)), slices.Repeat(all, 1-k%2)...)
		}
	}
}

// turnedBy asks that a transaction leaves just some of the leaves, and that without it there are those that were there: done, undone and redone.
func turnedBy(t *testing.T, what string, l []api.Txn, u []api.Undo, by api.Txn, left ...Leaf) {
	t.Helper()
	with := txn.Put(l, by)
	if len(with) != len(l)+1 {
		t.Fatalf("%s: no such transactions", what)
	}
	for n := range 4 {
		wanted := left
		if n%2 == 1 {
			wanted = made(live.All(l, u))
		}
		now := checked(t, with, turned(u, by.D, n))
		want(t, fmt.Sprint(what, " turned ", n), now, wanted...)
		goesDown(t, fmt.Sprint(what, " turned ", n), now)
	}
}

// Promises 17.1 and 17.2: what covers all of a leaf takes it, with those keys that led to it alone; undone, it brings them back; redone, it takes them again.
func TestCovered(t *testing.T) {
	l := row(
		done(0, 1, 1, put(of("a"), 1), add(of("a"), 2), inc(of("a"), 3)),
		done(0, 2, 2, add(of("a", "b"), 2), add(of("a", "b"), 2), inc(of("a", "b", "c"), 1)),
		done(1, 1, 1, put(of("m", "k"), 1), put(of("m", "n"), 1), inc(many("z", 8), 1)),
		done(2, 1, 4, put(of("a"), 9), add(of("a", "b"), 7)),
	)
	all := leaves(leaf(register, "a"), leaf(bag, "a"), leaf(counter, "a"), leaf(bag, "a", "b"), leaf(counter, "a", "b", "c"), leaf(register, "m", "k"), leaf(register, "m", "n"), Leaf{P: many("z", 8), Kind: counter})
	want(t, "ahead", checked(t, l, nil), all...)
	// without tells all but those at some places
	without := func(places ...int) (left []Leaf) {
		for i, x := range all {
			if !slices.Contains(places, i) {
				left = append(left, x)
			}
		}
		return left
	}
	for i, c := range []struct {
		ops  []api.Op
		left []Leaf
	}{
		{ops(reset(of("x"))), all},
		{ops(reset(of("a"))), all},
		{ops(reset(of("a"), ref(5, 5, 5))), all},
		{ops(put(of("a"), 5, ref(0, 1, 0), ref(2, 1, 0))), all},
		{ops(reset(of("a"), ref(0, 1, 0))), all}, // the other one's Put is there yet
		{ops(reset(of("a"), ref(2, 1, 0))), all},
		{ops(reset(of("a"), ref(0, 1, 0), ref(2, 1, 0))), without(0)},
		{ops(remove(of("a"), 2, ref(0, 1, 1))), without(1)},
		{ops(reset(of("a"), ref(0, 1, 2))), without(2)},
		{ops(reset(of("a"), ref(0, 1, 0), ref(0, 1, 1), ref(0, 1, 2), ref(2, 1, 0))), without(0, 1, 2)},
		{ops(remove(of("a", "b"), 2, ref(0, 2, 0))), all},
		{ops(remove(of("a", "b"), 2, ref(0, 2, 0), ref(0, 2, 1))), all},
		{ops(remove(of("a", "b"), 2, ref(0, 2, 0), ref(0, 2, 1)), remove(of("a", "b"), 7, ref(2, 1, 1))), without(3)},
		{ops(reset(of("a", "b"), ref(0, 2, 0), ref(0, 2, 1), ref(2, 1, 1))), without(3)},
		{ops(reset(of("a", "b", "c"), ref(0, 2, 2))), without(4)},
		{ops(reset(of("a", "b"), ref(0, 2, 0), ref(0, 2, 1), ref(0, 2, 2), ref(2, 1, 1))), without(3, 4)},
		{ops(reset(of("a"), ref(0, 1, 0), ref(0, 1, 1), ref(0, 1, 2), ref(0, 2, 0), ref(0, 2, 1), ref(0, 2, 2), ref(2, 1, 0), ref(2, 1, 1))), without(0, 1, 2, 3, 4)},
		{ops(reset(of("m", "k"), ref(1, 1, 0))), without(5)},
		{ops(reset(of("m"), ref(1, 1, 0), ref(1, 1, 1))), without(5, 6)},
		{ops(reset(of("z"), ref(1, 1, 2))), without(7)},
		{ops(reset(of("z"), ref(1, 1, 2)), add(of("z", "y"), 1)), append(without(7), leaf(bag, "z", "y"))},
		{ops(put(of("m", "n"), 1, ref(1, 1, 1)), inc(of("m"), 1)), append(without(), leaf(counter, "m"))},
		{ops(put(of("m", "o"), 1, ref(1, 1, 1))), append(without(6), leaf(register, "m", "o"))},
	} {
		for _, d := range []api.Dot{dotOf(0, 3), dotOf(1, 2), dotOf(15, mostSeq)} {
			turnedBy(t, fmt.Sprint("covered ", i), l, nil, done(d.R, d.N, 5, c.ops...), c.left...)
		}
	}
	// two that cover the same: it is back when both are undone
	two := append(slices.Clone(l), done(7, 1, 9, reset(of("z"), ref(1, 1, 2))), done(8, 1, 8, reset(of("z"), ref(1, 1, 2))))
	for i, c := range []struct {
		u    []api.Undo
		left []Leaf
	}{{nil, without(7)}, {undos(un(7, 1, 1)), without(7)}, {undos(un(8, 1, 1)), without(7)}, {undos(un(7, 1, 1), un(8, 1, 1)), all}, {undos(un(7, 1, 2), un(8, 1, 1)), without(7)}, {undos(un(7, 1, 3), un(8, 1, 3)), all}, {undos(un(1, 1, 1)), without(5, 6, 7)}} {
		want(t, fmt.Sprint("two Resets ", i), checked(t, two, c.u), c.left...)
	}
}

// Promises 17.1 and 17.2: in stores that are made up: a Reset of a path with all that stands under it takes all leaves there and no others, an operation brings its leaf; undone and redone.
func TestTurnsOfStores(t *testing.T) {
	for i, s := range stores()[:402] {
		ahead := live.All(s.l, s.u)
		for k, p := range paths()[1:] {
			if (i+k)%3 > 0 { // some are enough
				continue
			}
			d := dotOf((i+k)%16, mostSeq-k)
			under := live.Refs(live.Under(ahead, p))
			if len(under) > mostSeen {
				t.Fatal("too many to be named")
			}
			var left []Leaf
			for _, x := range made(ahead) {
				if !begins(x.P, p) {
					left = append(left, x)
				}
			}
			turnedBy(t, fmt.Sprint("store ", i, " reset at ", p), s.l, s.u, done(d.R, d.N, 1+i%5, reset(p, under...)), left...)
			x := Leaf{P: p, Kind: 1 + (i+k)/3%3}
			turnedBy(t, fmt.Sprint("store ", i, " with ", x), s.l, s.u, done(d.R, d.N, 1+i%5, making(x, k)), append(made(ahead), x)...)
			turnedBy(t, fmt.Sprint("store ", i, " with ", x, " instead"), s.l, s.u, done(d.R, d.N, 1+i%5, making(x, k), reset(p, under...)), append(left, x)...)
		}
	}
}

// Promises 17.1 and 17.2: a chain of operations that make a leaf, and of Resets that cover the one ahead, undone in each way.
func TestChain(t *testing.T) {
	at := leaves(leaf(register, "a", "b"), leaf(bag, "a"), leaf(counter, "a", "b"), leaf(register, "a", "b", "c", "d"))
	var l []api.Txn
	for i := range 2 * len(at) {
		o := making(at[i/2], i)
		if i%2 == 1 {
			o = reset(of("a"), ref(0, i, 0))
		}
		l = append(l, done(0, i+1, i+1, o))
	}
	for k := range 1 << len(l) {
		var u []api.Undo
		var left []Leaf
		for i := range l {
			if k>>i%2 == 1 {
				u = turned(u, dotOf(0, i+1), 1)
			} else if i%2 == 0 && k>>(i+1)%2 == 1 {
				left = append(left, at[i/2])
			}
		}
		want(t, fmt.Sprint("chain ", k), checked(t, l, u), left...)
	}
}

// alikeItems holds two lists of items against each other, field by field.
func alikeItems(a, b []live.Item) bool {
	return slices.EqualFunc(a, b, func(a, b live.Item) bool {
		return a.X == b.X && a.Time == b.Time && a.O.Kind == b.O.Kind && slices.Equal(a.O.Path, b.O.Path) && a.O.V == b.O.V && a.O.N == b.O.N && slices.Equal(a.O.Seen, b.O.Seen)
	})
}

// copied tells items with lists of their own.
func copied(l []live.Item) (all []live.Item) {
	for _, x := range l {
		x.O.Path, x.O.Seen = slices.Clone(x.O.Path), slices.Clone(x.O.Seen)
		all = append(all, x)
	}
	return all
}

// guarded tells items between others in the same memory, with paths that all lie beside each other, and whether all is as it was.
func guarded(l []live.Item) ([]live.Item, func() bool) {
	var parts []string
	var seen []api.Ref
	for _, x := range l {
		parts, seen = append(append(parts, x.O.Path...), "b", "\xFF"), append(append(seen, x.O.Seen...), ref(0, 1, 0))
	}
	all := itemsAt(leaf(bag, "behind"), leaf(counter, "a", "behind"))
	i, k := 0, 0
	for _, x := range l {
		x.O.Path, x.O.Seen = parts[i:i+len(x.O.Path)], seen[k:k+len(x.O.Seen)]
		i, k = i+len(x.O.Path)+2, k+len(x.O.Seen)+1
		all = append(all, x)
	}
	for _, p := range paths() {
		all = append(all, itemsAt(Leaf{P: append(slices.Clone(p), "behind"), Kind: bag}, Leaf{P: p, Kind: counter})...)
	}
	keptParts, keptSeen, kept := slices.Clone(parts), slices.Clone(seen), copied(all)
	return all[2 : 2+len(l)], func() bool {
		return slices.Equal(parts, keptParts) && slices.Equal(seen, keptSeen) && alikeItems(all, kept)
	}
}

// R4: no list that came in is changed, nor what lies behind its length read or written, also where lists share memory.
func TestNothingIsChanged(t *testing.T) {
	for i, s := range stores() {
		plain := live.All(s.l, s.u)
		l, kept := guarded(plain)
		all := made(plain)
		want(t, fmt.Sprint("store ", i), l, all...)
		for _, p := range around(paths()...) {
			behind := append(slices.Clone(p), "b", "behind")
			was := slices.Clone(behind)
			wantAt(t, fmt.Sprint("store ", i), l, behind[:len(p)], slowKeys(all, p), slowKinds(all, p))
			if !slices.Equal(behind, was) {
				t.Fatalf("store %d: the path %v was changed to %v", i, was, behind)
			}
		}
		for _, x := range l[:min(len(l), 20)] {
			for n := range len(x.O.Path) + 1 {
				p := x.O.Path[:n] // the items' own memory: behind it lies more
				wantAt(t, fmt.Sprint("store ", i, " at its own"), l, p, slowKeys(all, slices.Clone(p)), slowKinds(all, slices.Clone(p)))
			}
		}
		for n := range min(len(l), 20) { // a part of it, behind which lies the rest
			wantTop(t, fmt.Sprint("store ", i, " up to ", n), l[:n], slowLeaves(all[:n]))
			wantTop(t, fmt.Sprint("store ", i, " from ", n), l[n:], slowLeaves(all[n:]))
			for _, p := range [][]string{nil, of("a"), of("a", "b"), l[n].O.Path} {
				wantAt(t, fmt.Sprint("store ", i, " up to ", n), l[:n], p, slowKeys(all[:n], p), slowKinds(all[:n], p))
				wantAt(t, fmt.Sprint("store ", i, " from ", n), l[n:], p, slowKeys(all[n:], p), slowKinds(all[n:], p))
			}
		}
		if !kept() {
			t.Fatalf("store %d was changed", i)
		}
	}
}

// R4: answers that are changed, and what lies behind them, change neither what came in, nor later answers, nor each other.
func TestAnswersAreNew(t *testing.T) {
	for i, s := range stores() {
		plain := live.All(s.l, s.u)
		l, kept := guarded(plain)
		all := slowLeaves(made(plain))
		first, second := Leaves(l), Leaves(l)
		for k := range first { // each path by itself: no two of one answer share memory
			for n := range first[k].P[:cap(first[k].P)] {
				first[k].P[:cap(first[k].P)][n] = "spoilt"
			}
			first[k].Kind = -1
			if !sameLeaves(first[k+1:], all[k+1:]) {
				t.Fatalf("store %d: a leaf that was changed changed another one", i)
			}
		}
		for k := range first[:cap(first)] {
			first[:cap(first)][k] = leaf(-1, "spoilt")
		}
		for _, p := range [][]string{nil, of("a"), of("a", "b")} {
			keys, kinds := Keys(l, p), Kinds(l, p)
			for k := range keys[:cap(keys)] {
				keys[:cap(keys)][k] = "spoilt"
			}
			for k := range kinds[:cap(kinds)] {
				kinds[:cap(kinds)][k] = -1
			}
			wantAt(t, fmt.Sprint("store ", i), l, p, slowKeys(all, p), slowKinds(all, p))
		}
		if !kept() || !sameLeaves(second, all) {
			t.Fatalf("store %d was changed", i)
		}
		want(t, fmt.Sprint("store ", i), l, all...)
	}
}

// told is all that is told of items, at some paths.
type told struct {
	all   []Leaf
	deep  int
	keys  [][]string
	kinds [][]int
}

// toldOf tells it.
func toldOf(l []live.Item, asked [][]string) (x told) {
	x.all, x.deep = Leaves(l), Deep(l)
	for _, p := range asked {
		x.keys, x.kinds = append(x.keys, Keys(l, p)), append(x.kinds, Kinds(l, p))
	}
	return x
}

// alike holds what is told against what else is told.
func alike(a, b told) bool {
	return sameLeaves(a.all, b.all) && a.deep == b.deep && slices.EqualFunc(a.keys, b.keys, slices.Equal) && slices.EqualFunc(a.kinds, b.kinds, slices.Equal)
}

// P1 and R5: no call panics, whatever it is given, and each answers the same, however often it is asked.
func TestAnyArguments(t *testing.T) {
	strange := api.Op{Kind: math.MinInt, Path: many("", 20), V: api.Value{Kind: -1, N: math.MinInt, S: "\xFF"}, N: math.MinInt, Seen: slices.Repeat(refs(ref(-1, math.MinInt, math.MaxInt)), 300)}
	lists := [][]live.Item{
		nil, items(live.Item{}), items(live.Item{}, live.Item{}), items(item(ref(-1, math.MinInt, math.MaxInt), math.MinInt, strange), item(ref(math.MaxInt, math.MinInt, -1), math.MaxInt, strange), item(api.Ref{}, 0, strange)),
		items(item(ref(0, 1, 0), 1, api.Op{Kind: math.MaxInt, Path: of("a")}), item(ref(0, 1, 0), 1, api.Op{Kind: math.MinInt, Path: of("a")}), item(ref(0, 1, 0), 1, remove(of("a"), 1)), item(ref(0, 1, 0), 1, reset(of("a"))), item(ref(0, 1, 0), 1, put(of("a"), 1))),
		items(item(api.Ref{}, 0, inc(nil, 1)), item(api.Ref{}, 0, inc(of(), 1)), item(api.Ref{}, 0, put(nil, 1))), itemsAt(leaf(bag, "\xFF", ""), leaf(bag, ""), leaf(bag, "\x00")), itemsAt(slices.Repeat(eachKind(many("é", 100)), 9)...),
	}
	for _, s := range stores() {
		lists = append(lists, live.All(s.l, s.u))
	}
	asked := append(around(paths()...), strange.Path, strange.Path[:19], many("é", 99), many("é", 100), many("é", 101))
	d := dice(5)
	for i, l := range lists {
		first := toldOf(l, asked)
		for range 5 {
			if got := toldOf(l, asked); !alike(got, first) {
				t.Fatalf("%d is answered in two ways: %s and %s", i, short(got), short(first))
			}
			if got := toldOf(mixed(&d, l), asked); !alike(got, first) {
				t.Fatalf("%d is answered in two ways, in another order: %s and %s", i, short(got), short(first))
			}
		}
	}
}

// The document's example: of leaves at a/k and a/m there is a at the top, and under it k and m.
func TestExample(t *testing.T) {
	l := checked(t, row(done(0, 1, 1, put(of("a", "k"), 5), inc(of("a", "m"), 1))), nil)
	want(t, "example", l, leaf(register, "a", "k"), leaf(counter, "a", "m"))
	wantAt(t, "at the top", l, nil, of("a"), nil)
	wantAt(t, "under a", l, of("a"), of("k", "m"), nil)
}
