package view

import (
	"fmt"
	"math"
	"slices"
	"strings"
	"testing"

	"palinode/api"
	"palinode/live"
	"palinode/op"
	"palinode/path"
	"palinode/tally"
	"palinode/tree"
	"palinode/txn"
	"palinode/value"
)

const (
	mostSeq    = 1048576       // the greatest number that a dot may have: 2^20
	mostTime   = 1099511627776 // the greatest time: 2^40
	mostAmount = 2147483647    // the greatest number of a value, and of an Inc: 2^31 - 1
	mostText   = 64            // how many bytes a text of a value has at the most
	mostParts  = 8             // how many parts a path has at the most
	mostChars  = 24            // how many characters a name has at the most
	mostOps    = 16            // how many operations a transaction has at the most
	mostSeen   = 256           // how many others an operation names at the most
	mostTxns   = 1000          // how many transactions there are at the most
	mostUndo   = 64            // the most that a transaction may be undone and redone
)

// The kinds of leaves, as the document numbers them.
const (
	aRegister = 1
	aBag      = 2
	aCounter  = 3
)

// dotOf tells a dot: its replica, and its number there.
func dotOf(r, n int) api.Dot { return api.Dot{R: r, N: n} }

// ref tells an operation's name: its dot's replica and number, and its place.
func ref(r, n, i int) api.Ref { return api.Ref{D: dotOf(r, n), I: i} }

// of tells parts of a path, one by one.
func of(parts ...string) []string { return parts }

// times tells a text, so many times.
func times(s string, n int) string { return strings.Repeat(s, n) }

// many tells so many parts that are all alike.
func many(part string, n int) []string { return slices.Repeat(of(part), n) }

// vals tells values, one by one.
func vals(l ...api.Value) []api.Value { return l }

// register, bagged and counter tell entries: at a path, with values or with a sum.
func register(p []string, l ...api.Value) Entry { return Entry{P: p, Kind: aRegister, L: l} }

func bagged(p []string, l ...api.Value) Entry { return Entry{P: p, Kind: aBag, L: l} }

func counter(p []string, n int) Entry { return Entry{P: p, Kind: aCounter, N: n} }

// entries tells them one by one.
func entries(l ...Entry) []Entry { return l }

// items tells items, one by one.
func items(l ...live.Item) []live.Item { return l }

// row tells transactions, one by one.
func row(l ...api.Txn) []api.Txn { return l }

// ops tells operations, one by one.
func ops(l ...api.Op) []api.Op { return l }

// undos tells counts, one by one.
func undos(l ...api.Undo) []api.Undo { return l }

// un tells a count: of a dot, and how often.
func un(r, n, often int) api.Undo { return api.Undo{D: dotOf(r, n), N: often} }

// turned tells counts with one of a dot that was turned so often.
func turned(u []api.Undo, d api.Dot, n int) []api.Undo { return tally.Put(u, api.Undo{D: d, N: n}) }

func number(n int) api.Value { return api.Value{Kind: api.Int, N: n} }

func text(s string) api.Value { return api.Value{Kind: api.Text, S: s} }

func truth(n int) api.Value { return api.Value{Kind: api.Bool, N: n} }

func put(p []string, v api.Value, seen ...api.Ref) api.Op {
	return api.Op{Kind: api.Put, Path: p, V: v, Seen: seen}
}

func add(p []string, v api.Value) api.Op { return api.Op{Kind: api.Add, Path: p, V: v} }

func inc(p []string, n int) api.Op { return api.Op{Kind: api.Inc, Path: p, N: n} }

func remove(p []string, v api.Value, seen ...api.Ref) api.Op {
	return api.Op{Kind: api.Remove, Path: p, V: v, Seen: seen}
}

func reset(p []string, seen ...api.Ref) api.Op {
	return api.Op{Kind: api.Reset, Path: p, Seen: seen}
}

// done tells a transaction of a replica, a number there, and a time.
func done(r, n, time int, ops ...api.Op) api.Txn {
	return api.Txn{D: dotOf(r, n), User: r % 8, Time: time, Ops: ops}
}

// item tells one that counts.
func item(x api.Ref, time int, o api.Op) live.Item { return live.Item{X: x, O: o, Time: time} }

// itemsOf tells items that are these operations, in this order, of transactions that rise, at times that rise.
func itemsOf(l ...api.Op) (all []live.Item) {
	for i, o := range l {
		all = append(all, item(ref(i/64%16, i/1024*8+i%64/8+1, i%8), i+1, o))
	}
	return all
}

// making tells operations by which an entry comes to be: of each value a Put, or an Add; of a sum Incs, none of which is greater than it may be.
func making(l ...Entry) (all []api.Op) {
	for _, e := range l {
		for _, v := range e.L {
			o := put(e.P, v)
			if e.Kind == aBag {
				o = add(e.P, v)
			}
			all = append(all, o)
		}
		if e.Kind == aCounter {
			all = append(all, counting(e.P, e.N)...)
		}
	}
	return all
}

// counting tells Incs that come to a sum, at least one.
func counting(p []string, n int) (all []api.Op) {
	if n == 0 {
		return ops(inc(p, -7), inc(p, 7))
	}
	for n != 0 {
		step := max(-mostAmount, min(mostAmount, n))
		all, n = append(all, inc(p, step)), n-step
	}
	return all
}

// made tells items by which entries come to be.
func made(l ...Entry) []live.Item { return itemsOf(making(l...)...) }

// dice rolls numbers that are the same in each run.
type dice uint64

// roll tells a number from 0 on, below another one.
func (d *dice) roll(below int) int {
	*d = *d*6364136223846793005 + 1442695040888963407
	return int(uint64(*d) >> 33 % uint64(below))
}

// mixed tells a list in another order.
func mixed[E any](d *dice, l []E) []E {
	l = slices.Clone(l)
	for i := range l {
		k := i + d.roll(len(l)-i)
		l[i], l[k] = l[k], l[i]
	}
	return l
}

// backwards tells a list from its end on.
func backwards[E any](l []E) []E {
	l = slices.Clone(l)
	slices.Reverse(l)
	return l
}

// rising tells values of each Kind, in their order: at the edges, and between.
func rising() []api.Value {
	long := times("a", mostText-1)
	return vals(number(-mostAmount), number(-mostAmount+1), number(-65536), number(-100), number(-10), number(-9), number(-2), number(-1), number(0), number(1), number(2), number(9), number(10), number(11), number(99), number(100), number(1<<30), number(mostAmount-1), number(mostAmount),
		text(""), text("\x00"), text("\n"), text(" "), text("  "), text(" = "), text("!"), text(`"`), text(`""`), text(`"\`), text("-1"), text("/"), text("0"), text("1 2"), text("9"), text("A"), text(`\`), text(`\"`), text(`\/`), text(`\\`), text("a"), text("a\nb"), text("a b"), text(`a"b`), text(`a\b`), text("aa"), text(long), text(long+`"`), text(long+"a"), text("b"), text("true"), text("z"), text("\x7F"), text("é"), text(`é"世\𝄞`), text("世"), text("世世"), text("\uFFFD"), text("𝄞"), text("\U0010FFFF"),
		truth(0), truth(1))
}

// few tells a few of them, in their order.
func few() []api.Value {
	return vals(number(-3), number(0), number(1), number(2), text(""), text("a b"), text(`q"\`), truth(0), truth(1))
}

// sums tells sums, rising, up to the greatest that items can come to: of so many transactions, with so many operations, each by so much.
func sums() []int {
	most := mostTxns * mostOps * mostAmount
	return []int{-most, -most + 1, -mostAmount - 1, -mostAmount, -1234567890, -65536, -101, -100, -99, -10, -9, -5, -1, 0, 1, 2, 9, 10, 11, 99, 100, 101, 65536, 1234567890, mostAmount, mostAmount + 1, most - 1, most}
}

// edges tells paths, rising: some begin as others do, by parts or by letters alone, of one part and of eight, with slashes, backslashes, blanks and quotes.
func edges() [][]string {
	return [][]string{
		of(" "), of(" = 1"), of("!", `"`), of("/"), of("/", "/"), of("A"), of("A", "b"), of(`\`), of(`\`, `\`), of(`\/`, `/\`), of("a"), of("a", " : 1"), of("a", "B"), of("a", "a"), of("a", "a", "a"), many("a", 7), many("a", 8), append(many("a", 7), "b"), of("a", "b"), of("a", "b", "c"), of("a", "b", "c", "d", "e", "f", "g", "h"), of("a", "b", "c", "d", "e", "f", "g", "i"), of("a", "b/c"), of("a", "bc"), of("a", "c"), of("a", "é"),
		of("a = 1"), of("a/b"), of("a/b", "c"), of("a/b/c"), of(`a\`), of(`a\/b`), of("ab"), of("ab", "c"), of("b"), of("b", "a"), of("m", "k"), of("m", "n", "x"), many("z", 8), of("é"), of("é", "a"), of("世", "界"), many(times("𝄞", mostChars), mostParts),
	}
}

// paths tells a few paths for stores, the first one more than once.
func paths() [][]string {
	return [][]string{of("a"), of("a"), of("a", "b"), of("a", "b", "c"), of("ab"), of("a/b"), of("b"), of("é"), of("A"), of("a", `b\c`), of("a", "b", "c", "d", "e", "f", "g", "h")}
}

// asked tells paths that are asked for: those for stores, and such as are not there.
func asked() [][]string {
	return append(paths(), nil, of(), of(""), of("", "a"), of("a", ""), of("a", "c"), of("a", "b", "c", "d"), of("a", "b", "c", "d", "e", "f", "g"), of("a", "b", "c", "d", "e", "f", "g", "i"), of("a", "b", "c", "d", "e", "f", "g", "h", "i"), of("\xFF"), of("x"), many("a", 30))
}

// kinds tells kinds that are asked for, of leaves and of none.
func kinds() []int {
	return []int{math.MinInt, -1, 0, aRegister, aBag, aCounter, 4, 5, 257, math.MaxInt}
}

// slowAhead tells whether a text stands ahead of another one, byte by byte; one that goes on stands behind.
func slowAhead(a, b string) bool {
	for i := range len(a) {
		if i == len(b) {
			return false
		}
		if a[i] != b[i] {
			return a[i] < b[i]
		}
	}
	return len(a) < len(b)
}

// pathAhead tells whether a path stands ahead of another one, part by part; one that goes on stands behind.
func pathAhead(a, b []string) bool {
	for i := range a {
		if i == len(b) {
			return false
		}
		if a[i] != b[i] {
			return slowAhead(a[i], b[i])
		}
	}
	return len(a) < len(b)
}

// entryAhead tells whether an entry stands ahead of another one: by its path, then by its kind.
func entryAhead(a, b Entry) bool {
	return pathAhead(a.P, b.P) || !pathAhead(b.P, a.P) && a.Kind < b.Kind
}

// valueAhead tells whether a value stands ahead of another one: by its Kind, its number, its bytes.
func valueAhead(a, b api.Value) bool {
	if a.Kind != b.Kind {
		return a.Kind < b.Kind
	}
	if a.N != b.N {
		return a.N < b.N
	}
	return slowAhead(a.S, b.S)
}

// inPlace tells a list with one more, in its place, unless it is there.
func inPlace[E any](l []E, x E, ahead func(a, b E) bool) []E {
	i := 0
	for i < len(l) && ahead(l[i], x) {
		i++
	}
	if i < len(l) && !ahead(x, l[i]) {
		return l
	}
	return slices.Insert(l, i, x)
}

// inOrder tells entries in their order.
func inOrder(l []Entry) (all []Entry) {
	for _, e := range l {
		all = inPlace(all, e, entryAhead)
	}
	return all
}

// slowAt is what the document says of what is at a leaf: of Puts, or of Adds, the values, rising, each once; of Incs what they come to.
func slowAt(l []live.Item, p []string, kind int) Entry {
	e := Entry{P: slices.Clone(p), Kind: kind}
	for _, x := range l {
		if x.O.Kind != kind || !slices.Equal(x.O.Path, p) { // the kinds of operations that make leaves have the leaves' numbers
			continue
		}
		switch kind {
		case aRegister, aBag:
			e.L = inPlace(e.L, x.O.V, valueAhead)
		case aCounter:
			e.N += x.O.N
		}
	}
	return e
}

// slowOf is what the document says of all leaves: at each path, of each kind, that an item has.
func slowOf(l []live.Item) (all []Entry) {
	var leaves []Entry
	for _, x := range l {
		leaves = inPlace(leaves, Entry{P: x.O.Path, Kind: x.O.Kind}, entryAhead)
	}
	for _, e := range leaves {
		all = append(all, slowAt(l, e.P, e.Kind))
	}
	return all
}

// slowNumber tells a number's digits, with a - ahead of one below 0.
func slowNumber(n int) string {
	switch {
	case n < 0:
		return "-" + slowNumber(-n)
	case n < 10:
		return string(rune('0' + n))
	}
	return slowNumber(n/10) + string(rune('0'+n%10))
}

// escaped tells a text with a backslash ahead of each byte that is a backslash, or another one.
func escaped(s string, other byte) string {
	var b []byte
	for i := range len(s) {
		if s[i] == '\\' || s[i] == other {
			b = append(b, '\\')
		}
		b = append(b, s[i])
	}
	return string(b)
}

// slowValue is what the document says of a value's text.
func slowValue(v api.Value) string {
	switch {
	case v.Kind == 3 && v.N == 1:
		return "true"
	case v.Kind == 3:
		return "false"
	case v.Kind == 2:
		return `"` + escaped(v.S, '"') + `"`
	}
	return slowNumber(v.N)
}

// slowLine is what the document says of an entry's line.
func slowLine(e Entry) string {
	s := ""
	for i, part := range e.P {
		if i > 0 {
			s += "/"
		}
		s += escaped(part, '/')
	}
	switch e.Kind {
	case aRegister:
		s += " ="
	case aBag:
		s += " :"
	default:
		return s + " # " + slowNumber(e.N)
	}
	if len(e.L) == 0 {
		return s + " "
	}
	for _, v := range e.L {
		s += " " + slowValue(v)
	}
	return s
}

// slowText is what the document says of a view's text.
func slowText(l []Entry) string {
	s := ""
	for _, e := range l {
		s += slowLine(e) + "\n"
	}
	return s
}

// short tells the beginning of what is tested, for a message.
func short(x any) string { return fmt.Sprintf("%.300s", fmt.Sprintf("%q", x)) }

// alike holds two entries against each other, field by field.
func alike(a, b Entry) bool {
	return a.Kind == b.Kind && a.N == b.N && slices.Equal(a.P, b.P) && slices.Equal(a.L, b.L)
}

// allAlike holds two views against each other, field by field.
func allAlike(a, b []Entry) bool { return slices.EqualFunc(a, b, alike) }

// around tells paths that are asked for: each beginning of some, what goes on behind them, and what differs in its last part alone; and some others.
func around(l ...[]string) (all [][]string) {
	all = [][]string{nil, of(), of(""), of("\xFF"), of("x"), many("a", 9), many("", 8)}
	for _, p := range l {
		for n := range len(p) + 1 {
			all = append(all, slices.Clone(p[:n]))
		}
		all = append(all, append(slices.Clone(p), "a"), append(slices.Clone(p), ""), append(of("x"), p...))
		if n := len(p) - 1; n >= 0 {
			for _, last := range of("x", p[n]+"a", p[n]+"/", p[n][:len(p[n])-1]) {
				all = append(all, append(slices.Clone(p[:n]), last))
			}
			all = append(all, p[1:])
		}
	}
	return all
}

// pathsOf tells the paths of entries.
func pathsOf(l []Entry) (all [][]string) {
	for _, e := range l {
		all = append(all, e.P)
	}
	return all
}

// entryAt tells that one of some entries that is at a path, of a kind, or an empty one.
func entryAt(l []Entry, p []string, kind int) Entry {
	for _, e := range l {
		if e.Kind == kind && slices.Equal(e.P, p) {
			return e
		}
	}
	return Entry{P: p, Kind: kind}
}

// wantAt holds what is at a leaf against what is wanted.
func wantAt(t *testing.T, what string, l []live.Item, wanted Entry) {
	t.Helper()
	if got := At(l, wanted.P, wanted.Kind); !alike(got, wanted) {
		t.Fatalf("%s: there is %s, want %s", what, short(got), short(wanted))
	}
}

// wantTop holds all that is there, and its text, against these entries, that rise.
func wantTop(t *testing.T, what string, l []live.Item, wanted ...Entry) {
	t.Helper()
	got := Of(l)
	if !allAlike(got, wanted) {
		t.Fatalf("%s: there are %s, want %s", what, short(got), short(wanted))
	}
	if !Same(got, wanted) || !Same(wanted, got) {
		t.Fatalf("%s: not the same: %s and %s", what, short(got), short(wanted))
	}
	if s := Text(got); s != slowText(wanted) {
		t.Fatalf("%s: the text %s, want %s", what, short(s), short(slowText(wanted)))
	}
}

// want holds all that is told of items against the entries that are wanted, in any order: there they are, each at its leaf, and nothing else is anywhere.
func want(t *testing.T, what string, l []live.Item, wanted ...Entry) {
	t.Helper()
	wanted = inOrder(wanted)
	wantTop(t, what, l, wanted...)
	for _, p := range around(pathsOf(wanted)...) {
		for kind := range 5 {
			wantAt(t, what, l, entryAt(wanted, p, kind))
		}
	}
}

// checked tells the items of transactions that may be.
func checked(t *testing.T, l []api.Txn, u []api.Undo) []live.Item {
	t.Helper()
	for i, x := range l {
		if e := txn.Check(x); e != api.OK {
			t.Fatalf("the transaction %d may not be: %d", i, e)
		}
	}
	if !txn.Rises(l) || !tally.Right(u) {
		t.Fatal("no such transactions, or counts")
	}
	return live.All(l, u)
}

// stored is what is known of: transactions that rise, and counts.
type stored struct {
	l []api.Txn
	u []api.Undo
}

// anyOp tells an operation of any Kind, that covers some of others if it may.
func anyOp(d *dice, others []api.Ref) api.Op {
	p, v := paths()[d.roll(len(paths()))], few()[d.roll(len(few()))]
	var seen []api.Ref
	for _, x := range others {
		if d.roll(len(others)) < 2 && len(seen) < mostSeen {
			seen = append(seen, x)
		}
	}
	switch d.roll(12) {
	case 0:
		return put(p, v, seen...)
	case 1, 2:
		return put(p, v)
	case 3, 4, 5:
		return add(p, v)
	case 6, 7, 8:
		return inc(p, []int{5, -5, 5, -5, 1, mostAmount, -mostAmount}[d.roll(7)]) // some sums are 0
	case 9, 10:
		return remove(p, v, seen...)
	}
	return reset(p, seen...)
}

// store tells so many transactions, each with up to so many operations, that cover each other as it comes, and counts of some.
func store(d *dice, many, most int) (s stored) {
	var dots []api.Dot
	for i := range many {
		dots = append(dots, dotOf(i%16, i/16*3+1+d.roll(3)))
	}
	slices.SortFunc(dots, func(a, b api.Dot) int { return (a.R-b.R)*mostSeq*2 + a.N - b.N })
	var all []api.Ref
	for _, x := range dots {
		for i := range most {
			all = append(all, api.Ref{D: x, I: i})
		}
	}
	for _, x := range dots {
		t := done(x.R, x.N, 1+d.roll(1+many/3))
		for range 1 + d.roll(most) {
			t.Ops = append(t.Ops, anyOp(d, all))
		}
		if t.Thin = d.roll(5) == 0; t.Thin {
			t.Ops[d.roll(len(t.Ops))] = api.Op{}
		}
		s.l = append(s.l, t)
		if d.roll(3) == 0 {
			s.u = append(s.u, api.Undo{D: x, N: 1 + d.roll(4)})
		}
	}
	return s
}

// stores tells many that are unlike: none, a few, and many transactions, with one operation or many.
func stores() (all []stored) {
	d := dice(18)
	all = append(all, stored{}, stored{l: []api.Txn{}, u: []api.Undo{}})
	for i := range 400 {
		all = append(all, store(&d, 1+i%12, 1+i%6))
	}
	for i := range 20 {
		all = append(all, store(&d, 10+5*i, 1+i%mostOps))
	}
	return append(all, store(&d, 200, mostOps))
}

// The test's own limits, kinds, values and paths are what they say they are.
func TestLists(t *testing.T) {
	if api.MaxSeq != mostSeq || txn.MaxTime != mostTime || api.MaxAmount != mostAmount || api.MaxText != mostText || api.MaxDepth != mostParts || api.MaxName != mostChars || api.MaxOps != mostOps || api.MaxSeen != mostSeen || api.MaxTxns != mostTxns || api.MaxUndo != mostUndo {
		t.Error("other limits")
	}
	if op.Register != aRegister || op.Bag != aBag || op.Counter != aCounter || api.Put != 1 || api.Add != 2 || api.Inc != 3 {
		t.Error("other kinds")
	}
	for k, l := range [][]api.Value{rising(), few()} {
		for i, v := range l {
			if !value.Right(v) || i > 0 && !valueAhead(l[i-1], v) {
				t.Errorf("%d: %+v is wrong, or out of order", k, v)
			}
		}
	}
	for i, p := range edges() {
		if e := path.Check(p); e != api.OK || i > 0 && (!pathAhead(edges()[i-1], p) || pathAhead(p, edges()[i-1])) {
			t.Errorf("%q is wrong, or out of order: %d", p, e)
		}
	}
	for i, n := range sums() {
		if i > 0 && sums()[i-1] >= n {
			t.Errorf("%d is out of order", n)
		}
	}
}

// The stores that are made up may be, and have all that is to be told.
func TestStores(t *testing.T) {
	var none, one, several, nothing, below, above, side, twice, covered int
	for _, s := range stores() {
		l := checked(t, s.l, s.u)
		all := slowOf(l)
		switch n := len(all); {
		case n == 0:
			none++
		case n == 1:
			one++
		default:
			several++
		}
		valued := 0
		for _, e := range all {
			switch {
			case e.Kind == aCounter && e.N == 0:
				nothing++
			case e.Kind == aCounter && e.N < 0:
				below++
			case e.Kind == aCounter:
				above++
			case len(e.L) > 1:
				side++
			}
			valued += len(e.L)
		}
		for _, x := range l {
			if x.O.Kind != api.Inc {
				valued--
			}
		}
		if valued < 0 {
			twice++
		}
		if len(all) < len(slowOf(live.All(s.l, nil))) {
			covered++
		}
	}
	if min(none, one, several, nothing, below, above, side, twice, covered) < 20 {
		t.Errorf("%d without entries, %d with one, %d with several; %d sums of 0, %d below, %d above; %d with several values, %d with some twice; %d with such as are gone", none, one, several, nothing, below, above, side, twice, covered)
	}
}

// Promises 18.1 and 18.2: entries and texts that are written out.
func TestWritten(t *testing.T) {
	for i, c := range []struct {
		come []api.Op
		all  []Entry
		text string
	}{
		{nil, nil, ""},
		{ops(put(of("a"), number(1))), entries(register(of("a"), number(1))), "a = 1\n"},
		{ops(put(of("a"), number(2)), put(of("a"), number(1))), entries(register(of("a"), number(1), number(2))), "a = 1 2\n"},
		{ops(add(of("a"), number(5))), entries(bagged(of("a"), number(5))), "a : 5\n"},
		{ops(inc(of("a"), 5)), entries(counter(of("a"), 5)), "a # 5\n"},
		{ops(inc(of("a"), 5), inc(of("a"), -5)), entries(counter(of("a"), 0)), "a # 0\n"},
		{ops(inc(of("a"), 5), inc(of("a"), -7)), entries(counter(of("a"), -2)), "a # -2\n"},
		{ops(inc(of("a", "b"), mostAmount), inc(of("a", "b"), mostAmount)), entries(counter(of("a", "b"), 4294967294)), "a/b # 4294967294\n"},
		{
			ops(inc(of("a"), 1), add(of("a"), truth(1)), put(of("a"), text("")), add(of("a"), truth(0)), inc(of("a"), 2), put(of("a"), number(-1)), add(of("a"), truth(1))),
			entries(register(of("a"), number(-1), text("")), bagged(of("a"), truth(0), truth(1)), counter(of("a"), 3)),
			"a = -1 \"\"\na : false true\na # 3\n",
		},
		{
			ops(inc(of("m/x", "k"), -4), add(of("a"), text(`q"`)), put(of("b"), number(2)), add(of("a"), number(7)), put(of("b"), truth(1))),
			entries(bagged(of("a"), number(7), text(`q"`)), register(of("b"), number(2), truth(1)), counter(of("m/x", "k"), -4)),
			"a : 7 \"q\\\"\"\nb = 2 true\nm\\/x/k # -4\n",
		},
		{
			ops(put(of(`\`), text(`\`)), put(of("a/b"), text("a/b")), put(of("a", "b"), text("a b")), put(of("a b"), text("1 2")), put(of("a"), text("\n"))),
			entries(register(of(`\`), text(`\`)), register(of("a"), text("\n")), register(of("a", "b"), text("a b")), register(of("a b"), text("1 2")), register(of("a/b"), text("a/b"))),
			`\\ = "\\"` + "\na = \"\n\"\na/b = \"a b\"\na b = \"1 2\"\na\\/b = \"a/b\"\n",
		},
		{
			ops(add(of("é", "世"), text("𝄞")), add(of("é", "世"), text("é")), inc(of("1", "2", "3", "4", "5", "6", "7", "8"), -10), add(of("z"), number(-mostAmount)), add(of("z"), number(mostAmount))),
			entries(counter(of("1", "2", "3", "4", "5", "6", "7", "8"), -10), bagged(of("z"), number(-mostAmount), number(mostAmount)), bagged(of("é", "世"), text("é"), text("𝄞"))),
			"1/2/3/4/5/6/7/8 # -10\nz : -2147483647 2147483647\né/世 : \"é\" \"𝄞\"\n",
		},
	} {
		what := fmt.Sprint("written ", i)
		l := itemsOf(c.come...)
		want(t, what, l, c.all...)
		if got := Text(Of(l)); got != c.text || Text(c.all) != c.text {
			t.Errorf("%s: %q, want %q", what, got, c.text)
		}
	}
}

// Promise 18.1: of no items there is nothing to be read; 18.3: at no leaf there are values, or a sum; of no entries the text is empty.
func TestOfNone(t *testing.T) {
	all := made(bagged(of("a"), few()...), register(of("b", "c"), number(1)), counter(of("a"), 5))
	for i, l := range [][]live.Item{nil, {}, make([]live.Item, 0, 4), all[:0], all[len(all):]} {
		want(t, fmt.Sprint("none ", i), l)
		if got := Of(l); len(got) != 0 || Text(got) != "" {
			t.Errorf("none %d: %v", i, got)
		}
		for _, p := range around(edges()...) {
			for _, kind := range kinds() {
				wantAt(t, fmt.Sprint("none ", i), l, Entry{P: p, Kind: kind})
			}
		}
	}
	full := Of(all)
	for i, l := range [][]Entry{nil, {}, make([]Entry, 0, 4), full[:0], full[3:]} {
		if got := Text(l); got != "" {
			t.Errorf("no entries %d: %q", i, got)
		}
	}
}

// Promise 18.1: of one item there is its leaf's entry alone, whatever its name, its time and what it covers are.
func TestOfOne(t *testing.T) {
	for i, p := range edges() {
		for k, v := range rising() {
			if (i+k)%5 == 0 { // some are enough
				wantTop(t, "a Put", itemsOf(put(p, v)), register(p, v))
				wantTop(t, "an Add", itemsOf(add(p, v)), bagged(p, v))
			}
		}
		for _, n := range []int{-mostAmount, -10, -1, 1, 5, mostAmount} {
			wantTop(t, "an Inc", itemsOf(inc(p, n)), counter(p, n))
		}
		want(t, "a Put", itemsOf(put(p, text("a"))), register(p, text("a")))
		want(t, "an Add", itemsOf(add(p, truth(0))), bagged(p, truth(0)))
		want(t, "an Inc", itemsOf(inc(p, -3)), counter(p, -3))
		for _, x := range []api.Ref{ref(0, 1, 0), ref(7, 20, 3), ref(15, mostSeq, 15)} {
			for _, time := range []int{1, 1000, mostTime} {
				wantTop(t, "one", items(item(x, time, put(p, number(1)))), register(p, number(1)))
				wantTop(t, "one that covers", items(item(x, time, put(p, number(1), ref(1, 1, 0), ref(2, 1, 0)))), register(p, number(1)))
				wantTop(t, "one", items(item(x, time, add(p, number(1)))), bagged(p, number(1)))
				wantTop(t, "one", items(item(x, time, inc(p, time%7+1))), counter(p, time%7+1))
			}
		}
	}
}

// eachKind tells entries of each kind at a path, rising.
func eachKind(p []string) []Entry {
	return entries(register(p, number(1), text("b")), bagged(p, number(2), truth(1)), counter(p, -4))
}

// Promise 18.1: of two leaves, at each path and each other one, of each kind and each other one: both entries, rising; or the one that both are.
func TestOfTwo(t *testing.T) {
	for i, p := range edges() {
		for k, q := range edges() {
			for _, a := range eachKind(p) {
				for _, b := range eachKind(q) {
					l := made(a, b)
					both := entries(a, b)
					switch {
					case i == k && a.Kind == b.Kind:
						both = entries(a)
						both[0].N += b.N // counted twice; values are there once
					case i > k || i == k && a.Kind > b.Kind:
						both = entries(b, a)
					}
					wantTop(t, "two", l, both...)
					for _, x := range entries(a, b) {
						for kind := range 5 {
							wantAt(t, "two", l, entryAt(both, x.P, kind))
						}
					}
				}
			}
		}
	}
}

// Promise 18.1: of many leaves, whose items come rising, falling and mixed, once and more often: an entry of each, rising.
func TestOfMany(t *testing.T) {
	var all []Entry
	for _, p := range edges() {
		all = append(all, eachKind(p)...)
	}
	d := dice(1)
	want(t, "rising", made(all...), all...)
	come := making(all...)
	for k := range 60 {
		wantTop(t, fmt.Sprint("mixed ", k), itemsOf(mixed(&d, come)...), all...)
		some := mixed(&d, all)[:k]
		want(t, fmt.Sprint("some ", k), itemsOf(mixed(&d, making(some...))...), some...)
		twice := slices.Clone(some)
		for i := range twice { // values are there once, sums are counted twice
			twice[i].N *= 2
		}
		wantTop(t, fmt.Sprint("some, twice ", k), itemsOf(mixed(&d, making(slices.Concat(some, some)...))...), inOrder(twice)...)
	}
	for n := range len(all) + 1 { // from each one on, up to each one, and all but one; rising and falling
		wantTop(t, "up to", made(all[:n]...), all[:n]...)
		wantTop(t, "from", made(all[n:]...), all[n:]...)
		wantTop(t, "up to, falling", itemsOf(backwards(making(all[:n]...))...), all[:n]...)
		wantTop(t, "from, falling", made(backwards(all[n:])...), all[n:]...)
		if n < len(all) {
			but := slices.Delete(slices.Clone(all), n, n+1)
			wantTop(t, "all but one", made(but...), but...)
			wantAt(t, "all but one", made(but...), Entry{P: all[n].P, Kind: all[n].Kind})
		}
	}
}

// Promises 18.1 and 18.3: at a path that is there with each choice of kinds: of each kind that is there what is there, of each other one nothing; also of such as are no leaf's.
func TestAtEachKind(t *testing.T) {
	for _, p := range [][]string{of("a"), of("a", "b"), of("é", "a/b", "c"), many("a", 7)} {
		under := append(slices.Clone(p), "k")
		for n := range 64 {
			var there []Entry
			for i := range 3 {
				if n>>i%2 == 1 {
					there = append(there, eachKind(p)[i])
				}
				if n>>(3+i)%2 == 1 {
					there = append(there, eachKind(under)[i])
				}
			}
			for _, l := range [][]live.Item{made(there...), itemsOf(backwards(making(there...))...)} {
				want(t, fmt.Sprint("kinds ", n), l, there...)
				for _, q := range [][]string{p, under, p[:len(p)-1], append(slices.Clone(under), "k"), nil, of()} {
					for _, kind := range kinds() {
						wantAt(t, fmt.Sprint("kinds ", n), l, entryAt(there, q, kind))
					}
				}
			}
		}
	}
}

// Promise 18.1: values of a Register and of a Bag, one, two and many, in whichever order and however often they come: rising, each once.
func TestValuesAt(t *testing.T) {
	all, p := rising(), of("a", "b")
	both := func(what string, come, wanted []api.Value) {
		t.Helper()
		var puts, adds, mix []api.Op
		for i, v := range come {
			puts, adds = append(puts, put(p, v)), append(adds, add(p, v))
			mix = append(mix, put(p, v), add(p, v), inc(p, 1), add(of("a"), number(i)), put(of("a", "b", "c"), number(i)))
		}
		want(t, what, itemsOf(puts...), register(p, wanted...))
		want(t, what, itemsOf(adds...), bagged(p, wanted...))
		wantAt(t, what, itemsOf(mix...), register(p, wanted...))
		wantAt(t, what, itemsOf(mix...), bagged(p, wanted...))
		wantAt(t, what, itemsOf(mix...), counter(p, len(come)))
	}
	for i, a := range all {
		both("one", vals(a), vals(a))
		both("twice", vals(a, a), vals(a))
		for k, b := range all {
			wanted := vals(a, b)
			switch {
			case i == k:
				wanted = vals(a)
			case i > k:
				wanted = vals(b, a)
			}
			wantTop(t, "two", itemsOf(put(p, a), put(p, b)), register(p, wanted...))
			wantTop(t, "two", itemsOf(add(p, a), add(p, b)), bagged(p, wanted...))
		}
	}
	d := dice(2)
	for k := range 20 {
		both("all", mixed(&d, slices.Concat(all, all[k:], all[:2*k])), all)
		both("up to", backwards(all[:k+1]), all[:k+1])
		both("many times", slices.Repeat(all[k:k+1], 3*k+1), all[k:k+1])
	}
}

// Promise 18.1: sums of a Counter, above 0, below 0, and 0, up to the greatest that items can come to.
func TestSums(t *testing.T) {
	p := of("a", "b")
	for _, n := range sums() {
		wantTop(t, fmt.Sprint("the sum ", n), made(counter(p, n)), counter(p, n))
		wantAt(t, fmt.Sprint("the sum ", n), made(counter(p, n)), counter(p, n))
		l := append(counting(p, n), counting(p, -n)...)
		wantTop(t, fmt.Sprint("the sum ", n, ", and back"), itemsOf(l...), counter(p, 0))
		if len(l) < 100 {
			want(t, fmt.Sprint("the sum ", n, ", beside others"), itemsOf(append(l, inc(of("a"), 9), inc(of("a", "b", "c"), 8), inc(p, 4))...), counter(of("a"), 9), counter(p, 4), counter(of("a", "b", "c"), 8))
		}
	}
	for k := range 30 {
		var l []api.Op
		for i := range k + 1 {
			l = append(l, inc(p, i+1), inc(of("a"), -i-1))
		}
		sum := (k + 1) * (k + 2) / 2
		want(t, "many", itemsOf(l...), counter(p, sum), counter(of("a"), -sum))
	}
}

// Promises 18.1 and 18.2: as many items as there may be, of few leaves and all of unlike ones; and the greatest sums.
func TestMost(t *testing.T) {
	var all []api.Txn
	for i := range mostTxns {
		all = append(all, done(i/100, i%100+1, i+1, slices.Repeat(ops(inc(of("a"), mostAmount), inc(of("b"), -mostAmount), inc(of("c"), mostAmount), inc(of("c"), -mostAmount)), mostOps/4)...))
	}
	want(t, "the most", checked(t, all, nil), counter(of("a"), 8589934588000), counter(of("b"), -8589934588000), counter(of("c"), 0))
	for i := range all {
		all[i].Ops = slices.Repeat(ops(inc(of("a"), mostAmount)), mostOps)
	}
	if got := Text(Of(checked(t, all, nil))); got != "a # 34359738352000\n" {
		t.Errorf("the greatest sum: %q", got)
	}
	var wanted []Entry
	for i := range all { // each one a leaf of its own, falling
		for k := range all[i].Ops {
			p := of(fmt.Sprint(mostTxns-i), fmt.Sprint(k))
			e := entries(register(p, number(i)), bagged(p, number(-k)), counter(p, i+1))[k%3]
			all[i].Ops[k], wanted = making(e)[0], append(wanted, e)
		}
	}
	slices.SortFunc(wanted, func(a, b Entry) int {
		if entryAhead(a, b) {
			return -1
		}
		return 1
	})
	l := checked(t, all, nil)
	if got := Of(l); len(got) != 16000 || !allAlike(got, wanted) || !Same(got, wanted) || strings.Count(Text(got), "\n") != 16000 {
		t.Errorf("all unlike: %d entries", len(got))
	}
	wantAt(t, "all unlike", l, register(of("1000", "15"), number(0)))
	wantAt(t, "all unlike", l, counter(of("1", "2"), 1000))
}

// unlike tells entries, each unlike each other one in one thing at the most: the path, the kind, a value, how many values there are, their order, the sum.
func unlike() []Entry {
	a, one, two := of("a"), number(1), number(2)
	return entries(
		Entry{}, Entry{Kind: aRegister}, Entry{Kind: aBag}, Entry{Kind: aCounter}, Entry{Kind: 4}, Entry{Kind: -1}, Entry{N: 1}, Entry{N: -1}, Entry{P: of("")}, Entry{P: a}, Entry{L: vals(one)}, Entry{L: vals(api.Value{})}, Entry{L: vals(api.Value{}, api.Value{})},
		register(a), bagged(a), counter(a, 0), counter(a, 1), counter(a, -1), counter(a, 1<<32), counter(a, 1<<32+1),
		register(a, one), bagged(a, one), register(of("b"), one), bagged(of("b"), one), register(of("a", "b"), one), register(of("b", "a"), one), register(of("a/b"), one), register(of("A"), one), register(of("a", ""), one), register(of("", "a"), one),
		register(a, two), register(a, one, two), register(a, two, one), register(a, one, one), register(a, one, two, two), register(a, one, two, truth(1)), register(a, one, two, text("1")), register(a, two, two),
		register(a, text("1")), register(a, truth(1)), register(a, truth(0)), register(a, number(0)), register(a, number(-1)), register(a, text("")), register(a, text("a")), register(a, text("a ")), register(a, text("A")), register(a, api.Value{Kind: api.Int, N: 1, S: "a"}), register(a, api.Value{Kind: api.Text, N: 1, S: "a"}), register(a, api.Value{Kind: 4, N: 1}),
		Entry{P: a, Kind: aRegister, L: vals(one), N: 1}, Entry{P: a, Kind: aBag, L: vals(one), N: 1}, Entry{P: a, Kind: aCounter, L: vals(one), N: 1}, Entry{P: many("a", 8), Kind: aCounter, N: 1}, Entry{P: append(many("a", 7), "b"), Kind: aCounter, N: 1}, Entry{P: many("a", 7), Kind: aCounter, N: 1},
	)
}

// copies tells a view with lists of its own.
func copies(l []Entry) (all []Entry) {
	for _, e := range l {
		e.P, e.L = slices.Clone(e.P), slices.Clone(e.L)
		all = append(all, e)
	}
	return all
}

// wantSame holds whether two views are the same, in both orders, against what is wanted.
func wantSame(t *testing.T, a, b []Entry, wanted bool) {
	t.Helper()
	if Same(a, b) != wanted || Same(b, a) != wanted {
		t.Fatalf("the same: %t: %s and %s", !wanted, short(a), short(b))
	}
}

// Promise 18.1: entries are the same, if all is the same in them, wherever it lies.
func TestSame(t *testing.T) {
	all := unlike()
	for i, a := range all {
		for k, b := range all {
			same := i == k
			wantSame(t, entries(a), copies(entries(b)), same)
			wantSame(t, entries(a, all[7]), copies(entries(b, all[7])), same)
			wantSame(t, entries(all[9], a), copies(entries(all[9], b)), same)
			wantSame(t, entries(all[9], a, all[20]), copies(entries(all[9], b, all[20])), same)
			wantSame(t, entries(a, b), copies(entries(b, a)), same)
			wantSame(t, entries(a, a), copies(entries(a, b)), same)
			wantSame(t, entries(a, b), entries(a), false)
			wantSame(t, entries(a), entries(b, a), false)
		}
	}
	for n := range len(all) + 1 { // each beginning, and each end
		for m := range len(all) + 1 {
			wantSame(t, all[:n], copies(all)[:m], n == m)
			wantSame(t, all[n:], copies(all)[m:], n == m)
		}
	}
	// nil and empty lists are the same
	for _, a := range [][]Entry{nil, {}, make([]Entry, 0, 3), all[:0]} {
		for _, b := range [][]Entry{nil, {}, all[len(all):]} {
			wantSame(t, a, b, true)
		}
		wantSame(t, a, all, false)
		wantSame(t, a, entries(Entry{}), false)
	}
	wantSame(t, entries(Entry{P: nil, Kind: aBag, L: nil}), entries(Entry{P: of(), Kind: aBag, L: vals()}), true)
	wantSame(t, entries(Entry{P: of("a")[:0], L: vals(number(1))[:0]}), entries(Entry{}), true)
	var views [][]Entry
	for i, s := range stores() {
		l := Of(live.All(s.l, s.u))
		wantSame(t, l, Of(live.All(s.l, s.u)), true)
		wantSame(t, l, copies(slowOf(live.All(s.l, s.u))), true)
		for k, m := range views {
			if allAlike(l, m) != Same(l, m) || i-k < 9 && Same(l, m) != (Text(l) == Text(m)) {
				t.Fatalf("stores %d and %d: the same: %t", i, k, Same(l, m))
			}
		}
		views = append(views, l)
	}
}

// Promise 18.2: lines that are written out.
func TestLineWritten(t *testing.T) {
	long, wide := times("a", mostText), times("𝄞", mostChars)
	for i, c := range []struct {
		e    Entry
		line string
	}{
		{register(of("a"), number(1), number(2)), `a = 1 2`},
		{register(of("a"), number(0)), `a = 0`},
		{register(of("a"), number(-mostAmount), number(-10), number(mostAmount)), `a = -2147483647 -10 2147483647`},
		{register(of("a"), truth(0), truth(1)), `a = false true`},
		{register(of("a"), text("")), `a = ""`},
		{register(of("a"), text(" "), text("  ")), `a = " " "  "`},
		{register(of("a"), text(`"`), text(`""`)), `a = "\"" "\"\""`},
		{register(of("a"), text(`\`), text(`\\`), text(`\"`)), `a = "\\" "\\\\" "\\\""`},
		{register(of("a"), text("\n"), text("a\nb")), "a = \"\n\" \"a\nb\""},
		{register(of("a"), text("/"), text("a/b"), text("true"), text("1 2")), `a = "/" "a/b" "true" "1 2"`},
		{register(of("a"), text("é世𝄞"), text(long)), `a = "é世𝄞" "` + long + `"`},
		{register(of("a"), number(1), text("1"), truth(1)), `a = 1 "1" true`},
		{bagged(of("a"), number(1), text("1"), truth(1)), `a : 1 "1" true`},
		{bagged(of("a"), text("a b"), text(`c"`), text(`d\`)), `a : "a b" "c\"" "d\\"`},
		{bagged(of("a"), number(-1)), `a : -1`},
		{bagged(of("a"), truth(0)), `a : false`},
		{counter(of("a"), 0), `a # 0`},
		{counter(of("a"), 1), `a # 1`},
		{counter(of("a"), -1), `a # -1`},
		{counter(of("a"), 10), `a # 10`},
		{counter(of("a"), -1000), `a # -1000`},
		{counter(of("a"), mostAmount+1), `a # 2147483648`},
		{counter(of("a"), 34359738352000), `a # 34359738352000`},
		{counter(of("a"), -34359738352000), `a # -34359738352000`},
		{counter(of("a", "b"), 5), `a/b # 5`},
		{counter(of("a/b"), 5), `a\/b # 5`},
		{counter(of("a", "b", "c", "d", "e", "f", "g", "h"), 5), `a/b/c/d/e/f/g/h # 5`},
		{counter(of("/", "/"), 5), `\//\/ # 5`},
		{counter(of(`\`, `\`), 5), `\\/\\ # 5`},
		{counter(of(`\/`, `/\`), 5), `\\\//\/\\ # 5`},
		{bagged(of("a b", " "), number(5)), `a b/  : 5`},
		{register(of(" = ", `"`), number(5)), ` = /" = 5`},
		{register(of("é", wide), number(5)), `é/` + wide + ` = 5`},
		// of a leaf at which nothing is, and of kinds that are no leaf's
		{counter(of("x"), 0), `x # 0`},
		{Entry{P: of("a", "b"), Kind: 0}, `a/b # 0`},
		{Entry{P: of("a/b"), Kind: 4}, `a\/b # 0`},
		{Entry{P: of("a"), Kind: -1}, `a # 0`},
	} {
		if got := Line(c.e); got != c.line || slowLine(c.e) != c.line {
			t.Errorf("%d: %q, want %q", i, got, c.line)
		}
	}
}

// Promise 18.2: a line of each path, each value and each sum, held against the document's words; and as text, with a line feed behind each.
func TestLine(t *testing.T) {
	all, d := rising(), dice(4)
	wantLine := func(e Entry) {
		t.Helper()
		if got := Line(e); got != slowLine(e) {
			t.Fatalf("%s: %q, want %q", short(e), got, slowLine(e))
		}
		if got := Text(entries(e)); got != slowLine(e)+"\n" {
			t.Fatalf("%s: the text %q", short(e), got)
		}
	}
	for i, p := range edges() {
		for k, v := range all {
			wantLine(register(p, v))
			wantLine(bagged(p, v))
			wantLine(register(p, v, all[(i+k)%len(all)]))
			wantLine(bagged(p, all[(i*k)%len(all)], v, v))
		}
		for n := range len(all) {
			wantLine(register(p, all[:n+1]...))
			wantLine(bagged(p, all[n:]...))
		}
		for _, n := range sums() {
			for _, kind := range []int{math.MinInt, -1, 0, aCounter, 4, math.MaxInt} {
				wantLine(Entry{P: p, Kind: kind, N: n})
			}
		}
	}
	for n := -3000; n < 3000; n++ {
		wantLine(counter(of("n"), n))
		wantLine(counter(of("n"), n*1000003))
		wantLine(register(of("n"), number(n*3001)))
	}
	for range 500 {
		var l []Entry
		text := ""
		for range d.roll(12) {
			p := edges()[d.roll(len(edges()))]
			e := entries(register(p, mixed(&d, all)[:1+d.roll(5)]...), bagged(p, mixed(&d, all)[:1+d.roll(5)]...), counter(p, sums()[d.roll(len(sums()))]))[d.roll(3)]
			l, text = append(l, e), text+Line(e)+"\n"
		}
		if got := Text(l); got != text || got != slowText(l) {
			t.Fatalf("the text %q, want %q", got, text)
		}
	}
}

// parts tells what a line of values that have no line feeds says, read from its end on: a path, a mark, and values.
func parts(t *testing.T, line string) (p []string, mark string, l []api.Value) {
	t.Helper()
	for n := range len(line) { // the first beginning behind which a mark stands, and that is a path; marks in a path are gone past
		for _, m := range of(" = ", " : ", " # ") {
			at, e := path.Parse(line[:n])
			rest, ok := strings.CutPrefix(line[n:], m)
			if values, right := readAll(rest); e == api.OK && ok && right {
				return at, m, values
			}
		}
	}
	t.Fatalf("%q is no line", line)
	return nil, "", nil
}

// readAll tells the values with a blank between, and whether there are such.
func readAll(s string) (l []api.Value, ok bool) {
	for n := range len(s) + 1 {
		if v, e := value.Parse(s[:n]); e == api.OK {
			if n == len(s) {
				return vals(v), true
			}
			if rest, found := strings.CutPrefix(s[n:], " "); found {
				if more, right := readAll(rest); right {
					return append(vals(v), more...), true
				}
			}
		}
	}
	return nil, false
}

// Promise 18.2: a line is read back: a path, the mark of its kind, and the values, or the sum.
func TestLineIsRead(t *testing.T) {
	for _, p := range [][]string{of("a"), of("a/b", `\`), of("é", "世"), many("a", 8), of(" "), of("a b", `"`)} {
		for k := range few() {
			for n := k + 1; n <= len(few()); n++ {
				values := few()[k:n]
				for _, e := range entries(register(p, values...), bagged(p, values...)) {
					at, mark, l := parts(t, Line(e))
					if !slices.Equal(at, p) || !slices.Equal(l, values) || mark != of("", " = ", " : ")[e.Kind] {
						t.Fatalf("%q is read as %q, %q, %v", Line(e), at, mark, l)
					}
				}
			}
		}
		for _, n := range []int{-mostAmount, -10, -1, 0, 1, 7, 10, mostAmount} {
			at, mark, l := parts(t, Line(counter(p, n)))
			if !slices.Equal(at, p) || !slices.Equal(l, vals(number(n))) || mark != " # " {
				t.Fatalf("%q is read as %q, %q, %v", Line(counter(p, n)), at, mark, l)
			}
		}
	}
}

// Promise 18.1: of all lists of up to four operations, of a few paths, kinds, values and amounts, in each order, held against the document's words.
func TestAllSmall(t *testing.T) {
	some := ops(put(of("a"), number(1)), put(of("a"), number(2)), add(of("a"), number(1)), add(of("a"), text("")), inc(of("a"), 5), inc(of("a"), -5), put(of("a", "b"), number(1)), add(of("ab"), number(1)), inc(of("a", "b"), 1), inc(of("A"), -5))
	for n := range 5 {
		many := 1
		for range n {
			many *= len(some)
		}
		for k := range many {
			var come []api.Op
			for range n {
				come = append(come, some[k%len(some)])
				k /= len(some)
			}
			l := itemsOf(come...)
			wanted := slowOf(l)
			wantTop(t, "small", l, wanted...)
			for _, p := range [][]string{nil, of("a"), of("a", "b"), of("b")} {
				for kind := range 4 {
					wantAt(t, "small", l, entryAt(wanted, p, kind))
				}
			}
		}
	}
}

// Promises 18.1 and 18.3: of stores that are made up, held against the document's words; in another order it is the same.
func TestOfStores(t *testing.T) {
	d := dice(3)
	for i, s := range stores() {
		l := live.All(s.l, s.u)
		all := slowOf(l)
		want(t, fmt.Sprint("store ", i), l, all...)
		for _, p := range asked() {
			for _, kind := range kinds() {
				wantAt(t, fmt.Sprint("store ", i), l, entryAt(all, p, kind))
				wantAt(t, fmt.Sprint("store ", i), l, slowAt(l, p, kind))
			}
		}
		for range 3 {
			wantTop(t, fmt.Sprint("store ", i, " mixed"), mixed(&d, l), all...)
		}
		wantTop(t, fmt.Sprint("store ", i, " backwards"), backwards(l), all...)
	}
}

// Promises 18.1 and 18.3: Of tells At of each leaf that tree.Leaves tells, in its order, and no other; of other leaves there is nothing.
func TestLeaves(t *testing.T) {
	var all []Entry
	for i, p := range edges() {
		all = append(all, eachKind(p)[i%3:]...)
	}
	lists := [][]live.Item{nil, made(all...), made(backwards(all)...)}
	for _, s := range stores() {
		lists = append(lists, live.All(s.l, s.u))
	}
	for i, l := range lists {
		var wanted []Entry
		for _, x := range tree.Leaves(l) {
			wanted = append(wanted, At(l, x.P, x.Kind))
		}
		got := Of(l)
		if !allAlike(got, wanted) {
			t.Fatalf("%d: there are %s, want %s", i, short(got), short(wanted))
		}
		for _, e := range got { // none is told for nothing
			if here := live.At(l, e.P, e.Kind); len(here) == 0 || e.Kind != aCounter && len(e.L) == 0 {
				t.Fatalf("%d: nothing is at %s", i, short(e))
			}
		}
		for k, p := range append(asked(), around(pathsOf(got)...)...) {
			for kind := range 5 {
				if (i+k)%4 == 0 && len(live.At(l, p, kind)) == 0 { // some are enough
					wantAt(t, fmt.Sprint(i), l, Entry{P: p, Kind: kind})
				}
			}
		}
	}
}

// Promises 18.1 and 18.3: a transaction that is undone takes its values and amounts away, all at once, and no others; redone, it brings them again.
func TestUndone(t *testing.T) {
	a, b, z := of("a"), of("a", "b"), many("z", 8)
	l := row(
		done(0, 1, 9, put(a, number(1)), add(b, text("x")), inc(z, 5)),
		done(0, 2, 8, put(a, number(2)), add(b, text("x")), inc(z, -5)),
		done(1, 1, 7, put(a, number(1)), inc(a, 3), add(a, truth(1))),
		done(1, 2, 6, inc(z, mostAmount), add(b, text("y"))),
		done(2, 1, 5, put(b, text("")), add(of("é"), number(0)), put(b, text("a"))),
	)
	for k := range 1 << len(l) {
		var u []api.Undo
		var left []api.Op
		for i, x := range l {
			if k>>i%2 == 1 { // once, or three times, or five times
				u = turned(u, x.D, 1+2*(i%3))
				continue
			}
			if i%3 == 1 { // not at all, or twice
				u = turned(u, x.D, 2)
			}
			left = append(left, x.Ops...)
		}
		want(t, fmt.Sprint("undone ", k), checked(t, l, u), slowOf(itemsOf(left...))...)
	}
	texts := map[int]string{ // some of them, written out: which are undone
		0:  "a = 1 2\na : true\na # 3\na/b = \"\" \"a\"\na/b : \"x\" \"y\"\nz/z/z/z/z/z/z/z # 2147483647\né : 0\n",
		1:  "a = 1 2\na : true\na # 3\na/b = \"\" \"a\"\na/b : \"x\" \"y\"\nz/z/z/z/z/z/z/z # 2147483642\né : 0\n",
		5:  "a = 2\na/b = \"\" \"a\"\na/b : \"x\" \"y\"\nz/z/z/z/z/z/z/z # 2147483642\né : 0\n",
		8:  "a = 1 2\na : true\na # 3\na/b = \"\" \"a\"\na/b : \"x\"\nz/z/z/z/z/z/z/z # 0\né : 0\n",
		11: "a = 1\na : true\na # 3\na/b = \"\" \"a\"\né : 0\n",
		15: "a/b = \"\" \"a\"\né : 0\n",
		30: "a = 1\na/b : \"x\"\nz/z/z/z/z/z/z/z # 5\n",
		31: "",
	}
	for k, wanted := range texts {
		var u []api.Undo
		for i, x := range l {
			u = turned(u, x.D, k>>i%2)
		}
		if got := Text(Of(checked(t, l, slices.DeleteFunc(u, func(x api.Undo) bool { return x.N == 0 })))); got != wanted {
			t.Errorf("undone %d: %q, want %q", k, got, wanted)
		}
	}
	for i, x := range l { // one alone, turned ever more often
		for k := range mostUndo + 1 {
			var left []Entry
			if k%2 == 0 {
				left = slowOf(itemsOf(x.Ops...))
			}
			want(t, fmt.Sprint("turned ", k), checked(t, l[i:i+1], turned(nil, x.D, k)), left...)
		}
	}
}

// turnedBy asks that with a transaction just these entries are there, and without it what was there ahead, as text and all: done, undone and redone.
func turnedBy(t *testing.T, what string, l []api.Txn, u []api.Undo, by api.Txn, with ...Entry) {
	t.Helper()
	all := txn.Put(l, by)
	if len(all) != len(l)+1 {
		t.Fatalf("%s: no such transactions", what)
	}
	before := Of(live.All(l, u))
	told := Text(before)
	for n := range 4 {
		wanted := inOrder(with)
		if n%2 == 1 {
			wanted = before
		}
		now := checked(t, all, turned(u, by.D, n))
		want(t, fmt.Sprint(what, " turned ", n), now, wanted...)
		if got := Of(now); n%2 == 1 && (!Same(got, before) || Text(got) != told) {
			t.Fatalf("%s turned %d: %q, want %q", what, n, Text(got), told)
		}
	}
}

// Promises 18.1 and 18.3: what is covered is gone from what is told, and nothing else is; undone, it is told again as it was; redone, it is gone again.
func TestCovered(t *testing.T) {
	a, b, c := of("a"), of("a", "b"), of("a", "b", "c")
	one, two, x := number(1), number(2), text("x")
	l := row(
		done(0, 1, 1, put(a, one), add(a, x), inc(a, 5)),
		done(0, 2, 2, add(b, x), add(b, x), add(b, two), inc(c, 1)),
		done(1, 1, 1, put(a, two), inc(a, -5), add(b, x)),
	)
	reg2, bag2 := register(a, one, two), bagged(a, x)
	in, up := bagged(b, two, x), counter(c, 1)
	zero := counter(a, 0)
	want(t, "ahead", checked(t, l, nil), reg2, bag2, zero, in, up)
	for i, c := range []struct {
		ops  []api.Op
		with []Entry
	}{
		{ops(reset(of("x"))), entries(reg2, bag2, zero, in, up)},
		{ops(reset(a, ref(5, 5, 5))), entries(reg2, bag2, zero, in, up)},
		{ops(put(a, number(3), ref(0, 1, 0), ref(1, 1, 0))), entries(register(a, number(3)), bag2, zero, in, up)},
		{ops(put(a, number(3), ref(0, 1, 0))), entries(register(a, two, number(3)), bag2, zero, in, up)},
		{ops(put(a, number(3))), entries(register(a, one, two, number(3)), bag2, zero, in, up)},
		{ops(put(a, two, ref(0, 1, 0), ref(1, 1, 0))), entries(register(a, two), bag2, zero, in, up)},
		{ops(reset(a, ref(0, 1, 0))), entries(register(a, two), bag2, zero, in, up)},
		{ops(reset(a, ref(0, 1, 0), ref(1, 1, 0))), entries(bag2, zero, in, up)},
		{ops(reset(a, ref(0, 1, 2))), entries(reg2, bag2, counter(a, -5), in, up)},
		{ops(reset(a, ref(1, 1, 1))), entries(reg2, bag2, counter(a, 5), in, up)},
		{ops(reset(a, ref(0, 1, 2), ref(1, 1, 1))), entries(reg2, bag2, in, up)}, // not there is not the same as a sum of 0
		{ops(reset(a, ref(0, 1, 2), ref(1, 1, 1)), inc(a, 9)), entries(reg2, bag2, counter(a, 9), in, up)},
		{ops(remove(a, x, ref(0, 1, 1))), entries(reg2, zero, in, up)},
		{ops(remove(b, x, ref(0, 2, 0))), entries(reg2, bag2, zero, in, up)}, // added twice more
		{ops(remove(b, x, ref(0, 2, 0), ref(0, 2, 1))), entries(reg2, bag2, zero, in, up)},
		{ops(remove(b, x, ref(0, 2, 0), ref(0, 2, 1), ref(1, 1, 2))), entries(reg2, bag2, zero, bagged(b, two), up)},
		{ops(remove(b, x, ref(0, 2, 0), ref(0, 2, 1), ref(1, 1, 2)), add(b, x)), entries(reg2, bag2, zero, in, up)},
		{ops(remove(b, two, ref(0, 2, 2))), entries(reg2, bag2, zero, bagged(b, x), up)},
		{ops(reset(b, ref(0, 2, 0), ref(0, 2, 1), ref(0, 2, 2), ref(0, 2, 3), ref(1, 1, 2))), entries(reg2, bag2, zero)},
		{ops(reset(a, ref(0, 1, 0), ref(0, 1, 1), ref(0, 1, 2), ref(0, 2, 0), ref(0, 2, 1), ref(0, 2, 2), ref(0, 2, 3), ref(1, 1, 0), ref(1, 1, 1), ref(1, 1, 2))), nil},
		{ops(add(a, number(-1)), inc(of("z"), 1)), entries(reg2, bagged(a, number(-1), x), zero, in, up, counter(of("z"), 1))},
	} {
		for _, d := range []api.Dot{dotOf(0, 3), dotOf(1, 2), dotOf(15, mostSeq)} {
			turnedBy(t, fmt.Sprint("covered ", i), l, nil, done(d.R, d.N, 5, c.ops...), c.with...)
		}
	}
	// two that cover the same: it is back when both are undone
	all := row(done(0, 1, 1, put(a, one)), done(7, 1, 9, put(a, two, ref(0, 1, 0))), done(8, 1, 8, reset(a, ref(0, 1, 0))))
	for i, c := range []struct {
		u    []api.Undo
		text string
	}{{nil, "a = 2\n"}, {undos(un(7, 1, 1)), ""}, {undos(un(8, 1, 1)), "a = 2\n"}, {undos(un(7, 1, 1), un(8, 1, 1)), "a = 1\n"}, {undos(un(7, 1, 2), un(8, 1, 1)), "a = 2\n"}, {undos(un(7, 1, 3), un(8, 1, 2)), ""}, {undos(un(0, 1, 1)), "a = 2\n"}, {undos(un(0, 1, 1), un(7, 1, 1), un(8, 1, 1)), ""}} {
		if got := Text(Of(checked(t, all, c.u))); got != c.text {
			t.Errorf("two that cover %d: %q, want %q", i, got, c.text)
		}
	}
}

// Promises 18.1 and 18.3: in stores that are made up: a Reset of all under a path leaves all else, what is done brings just that; undone and redone.
func TestTurnsOfStores(t *testing.T) {
	for i, s := range stores()[:402] {
		now := live.All(s.l, s.u)
		for k, p := range paths()[1:] {
			if (i+k)%17 > 0 { // some are enough
				continue
			}
			d := dotOf((i+k)%16, mostSeq-k)
			under := live.Refs(live.Under(now, p))
			if len(under) > mostSeen {
				t.Fatal("too many to be named")
			}
			var left []live.Item
			for _, x := range now {
				if len(x.O.Path) < len(p) || !slices.Equal(x.O.Path[:len(p)], p) {
					left = append(left, x)
				}
			}
			turnedBy(t, fmt.Sprint("store ", i, " reset at ", p), s.l, s.u, done(d.R, d.N, 1+i%5, reset(p, under...)), slowOf(left)...)
			o := ops(put(p, number(77)), add(p, text("new")), inc(p, -77))[(i+k)/17%3]
			turnedBy(t, fmt.Sprint("store ", i, " with ", o), s.l, s.u, done(d.R, d.N, 1+i%5, o), slowOf(append(slices.Clone(now), item(api.Ref{D: d}, 1, o)))...)
			turnedBy(t, fmt.Sprint("store ", i, " with ", o, " instead"), s.l, s.u, done(d.R, d.N, 1+i%5, o, reset(p, under...)), slowOf(append(left, item(api.Ref{D: d}, 1, o)))...)
		}
	}
}

// Promises 18.1 and 18.3: a chain of Puts, each of which covers the one ahead, undone in each way.
func TestChain(t *testing.T) {
	p := of("a", "b")
	const long = 9
	var l []api.Txn
	for i := range long {
		o := put(p, number(i))
		if i > 0 {
			o.Seen = []api.Ref{ref(0, i, 0)}
		}
		l = append(l, done(0, i+1, i+1, o))
	}
	for k := range 1 << long {
		var u []api.Undo
		var left []api.Value
		for i := range l {
			if k>>i%2 == 1 {
				u = turned(u, dotOf(0, i+1), 1)
			} else if i == long-1 || k>>(i+1)%2 == 1 {
				left = append(left, number(i))
			}
		}
		var wanted []Entry
		if len(left) > 0 {
			wanted = entries(register(p, left...))
		}
		want(t, fmt.Sprint("chain ", k), checked(t, l, u), wanted...)
	}
}

// alikeItems holds two lists of items against each other, field by field.
func alikeItems(a, b []live.Item) bool {
	return slices.EqualFunc(a, b, func(a, b live.Item) bool {
		return a.X == b.X && a.Time == b.Time && a.O.Kind == b.O.Kind && slices.Equal(a.O.Path, b.O.Path) && a.O.V == b.O.V && a.O.N == b.O.N && slices.Equal(a.O.Seen, b.O.Seen)
	})
}

// copied tells items with lists of their own.
func copied(l []live.Item) (all []live.Item) {
	for _, x := range l {
		x.O.Path, x.O.Seen = slices.Clone(x.O.Path), slices.Clone(x.O.Seen)
		all = append(all, x)
	}
	return all
}

// guarded tells items between others in the same memory, with paths that all lie beside each other, and whether all is as it was.
func guarded(l []live.Item) ([]live.Item, func() bool) {
	var parts []string
	var seen []api.Ref
	for _, x := range l {
		parts, seen = append(append(parts, x.O.Path...), "b", "\xFF"), append(append(seen, x.O.Seen...), ref(0, 1, 0))
	}
	all := itemsOf(add(of("behind"), number(1)), inc(of("a", "behind"), 7))
	i, k := 0, 0
	for _, x := range l {
		x.O.Path, x.O.Seen = parts[i:i+len(x.O.Path)], seen[k:k+len(x.O.Seen)]
		i, k = i+len(x.O.Path)+2, k+len(x.O.Seen)+1
		all = append(all, x)
	}
	for _, p := range paths() {
		all = append(all, itemsOf(put(p, text("behind")), add(p, text("behind")), inc(p, 13))...)
	}
	keptParts, keptSeen, kept := slices.Clone(parts), slices.Clone(seen), copied(all)
	return all[2 : 2+len(l)], func() bool {
		return slices.Equal(parts, keptParts) && slices.Equal(seen, keptSeen) && alikeItems(all, kept)
	}
}

// guardedView tells a view between other entries in the same memory, with paths and values that all lie beside each other, and whether all is as it was.
func guardedView(l []Entry) ([]Entry, func() bool) {
	var names []string
	var values []api.Value
	for _, e := range l {
		names, values = append(append(names, e.P...), "behind"), append(append(values, e.L...), text("behind"))
	}
	all := eachKind(of("behind"))
	i, k := 0, 0
	for _, e := range l {
		e.P, e.L = names[i:i+len(e.P)], values[k:k+len(e.L)]
		i, k = i+len(e.P)+1, k+len(e.L)+1
		all = append(all, e)
	}
	all = append(all, eachKind(of("behind"))...)
	keptNames, keptValues, kept := slices.Clone(names), slices.Clone(values), copies(all)
	return all[3 : 3+len(l)], func() bool {
		return slices.Equal(names, keptNames) && slices.Equal(values, keptValues) && allAlike(all, kept)
	}
}

// R4: no list of items that came in, and no path, is changed, nor what lies behind its length read or written, also where lists share memory.
func TestNothingIsChanged(t *testing.T) {
	for i, s := range stores() {
		plain := live.All(s.l, s.u)
		l, kept := guarded(plain)
		all := slowOf(plain)
		wantTop(t, fmt.Sprint("store ", i), l, all...)
		for _, p := range asked() {
			behind := append(slices.Clone(p), "b", "behind")
			was := slices.Clone(behind)
			for kind := range 5 {
				wanted := entryAt(all, p, kind)
				wanted.P = behind[:len(p)]
				wantAt(t, fmt.Sprint("store ", i), l, wanted)
			}
			if !slices.Equal(behind, was) {
				t.Fatalf("store %d: the path %v was changed to %v", i, was, behind)
			}
		}
		for _, x := range l[:min(len(l), 20)] {
			for n := range len(x.O.Path) + 1 {
				for kind := range 5 { // the items' own memory: behind it lies more
					wanted := entryAt(all, slices.Clone(x.O.Path[:n]), kind)
					wanted.P = x.O.Path[:n]
					wantAt(t, fmt.Sprint("store ", i, " at its own"), l, wanted)
				}
			}
		}
		for n := range min(len(l), 20) { // a part of it, behind which lies the rest
			wantTop(t, fmt.Sprint("store ", i, " up to ", n), l[:n], slowOf(plain[:n])...)
			wantTop(t, fmt.Sprint("store ", i, " from ", n), l[n:], slowOf(plain[n:])...)
			for kind := range 5 {
				wantAt(t, fmt.Sprint("store ", i, " up to ", n), l[:n], slowAt(plain[:n], of("a"), kind))
				wantAt(t, fmt.Sprint("store ", i, " from ", n), l[n:], slowAt(plain[n:], of("a"), kind))
			}
		}
		if !kept() {
			t.Fatalf("store %d was changed", i)
		}
	}
}

// R4: no view that came in is changed, nor what lies behind its length read or written, also where views share memory.
func TestNoViewIsChanged(t *testing.T) {
	for i, s := range stores() {
		plain := slowOf(live.All(s.l, s.u))
		l, kept := guardedView(plain)
		for n := range min(len(l), 12) + 1 {
			wantSame(t, l[:n], plain[:n], true)
			wantSame(t, l[n:], plain[n:], true)
			wantSame(t, l[:n], l, n == len(l))
			wantSame(t, l[n:], l, n == 0)
			if Text(l[:n]) != slowText(plain[:n]) || Text(l[n:]) != slowText(plain[n:]) {
				t.Fatalf("store %d, at %d: %q and %q", i, n, Text(l[:n]), Text(l[n:]))
			}
		}
		for k := range l {
			if Line(l[k]) != slowLine(plain[k]) {
				t.Fatalf("store %d, %d: %q", i, k, Line(l[k]))
			}
			for n := range l[k].L { // fewer values: behind them lie the others
				fewer, wanted := l[k], plain[k]
				fewer.L, wanted.L = fewer.L[:n+1], wanted.L[:n+1]
				wantSame(t, entries(fewer), entries(l[k]), n+1 == len(l[k].L))
				if Line(fewer) != slowLine(wanted) {
					t.Fatalf("store %d, %d: %q", i, k, Line(fewer))
				}
			}
			for n := range l[k].P {
				fewer := l[k]
				fewer.P = fewer.P[:n+1]
				wantSame(t, entries(fewer), entries(l[k]), n+1 == len(l[k].P))
			}
		}
		if !kept() {
			t.Fatalf("store %d was changed", i)
		}
	}
}

// spoil changes an entry, and what lies behind its lists.
func spoil(e *Entry) {
	for i := range e.P[:cap(e.P)] {
		e.P[:cap(e.P)][i] = "spoilt"
	}
	for i := range e.L[:cap(e.L)] {
		e.L[:cap(e.L)][i] = text("spoilt")
	}
	e.Kind, e.N = -1, -1
}

// R4: answers that are changed, and what lies behind them, change neither what came in, nor later answers, nor each other.
func TestAnswersAreNew(t *testing.T) {
	for i, s := range stores() {
		plain := live.All(s.l, s.u)
		l, kept := guarded(plain)
		all := slowOf(plain)
		first, second := Of(l), Of(l)
		for k := range first { // each by itself: no two of one answer share memory
			spoil(&first[k])
			if !allAlike(first[k+1:], all[k+1:]) {
				t.Fatalf("store %d: an entry that was changed changed another one", i)
			}
		}
		for k := range first[:cap(first)] {
			first[:cap(first)][k] = register(of("spoilt"))
		}
		for _, e := range all {
			p := append(slices.Clone(e.P), "behind")
			one, two := At(l, p[:len(e.P)], e.Kind), At(l, p[:len(e.P)], e.Kind)
			spoil(&one)
			if !alike(two, e) || !slices.Equal(p, append(slices.Clone(e.P), "behind")) {
				t.Fatalf("store %d: an entry that was changed changed another one, or the path: %s, %q", i, short(two), p)
			}
		}
		if !kept() || !allAlike(second, all) {
			t.Fatalf("store %d was changed", i)
		}
		wantTop(t, fmt.Sprint("store ", i), l, all...)
	}
}

// told is all that is told of items, at some paths.
type told struct {
	all  []Entry
	at   []Entry
	text string
}

// toldOf tells it.
func toldOf(l []live.Item, p ...[]string) (x told) {
	x.all = Of(l)
	x.text = Text(x.all)
	for _, q := range p {
		for _, kind := range kinds() {
			x.at = append(x.at, At(l, q, kind))
		}
	}
	return x
}

// P1 and R5: no call panics, whatever it is given, and each answers the same, however often it is asked, and in whichever order the items come.
func TestAnyArguments(t *testing.T) {
	strange := api.Op{Kind: math.MinInt, Path: many("", 20), V: api.Value{Kind: -1, N: math.MinInt, S: "\xFF"}, N: math.MinInt, Seen: slices.Repeat([]api.Ref{ref(-1, math.MinInt, math.MaxInt)}, 300)}
	odd := vals(api.Value{}, api.Value{Kind: 4}, api.Value{Kind: -1, N: 1}, api.Value{Kind: api.Bool, N: 2}, api.Value{Kind: api.Int, S: "a"}, api.Value{Kind: api.Text, N: 1}, number(math.MinInt), number(math.MaxInt), text("\xFF"), text(times("a", 99)))
	var wrong []api.Op
	for _, v := range odd {
		for kind := -1; kind < 8; kind++ {
			wrong = append(wrong, api.Op{Kind: kind, Path: of("a"), V: v, N: v.N}, api.Op{Kind: kind, V: v, N: v.N}, api.Op{Kind: kind, Path: of("\xFF", ""), V: v, N: v.N})
		}
	}
	lists := [][]live.Item{
		nil, items(live.Item{}), items(live.Item{}, live.Item{}), items(item(ref(-1, math.MinInt, math.MaxInt), math.MinInt, strange), item(ref(math.MaxInt, math.MinInt, -1), math.MaxInt, strange), item(api.Ref{}, 0, strange)),
		itemsOf(wrong...), itemsOf(inc(nil, 1), inc(of(), 1), put(nil, number(1)), inc(of("a"), math.MaxInt), inc(of("a"), math.MaxInt), inc(of("a"), 3)), made(slices.Repeat(eachKind(many("é", 100)), 9)...),
	}
	for _, s := range stores() {
		lists = append(lists, live.All(s.l, s.u))
	}
	some := append(asked(), strange.Path, strange.Path[:19], many("é", 99), many("é", 100), many("é", 101), of("\xFF", ""))
	d := dice(5)
	for i, l := range lists {
		first := toldOf(l, some...)
		for k := range 4 {
			if k > 0 {
				l = mixed(&d, l)
			}
			if got := toldOf(l, some...); !allAlike(got.all, first.all) || !allAlike(got.at, first.at) || got.text != first.text {
				t.Fatalf("%d is answered in two ways: %s and %s", i, short(got), short(first))
			}
		}
	}
	for i, e := range append(unlike(), Entry{P: strange.Path, Kind: math.MinInt, L: odd, N: math.MinInt}, register(strange.Path, odd...), bagged(many("\xFF/\\", 99), odd...), counter(nil, math.MinInt), counter(nil, math.MaxInt)) {
		line, all := Line(e), Text(entries(e, e))
		for range 5 {
			if Line(e) != line || all != line+"\n"+line+"\n" || Text(entries(e, e)) != all || !Same(entries(e), entries(e)) {
				t.Fatalf("the entry %d is answered in two ways: %q and %q", i, Line(e), line)
			}
		}
	}
}

// The document's example: a register at a with 1 and 2.
func TestExample(t *testing.T) {
	l := checked(t, row(done(0, 1, 1, put(of("a"), number(1))), done(1, 1, 1, put(of("a"), number(2)))), nil)
	want(t, "example", l, register(of("a"), number(1), number(2)))
	if got := Line(At(l, of("a"), op.Register)); got != "a = 1 2" {
		t.Errorf("%q", got)
	}
}
