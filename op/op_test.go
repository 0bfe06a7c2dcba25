package op

import (
	"fmt"
	"math"
	"slices"
	"strings"
	"testing"
	"unicode/utf8"

	"palinode/api"
	"palinode/pack"
)

const (
	mostSeq    = 1048576    // the greatest number that a dot may have: 2^20
	mostAmount = 2147483647 // the greatest amount, and number of a value: 2^31 - 1
	mostPlace  = 15         // the last place of an operation in its transaction
	mostSeen   = 256        // how many others an operation covers at the most
	mostParts  = 8          // how many parts a path has at the most
	mostChars  = 24         // how many characters a name has at the most
	mostText   = 64         // how many bytes a value's text has at the most
)

// ref tells an operation's name: its dot's replica and number, and its place.
func ref(r, n, i int) api.Ref { return api.Ref{D: api.Dot{R: r, N: n}, I: i} }

// list tells names of operations, one by one.
func list(l ...api.Ref) []api.Ref { return l }

// of tells parts of a path, one by one.
func of(parts ...string) []string { return parts }

// times tells a text, so many times.
func times(s string, n int) string { return strings.Repeat(s, n) }

// many tells so many parts that are all alike.
func many(part string, n int) []string { return slices.Repeat(of(part), n) }

// row tells so many names, up to 1008, that rise: three places of a dot, 21 dots of a replica, and so on.
func row(n int) (l []api.Ref) {
	for i := range n {
		l = append(l, ref(i/63, i%63/3*7+1, i%3*7))
	}
	return l
}

// with tells names, one of which is replaced.
func with(l []api.Ref, i int, x api.Ref) []api.Ref {
	l = slices.Clone(l)
	l[i] = x
	return l
}

func number(n int) api.Value { return api.Value{Kind: api.Int, N: n} }

func text(s string) api.Value { return api.Value{Kind: api.Text, S: s} }

func truth(n int) api.Value { return api.Value{Kind: api.Bool, N: n} }

func put(p []string, v api.Value, seen ...api.Ref) api.Op {
	return api.Op{Kind: api.Put, Path: p, V: v, Seen: seen}
}

func add(p []string, v api.Value) api.Op { return api.Op{Kind: api.Add, Path: p, V: v} }

func inc(p []string, n int) api.Op { return api.Op{Kind: api.Inc, Path: p, N: n} }

func remove(p []string, v api.Value, seen ...api.Ref) api.Op {
	return api.Op{Kind: api.Remove, Path: p, V: v, Seen: seen}
}

func reset(p []string, seen ...api.Ref) api.Op {
	return api.Op{Kind: api.Reset, Path: p, Seen: seen}
}

// rightValues tells values that are right, at their edges.
func rightValues() []api.Value {
	return []api.Value{
		number(0), number(1), number(-1), number(5), number(mostAmount), number(-mostAmount),
		text(""), text("a"), text("a\x00b"), text("世界"), text("\uFFFD"), text(times("a", mostText)), text(times("é", mostText/2)),
		truth(0), truth(1),
	}
}

// wrongValues tells values that are not right; the first one is the zero one.
func wrongValues() []api.Value {
	return []api.Value{
		{}, {N: 1}, {N: -1}, {S: "a"}, {Kind: -1}, {Kind: 4}, {Kind: 4, N: 1}, {Kind: math.MinInt}, {Kind: math.MaxInt, S: "a"},
		number(mostAmount + 1), number(-mostAmount - 1), number(math.MinInt), number(math.MaxInt), {Kind: api.Int, S: "a"}, {Kind: api.Int, N: 1, S: "a"},
		text(times("a", mostText+1)), text("\xFF"), text("a\xC3"), text("\xED\xA0\x80"), {Kind: api.Text, N: 1, S: "a"}, {Kind: api.Text, N: -1},
		truth(2), truth(-1), truth(math.MaxInt), {Kind: api.Bool, S: "a"}, {Kind: api.Bool, N: 1, S: "true"},
	}
}

// amounts tells amounts that may be.
func amounts() []int {
	return []int{1, -1, 2, -2, 5, 63, -63, 64, -64, -65, 300, -300, 1 << 20, mostAmount - 1, mostAmount, -mostAmount + 1, -mostAmount}
}

// wrongAmounts tells numbers that no operation's N may be, but 0.
func wrongAmounts() []int {
	return []int{mostAmount + 1, mostAmount + 2, -mostAmount - 1, -mostAmount - 2, 1 << 32, 1<<32 + 1, -(1 << 32), -(1<<32 + 1), 1 << 62, math.MaxInt, math.MinInt, math.MinInt + 1}
}

// rightPaths tells paths, no two of which are alike.
func rightPaths() [][]string {
	return [][]string{of("a"), of("a", "b"), of("b", "a"), of("a/b"), of("/", `\`), of(times("a", mostChars)), of("世", times("𝄞", mostChars)), many("a", mostParts-1), many("a", mostParts), many(times("𝄞", mostChars), mostParts)}
}

// wrongPaths tells lists that are no paths, and what is wrong with each.
func wrongPaths() (lists [][]string, faults []api.Errno) {
	for _, p := range [][]string{nil, of(), of(""), of("", "a"), of("a", ""), of("a", "", "b"), of("\t"), of("a", "\xFF"), of("\uFFFD", "a"), of(times("a", mostChars+1)), append(many("a", mostParts-1), ""), make([]string, mostParts)} {
		lists, faults = append(lists, p), append(faults, api.ErrPath)
	}
	for _, p := range [][]string{many("a", mostParts+1), many("", mostParts+1), append(of("\xFF"), many("a", mostParts)...), append(many("a", mostParts), "\t"), many("a", 264), many("a", 1000)} {
		lists, faults = append(lists, p), append(faults, api.ErrDeep)
	}
	return lists, faults
}

// wrongRefs tells names each of which alone is wrong.
func wrongRefs() []api.Ref {
	return []api.Ref{
		{}, ref(0, 0, 0), ref(0, 0, 3), ref(0, -1, 0), ref(15, 0, 15), ref(-1, 1, 0), ref(-1, 0, 0), ref(16, 1, 0), ref(17, 5, 3), ref(0, mostSeq+1, 0), ref(15, mostSeq+1, 15), ref(math.MinInt, 1, 0), ref(math.MaxInt, 1, 0), ref(3, math.MinInt, 0), ref(3, math.MaxInt, 0),
		ref(0, 1, -1), ref(0, 1, 16), ref(0, 1, 17), ref(15, mostSeq, 16), ref(15, mostSeq, -1), ref(3, 3, 32), ref(3, 3, 256), ref(3, 3, 1<<32), ref(3, 3, math.MinInt), ref(3, 3, math.MaxInt),
		ref(0, 0, -1), ref(16, 0, 16),
	}
}

// rightSeen tells names that rise, no two lists of which are alike.
func rightSeen() [][]api.Ref {
	return [][]api.Ref{
		nil, list(ref(0, 1, 0)), list(ref(0, 1, mostPlace)), list(ref(15, mostSeq, mostPlace)), list(ref(15, 1, 0)), list(ref(0, mostSeq, 0)),
		list(ref(0, 1, 0), ref(0, 1, 1)), list(ref(3, 7, 2), ref(3, 7, 15)), list(ref(0, 1, 5), ref(0, 2, 5)), list(ref(0, 1, 5), ref(1, 1, 5)), list(ref(0, 1, 15), ref(0, 2, 0)), list(ref(0, mostSeq, 15), ref(1, 1, 0)), list(ref(1, 128, 3), ref(1, 129, 2), ref(2, 1, 1), ref(15, 300, 0)),
		list(ref(0, 1, 0), ref(0, 1, 1), ref(0, 1, 2), ref(0, 2, 0), ref(0, 2, 14), ref(1, 1, 1), ref(15, mostSeq, 0), ref(15, mostSeq, 15)),
		row(16), row(127), row(128), row(mostSeen - 1), row(mostSeen),
	}
}

// wrongSeen tells names, few enough, of which one is wrong, or which do not rise.
func wrongSeen() (l [][]api.Ref) {
	l = [][]api.Ref{
		list(ref(0, 1, 0), ref(0, 1, 0)), list(ref(15, mostSeq, 15), ref(15, mostSeq, 15)),
		list(ref(0, 1, 1), ref(0, 1, 0)), list(ref(0, 2, 0), ref(0, 1, 0)), list(ref(1, 1, 0), ref(0, 1, 0)), list(ref(1, 1, 0), ref(0, 9, 9)), list(ref(0, 2, 0), ref(0, 1, 15)),
		list(ref(0, 1, 0), ref(0, 2, 0), ref(0, 1, 0)), list(ref(0, 1, 0), ref(0, 3, 0), ref(0, 2, 0), ref(0, 4, 0)), list(ref(0, 1, 0), ref(0, 2, 0), ref(0, 2, 0), ref(0, 3, 0)), list(ref(0, 2, 0), ref(0, 1, 0), ref(0, 3, 0)),
		with(row(mostSeen), mostSeen-1, row(mostSeen)[mostSeen-2]), with(row(mostSeen), 0, row(mostSeen)[1]), with(row(mostSeen), 128, row(mostSeen)[0]),
	}
	for _, x := range wrongRefs() {
		l = append(l, list(x), list(x, ref(15, 9, 9)), list(ref(0, 1, 0), x), list(ref(0, 1, 0), x, ref(15, 9, 9)), with(row(mostSeen), 0, x), with(row(mostSeen), 100, x), with(row(mostSeen), mostSeen-1, x))
	}
	return l
}

// kinds tells the kinds that there are.
func kinds() []int { return []int{1, 2, 3, 4, 5} }

// wrongKinds tells numbers that are no kind's.
func wrongKinds() []int {
	return []int{0, -1, -2, -5, -256, math.MinInt, math.MinInt + 1, math.MinInt + 5, 6, 7, 8, 100, 128, 256, 257, 261, 1 << 32, 1<<32 + 1, 1<<56 - 1, math.MaxInt - 1, math.MaxInt}
}

// ops tells operations that may be, no two of which are alike.
func ops() (l []api.Op) {
	for _, p := range rightPaths() {
		for _, v := range rightValues() {
			l = append(l, put(p, v), add(p, v), remove(p, v), put(p, v, ref(3, 4, 5)), remove(p, v, ref(3, 4, 5)))
		}
		for _, n := range amounts() {
			l = append(l, inc(p, n))
		}
	}
	for _, seen := range rightSeen() {
		l = append(l, put(of("x"), number(7), seen...), remove(of("x"), number(7), seen...), reset(of("x"), seen...), reset(many("y", mostParts), seen...), put(of("x"), text("y"), seen...))
	}
	return l
}

// wrongOps tells operations that may not be, and what is wrong with each.
func wrongOps() (l []api.Op, faults []api.Errno) {
	note := func(e api.Errno, o api.Op) { l, faults = append(l, o), append(faults, e) }
	a, one := of("a"), number(1)
	for _, k := range wrongKinds() {
		note(api.ErrKind, api.Op{Kind: k, Path: a})
		note(api.ErrKind, api.Op{Kind: k, Path: a, V: one})
	}
	lists, pathFaults := wrongPaths()
	for i, p := range lists {
		for _, o := range []api.Op{put(p, one), add(p, one), inc(p, 1), remove(p, one), reset(p)} {
			note(pathFaults[i], o)
		}
	}
	for _, v := range wrongValues() {
		note(api.ErrArg, put(a, v))
		note(api.ErrArg, add(a, v))
		note(api.ErrArg, remove(a, v))
	}
	for _, v := range append(rightValues(), wrongValues()[1:]...) {
		note(api.ErrArg, api.Op{Kind: api.Inc, Path: a, V: v, N: 1})
		note(api.ErrArg, api.Op{Kind: api.Reset, Path: a, V: v})
	}
	note(api.ErrArg, inc(a, 0))
	for _, n := range wrongAmounts() {
		note(api.ErrArg, inc(a, n))
	}
	for _, n := range append(amounts(), wrongAmounts()...) {
		for _, o := range []api.Op{put(a, one), add(a, one), remove(a, one), reset(a)} {
			o.N = n
			note(api.ErrArg, o)
		}
	}
	for _, seen := range append(append(rightSeen()[1:], wrongSeen()...), row(mostSeen+1)) {
		note(api.ErrArg, api.Op{Kind: api.Add, Path: a, V: one, Seen: seen})
		note(api.ErrArg, api.Op{Kind: api.Inc, Path: a, N: 1, Seen: seen})
	}
	for _, seen := range wrongSeen() {
		note(api.ErrArg, put(a, one, seen...))
		note(api.ErrArg, remove(a, one, seen...))
		note(api.ErrArg, reset(a, seen...))
	}
	for _, n := range []int{mostSeen + 1, mostSeen + 2, 2 * mostSeen, 1000} {
		for _, seen := range [][]api.Ref{row(n), make([]api.Ref, n), with(row(n), n-1, ref(0, 1, 0))} {
			note(api.ErrFull, put(a, one, seen...))
			note(api.ErrFull, remove(a, one, seen...))
			note(api.ErrFull, reset(a, seen...))
		}
	}
	return l, faults
}

// slowPath is what the document says of a path.
func slowPath(p []string) api.Errno {
	if len(p) == 0 {
		return api.ErrPath
	}
	if len(p) > mostParts {
		return api.ErrDeep
	}
	for _, s := range p {
		if n := utf8.RuneCountInString(s); n < 1 || n > mostChars || !utf8.ValidString(s) {
			return api.ErrPath
		}
		for _, r := range s {
			if r < 0x20 || r >= 0x7F && r <= 0x9F || r == 0xFFFD {
				return api.ErrPath
			}
		}
	}
	return api.OK
}

// slowValue is what the document says of a right value.
func slowValue(v api.Value) bool {
	switch v.Kind {
	case 1:
		return v.S == "" && v.N >= -mostAmount && v.N <= mostAmount
	case 2:
		return v.N == 0 && utf8.ValidString(v.S) && len(v.S) <= mostText
	case 3:
		return v.S == "" && (v.N == 0 || v.N == 1)
	}
	return false
}

// slowAhead tells whether an operation's name stands ahead of another one, number by number.
func slowAhead(a, b api.Ref) bool {
	if a.D.R != b.D.R {
		return a.D.R < b.D.R
	}
	if a.D.N != b.D.N {
		return a.D.N < b.D.N
	}
	return a.I < b.I
}

// slowRefs is what the document says of names: each holds against all ahead of it.
func slowRefs(l []api.Ref) bool {
	for i, x := range l {
		if x.D.R < 0 || x.D.R > 15 || x.D.N < 1 || x.D.N > mostSeq || x.I < 0 || x.I > mostPlace {
			return false
		}
		for _, ahead := range l[:i] {
			if !slowAhead(ahead, x) {
				return false
			}
		}
	}
	return true
}

// slowCheck is what the document says of an operation that may be, word by word.
func slowCheck(o api.Op) api.Errno {
	if o.Kind != 1 && o.Kind != 2 && o.Kind != 3 && o.Kind != 4 && o.Kind != 5 {
		return api.ErrKind
	}
	if e := slowPath(o.Path); e != api.OK {
		return e
	}
	zero := o.V.Kind == 0 && o.V.N == 0 && o.V.S == ""
	wrong := false
	switch o.Kind {
	case 1, 4:
		wrong = !slowValue(o.V) || o.N != 0
	case 2:
		wrong = !slowValue(o.V) || o.N != 0 || len(o.Seen) != 0
	case 3:
		wrong = !zero || o.N == 0 || o.N > mostAmount || o.N < -mostAmount || len(o.Seen) != 0
	case 5:
		wrong = !zero || o.N != 0
	}
	if wrong {
		return api.ErrArg
	}
	if len(o.Seen) > mostSeen {
		return api.ErrFull
	}
	if !slowRefs(o.Seen) {
		return api.ErrArg
	}
	return api.OK
}

// slowNumber tells a number's bytes, by divisions.
func slowNumber(n int) string {
	if n < 128 {
		return string([]byte{byte(n)})
	}
	return string([]byte{byte(n%128 + 128)}) + slowNumber(n/128)
}

// slowFold tells an amount's, or a value's, number from 0 on.
func slowFold(n int) int {
	if n < 0 {
		return -2*n - 1
	}
	return 2 * n
}

// slowCode is what the document says of an operation's bytes; parts that its kind has not are left out.
func slowCode(o api.Op) string {
	s := slowNumber(o.Kind) + slowNumber(len(o.Path))
	for _, part := range o.Path {
		s += slowNumber(len(part)) + part
	}
	switch o.Kind {
	case 1, 2, 4:
		s += slowNumber(o.V.Kind)
		if o.V.Kind == 2 {
			s += slowNumber(len(o.V.S)) + o.V.S
		} else {
			s += slowNumber(slowFold(o.V.N))
		}
	case 3:
		s += slowNumber(slowFold(o.N))
	}
	switch o.Kind {
	case 1, 4, 5:
		s += slowNumber(len(o.Seen))
		for _, x := range o.Seen {
			s += slowNumber(x.D.R) + slowNumber(x.D.N) + slowNumber(x.I)
		}
	}
	return s
}

// slowReader reads bytes as the document says it; once something is wrong, nothing more is read.
type slowReader struct {
	left  string
	fault api.Errno
}

// fail notes what is wrong first.
func (r *slowReader) fail(e api.Errno) {
	if r.fault == api.OK {
		r.fault = e
	}
}

// int reads a number.
func (r *slowReader) int() int {
	if r.fault != api.OK {
		return 0
	}
	n, last := 0, strings.IndexFunc(r.left, func(c rune) bool { return c < 128 })
	// A byte that is no character's is told as one far above.
	switch {
	case last < 0:
		r.fail(api.ErrShort)
	case last >= 8:
		r.fail(api.ErrLong)
	case last > 0 && r.left[last] == 0:
		r.fail(api.ErrForm)
	default:
		for i := last; i >= 0; i-- {
			n = n*128 + int(r.left[i]&127)
		}
		r.left = r.left[last+1:]
	}
	return n
}

// many reads how many parts follow.
func (r *slowReader) many(most int) int {
	n := r.int()
	if n > most {
		r.fail(api.ErrLong)
	}
	if n > len(r.left) {
		r.fail(api.ErrShort)
	}
	if r.fault != api.OK {
		return 0
	}
	return n
}

// text reads a text behind its length.
func (r *slowReader) text() string {
	n := r.many(math.MaxInt)
	s := r.left[:n]
	r.left = r.left[n:]
	return s
}

// path reads a path.
func (r *slowReader) path() (p []string) {
	for range r.many(mostParts) {
		p = append(p, r.text())
	}
	if r.fault == api.OK {
		r.fail(slowPath(p))
	}
	return p
}

// value reads a value.
func (r *slowReader) value() api.Value {
	v := api.Value{Kind: r.int()}
	if v.Kind == 2 {
		v.S = r.text()
	} else {
		v.N = r.unfolded()
	}
	if !slowValue(v) {
		r.fail(api.ErrArg)
	}
	return v
}

// unfolded reads a number that was folded.
func (r *slowReader) unfolded() int {
	n := r.int()
	if n%2 == 1 {
		return -(n + 1) / 2
	}
	return n / 2
}

// seen reads names of operations.
func (r *slowReader) seen() (l []api.Ref) {
	for range r.many(mostSeen) {
		x := api.Ref{D: api.Dot{R: r.int(), N: r.int()}}
		if x.D.R > 15 || x.D.N < 1 || x.D.N > mostSeq {
			r.fail(api.ErrArg)
		}
		x.I = r.int()
		l = append(l, x)
	}
	return l
}

// slowRead is what the document says of reading an operation: it, what is wrong, and how much is left.
func slowRead(s string) (api.Op, api.Errno, int) {
	r := &slowReader{left: s}
	o := api.Op{Kind: r.int()}
	if o.Kind != 0 {
		o.Path = r.path()
		switch o.Kind {
		case 1, 4:
			o.V = r.value()
			o.Seen = r.seen()
		case 2:
			o.V = r.value()
		case 3:
			o.N = r.unfolded()
		case 5:
			o.Seen = r.seen()
		}
		if r.fault == api.OK {
			r.fail(slowCheck(o))
		}
	}
	if r.fault != api.OK {
		return api.Op{}, r.fault, 0
	}
	return o, api.OK, len(r.left)
}

// zero tells whether nothing is in an operation, not even a list of no length.
func zero(o api.Op) bool {
	return o.Kind == 0 && o.Path == nil && o.V.Kind == 0 && o.V.N == 0 && o.V.S == "" && o.N == 0 && o.Seen == nil
}

// alike holds two operations against each other, field by field.
func alike(a, b api.Op) bool {
	if a.Kind != b.Kind || len(a.Path) != len(b.Path) || a.V.Kind != b.V.Kind || a.V.N != b.V.N || a.V.S != b.V.S || a.N != b.N || len(a.Seen) != len(b.Seen) {
		return false
	}
	for i := range a.Path {
		if a.Path[i] != b.Path[i] {
			return false
		}
	}
	for i := range a.Seen {
		if a.Seen[i].D.R != b.Seen[i].D.R || a.Seen[i].D.N != b.Seen[i].D.N || a.Seen[i].I != b.Seen[i].I {
			return false
		}
	}
	return true
}

// short tells the beginning of what is tested, for a message.
func short(x any) string { return fmt.Sprintf("%.200s", fmt.Sprint(x)) }

// wantCheck holds what is wrong with an operation.
func wantCheck(t *testing.T, o api.Op, wanted api.Errno) {
	t.Helper()
	if got := Check(o); got != wanted || slowCheck(o) != wanted {
		t.Errorf("Check(%s) = %d, want %d", short(o), got, wanted)
	}
}

// The test's own lists are what they say they are.
func TestLists(t *testing.T) {
	all := ops()
	for i, o := range all {
		if slowCheck(o) != api.OK {
			t.Fatalf("%s may not be", short(o))
		}
		for _, other := range all[:i] {
			if alike(o, other) {
				t.Fatalf("%s is there twice", short(o))
			}
		}
	}
	for _, n := range []int{1, 2, 16, 127, mostSeen, mostSeen + 1, 2 * mostSeen} {
		if len(row(n)) != n || !slowRefs(row(n)) {
			t.Fatalf("%d names don't rise", n)
		}
	}
	if api.MaxSeq != mostSeq || api.MaxAmount != mostAmount || api.MaxOps != mostPlace+1 || api.MaxSeen != mostSeen || api.MaxDepth != mostParts || api.MaxName != mostChars || api.MaxText != mostText || api.Put != 1 || api.Add != 2 || api.Inc != 3 || api.Remove != 4 || api.Reset != 5 {
		t.Error("other limits, or kinds")
	}
}

// Promise 11.1: which leaf is whose.
func TestLeaf(t *testing.T) {
	if None != 0 || Register != 1 || Bag != 2 || Counter != 3 {
		t.Error("the leaves have other numbers")
	}
	for kind, wanted := range map[int]int{api.Put: 1, api.Add: 2, api.Inc: 3, api.Remove: 2, api.Reset: 0} {
		if got := Leaf(kind); got != wanted {
			t.Errorf("Leaf(%d) = %d, want %d", kind, got, wanted)
		}
	}
	for _, kind := range wrongKinds() {
		if got := Leaf(kind); got != 0 {
			t.Errorf("Leaf(%d) = %d", kind, got)
		}
	}
	for kind := -300; kind <= 300; kind++ {
		wanted := 0
		if kind >= 1 && kind <= 5 {
			wanted = []int{1, 2, 3, 2, 0}[kind-1]
		}
		if got := Leaf(kind); got != wanted {
			t.Errorf("Leaf(%d) = %d, want %d", kind, got, wanted)
		}
	}
}

// Promise 11.1: names rise, each with a right dot and a place that there is.
func TestRefs(t *testing.T) {
	for _, l := range append(rightSeen(), list(), make([]api.Ref, 0, 3), row(mostSeen+1), row(1000)) {
		if !Refs(l) {
			t.Errorf("Refs(%s) is false", short(l))
		}
	}
	for _, l := range wrongSeen() {
		if Refs(l) || slowRefs(l) {
			t.Errorf("Refs(%s) is true", short(l))
		}
	}
	for i, wanted := range map[int]bool{-1: false, 0: true, 1: true, 14: true, 15: true, 16: false, 17: false, -16: false} {
		for _, d := range []api.Dot{{R: 0, N: 1}, {R: 3, N: 9}, {R: 15, N: mostSeq}} {
			if Refs(list(api.Ref{D: d, I: i})) != wanted {
				t.Errorf("the place %d of %v", i, d)
			}
		}
	}
	for _, c := range []struct {
		a, b   api.Ref
		wanted bool
	}{
		{ref(0, 1, 0), ref(0, 1, 1), true}, {ref(0, 1, 0), ref(0, 2, 0), true}, {ref(0, 1, 0), ref(1, 1, 0), true}, {ref(0, 1, 15), ref(0, 2, 0), true}, {ref(0, 9, 15), ref(1, 1, 0), true}, {ref(9, 10, 0), ref(10, 9, 0), true}, {ref(0, 9, 0), ref(0, 10, 0), true}, {ref(0, 1, 9), ref(0, 1, 10), true},
		{ref(0, 1, 1), ref(0, 1, 0), false}, {ref(0, 2, 0), ref(0, 1, 0), false}, {ref(1, 1, 0), ref(0, 1, 0), false}, {ref(0, 2, 0), ref(0, 1, 15), false}, {ref(1, 1, 0), ref(0, 9, 15), false}, {ref(0, 1, 0), ref(0, 1, 0), false},
	} {
		for _, l := range [][]api.Ref{list(c.a, c.b), list(c.a, c.b, ref(15, 1, 0)), {ref(0, 1, 0), c.a, c.b}} {
			wanted := c.wanted && (len(l) < 3 || l[0] != l[1])
			if Refs(l) != wanted || slowRefs(l) != wanted {
				t.Errorf("Refs(%v) is %t", l, Refs(l))
			}
		}
	}
}

// Promise 11.1: all short lists of names, right and wrong, held against what the document says; and long ones, wherever one is wrong.
func TestRefsOfMany(t *testing.T) {
	few := list(ref(0, 1, 0), ref(0, 1, 15), ref(0, 1, 16), ref(0, 2, 0), ref(1, 1, 1), ref(1, 1, -1), ref(15, mostSeq, 15), ref(16, 1, 0), ref(0, 0, 0))
	for _, a := range few {
		for _, b := range few {
			for _, c := range few {
				for _, l := range [][]api.Ref{list(a), list(a, b), list(a, b, c)} {
					if Refs(l) != slowRefs(l) {
						t.Fatalf("Refs(%v) is %t", l, Refs(l))
					}
				}
			}
		}
	}
	for i := range mostSeen {
		for _, x := range append(few, row(mostSeen)[i], row(mostSeen)[max(i-1, 0)], row(mostSeen)[min(i+1, mostSeen-1)]) {
			l := with(row(mostSeen), i, x)
			if Refs(l) != slowRefs(l) {
				t.Fatalf("Refs with %v at %d is %t", x, i, Refs(l))
			}
		}
	}
}

// Promise 11.1: operations that may be, and such as may not.
func TestCheck(t *testing.T) {
	for _, o := range ops() {
		wantCheck(t, o, api.OK)
	}
	wrong, faults := wrongOps()
	for i, o := range wrong {
		wantCheck(t, o, faults[i])
	}
	a, one := of("a"), number(1)
	for kind, wanted := range map[int]api.Errno{math.MinInt: api.ErrKind, -1: api.ErrKind, 0: api.ErrKind, 1: api.OK, 2: api.OK, 4: api.OK, 6: api.ErrKind, math.MaxInt: api.ErrKind} {
		wantCheck(t, api.Op{Kind: kind, Path: a, V: one}, wanted)
	}
	wantCheck(t, api.Op{}, api.ErrKind)
	for n, wanted := range map[int]api.Errno{0: api.ErrArg, 1: api.OK, -1: api.OK, 1<<31 - 1: api.OK, 1 << 31: api.ErrArg, -(1<<31 - 1): api.OK, -(1 << 31): api.ErrArg} {
		wantCheck(t, inc(a, n), wanted)
		zeroAlone := api.OK
		if n != 0 {
			zeroAlone = api.ErrArg
		}
		for _, o := range []api.Op{put(a, one, ref(0, 1, 0)), add(a, one), remove(a, one), reset(a)} {
			o.N = n
			wantCheck(t, o, zeroAlone)
		}
	}
	for _, none := range [][]api.Ref{nil, {}, make([]api.Ref, 0, 5), row(9)[:0]} {
		for _, o := range []api.Op{put(a, one), add(a, one), inc(a, 1), remove(a, one), reset(a)} {
			o.Seen = none
			wantCheck(t, o, api.OK)
		}
	}
	for n, wanted := range map[int]api.Errno{0: api.OK, 1: api.OK, 2: api.OK, 255: api.OK, 256: api.OK, 257: api.ErrFull, 258: api.ErrFull, 512: api.ErrFull} {
		wantCheck(t, put(a, one, row(n)...), wanted)
		wantCheck(t, remove(a, one, row(n)...), wanted)
		wantCheck(t, reset(a, row(n)...), wanted)
	}
}

// Promise 11.1 and R2: of several that are wrong the one that the document names first.
func TestCheckNamesTheFirst(t *testing.T) {
	a, deep, one := of("a"), many("a", 9), number(1)
	over, falling := row(mostSeen+1), list(ref(0, 2, 0), ref(0, 1, 0))
	for _, c := range []struct {
		o      api.Op
		wanted api.Errno
	}{
		// the Kind ahead of all
		{api.Op{Kind: 0, Path: nil, V: one, N: 1, Seen: over}, api.ErrKind}, {api.Op{Kind: 6, Path: deep, N: 1, Seen: falling}, api.ErrKind}, {api.Op{Kind: -1}, api.ErrKind}, {api.Op{Kind: 6, Path: a, Seen: over}, api.ErrKind},
		// the Path ahead of the value, the amount and the names
		{api.Op{Kind: api.Put}, api.ErrPath}, {api.Op{Kind: api.Put, Path: deep}, api.ErrDeep}, {api.Op{Kind: api.Add, N: 1, Seen: over}, api.ErrPath}, {api.Op{Kind: api.Inc, Path: deep, V: one, Seen: over}, api.ErrDeep}, {api.Op{Kind: api.Remove, Path: of("\t"), Seen: over}, api.ErrPath}, {api.Op{Kind: api.Reset, Path: of(""), Seen: over}, api.ErrPath}, {api.Op{Kind: api.Reset, Path: deep, Seen: falling}, api.ErrDeep}, {api.Op{Kind: api.Inc}, api.ErrPath}, {api.Op{Kind: api.Put, Path: many("", 9), V: one}, api.ErrDeep},
		// the value, the amount, and names where there are none, ahead of too many
		{put(a, api.Value{}, over...), api.ErrArg}, {api.Op{Kind: api.Put, Path: a, V: one, N: 1, Seen: over}, api.ErrArg}, {remove(a, truth(2), over...), api.ErrArg}, {api.Op{Kind: api.Remove, Path: a, V: one, N: -1, Seen: over}, api.ErrArg}, {api.Op{Kind: api.Reset, Path: a, V: one, Seen: over}, api.ErrArg}, {api.Op{Kind: api.Reset, Path: a, N: 1, Seen: over}, api.ErrArg}, {api.Op{Kind: api.Add, Path: a, V: one, Seen: over}, api.ErrArg}, {api.Op{Kind: api.Inc, Path: a, N: 1, Seen: over}, api.ErrArg},
		// too many ahead of names that are wrong
		{put(a, one, append(slices.Clone(over), ref(0, 1, 0))...), api.ErrFull}, {remove(a, one, make([]api.Ref, 257)...), api.ErrFull}, {reset(a, with(over, 0, ref(16, 0, 16))...), api.ErrFull}, {reset(a, with(over, 256, ref(0, 1, 0))...), api.ErrFull}, {reset(a, with(over, 256, ref(0, 1, 0))[:256]...), api.OK},
	} {
		wantCheck(t, c.o, c.wanted)
	}
}

// Promise 11.1: each Kind with each of some paths, values, amounts and names, held against what the document says.
func TestCheckOfMany(t *testing.T) {
	values := []api.Value{{}, number(0), number(-mostAmount), number(mostAmount + 1), {Kind: api.Int, S: "a"}, text(""), text(times("a", 64)), text(times("a", 65)), text("\xFF"), truth(1), truth(2), {N: 1}, {S: "a"}, {Kind: 4}}
	numbers := []int{0, 1, -1, mostAmount, mostAmount + 1, -mostAmount, -mostAmount - 1, math.MinInt, math.MaxInt}
	seens := [][]api.Ref{nil, {}, list(ref(0, 1, 0)), list(ref(0, 1, 16)), list(ref(0, 1, 1), ref(0, 1, 0)), list(ref(3, 4, 5), ref(3, 4, 5)), list(ref(0, 1, 0), ref(16, 1, 0)), row(20), make([]api.Ref, 257)}
	for _, kind := range append(kinds(), -1, 0, 6, 1<<32+1, math.MinInt, math.MaxInt) {
		for _, p := range [][]string{nil, of("a"), of(""), of("a", "\t"), many("a", 8), many("a", 9), many("", 9)} {
			for _, v := range values {
				for _, n := range numbers {
					for _, seen := range seens {
						o := api.Op{Kind: kind, Path: p, V: v, N: n, Seen: seen}
						if got := Check(o); got != slowCheck(o) {
							t.Fatalf("Check(%s) = %d, want %d", short(o), got, slowCheck(o))
						}
					}
				}
			}
		}
	}
}

// near tells names that differ from one in one number alone, by some.
func near(x api.Ref) (l []api.Ref) {
	for _, by := range []int{-1000, -16, -2, -1, 1, 2, 3, 16, 1000, 1 << 20, 1 << 32} {
		r, n, i := x, x, x
		r.D.R += by
		n.D.N += by
		i.I += by
		l = append(l, r, n, i)
	}
	return l
}

// Promise 11.1: what is covered is what is named, and nothing else.
func TestCovers(t *testing.T) {
	for _, seen := range rightSeen() {
		named := map[api.Ref]int{}
		for _, x := range seen {
			named[x]++
		}
		asked := append(wrongRefs(), ref(0, 1, 0), ref(0, 1, 1), ref(7, 7, 7), ref(15, mostSeq, mostPlace))
		for _, x := range seen {
			asked = append(append(asked, x), near(x)...)
		}
		for _, o := range []api.Op{put(of("a"), number(1), seen...), remove(of("a"), number(1), seen...), reset(of("b"), seen...)} {
			for _, x := range asked {
				if got := Covers(o, x); got != (named[x] > 0) {
					t.Fatalf("Covers(%s, %v) = %t", short(o), x, got)
				}
			}
		}
	}
	o := reset(of("a"), ref(0, 1, 0), ref(0, 1, 2), ref(2, 3, 4), ref(5, 6, 7))
	for x, wanted := range map[api.Ref]bool{
		ref(0, 1, 0): true, ref(0, 1, 2): true, ref(2, 3, 4): true, ref(5, 6, 7): true,
		ref(0, 1, 1): false, ref(0, 1, 3): false, ref(2, 3, 5): false, ref(2, 4, 4): false, ref(3, 3, 4): false, ref(5, 6, 6): false, ref(5, 7, 7): false, ref(4, 6, 7): false, ref(6, 6, 7): false, ref(15, 1, 0): false, {}: false,
	} {
		if Covers(o, x) != wanted {
			t.Errorf("Covers(.., %v) = %t", x, !wanted)
		}
	}
	for _, x := range append(wrongRefs(), ref(0, 1, 0)) {
		if Covers(add(of("a"), number(1)), x) || Covers(inc(of("a"), 1), x) || Covers(api.Op{}, x) || Covers(reset(of("a"), list()...), x) {
			t.Errorf("%v is covered by nobody's names", x)
		}
	}
}

// others tells operations that are like one in all but one field.
func others(o api.Op) (l []api.Op) {
	note := func(change func(c *api.Op)) {
		c := o
		c.Path, c.Seen = slices.Clone(o.Path), slices.Clone(o.Seen)
		change(&c)
		l = append(l, c)
	}
	for _, by := range []int{1, -1, 4, 256, 1 << 32} {
		note(func(c *api.Op) { c.Kind += by })
		note(func(c *api.Op) { c.N += by })
		note(func(c *api.Op) { c.V.N += by })
		note(func(c *api.Op) { c.V.Kind += by })
	}
	note(func(c *api.Op) { c.V.S += "a" })
	note(func(c *api.Op) { c.V.S += "\x00" })
	for i := range o.Path {
		note(func(c *api.Op) { c.Path[i] += "a" })
		note(func(c *api.Op) { c.Path[i] += "\x00" })
		note(func(c *api.Op) { c.Path = slices.Delete(c.Path, i, i+1) })
	}
	note(func(c *api.Op) { c.Path = append(c.Path, "a") })
	note(func(c *api.Op) { c.Path = append(c.Path, "") })
	note(func(c *api.Op) { c.Path = append(of(""), c.Path...) })
	for i := range o.Seen {
		note(func(c *api.Op) { c.Seen[i].D.R++ })
		note(func(c *api.Op) { c.Seen[i].D.N++ })
		note(func(c *api.Op) { c.Seen[i].I++ })
		note(func(c *api.Op) { c.Seen = slices.Delete(c.Seen, i, i+1) })
	}
	note(func(c *api.Op) { c.Seen = append(c.Seen, ref(15, mostSeq, 15)) })
	note(func(c *api.Op) { c.Seen = append(c.Seen, api.Ref{}) })
	note(func(c *api.Op) { c.Seen = append(list(api.Ref{}), c.Seen...) })
	return l
}

// copied tells an operation with lists of its own.
func copied(o api.Op) api.Op {
	o.Path, o.Seen = append(make([]string, 0, len(o.Path)+3), o.Path...), append(make([]api.Ref, 0, len(o.Seen)+3), o.Seen...)
	return o
}

// Promise 11.1: an operation is the same as itself, and as no other one; nil and empty lists are the same.
func TestSame(t *testing.T) {
	wrong, _ := wrongOps()
	for _, o := range append(append(ops(), wrong...), api.Op{}) {
		if !Same(o, o) || !Same(o, copied(o)) || !Same(copied(o), o) {
			t.Fatalf("%s is not itself", short(o))
		}
	}
	for _, o := range []api.Op{{}, put(of("a"), number(1)), put(of("a", "b"), text("c"), row(3)...), add(of("a"), truth(1)), inc(of("a", "b", "c"), -5), remove(many("a", 8), text(""), row(20)...), reset(of("a"), row(mostSeen)...), {Kind: 9, Path: of("", "\xFF"), V: number(3), N: 7, Seen: list(ref(-1, -1, -1), ref(0, 0, 0))}} {
		for _, other := range others(o) {
			if Same(o, other) || Same(other, o) || alike(o, other) {
				t.Errorf("%s and %s are the same", short(o), short(other))
			}
		}
	}
	for _, p := range [][]string{nil, {}, make([]string, 0, 4)} {
		for _, seen := range [][]api.Ref{nil, {}, make([]api.Ref, 0, 4)} {
			empty := api.Op{Kind: api.Reset, Path: p, Seen: seen}
			if !Same(empty, api.Op{Kind: api.Reset}) || !Same(api.Op{Kind: api.Reset}, empty) || Same(empty, api.Op{}) {
				t.Errorf("%#v", empty)
			}
		}
	}
	all := ops()
	for i, a := range all {
		for j, b := range all {
			if Same(a, b) != (i == j) {
				t.Fatalf("%s and %s: %t", short(a), short(b), i != j)
			}
		}
	}
}

// Promise 11.1: what is gone is the zero one, with nil lists or empty ones, and no other one.
func TestGone(t *testing.T) {
	for _, p := range [][]string{nil, {}, make([]string, 0, 4), of("a")[:0]} {
		for _, seen := range [][]api.Ref{nil, {}, make([]api.Ref, 0, 4), row(3)[:0]} {
			if !Gone(api.Op{Path: p, Seen: seen}) {
				t.Errorf("%#v and %#v are something", p, seen)
			}
		}
	}
	for _, o := range append(others(api.Op{}), api.Op{Kind: math.MinInt}, api.Op{N: math.MinInt}, api.Op{Path: of("")}, api.Op{Path: of("a")}, api.Op{V: api.Value{S: "\x00"}}, api.Op{V: api.Value{N: -1}}, api.Op{Seen: make([]api.Ref, 1)}) {
		if Gone(o) {
			t.Errorf("%v is gone", o)
		}
	}
	wrong, _ := wrongOps()
	for _, o := range append(ops(), wrong...) {
		if Gone(o) {
			t.Errorf("%s is gone", short(o))
		}
	}
}

// Promise 11.2: the bytes of operations of each kind, and of one that is gone.
func TestCode(t *testing.T) {
	a := of("a")
	for _, c := range []struct {
		o      api.Op
		wanted string
	}{
		{api.Op{}, "\x00"}, {api.Op{Path: of(), Seen: list()}, "\x00"},
		{put(a, number(5)), "\x01\x01\x01a\x01\x0A\x00"}, {put(a, number(-3), ref(0, 1, 0)), "\x01\x01\x01a\x01\x05\x01\x00\x01\x00"}, {put(of("a/b", "c"), text("xy"), ref(1, 300, 2), ref(15, mostSeq, 15)), "\x01\x02\x03a/b\x01c\x02\x02xy\x02\x01\xAC\x02\x02\x0F\x80\x80\x40\x0F"}, {put(a, truth(0)), "\x01\x01\x01a\x03\x00\x00"},
		{add(a, number(0)), "\x02\x01\x01a\x01\x00"}, {add(a, text("")), "\x02\x01\x01a\x02\x00"}, {add(a, truth(1)), "\x02\x01\x01a\x03\x02"}, {add(of("x", "世"), text("é")), "\x02\x02\x01x\x03世\x02\x02é"}, {add(a, number(mostAmount)), "\x02\x01\x01a\x01\xFE\xFF\xFF\xFF\x0F"},
		{inc(a, 5), "\x03\x01\x01a\x0A"}, {inc(a, 1), "\x03\x01\x01a\x02"}, {inc(a, -1), "\x03\x01\x01a\x01"}, {inc(a, 63), "\x03\x01\x01a\x7E"}, {inc(a, -64), "\x03\x01\x01a\x7F"}, {inc(a, 64), "\x03\x01\x01a\x80\x01"}, {inc(a, mostAmount), "\x03\x01\x01a\xFE\xFF\xFF\xFF\x0F"}, {inc(a, -mostAmount), "\x03\x01\x01a\xFD\xFF\xFF\xFF\x0F"},
		{remove(a, number(1)), "\x04\x01\x01a\x01\x02\x00"}, {remove(a, truth(1), ref(2, 1, 3)), "\x04\x01\x01a\x03\x02\x01\x02\x01\x03"},
		{reset(a), "\x05\x01\x01a\x00"}, {reset(a, ref(0, 1, 15)), "\x05\x01\x01a\x01\x00\x01\x0F"}, {reset(many("a", 8), ref(3, 127, 0), ref(3, 128, 0)), "\x05\x08" + times("\x01a", 8) + "\x02\x03\x7F\x00\x03\x80\x01\x00"},
	} {
		if got := Code(c.o); got != c.wanted {
			t.Errorf("Code(%v) = %q, want %q", c.o, got, c.wanted)
		}
	}
	for _, n := range []int{127, 128, 255, 256} {
		for _, o := range []api.Op{put(a, number(5), row(n)...), remove(a, number(5), row(n)...), reset(a, row(n)...)} {
			names := ""
			for _, x := range row(n) {
				names += slowNumber(x.D.R) + slowNumber(x.D.N) + slowNumber(x.I)
			}
			if got := Code(o); !strings.HasSuffix(got, slowNumber(n)+names) || got != slowCode(o) {
				t.Errorf("of %d names %.100q", n, got)
			}
		}
	}
	for _, o := range ops() {
		if got := Code(o); got != slowCode(o) {
			t.Errorf("Code(%s) = %.100q, want %.100q", short(o), got, slowCode(o))
		}
	}
}

// wantRead reads an operation from a text, and holds what is told, what is wrong then, and how much is left.
func wantRead(t *testing.T, s string, wanted api.Op, fault api.Errno, left int) {
	t.Helper()
	slow, slowFault, slowLeft := slowRead(s)
	if !alike(slow, wanted) || slowFault != fault || slowLeft != left {
		t.Fatalf("of %.80q the document says %s, fault %d and %d bytes left, not %s, %d and %d", s, short(slow), slowFault, slowLeft, short(wanted), fault, left)
	}
	wantSlow(t, s)
}

// wantSlow reads an operation from a text, and holds it against what the document says.
func wantSlow(t *testing.T, s string) {
	t.Helper()
	wanted, fault, left := slowRead(s)
	r := pack.Open(s)
	o := Read(r)
	if !alike(o, wanted) || r.Fault() != fault || r.Left() != left || fault != api.OK && !zero(o) {
		t.Fatalf("of %.80q is read %s, with fault %d and %d bytes left, want %s, %d and %d", s, short(o), r.Fault(), r.Left(), short(wanted), fault, left)
	}
}

// Promise 11.2: what is read as an operation of each kind, and what is left.
func TestRead(t *testing.T) {
	for _, o := range ops() {
		wantRead(t, slowCode(o), o, api.OK, 0)
		wantRead(t, slowCode(o)+"behind", o, api.OK, 6)
		wantRead(t, slowCode(o)+"\x00", o, api.OK, 1)
	}
	// Kind 0: nothing more is read, whatever stands behind
	for s, left := range map[string]int{"\x00": 0, "\x00\x00": 1, "\x00\x80": 1, "\x00\x01\x01a\x01\x02\x00": 6, "\x00\xFF\xFF\xFF\xFF\xFF\xFF\xFF\xFF\xFF": 9, "\x00behind": 6, "\x00\x09": 1} {
		wantRead(t, s, api.Op{}, api.OK, left)
	}
	// other numbers that are no kind's: behind the path nothing more is read
	path := "\x01\x01a"
	for _, kind := range []int{6, 7, 127, 128, 256, 257, 261, 1 << 32, 1<<32 + 1, 1<<32 + 5, 1<<56 - 1} {
		for _, behind := range of("", "\x00", "\x01\x02\x00", "\x80", "\x80\x00", times("\xFF", 9)) {
			wantRead(t, pack.Int(kind)+path+behind, api.Op{}, api.ErrKind, 0)
		}
		wantRead(t, pack.Int(kind), api.Op{}, api.ErrShort, 0)
		wantRead(t, pack.Int(kind)+"\x01\x02a", api.Op{}, api.ErrShort, 0)
		wantRead(t, pack.Int(kind)+"\x00", api.Op{}, api.ErrPath, 0)
		wantRead(t, pack.Int(kind)+"\x01\x00", api.Op{}, api.ErrPath, 0)
		wantRead(t, pack.Int(kind)+"\x09"+times("\x01a", 9), api.Op{}, api.ErrLong, 0)
	}
}

// Promise 11.2: what is wrong with bytes that end too early, or are no operation's.
func TestReadOfWrongBytes(t *testing.T) {
	great := times("\x80", 8) + "\x01"
	for s, fault := range map[string]api.Errno{
		// the Kind: ends ahead of it, or is no number
		"": api.ErrShort, "\x80": api.ErrShort, "\x80\x00": api.ErrForm, "\x81\x00\x01\x01a\x01\x02\x00": api.ErrForm, great: api.ErrLong, times("\x80", 9): api.ErrShort, times("\x80", 9) + "\x01": api.ErrLong,
		// ends ahead of the path, within it, ahead of the value, within it, ahead of how many names
		"\x01": api.ErrShort, "\x02": api.ErrShort, "\x03": api.ErrShort, "\x04": api.ErrShort, "\x05": api.ErrShort, "\x01\x01": api.ErrShort, "\x01\x02\x01a": api.ErrShort, "\x01\x01\x01a": api.ErrShort, "\x02\x01\x01a": api.ErrShort, "\x04\x01\x01a": api.ErrShort, "\x01\x01\x01a\x01": api.ErrShort, "\x02\x01\x01a\x02\x01": api.ErrShort, "\x01\x01\x01a\x01\x02": api.ErrShort, "\x04\x01\x01a\x01\x02": api.ErrShort, "\x05\x01\x01a": api.ErrShort,
		// ends ahead of the amount, or within it
		"\x03\x01\x01a": api.ErrShort, "\x03\x01\x01a\x80": api.ErrShort,
		// ends ahead of each part of a name
		"\x05\x01\x01a\x01": api.ErrShort, "\x05\x01\x01a\x01\x00": api.ErrShort, "\x05\x01\x01a\x01\x00\x01": api.ErrShort, "\x05\x01\x01a\x01\x00\x80": api.ErrShort, "\x05\x01\x01a\x02\x00\x01\x00": api.ErrShort, "\x05\x01\x01a\x02\x00\x01\x00\x00": api.ErrShort, "\x05\x01\x01a\x02\x00\x01\x00\x00\x01": api.ErrShort, "\x01\x01\x01a\x01\x02\x01\x00\x01": api.ErrShort, "\x04\x01\x01a\x01\x02\x01\x00\x01": api.ErrShort,
		// the path: no parts, one that is no name, too many
		"\x01\x00\x01\x02\x00": api.ErrPath, "\x02\x01\x00\x01\x02": api.ErrPath, "\x03\x01\x01\t\x02": api.ErrPath, "\x04\x02\x01a\x01\xFF\x01\x02\x00": api.ErrPath, "\x05\x00\x00": api.ErrPath, "\x05\x09" + times("\x01a", 9) + "\x00": api.ErrLong, "\x05\x81\x00\x01a\x00": api.ErrForm,
		// the value: none, a Kind that there is not, one that is not right
		"\x01\x01\x01a\x00\x00\x00": api.ErrArg, "\x02\x01\x01a\x00\x00": api.ErrArg, "\x04\x01\x01a\x04\x02\x00": api.ErrArg, "\x01\x01\x01a\x03\x04\x00": api.ErrArg, "\x02\x01\x01a\x03\x01": api.ErrArg, "\x02\x01\x01a\x02\x01\xFF": api.ErrArg, "\x02\x01\x01a\x02\x41" + times("a", 65): api.ErrArg, "\x02\x01\x01a\x01\xFF\xFF\xFF\xFF\x0F": api.ErrArg, "\x02\x01\x01a\x01\x80\x80\x80\x80\x10": api.ErrArg, "\x02\x01\x01a\x01\x82\x00": api.ErrForm, "\x02\x01\x01a\x01" + great: api.ErrLong,
		// the amount: 0, and past the edges
		"\x03\x01\x01a\x00": api.ErrArg, "\x03\x01\x01a\x00behind": api.ErrArg, "\x03\x01\x01a\xFF\xFF\xFF\xFF\x0F": api.ErrArg, "\x03\x01\x01a\x80\x80\x80\x80\x10": api.ErrArg, "\x03\x01\x01a" + pack.Int(1<<56-1): api.ErrArg, "\x03\x01\x01a" + pack.Int(1<<56-2): api.ErrArg, "\x03\x01\x01a\x8A\x00": api.ErrForm, "\x03\x01\x01a" + great: api.ErrLong,
		// names: with a dot or a place that is wrong, twice, falling
		"\x05\x01\x01a\x01\x00\x00\x00": api.ErrArg, "\x05\x01\x01a\x01\x10\x01\x00": api.ErrArg, "\x05\x01\x01a\x01\x00\x81\x80\x40\x00": api.ErrArg, "\x05\x01\x01a\x01\x00\x01\x10": api.ErrArg, "\x05\x01\x01a\x02\x00\x01\x00\x00\x01\x00": api.ErrArg, "\x05\x01\x01a\x02\x00\x02\x00\x00\x01\x00": api.ErrArg, "\x05\x01\x01a\x02\x00\x01\x01\x00\x01\x00": api.ErrArg, "\x01\x01\x01a\x01\x02\x02\x01\x01\x00\x00\x01\x00": api.ErrArg, "\x04\x01\x01a\x01\x02\x01\x00\x01" + pack.Int(1<<32): api.ErrArg, "\x05\x01\x01a\x01\x00\x81\x00\x00": api.ErrForm, "\x05\x01\x01a\x01\x00\x01\x80\x00": api.ErrForm, "\x05\x01\x01a\x01\x00\x01" + great: api.ErrLong,
		// a dot that is wrong ahead of an end, or the other way round; a place that is wrong ahead of an end
		"\x05\x01\x01a\x02\x10\x01\x00\x00": api.ErrArg, "\x05\x01\x01a\x01\x10\x01": api.ErrArg, "\x05\x01\x01a\x02\x00\x01\x10\x00": api.ErrShort, "\x05\x01\x01a\x02\x00\x01\x10\x00\x01\x80\x00": api.ErrForm,
		// how many: too many for the bytes, or at all
		"\x05\x01\x01a\x04\x00\x01\x00": api.ErrShort, "\x05\x01\x01a\x80\x02": api.ErrShort, "\x05\x01\x01a\x81\x02": api.ErrLong, "\x05\x01\x01a" + pack.Int(1<<56-1): api.ErrLong, "\x05\x01\x01a" + great: api.ErrLong, "\x05\x01\x01a\x80\x00": api.ErrForm, "\x05\x01\x01a" + pack.Int(1<<32): api.ErrLong,
	} {
		wantRead(t, s, api.Op{}, fault, 0)
	}
	for _, n := range []int{257, 258, 300, 512, 1000, 1 << 14} {
		l := make([]api.Ref, n)
		for i := range l {
			l[i] = ref(0, i+1, 0)
		}
		for _, o := range []api.Op{put(of("a"), number(1), l...), remove(of("a"), number(1), l...), reset(of("a"), l...)} {
			wantRead(t, slowCode(o), api.Op{}, api.ErrLong, 0)
			o.Seen = l[:256]
			wantRead(t, slowCode(o), o, api.OK, 0)
		}
	}
}

// mayBeTold tells whether all numbers of an operation are from 0 on, or folded within their bounds: then its bytes tell it, right or not.
func mayBeTold(o api.Op) bool {
	within := func(n int) bool { return n >= -(1<<54) && n < 1<<54 }
	ok := o.Kind >= 0 && o.V.Kind >= 0 && within(o.V.N) && within(o.N)
	for _, x := range o.Seen {
		ok = ok && min(x.D.R, x.D.N, x.I) >= 0
	}
	return ok
}

// Promise 11.2: the bytes of operations that may not be; Check's error is wrong, or what was wrong ahead.
func TestReadOfWrongOps(t *testing.T) {
	wrong, faults := wrongOps()
	met := map[api.Errno]int{}
	for i, o := range wrong {
		if !mayBeTold(o) {
			continue
		}
		s := slowCode(o) + "behind"
		wantSlow(t, s)
		_, fault, _ := slowRead(s)
		if fault == faults[i] {
			met[fault]++
		}
	}
	if met[api.ErrKind] == 0 || met[api.ErrPath] == 0 || met[api.ErrArg] == 0 || len(met) != 3 {
		t.Errorf("errors were met so often: %v", met)
	}
}

// someBytes tells what stands for a byte, or between two, when bytes are spoilt.
func someBytes() []string {
	return of("", "\x00", "\x01", "\x02", "\x03", "\x05", "\x06", "\x0F", "\x10", "a", "\x7F", "\x80", "\x81", "\xC3", "\xFF")
}

// Promise 11.2: any end of operations' bytes, and these with one byte spoilt, put in or left out.
func TestReadOfSpoiltBytes(t *testing.T) {
	few := []api.Op{{}, put(of("a"), number(300)), put(of("a", "é"), text("b\x00"), ref(0, 1, 0), ref(3, 300, 5)), add(of("ab"), text("é")), add(of("a"), truth(1)), inc(of("a"), -300), inc(of("x", "y"), mostAmount), remove(of("a", "/"), number(-1), ref(1, 2, 3), ref(1, 2, 4), ref(2, 1, 0)), reset(of("a")), reset(many("a", 8), ref(15, mostSeq, 15))}
	for _, o := range few {
		s := Code(o)
		for i := range len(s) + 1 {
			for _, b := range someBytes() {
				wantSlow(t, s[:i]+b+s[i:])
				if i < len(s) {
					wantSlow(t, s[:i]+b+s[i+1:])
				}
			}
			wantSlow(t, s[i:])
		}
	}
	for _, o := range ops() {
		s := Code(o)
		step := 1 + len(s)/200 // of long bytes some places are enough
		for i := 0; i < len(s); i += step {
			wantRead(t, s[:i], api.Op{}, api.ErrShort, 0)
		}
	}
}

// anyBytes hands over all texts of so many of these bytes, behind a beginning.
func anyBytes(begin, bytes string, n int, take func(s string)) {
	take(begin)
	if n == 0 {
		return
	}
	for i := range len(bytes) {
		anyBytes(begin+bytes[i:i+1], bytes, n-1, take)
	}
}

// Promise 11.2: any short bytes, alone and behind a path; what is read is told as just these bytes.
func TestReadOfAnyBytes(t *testing.T) {
	read := 0
	take := func(s string) {
		wantSlow(t, s)
		r := pack.Open(s)
		if o := Read(r); r.Fault() == api.OK && s[0] != 0 {
			read++
			if Check(o) != api.OK || Code(o) != s[:len(s)-r.Left()] {
				t.Fatalf("%q is read as %v", s, o)
			}
		}
	}
	anyBytes("", "\x00\x01\x02\x03\x04\x05\x06a\x80", 6, take)
	for kind := range 8 {
		anyBytes(slowNumber(kind)+"\x01\x01a", "\x00\x01\x02\x03\x0F\x10\x80\xFF", 5, take)
	}
	for _, begin := range of("\x05\x01\x01a\x02\x00", "\x01\x01\x01a\x01\x02\x02\x00", "\x04\x01\x01a\x02\x01b\x02\x00") {
		anyBytes(begin, "\x00\x01\x02\x0F\x10\x80", 6, take)
	}
	if read < 1000 {
		t.Errorf("%d are read", read)
	}
}

// Promise 11.2: operations are read one behind the other, with those that are gone between.
func TestReadMany(t *testing.T) {
	var s strings.Builder
	for _, o := range ops() {
		s.WriteString(Code(o))
		s.WriteString(Code(api.Op{}))
	}
	r := pack.Open(s.String())
	for _, o := range ops() {
		if got := Read(r); !alike(got, o) {
			t.Fatalf("%s is read as %s", short(o), short(got))
		}
		if got := Read(r); !zero(got) {
			t.Fatalf("behind %s is read %s", short(o), short(got))
		}
	}
	if r.End() != api.OK {
		t.Errorf("behind all: %d", r.Fault())
	}
}

// Promise 11.2: of a reader with which something is wrong nothing is read, and that stays wrong; so of a nil one.
func TestReadOfWrongReaders(t *testing.T) {
	for _, o := range append(ops()[:40], api.Op{}, inc(of("a"), 5), reset(of("a")), reset(of("a"), row(5)...)) {
		for _, e := range []api.Errno{api.ErrNil, api.ErrArg, api.ErrForm, api.ErrShort, api.ErrSum, api.ErrLong, api.ErrFull, api.ErrPath, api.ErrKind, api.ErrText} {
			r := pack.Open(Code(o) + "behind")
			r.Fail(e)
			for range 2 {
				if got := Read(r); !zero(got) || r.Fault() != e || r.Left() != 0 || r.End() != e {
					t.Fatalf("with fault %d: %v, %d", e, got, r.Fault())
				}
			}
		}
		r := pack.Open(Code(o) + "\x06\x01\x01a" + Code(o))
		if got := Read(r); !alike(got, o) {
			t.Fatalf("the first one is read as %v", got)
		}
		for range 3 {
			if got := Read(r); !zero(got) || r.Fault() != api.ErrKind || r.Left() != 0 {
				t.Fatalf("behind a wrong one: %v, %d", got, r.Fault())
			}
		}
	}
	var none *pack.Reader
	for range 2 {
		if got := Read(none); !zero(got) || none.Fault() != api.ErrNil {
			t.Errorf("of a nil reader %v, %d", got, none.Fault())
		}
	}
}

// Promise 11.3: operations that may be, and one that is gone, are read as they were told; nothing is left of the bytes; unlike ones have unlike bytes.
func TestToldAndBack(t *testing.T) {
	codes := map[string]api.Op{}
	told := func(o api.Op) {
		t.Helper()
		r := pack.Open(Code(o))
		got := Read(r)
		if !alike(got, o) || !Same(got, o) || r.Left() != 0 || r.End() != api.OK {
			t.Fatalf("%s is read as %s, with %d", short(o), short(got), r.Fault())
		}
		if other, there := codes[Code(o)]; there && !alike(other, o) {
			t.Fatalf("%s and %s have the same bytes", short(o), short(other))
		}
		codes[Code(o)] = o
	}
	told(api.Op{})
	told(api.Op{Path: of(), Seen: list()})
	for _, o := range ops() {
		told(o)
		for _, other := range others(o) {
			if slowCheck(other) == api.OK {
				told(other)
			}
		}
	}
	for n := -20000; n <= 20000; n++ {
		if n != 0 {
			told(inc(of("a"), n))
		}
	}
	for n := range mostSeen + 1 {
		told(reset(of("a"), row(n)...))
		told(put(of("a"), number(n), row(n)...))
		told(remove(of("a"), number(n), row(mostSeen)[n:]...))
	}
}

// guarded tells an operation behind, and ahead of, whose lists others stand in the same memory, and whether all is as it was.
func guarded(o api.Op) (api.Op, func() bool) {
	parts := slices.Concat(of("\xFF", "x"), o.Path, of("a", "b", "", "\xFF", "c", "d", "e", "f", "g"))
	names := slices.Concat(list(ref(0, 1, 0), ref(9, 9, 9)), o.Seen, list(ref(15, mostSeq, 14), ref(15, mostSeq, 15), ref(0, 0, 0), ref(-1, -1, -1)))
	keptParts, keptNames := slices.Clone(parts), slices.Clone(names)
	o.Path, o.Seen = parts[2:2+len(o.Path)], names[2:2+len(o.Seen)]
	return o, func() bool { return slices.Equal(parts, keptParts) && slices.Equal(names, keptNames) }
}

// spoil changes all that is in an operation's lists, and behind their lengths.
func spoil(o api.Op) {
	parts, names := o.Path[:cap(o.Path)], o.Seen[:cap(o.Seen)]
	for i := range parts {
		parts[i] = "spoilt"
	}
	for i := range names {
		names[i] = ref(-7, -7, -7)
	}
}

// R4: no list that came in is changed, nor what lies behind its length read or written; answers that are changed change nothing that came in.
func TestNothingIsChanged(t *testing.T) {
	wrong, faults := wrongOps()
	right := ops()
	all := append(append(slices.Clone(right), api.Op{}), wrong...)
	for i, o := range all {
		g, kept := guarded(o)
		other, otherKept := guarded(all[len(all)-1-i])
		wanted := api.OK
		if i > len(right) {
			wanted = faults[i-len(right)-1]
		} else if i == len(right) {
			wanted = api.ErrKind
		}
		if Check(g) != wanted || Refs(g.Seen) != slowRefs(o.Seen) || !Same(g, o) || !Same(o, g) || Gone(g) != (i == len(right)) || Same(g, other) != alike(o, other) || Code(g) != Code(o) {
			t.Fatalf("what lies behind %s is read", short(o))
		}
		for _, x := range list(ref(0, 1, 0), ref(9, 9, 9), ref(15, mostSeq, 14), ref(15, mostSeq, 15), ref(-1, -1, -1)) {
			if slowRefs(o.Seen) && Covers(g, x) != slices.Contains(o.Seen, x) {
				t.Fatalf("what lies behind the names of %s is read", short(o))
			}
		}
		spoil(Read(pack.Open(Code(g))))
		if !kept() || !otherKept() {
			t.Fatalf("%s was changed", short(o))
		}
	}
}

// R4: answers share no memory with each other.
func TestAnswersAreNew(t *testing.T) {
	o := remove(of("a", "b/c"), text("d"), ref(1, 2, 3), ref(4, 5, 6))
	s := Code(o)
	first, again := Read(pack.Open(s)), Read(pack.Open(s))
	spoil(first)
	if !alike(again, o) || !alike(Read(pack.Open(s)), o) || s != Code(o) {
		t.Errorf("%v is %v", o, again)
	}
}

// The document's example: an Inc of a by 5 is the bytes 3, 1, 1, 97, 10.
func TestExamples(t *testing.T) {
	if got := Code(inc(of("a"), 5)); got != string([]byte{3, 1, 1, 97, 10}) {
		t.Errorf("%q", got)
	}
	r := pack.Open(string([]byte{3, 1, 1, 97, 10}))
	if got := Read(r); !alike(got, inc(of("a"), 5)) || r.End() != api.OK {
		t.Errorf("%v, %d", got, r.Fault())
	}
}

// P1 and R5: no call panics, whatever it is given, and each answers the same again.
func TestAnyOps(t *testing.T) {
	wrong, _ := wrongOps()
	all := append(append(wrong, ops()...), api.Op{}, api.Op{Kind: math.MinInt, Path: make([]string, 5000), V: api.Value{Kind: math.MinInt, N: math.MinInt, S: times("\xFF", 5000)}, N: math.MinInt, Seen: make([]api.Ref, 5000)})
	for i, o := range all {
		for _, kind := range append(kinds(), o.Kind, 0, -1, 6) {
			c := o
			c.Kind = kind
			x := append(slices.Clone(c.Seen), ref(0, 1, 0))[i%(len(c.Seen)+1)]
			other := all[len(all)-1-i]
			if Check(c) != Check(c) || Leaf(kind) != Leaf(kind) || Gone(c) != Gone(c) || Refs(c.Seen) != Refs(c.Seen) || Covers(c, x) != Covers(c, x) || Same(c, other) != Same(c, other) || Code(c) != Code(c) {
				t.Fatalf("%s is answered in two ways", short(c))
			}
			r, again := pack.Open(Code(c)), pack.Open(Code(c))
			if a, b := Read(r), Read(again); !alike(a, b) || r.Fault() != again.Fault() || r.Fault() != api.OK && !zero(a) {
				t.Fatalf("%s is read in two ways", short(c))
			}
		}
	}
}
