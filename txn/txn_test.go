package txn

import (
	"fmt"
	"math"
	"slices"
	"strings"
	"testing"

	"palinode/api"
	"palinode/op"
	"palinode/pack"
)

const (
	mostSeq   = 1048576       // the greatest number that a dot may have: 2^20
	mostTime  = 1099511627776 // the greatest time: 2^40
	mostUser  = 7             // the last user
	mostOps   = 16            // how many operations a transaction has at the most
	mostParts = 8             // how many parts a path has at the most
	mostSeen  = 256           // how many others an operation covers at the most
)

// dotOf tells a dot: its replica, and its number there.
func dotOf(r, n int) api.Dot { return api.Dot{R: r, N: n} }

// ref tells an operation's name: its dot's replica and number, and its place.
func ref(r, n, i int) api.Ref { return api.Ref{D: dotOf(r, n), I: i} }

// of tells parts of a path, one by one.
func of(parts ...string) []string { return parts }

// some tells operations, one by one.
func some(l ...api.Op) []api.Op { return l }

// row tells transactions, one by one.
func row(l ...api.Txn) []api.Txn { return l }

// names tells so many names of operations, that rise.
func names(n int) (l []api.Ref) {
	for i := range n {
		l = append(l, ref(i/100, i%100/4*9+1, i%4*5))
	}
	return l
}

func number(n int) api.Value { return api.Value{Kind: api.Int, N: n} }

func put(name string, n int, seen ...api.Ref) api.Op {
	return api.Op{Kind: api.Put, Path: of(name), V: number(n), Seen: seen}
}

func inc(name string, n int) api.Op { return api.Op{Kind: api.Inc, Path: of(name), N: n} }

// five tells one operation of each Kind.
func five() []api.Op {
	return some(
		put("a", 300, ref(1, 2, 3)),
		api.Op{Kind: api.Add, Path: of("b", "c/d"), V: api.Value{Kind: api.Text, S: "xé"}},
		inc("世", -5),
		api.Op{Kind: api.Remove, Path: of("e"), V: api.Value{Kind: api.Bool, N: 1}, Seen: []api.Ref{ref(0, 1, 0), ref(0, 1, 15), ref(15, mostSeq, 0)}},
		api.Op{Kind: api.Reset, Path: slices.Repeat(of("f"), mostParts), Seen: names(20)},
	)
}

// opsOf tells so many operations that may be, of each Kind, no two of which are alike.
func opsOf(n int) (l []api.Op) {
	for i := range n {
		o := five()[i%5]
		o.Path[0] += strings.Repeat("g", i/5%20)
		if i >= 100 {
			o.Path[0] = fmt.Sprint(i)
		}
		l = append(l, o)
	}
	return l
}

// txn tells a transaction that is not Thin.
func txn(d api.Dot, user, time int, ops ...api.Op) api.Txn {
	return api.Txn{D: d, User: user, Time: time, Ops: ops}
}

// simple tells an ordinary transaction of a dot.
func simple(r, n int) api.Txn { return txn(dotOf(r, n), 1, 5, inc("a", 1)) }

// thinned tells a transaction that is Thin.
func thinned(t api.Txn) api.Txn {
	t.Thin = true
	return t
}

// with tells a transaction with other operations.
func with(t api.Txn, ops ...api.Op) api.Txn {
	t.Ops = ops
	return t
}

// replaced tells operations, one of which is replaced.
func replaced(l []api.Op, i int, o api.Op) []api.Op {
	l = slices.Clone(l)
	l[i] = o
	return l
}

// wrongOp is an operation that may not be, and what is wrong with it.
type wrongOp struct {
	o api.Op
	e api.Errno
}

// wrongOps tells operations that may not be, with each error that there is; the first one is gone.
func wrongOps() []wrongOp {
	return []wrongOp{
		{api.Op{}, api.ErrKind},
		{api.Op{Path: of(), Seen: []api.Ref{}}, api.ErrKind},
		{api.Op{Kind: 6, Path: of("a")}, api.ErrKind},
		{api.Op{Path: of("a")}, api.ErrKind},
		{api.Op{N: 1}, api.ErrKind},
		{api.Op{V: number(0)}, api.ErrKind},
		{api.Op{Seen: []api.Ref{ref(0, 1, 0)}}, api.ErrKind},
		{inc("", 1), api.ErrPath},
		{api.Op{Kind: api.Reset}, api.ErrPath},
		{api.Op{Kind: api.Inc, Path: slices.Repeat(of("a"), mostParts+1), N: 1}, api.ErrDeep},
		{inc("a", 0), api.ErrArg},
		{put("a", 1, ref(0, 1, 1), ref(0, 1, 0)), api.ErrArg},
		{api.Op{Kind: api.Put, Path: of("a")}, api.ErrArg},
		{put("a", 1, names(mostSeen+1)...), api.ErrFull},
		{api.Op{Kind: api.Reset, Path: of("a"), Seen: make([]api.Ref, mostSeen+1)}, api.ErrFull},
	}
}

// rightDots tells dots that are right, at their edges, as they stand.
func rightDots() []api.Dot {
	return []api.Dot{dotOf(0, 1), dotOf(0, 2), dotOf(0, 127), dotOf(0, mostSeq), dotOf(1, 1), dotOf(3, 300), dotOf(9, 10), dotOf(10, 9), dotOf(15, 1), dotOf(15, mostSeq-1), dotOf(15, mostSeq)}
}

// wrongDots tells dots that are not right: in R, in N, and in both.
func wrongDots() []api.Dot {
	return []api.Dot{
		{}, dotOf(0, 0), dotOf(3, 0), dotOf(15, 0), dotOf(0, -1), dotOf(15, -1), dotOf(0, mostSeq+1), dotOf(15, mostSeq+1), dotOf(3, math.MinInt), dotOf(3, math.MaxInt), dotOf(0, 1<<32+1),
		dotOf(-1, 1), dotOf(16, 1), dotOf(-1, mostSeq), dotOf(16, mostSeq), dotOf(17, 5), dotOf(256, 1), dotOf(1<<32, 1), dotOf(math.MinInt, 1), dotOf(math.MaxInt, 1),
		dotOf(-1, 0), dotOf(16, mostSeq+1), dotOf(math.MinInt, math.MinInt), dotOf(math.MaxInt, math.MaxInt),
	}
}

func rightUsers() []int { return []int{0, 1, 2, 3, 4, 5, 6, mostUser} }

func wrongUsers() []int {
	return []int{-1, -2, -8, mostUser + 1, mostUser + 2, 15, 16, 256, 257, 1 << 32, 1<<32 + 1, math.MinInt, math.MinInt + 1, math.MaxInt}
}

func rightTimes() []int {
	return []int{1, 2, 5, 127, 128, 300, mostSeq, math.MaxInt32, 1 << 32, 1<<32 + 1, mostTime - 1, mostTime}
}

func wrongTimes() []int {
	return []int{0, -1, -2, -128, -mostTime, mostTime + 1, mostTime + 2, 2 * mostTime, 1 << 56, math.MinInt, math.MinInt + 1, math.MaxInt}
}

// rightOps tells lists of operations that a transaction may have, Thin or not.
func rightOps() [][]api.Op {
	l := [][]api.Op{five(), opsOf(2), opsOf(15), opsOf(mostOps), some(inc("a", 1), inc("a", 1)), slices.Repeat(some(inc("a", 1)), mostOps)}
	for _, o := range five() {
		l = append(l, some(o))
	}
	return append(l, some(put("x", 7, names(mostSeen)...)), some(inc("a", 1)))
}

// thinOps tells lists of operations that a Thin transaction alone may have: some are gone.
func thinOps() [][]api.Op {
	gone := api.Op{}
	l := [][]api.Op{some(gone), some(gone, gone), make([]api.Op, 15), make([]api.Op, mostOps), some(gone, inc("a", 1)), some(inc("a", 1), gone), some(inc("a", 1), gone, inc("b", 1)), some(gone, inc("a", 1), gone), some(put("a", 1), gone, gone, put("b", 2))}
	for i := range mostOps {
		l = append(l, replaced(opsOf(mostOps), i, gone), replaced(make([]api.Op, mostOps), i, inc("a", 1)))
	}
	return l
}

// txns tells transactions that may be, no two of which are alike.
func txns() (l []api.Txn) {
	for _, d := range rightDots() {
		l = append(l, txn(d, 1, 9, inc("a", 1)), thinned(txn(d, 1, 9, inc("a", 1))))
	}
	for _, user := range rightUsers() {
		l = append(l, txn(dotOf(2, 2), user, 7, five()...))
	}
	for _, time := range rightTimes() {
		l = append(l, txn(dotOf(2, 3), 3, time, put("a", 1)), thinned(txn(dotOf(2, 3), 3, time, put("a", 1), api.Op{})))
	}
	for _, ops := range rightOps() {
		l = append(l, txn(dotOf(4, 4), 2, 300, ops...), thinned(txn(dotOf(4, 4), 2, 300, ops...)))
	}
	for _, ops := range thinOps() {
		l = append(l, thinned(txn(dotOf(5, 5), 6, 7, ops...)))
	}
	return append(l, txn(dotOf(15, mostSeq), mostUser, mostTime, opsOf(mostOps)...), txn(dotOf(0, 1), 0, 1, inc("a", 1)))
}

// wrongTxn is a transaction that may not be, and what is wrong with it.
type wrongTxn struct {
	t api.Txn
	e api.Errno
}

// wrongTxns tells transactions that may not be, Thin and not.
func wrongTxns() (l []wrongTxn) {
	note := func(e api.Errno, t api.Txn) { l = append(l, wrongTxn{t, e}, wrongTxn{thinned(t), e}) }
	for _, d := range wrongDots() {
		note(api.ErrArg, txn(d, 1, 5, inc("a", 1)))
	}
	for _, user := range wrongUsers() {
		note(api.ErrArg, txn(dotOf(1, 2), user, 5, inc("a", 1)))
	}
	for _, time := range wrongTimes() {
		note(api.ErrArg, txn(dotOf(1, 2), 1, time, five()...))
	}
	for _, ops := range [][]api.Op{nil, {}, make([]api.Op, 0, 3), five()[:0]} {
		note(api.ErrNothing, with(simple(1, 2), ops...))
		l = append(l, wrongTxn{api.Txn{D: dotOf(1, 2), User: 1, Time: 5, Ops: ops}, api.ErrNothing})
	}
	for _, n := range []int{mostOps + 1, mostOps + 2, 2 * mostOps, 200, 1000} {
		note(api.ErrFull, with(simple(1, 2), opsOf(n)...))
		note(api.ErrFull, with(simple(1, 2), make([]api.Op, n)...))
		note(api.ErrFull, with(simple(1, 2), replaced(opsOf(n), 0, inc("", 1))...))
	}
	for _, w := range wrongOps() {
		for _, n := range []int{1, 2, 3, mostOps - 1, mostOps} {
			for _, i := range []int{0, n / 2, n - 1} {
				t := with(simple(1, 2), replaced(opsOf(n), i, w.o)...)
				l = append(l, wrongTxn{t, w.e})
				if !op.Gone(w.o) {
					l = append(l, wrongTxn{thinned(t), w.e})
				}
			}
		}
	}
	for _, ops := range thinOps() {
		l = append(l, wrongTxn{with(simple(1, 2), ops...), api.ErrKind})
	}
	return l
}

// gone tells whether nothing is in an operation.
func gone(o api.Op) bool {
	return o.Kind == 0 && len(o.Path) == 0 && o.V.Kind == 0 && o.V.N == 0 && o.V.S == "" && o.N == 0 && len(o.Seen) == 0
}

// slowCheck is what the document says of a transaction that may be, word by word.
func slowCheck(t api.Txn) api.Errno {
	if t.D.R < 0 || t.D.R > 15 || t.D.N < 1 || t.D.N > mostSeq {
		return api.ErrArg
	}
	if t.User < 0 || t.User > mostUser {
		return api.ErrArg
	}
	if t.Time < 1 || t.Time > mostTime {
		return api.ErrArg
	}
	if len(t.Ops) == 0 {
		return api.ErrNothing
	}
	if len(t.Ops) > mostOps {
		return api.ErrFull
	}
	for _, o := range t.Ops {
		e := op.Check(o)
		if t.Thin && gone(o) {
			e = api.OK
		}
		if e != api.OK {
			return e
		}
	}
	return api.OK
}

// slowDots tells whether a dot stands ahead of another one (-1), behind it (1), or is the same.
func slowDots(a, b api.Dot) int {
	if a.R < b.R || a.R == b.R && a.N < b.N {
		return -1
	}
	if a.R > b.R || a.N > b.N {
		return 1
	}
	return 0
}

// slowCompare is what the document says of which one is earlier.
func slowCompare(a, b api.Txn) int {
	if a.Time < b.Time {
		return -1
	}
	if a.Time > b.Time {
		return 1
	}
	return slowDots(a.D, b.D)
}

// slowRises is what the document says of transactions that rise: each holds against all ahead of it.
func slowRises(l []api.Txn) bool {
	for i := range l {
		for j := range i {
			if slowDots(l[j].D, l[i].D) != -1 {
				return false
			}
		}
	}
	return true
}

// slowFind seeks a dot from the first one on.
func slowFind(l []api.Txn, d api.Dot) int {
	for i, t := range l {
		if t.D == d {
			return i
		}
	}
	return -1
}

// slowPut lets all those ahead of a transaction go, then it, then all those behind it; unless it is there.
func slowPut(l []api.Txn, t api.Txn) (all []api.Txn) {
	if slowFind(l, t.D) >= 0 {
		return append(all, l...)
	}
	for _, other := range l {
		if slowDots(other.D, t.D) < 0 {
			all = append(all, other)
		}
	}
	all = append(all, t)
	for _, other := range l {
		if slowDots(other.D, t.D) > 0 {
			all = append(all, other)
		}
	}
	return all
}

// slowNumber tells a number's bytes, by divisions.
func slowNumber(n int) string {
	if n < 128 {
		return string([]byte{byte(max(n, 0))})
	}
	return string([]byte{byte(n%128 + 128)}) + slowNumber(n/128)
}

// head tells the bytes of what stands ahead of a transaction's operations.
func head(d api.Dot, user, time, thin, ops int) string {
	return slowNumber(d.R) + slowNumber(d.N) + slowNumber(user) + slowNumber(time) + slowNumber(thin) + slowNumber(ops)
}

// slowCode is what the document says of a transaction's bytes.
func slowCode(t api.Txn) string {
	thin := 0
	if t.Thin {
		thin = 1
	}
	s := head(t.D, t.User, t.Time, thin, len(t.Ops))
	for _, o := range t.Ops {
		s += op.Code(o)
	}
	return s
}

// slowList is what the document says of transactions' bytes.
func slowList(l []api.Txn) string {
	s := slowNumber(len(l))
	for _, t := range l {
		s += slowCode(t)
	}
	return s
}

// slowReader reads bytes as the document says it; once something is wrong, nothing more is read.
type slowReader struct {
	left  string
	fault api.Errno
}

// fail notes what is wrong first.
func (r *slowReader) fail(e api.Errno) {
	if r.fault == api.OK {
		r.fault = e
	}
}

// int reads a number.
func (r *slowReader) int() int {
	if r.fault != api.OK {
		return 0
	}
	n, last := 0, 0
	for last < len(r.left) && r.left[last] >= 128 {
		last++
	}
	switch {
	case last == len(r.left):
		r.fail(api.ErrShort)
	case last >= 8:
		r.fail(api.ErrLong)
	case last > 0 && r.left[last] == 0:
		r.fail(api.ErrForm)
	default:
		for i := last; i >= 0; i-- {
			n = n*128 + int(r.left[i]&127)
		}
		r.left = r.left[last+1:]
	}
	return n
}

// many reads how many parts follow.
func (r *slowReader) many(most int) int {
	n := r.int()
	if n > most {
		r.fail(api.ErrLong)
	}
	if n > len(r.left) {
		r.fail(api.ErrShort)
	}
	if r.fault != api.OK {
		return 0
	}
	return n
}

// op reads an operation, by the calls of its own layer.
func (r *slowReader) op() api.Op {
	if r.fault != api.OK {
		return api.Op{}
	}
	inner := pack.Open(r.left)
	o := op.Read(inner)
	r.fail(inner.Fault())
	r.left = r.left[len(r.left)-inner.Left():]
	return o
}

// txn reads a transaction.
func (r *slowReader) txn() api.Txn {
	t := api.Txn{D: dotOf(r.int(), r.int())}
	if t.D.R > 15 || t.D.N < 1 || t.D.N > mostSeq {
		r.fail(api.ErrArg)
	}
	t.User, t.Time = r.int(), r.int()
	thin := r.int()
	t.Thin = thin == 1
	for range r.many(mostOps) {
		t.Ops = append(t.Ops, r.op())
	}
	if thin > 1 {
		r.fail(api.ErrForm)
	}
	r.fail(slowCheck(t))
	if r.fault != api.OK {
		return api.Txn{}
	}
	return t
}

// list reads transactions.
func (r *slowReader) list(most int) (l []api.Txn) {
	for range r.many(most) {
		l = append(l, r.txn())
	}
	if !slowRises(l) {
		r.fail(api.ErrArg)
	}
	if r.fault != api.OK {
		return nil
	}
	return l
}

// rest tells how much is left.
func (r *slowReader) rest() int {
	if r.fault != api.OK {
		return 0
	}
	return len(r.left)
}

// zero tells whether nothing is in a transaction, not even a list of no length.
func zero(t api.Txn) bool {
	return t.D.R == 0 && t.D.N == 0 && t.User == 0 && t.Time == 0 && !t.Thin && t.Ops == nil
}

// alikeOps holds two operations against each other, field by field.
func alikeOps(a, b api.Op) bool {
	if a.Kind != b.Kind || len(a.Path) != len(b.Path) || a.V.Kind != b.V.Kind || a.V.N != b.V.N || a.V.S != b.V.S || a.N != b.N || len(a.Seen) != len(b.Seen) {
		return false
	}
	for i := range a.Path {
		if a.Path[i] != b.Path[i] {
			return false
		}
	}
	for i := range a.Seen {
		if a.Seen[i].D.R != b.Seen[i].D.R || a.Seen[i].D.N != b.Seen[i].D.N || a.Seen[i].I != b.Seen[i].I {
			return false
		}
	}
	return true
}

// alike holds two transactions against each other, field by field.
func alike(a, b api.Txn) bool {
	if a.D.R != b.D.R || a.D.N != b.D.N || a.User != b.User || a.Time != b.Time || a.Thin != b.Thin || len(a.Ops) != len(b.Ops) {
		return false
	}
	for i := range a.Ops {
		if !alikeOps(a.Ops[i], b.Ops[i]) {
			return false
		}
	}
	return true
}

// alikeLists holds two lists of transactions against each other.
func alikeLists(a, b []api.Txn) bool { return slices.EqualFunc(a, b, alike) }

// copied tells a transaction with lists of its own.
func copied(t api.Txn) api.Txn {
	ops := make([]api.Op, 0, len(t.Ops)+3)
	for _, o := range t.Ops {
		o.Path, o.Seen = append(make([]string, 0, len(o.Path)+2), o.Path...), append(make([]api.Ref, 0, len(o.Seen)+2), o.Seen...)
		ops = append(ops, o)
	}
	t.Ops = ops
	return t
}

// copiedList tells transactions each of which has lists of its own.
func copiedList(l []api.Txn) (all []api.Txn) {
	for _, t := range l {
		all = append(all, copied(t))
	}
	return all
}

// short tells the beginning of what is tested, for a message.
func short(x any) string { return fmt.Sprintf("%.200s", fmt.Sprint(x)) }

// The test's own lists are what they say they are.
func TestLists(t *testing.T) {
	all := txns()
	for i, x := range all {
		if slowCheck(x) != api.OK {
			t.Fatalf("%s may not be", short(x))
		}
		for _, other := range all[:i] {
			if alike(x, other) {
				t.Fatalf("%s is there twice", short(x))
			}
		}
	}
	for _, n := range []int{1, 5, 16, 17, 200, 1000} {
		if len(opsOf(n)) != n {
			t.Fatalf("there are not %d operations", n)
		}
		for _, o := range opsOf(n) {
			if op.Check(o) != api.OK {
				t.Fatalf("%s may not be", short(o))
			}
		}
	}
	met := map[api.Errno]int{}
	for _, w := range wrongOps() {
		if op.Check(w.o) != w.e {
			t.Errorf("%s has the error %d", short(w.o), op.Check(w.o))
		}
		met[w.e]++
	}
	if len(met) != 5 || met[api.OK] > 0 {
		t.Errorf("errors of operations: %v", met)
	}
	if MaxTime != mostTime || api.MaxSeq != mostSeq || api.MaxUsers != mostUser+1 || api.MaxOps != mostOps || api.MaxReplicas != 16 {
		t.Error("other limits")
	}
}

// wantCheck holds what is wrong with a transaction.
func wantCheck(t *testing.T, x api.Txn, wanted api.Errno) {
	t.Helper()
	if got := Check(x); got != wanted || slowCheck(x) != wanted {
		t.Errorf("Check(%s) = %d, want %d", short(x), got, wanted)
	}
}

// Promise 12.1: transactions that may be, and such as may not.
func TestCheck(t *testing.T) {
	for _, x := range txns() {
		wantCheck(t, x, api.OK)
	}
	for _, w := range wrongTxns() {
		wantCheck(t, w.t, w.e)
	}
	wantCheck(t, api.Txn{}, api.ErrArg)
	for r, wanted := range map[int]api.Errno{-2: api.ErrArg, -1: api.ErrArg, 0: api.OK, 1: api.OK, 14: api.OK, 15: api.OK, 16: api.ErrArg, 17: api.ErrArg, 32: api.ErrArg} {
		wantCheck(t, simple(r, 3), wanted)
	}
	for n, wanted := range map[int]api.Errno{-1: api.ErrArg, 0: api.ErrArg, 1: api.OK, 2: api.OK, 1<<20 - 1: api.OK, 1 << 20: api.OK, 1<<20 + 1: api.ErrArg} {
		wantCheck(t, simple(3, n), wanted)
	}
	for user, wanted := range map[int]api.Errno{-1: api.ErrArg, 0: api.OK, 1: api.OK, 6: api.OK, 7: api.OK, 8: api.ErrArg, 9: api.ErrArg} {
		wantCheck(t, txn(dotOf(1, 1), user, 1, inc("a", 1)), wanted)
	}
	for time, wanted := range map[int]api.Errno{-1: api.ErrArg, 0: api.ErrArg, 1: api.OK, 2: api.OK, 1<<40 - 1: api.OK, 1 << 40: api.OK, 1<<40 + 1: api.ErrArg} {
		wantCheck(t, txn(dotOf(1, 1), 0, time, inc("a", 1)), wanted)
	}
	for n := range 20 {
		wanted := api.OK
		if n == 0 {
			wanted = api.ErrNothing
		} else if n > 16 {
			wanted = api.ErrFull
		}
		wantCheck(t, with(simple(1, 1), opsOf(n)...), wanted)
		wantCheck(t, thinned(with(simple(1, 1), opsOf(n)...)), wanted)
		wantCheck(t, thinned(with(simple(1, 1), make([]api.Op, n)...)), wanted)
	}
}

// Promise 12.1: the error of an operation, wherever it stands; of several the first one's.
func TestCheckOfWrongOps(t *testing.T) {
	for n := 1; n <= mostOps; n++ {
		for i := range n {
			for _, w := range wrongOps() {
				x := with(simple(2, 2), replaced(opsOf(n), i, w.o)...)
				wantCheck(t, x, w.e)
				if gone(w.o) {
					wantCheck(t, thinned(x), api.OK)
				} else {
					wantCheck(t, thinned(x), w.e)
				}
			}
		}
	}
	for _, first := range wrongOps() {
		for _, second := range wrongOps() {
			for _, ops := range [][]api.Op{some(first.o, second.o), some(inc("a", 1), first.o, inc("b", 2), second.o, inc("c", 3)), replaced(replaced(opsOf(mostOps), 0, first.o), mostOps-1, second.o)} {
				wantCheck(t, with(simple(2, 2), ops...), first.e)
				wanted := first.e
				if gone(first.o) {
					wanted = second.e
				}
				if gone(first.o) && gone(second.o) {
					wanted = api.OK
				}
				wantCheck(t, thinned(with(simple(2, 2), ops...)), wanted)
			}
		}
	}
}

// Promise 12.1: operations that are gone may be in a Thin transaction alone.
func TestCheckOfGone(t *testing.T) {
	for _, ops := range thinOps() {
		wantCheck(t, thinned(with(simple(2, 2), ops...)), api.OK)
		wantCheck(t, with(simple(2, 2), ops...), api.ErrKind)
	}
	empty := api.Op{Path: of(), Seen: make([]api.Ref, 0, 2)}
	wantCheck(t, thinned(with(simple(2, 2), empty)), api.OK)
	wantCheck(t, with(simple(2, 2), empty), api.ErrKind)
	wantCheck(t, thinned(with(simple(2, 2), empty, inc("", 1), api.Op{})), api.ErrPath)
	wantCheck(t, with(simple(2, 2), inc("", 1), api.Op{}), api.ErrPath)
	wantCheck(t, with(simple(2, 2), inc("a", 1), api.Op{}, inc("", 1)), api.ErrKind)
	for n := 1; n <= mostOps+1; n++ {
		wanted, notThin := api.OK, api.ErrKind
		if n > mostOps {
			wanted, notThin = api.ErrFull, api.ErrFull
		}
		wantCheck(t, thinned(with(simple(2, 2), make([]api.Op, n)...)), wanted)
		wantCheck(t, with(simple(2, 2), make([]api.Op, n)...), notThin)
	}
}

// Promise 12.1 and R2: of several that are wrong the one that the document names first.
func TestCheckNamesTheFirst(t *testing.T) {
	bad := []api.Txn{txn(dotOf(0, 0), 1, 5), txn(dotOf(16, 1), 1, 5), txn(dotOf(1, 1), -1, 5), txn(dotOf(1, 1), 8, 5), txn(dotOf(1, 1), 1, 0), txn(dotOf(1, 1), 1, mostTime+1), txn(dotOf(-1, 0), 8, 0), {}}
	for _, x := range bad {
		for _, ops := range [][]api.Op{nil, {}, opsOf(17), make([]api.Op, 17), some(inc("", 1)), some(api.Op{}), some(inc("a", 1), api.Op{Kind: 9}), opsOf(1)} {
			wantCheck(t, with(x, ops...), api.ErrArg)
			wantCheck(t, thinned(with(x, ops...)), api.ErrArg)
		}
	}
	for _, w := range wrongOps() {
		wantCheck(t, with(simple(1, 1), slices.Repeat(some(w.o), 17)...), api.ErrFull)
		wantCheck(t, thinned(with(simple(1, 1), slices.Repeat(some(w.o), 17)...)), api.ErrFull)
		wantCheck(t, with(simple(1, 1), replaced(opsOf(17), 0, w.o)...), api.ErrFull)
		wantCheck(t, with(simple(1, 1), replaced(opsOf(17), 16, w.o)...), api.ErrFull)
		wantCheck(t, with(simple(1, 1), replaced(opsOf(17), 16, w.o)[:16]...), api.OK)
	}
}

// Promise 12.1: each of some dots, users, times and operations with each other, held against what the document says.
func TestCheckOfMany(t *testing.T) {
	lists := [][]api.Op{nil, {}, some(inc("a", 1)), some(api.Op{}), some(inc("a", 1), api.Op{}), some(api.Op{}, inc("", 1)), some(inc("a", 0), inc("", 1)), opsOf(16), opsOf(17), make([]api.Op, 16), make([]api.Op, 17)}
	for _, d := range append(wrongDots(), rightDots()...) {
		for _, user := range append(wrongUsers(), 0, 3, mostUser) {
			for _, time := range append(wrongTimes(), 1, 7, mostTime) {
				for _, ops := range lists {
					for _, x := range row(txn(d, user, time, ops...), thinned(txn(d, user, time, ops...))) {
						if got := Check(x); got != slowCheck(x) {
							t.Fatalf("Check(%s) = %d, want %d", short(x), got, slowCheck(x))
						}
					}
				}
			}
		}
	}
}

// wantCompare holds which of two transactions is the earlier one, both ways round.
func wantCompare(t *testing.T, a, b api.Txn, wanted int) {
	t.Helper()
	if got := Compare(a, b); got != wanted {
		t.Errorf("Compare(%s, %s) = %d, want %d", short(a), short(b), got, wanted)
	}
	if got := Compare(b, a); got != -wanted {
		t.Errorf("Compare(%s, %s) = %d, want %d", short(b), short(a), got, -wanted)
	}
}

// Promise 12.1: which transaction is the earlier one: by Time, then by the dot, by nothing else.
func TestCompare(t *testing.T) {
	at := func(time, r, n int) api.Txn { return txn(dotOf(r, n), 1, time, inc("a", 1)) }
	for _, c := range []struct {
		a, b   api.Txn
		wanted int
	}{
		{at(5, 1, 2), at(5, 1, 2), 0}, {at(1, 0, 1), at(1, 0, 1), 0}, {at(mostTime, 15, mostSeq), at(mostTime, 15, mostSeq), 0},
		// the Time alone, R alone, N alone
		{at(5, 1, 2), at(6, 1, 2), -1}, {at(5, 1, 2), at(5, 2, 2), -1}, {at(5, 1, 2), at(5, 1, 3), -1}, {at(9, 1, 2), at(10, 1, 2), -1}, {at(5, 9, 2), at(5, 10, 2), -1}, {at(5, 1, 9), at(5, 1, 10), -1},
		// the Time against the dot, R against N
		{at(5, 1, 2), at(6, 0, 1), -1}, {at(5, 15, mostSeq), at(6, 0, 1), -1}, {at(5, 1, 9), at(5, 2, 1), -1}, {at(5, 0, mostSeq), at(5, 1, 1), -1}, {at(5, 0, 9), at(6, 0, 8), -1}, {at(5, 9, 1), at(6, 8, 1), -1},
		// far apart
		{at(1, 0, 1), at(mostTime, 0, 1), -1}, {at(5, 0, 1), at(5, 15, 1), -1}, {at(5, 0, 1), at(5, 0, mostSeq), -1}, {at(1, 15, mostSeq), at(mostTime, 0, 1), -1}, {at(1<<32, 0, 1), at(1<<32+1, 0, 1), -1}, {at(1, 0, 1), at(1<<32, 0, 1), -1}, {at(math.MinInt, 0, 1), at(math.MaxInt, 0, 1), -1}, {at(5, 0, math.MinInt), at(5, 0, math.MaxInt), -1}, {at(5, math.MinInt, 0), at(5, math.MaxInt, 0), -1}, {at(-1, 0, 1), at(0, 0, 1), -1}, {at(-5, 0, 1), at(1, 0, 1), -1},
	} {
		wantCompare(t, c.a, c.b, c.wanted)
		c.b.User, c.b.Thin, c.b.Ops = 0, true, nil
		wantCompare(t, c.a, c.b, c.wanted)
		c.a.User, c.a.Ops = 7, five()
		wantCompare(t, c.a, c.b, c.wanted)
	}
	var all []api.Txn
	for _, time := range []int{1, 2, 5, 1 << 32, mostTime} {
		for _, d := range rightDots() {
			for user := range 2 {
				all = append(all, txn(d, user, time, opsOf(2-user)...))
			}
		}
	}
	for i, a := range all {
		for j, b := range all {
			wanted := 0
			if i/2 < j/2 {
				wanted = -1
			} else if i/2 > j/2 {
				wanted = 1
			}
			if got := Compare(a, b); got != wanted || got != slowCompare(a, b) {
				t.Fatalf("Compare(%s, %s) = %d", short(a), short(b), got)
			}
		}
	}
}

// others tells transactions that are like one in all but one part.
func others(t api.Txn) (l []api.Txn) {
	note := func(change func(c *api.Txn)) {
		c := copied(t)
		change(&c)
		l = append(l, c)
	}
	for _, by := range []int{1, -1, 8, 16, 256, 1 << 32} {
		note(func(c *api.Txn) { c.D.R += by })
		note(func(c *api.Txn) { c.D.N += by })
		note(func(c *api.Txn) { c.User += by })
		note(func(c *api.Txn) { c.Time += by })
	}
	note(func(c *api.Txn) { c.Thin = !c.Thin })
	note(func(c *api.Txn) { c.Ops = append(c.Ops, api.Op{}) })
	note(func(c *api.Txn) { c.Ops = append(some(api.Op{}), c.Ops...) })
	note(func(c *api.Txn) { c.Ops = append(c.Ops, inc("a", 1)) })
	for i := range t.Ops {
		note(func(c *api.Txn) { c.Ops = slices.Delete(c.Ops, i, i+1) })
		for _, change := range []func(o *api.Op){
			func(o *api.Op) { o.Kind++ },
			func(o *api.Op) { o.Path = append(o.Path, "z") },
			func(o *api.Op) { o.Path = append(of("z"), o.Path...) },
			func(o *api.Op) { o.V.Kind++ },
			func(o *api.Op) { o.V.N++ },
			func(o *api.Op) { o.V.S += "z" },
			func(o *api.Op) { o.N++ },
			func(o *api.Op) { o.Seen = append(o.Seen, ref(15, mostSeq, 15)) },
			func(o *api.Op) { o.Seen = append([]api.Ref{{}}, o.Seen...) },
		} {
			note(func(c *api.Txn) { change(&c.Ops[i]) })
		}
		for part := range t.Ops[i].Path {
			note(func(c *api.Txn) { c.Ops[i].Path[part] += "z" })
		}
		for part := range t.Ops[i].Seen {
			note(func(c *api.Txn) { c.Ops[i].Seen[part].D.R++ })
			note(func(c *api.Txn) { c.Ops[i].Seen[part].D.N++ })
			note(func(c *api.Txn) { c.Ops[i].Seen[part].I++ })
		}
	}
	return l
}

// Promise 12.1: a transaction is the same as itself, and as no other one; nil and empty lists are the same.
func TestSame(t *testing.T) {
	all := txns()
	for _, x := range append(all, api.Txn{}) {
		if !Same(x, x) || !Same(x, copied(x)) || !Same(copied(x), x) {
			t.Fatalf("%s is not itself", short(x))
		}
	}
	for _, w := range wrongTxns() {
		if !Same(w.t, w.t) || !Same(w.t, copied(w.t)) {
			t.Fatalf("%s is not itself", short(w.t))
		}
	}
	for _, x := range row(api.Txn{}, simple(1, 2), txn(dotOf(3, 4), 5, 6, five()...), thinned(txn(dotOf(3, 4), 5, 6, five()...)), txn(dotOf(15, mostSeq), 7, mostTime, opsOf(16)...), thinned(with(simple(1, 2), api.Op{}, inc("a", 1), api.Op{}))) {
		for _, other := range others(x) {
			if Same(x, other) || Same(other, x) || alike(x, other) {
				t.Errorf("%s and %s are the same", short(x), short(other))
			}
		}
	}
	for i, a := range all {
		for j, b := range all {
			if Same(a, b) != (i == j) {
				t.Fatalf("%s and %s: %t", short(a), short(b), i != j)
			}
		}
	}
}

// Promise 12.1 and R1: nil and empty lists are the same, of operations, and within them; in another order they are others.
func TestSameOfEmptyLists(t *testing.T) {
	for _, a := range [][]api.Op{nil, {}, make([]api.Op, 0, 4), five()[:0]} {
		for _, b := range [][]api.Op{nil, {}, make([]api.Op, 0, 4)} {
			if !Same(with(simple(1, 2), a...), with(simple(1, 2), b...)) || !Same(api.Txn{Ops: a}, api.Txn{Ops: b}) || Same(api.Txn{Ops: a}, api.Txn{Thin: true, Ops: b}) {
				t.Errorf("%#v and %#v", a, b)
			}
			if Same(api.Txn{Ops: a}, api.Txn{Ops: make([]api.Op, 1)}) || Same(api.Txn{Ops: make([]api.Op, 1)}, api.Txn{Ops: a}) {
				t.Errorf("%#v is one that is gone", a)
			}
		}
	}
	if !Same(with(simple(1, 2), api.Op{Path: of(), Seen: []api.Ref{}}), with(simple(1, 2), api.Op{})) {
		t.Error("lists within an operation")
	}
	a, b := inc("a", 1), inc("b", 1)
	if Same(with(simple(1, 2), a, b), with(simple(1, 2), b, a)) || Same(with(simple(1, 2), a, b), with(simple(1, 2), a, a)) || Same(with(simple(1, 2), a, b), with(simple(1, 2), a)) {
		t.Error("in another order")
	}
}

// dotted tells ordinary transactions of dots, no two of which are alike but by their dots' places.
func dotted(l ...api.Dot) (all []api.Txn) {
	for i, d := range l {
		all = append(all, txn(d, i%8, 1000-i, inc("a", i+1)))
	}
	return all
}

// Promise 12.2: what rises by the dots, whatever the times.
func TestRises(t *testing.T) {
	d := dotOf
	for _, c := range []struct {
		l      []api.Dot
		wanted bool
	}{
		{nil, true}, {[]api.Dot{}, true}, {[]api.Dot{d(3, 3)}, true}, {[]api.Dot{{}}, true}, {rightDots(), true},
		// by R alone, by N alone, R against N
		{[]api.Dot{d(0, 1), d(1, 1)}, true}, {[]api.Dot{d(0, 1), d(0, 2)}, true}, {[]api.Dot{d(0, 9), d(1, 1)}, true}, {[]api.Dot{d(0, 5), d(1, 5), d(2, 5), d(15, 5)}, true}, {[]api.Dot{d(3, 1), d(3, 2), d(3, 9), d(3, 10), d(3, mostSeq)}, true}, {[]api.Dot{d(0, mostSeq), d(1, 1)}, true}, {[]api.Dot{d(9, 1), d(10, 1)}, true},
		// one twice
		{[]api.Dot{d(1, 1), d(1, 1)}, false}, {[]api.Dot{d(0, 1), d(1, 1), d(1, 1)}, false}, {[]api.Dot{d(0, 1), d(0, 1), d(1, 1)}, false}, {[]api.Dot{d(0, 1), d(1, 1), d(0, 1)}, false},
		// falling at the beginning, between, at the end
		{[]api.Dot{d(1, 1), d(0, 1)}, false}, {[]api.Dot{d(0, 2), d(0, 1)}, false}, {[]api.Dot{d(1, 1), d(0, 9)}, false}, {[]api.Dot{d(0, 2), d(0, 1), d(1, 1), d(2, 1)}, false}, {[]api.Dot{d(0, 1), d(2, 1), d(1, 1), d(3, 1)}, false}, {[]api.Dot{d(0, 1), d(1, 1), d(2, 2), d(2, 1)}, false}, {[]api.Dot{d(0, 1), d(1, 1), d(3, 1), d(2, 1)}, false}, {[]api.Dot{d(2, 1), d(1, 1), d(0, 1)}, false}, {[]api.Dot{d(10, 1), d(9, 1)}, false},
	} {
		if got := Rises(dotted(c.l...)); got != c.wanted || slowRises(dotted(c.l...)) != c.wanted {
			t.Errorf("Rises of %v is %t", c.l, got)
		}
	}
	rising := row(txn(d(0, 2), 1, 1, inc("a", 1)), txn(d(0, 1), 1, 2, inc("a", 1)))
	if Rises(rising) || !Rises(row(rising[1], rising[0])) {
		t.Error("by their times")
	}
	if Rises(row(simple(1, 1), txn(d(1, 1), 2, 9, five()...))) {
		t.Error("one dot twice, and unlike in all else")
	}
}

// Promise 12.2: all short lists of some dots, and long ones, wherever one stands wrong, held against what the document says.
func TestRisesOfMany(t *testing.T) {
	few := []api.Dot{dotOf(0, 1), dotOf(0, 2), dotOf(0, 3), dotOf(1, 1), dotOf(1, 2), dotOf(15, mostSeq)}
	for _, a := range few {
		for _, b := range few {
			for _, c := range few {
				for _, d := range few {
					l := dotted(a, b, c, d)
					for n := range 5 {
						if Rises(l[:n]) != slowRises(l[:n]) {
							t.Fatalf("Rises of %v is %t", l[:n], Rises(l[:n]))
						}
					}
				}
			}
		}
	}
	var long []api.Dot
	for i := range 200 {
		long = append(long, dotOf(i/20, i%20*3+2))
	}
	for i := range long {
		for _, d := range []api.Dot{long[i], long[max(i-1, 0)], long[min(i+1, 199)], dotOf(0, 1), dotOf(15, 1), dotOf(long[i].R, long[i].N+1), dotOf(long[i].R, long[i].N-1)} {
			l := slices.Clone(long)
			l[i] = d
			if Rises(dotted(l...)) != slowRises(dotted(l...)) {
				t.Fatalf("Rises with %v at %d is %t", d, i, Rises(dotted(l...)))
			}
		}
	}
}

// eight tells dots, as they stand, among which and around which there is room.
func eight() []api.Dot {
	return []api.Dot{dotOf(0, 2), dotOf(0, 3), dotOf(1, 5), dotOf(2, 1), dotOf(2, 1000), dotOf(9, 2), dotOf(10, 1), dotOf(15, mostSeq-1)}
}

// around tells these dots, and such as stand ahead of all, between, and behind all.
func around() []api.Dot {
	return append(eight(), dotOf(0, 1), dotOf(0, 4), dotOf(1, 4), dotOf(1, 6), dotOf(2, 2), dotOf(2, 999), dotOf(9, 1), dotOf(9, 3), dotOf(10, 2), dotOf(3, 5), dotOf(15, 1), dotOf(15, mostSeq))
}

// subsets tells all lists of transactions of these eight dots that rise.
func subsets() (all [][]api.Txn) {
	for set := range 256 {
		var l []api.Dot
		for i, d := range eight() {
			if set>>i&1 == 1 {
				l = append(l, d)
			}
		}
		all = append(all, dotted(l...))
	}
	return all
}

// Promise 12.2: where a dot's transaction stands.
func TestFind(t *testing.T) {
	l := dotted(dotOf(0, 2), dotOf(0, 5), dotOf(3, 1), dotOf(9, 9), dotOf(10, 9))
	for d, wanted := range map[api.Dot]int{
		dotOf(0, 2): 0, dotOf(0, 5): 1, dotOf(3, 1): 2, dotOf(9, 9): 3, dotOf(10, 9): 4,
		dotOf(0, 1): -1, dotOf(0, 3): -1, dotOf(0, 6): -1, dotOf(2, 1): -1, dotOf(3, 2): -1, dotOf(9, 10): -1, dotOf(10, 8): -1, dotOf(10, 10): -1, dotOf(15, 1): -1, dotOf(1, 2): -1, {}: -1, dotOf(-1, 2): -1, dotOf(16, 1): -1, dotOf(math.MinInt, math.MaxInt): -1, dotOf(math.MaxInt, math.MinInt): -1,
	} {
		if got := Find(l, d); got != wanted {
			t.Errorf("Find(.., %v) = %d, want %d", d, got, wanted)
		}
		if Find(nil, d) != -1 || Find([]api.Txn{}, d) != -1 || Find(l[:0], d) != -1 {
			t.Errorf("%v is among none", d)
		}
		one := min(max(wanted, 0), 0)
		if wanted < 0 {
			one = -1
		}
		if got := Find(l[max(wanted, 0):max(wanted, 0)+1], d); got != one {
			t.Errorf("Find of %v in one is %d", d, got)
		}
	}
	for _, l := range subsets() {
		for _, d := range append(around(), wrongDots()...) {
			if got := Find(l, d); got != slowFind(l, d) {
				t.Fatalf("Find(%s, %v) = %d", short(l), d, got)
			}
		}
	}
	var long []api.Dot
	for i := range 1000 {
		long = append(long, dotOf(i/70, i%70*2+2))
	}
	many := dotted(long...)
	for i, d := range long {
		if Find(many, d) != i || Find(many, dotOf(d.R, d.N-1)) != -1 || Find(many, dotOf(d.R, d.N+1)) != -1 || Find(many[:i], d) != -1 || Find(many[i:], d) != 0 || Find(many[:i+1], d) != i {
			t.Fatalf("%v, the one at %d", d, i)
		}
	}
}

// roomy tells a list with others behind its length in the same memory, and whether all of it is as it was.
func roomy(l []api.Txn) ([]api.Txn, func() bool) {
	all := append(append(row(simple(7, 7)), l...), simple(8, 8), simple(0, 0), api.Txn{}, simple(9, 9))
	kept := copiedList(all)
	return all[1 : len(l)+1], func() bool { return alikeLists(all, kept) }
}

// Promise 12.2: a transaction is put in its place, unless there is one of its dot; what came in is as it was.
func TestPut(t *testing.T) {
	for _, l := range subsets() {
		for _, d := range around() {
			for _, x := range row(txn(d, 3, 1, put("put", 1)), simple(d.R, d.N)) {
				in, kept := roomy(l)
				got, wanted := Put(in, x), slowPut(l, x)
				if !alikeLists(got, wanted) || !Rises(got) {
					t.Fatalf("Put(%s, %s) = %s", short(l), short(x), short(got))
				}
				if !kept() {
					t.Fatalf("Put(%s, %s) changed what came in", short(l), short(x))
				}
			}
		}
		for i, x := range l { // those that are there already, alike and unlike in all else
			unlike := thinned(txn(x.D, 7, mostTime, five()...))
			if !alikeLists(Put(l, x), l) || !alikeLists(Put(l, unlike), l) || !alike(Put(l, unlike)[i], x) {
				t.Fatalf("%s is put again to %s", short(x), short(l))
			}
		}
	}
}

// Promise 12.2: where a transaction is put: ahead of all, between, behind all; into none, one and many.
func TestPutPlaces(t *testing.T) {
	a, b, c, d, e := simple(0, 5), simple(1, 5), simple(3, 2), simple(3, 4), simple(15, 1)
	again := txn(b.D, 2, 9, five()...)
	for _, x := range []struct {
		l      []api.Txn
		t      api.Txn
		wanted []api.Txn
	}{
		{nil, a, row(a)}, {row(), a, row(a)}, {row(a)[:0], b, row(b)},
		{row(b), a, row(a, b)}, {row(b), c, row(b, c)}, {row(b), b, row(b)}, {row(b), again, row(b)}, {row(again), b, row(again)},
		{row(b, c, d), a, row(a, b, c, d)}, {row(a, c, d), b, row(a, b, c, d)}, {row(a, b, d), c, row(a, b, c, d)}, {row(a, b, c), d, row(a, b, c, d)}, {row(a, b, c, d), e, row(a, b, c, d, e)},
		{row(a, b, c), again, row(a, b, c)}, {row(a, again, c), b, row(a, again, c)}, {row(again, c), b, row(again, c)}, {row(a, again), b, row(a, again)},
	} {
		if got := Put(x.l, x.t); !alikeLists(got, x.wanted) {
			t.Errorf("Put(%s, %s) = %s, want %s", short(x.l), short(x.t), short(got), short(x.wanted))
		}
	}
	late, early := txn(dotOf(0, 1), 0, mostTime, inc("a", 1)), txn(dotOf(9, 9), 0, 1, inc("a", 1))
	if !alikeLists(Put(row(late), early), row(late, early)) || !alikeLists(Put(row(early), late), row(late, early)) {
		t.Error("the place is the time's")
	}
}

// Promise 12.2 and R4: whoever changes the list that is answered, or adds to it, changes nothing that came in.
func TestPutIsNew(t *testing.T) {
	for _, l := range subsets() {
		for _, d := range around() {
			in, kept := roomy(l)
			got := Put(in, simple(d.R, d.N))
			got = append(got, simple(1, 1), simple(2, 2))
			for i := range got {
				got[i] = api.Txn{User: -7}
			}
			if !kept() {
				t.Fatalf("of Put(%s, %v) what came in was changed", short(l), d)
			}
		}
	}
}

// R4: arguments whose lists share memory are not changed, nor is an answer wrong.
func TestSharedMemory(t *testing.T) {
	all := dotted(eight()...)
	kept := copiedList(all)
	for i := range all {
		for from := range all {
			for to := from; to <= len(all); to++ {
				got := Put(all[from:to], all[i])
				if !alikeLists(got, slowPut(kept[from:to], kept[i])) || !alikeLists(all, kept) {
					t.Fatalf("Put of the one at %d to those from %d to %d is %s", i, from, to, short(got))
				}
				if Rises(all[from:to]) != true || Find(all[from:to], all[i].D) != slowFind(kept[from:to], kept[i].D) || List(all[from:to]) != slowList(kept[from:to]) || !alikeLists(all, kept) {
					t.Fatalf("those from %d to %d were changed", from, to)
				}
			}
		}
	}
	ops := opsOf(20)
	keptOps := copied(with(simple(1, 1), ops...)).Ops
	same := func() bool { return slices.EqualFunc(ops, keptOps, alikeOps) }
	for from := range ops {
		for to := from; to <= len(ops); to++ {
			a, b := with(simple(1, 1), ops[from:to]...), with(simple(1, 1), ops[:to-from]...)
			if Same(a, b) != (from == 0 || from == to) || Check(a) != slowCheck(a) || Code(a) != slowCode(a) || Compare(a, b) != 0 || !same() {
				t.Fatalf("operations from %d to %d", from, to)
			}
			b.D.N = 2
			if got := Put(row(b), a); !alikeLists(got, row(a, b)) || !same() {
				t.Fatalf("Put of operations from %d to %d", from, to)
			}
		}
	}
}

// Promise 12.3: the bytes of transactions.
func TestCode(t *testing.T) {
	for _, c := range []struct {
		t      api.Txn
		wanted string
	}{
		{txn(dotOf(0, 1), 0, 1, inc("a", 5)), "\x00\x01\x00\x01\x00\x01\x03\x01\x01a\x0A"},
		{txn(dotOf(3, 17), 5, 300, inc("a", 5), put("b", -3, ref(0, 1, 0))), "\x03\x11\x05\xAC\x02\x00\x02\x03\x01\x01a\x0A\x01\x01\x01b\x01\x05\x01\x00\x01\x00"},
		{thinned(txn(dotOf(0, 1), 0, 1, inc("a", 5))), "\x00\x01\x00\x01\x01\x01\x03\x01\x01a\x0A"},
		{thinned(txn(dotOf(0, 1), 2, 3, api.Op{})), "\x00\x01\x02\x03\x01\x01\x00"},
		{thinned(txn(dotOf(1, 2), 2, 3, api.Op{}, inc("a", 5), api.Op{Path: of(), Seen: []api.Ref{}})), "\x01\x02\x02\x03\x01\x03\x00\x03\x01\x01a\x0A\x00"},
		{thinned(txn(dotOf(15, mostSeq), 7, mostTime, make([]api.Op, 16)...)), "\x0F\x80\x80\x40\x07\x80\x80\x80\x80\x80\x20\x01\x10" + strings.Repeat("\x00", 16)},
		{txn(dotOf(15, 1), 7, mostTime-1, inc("a", -1)), "\x0F\x01\x07\xFF\xFF\xFF\xFF\xFF\x1F\x00\x01\x03\x01\x01a\x01"},
		{txn(dotOf(0, 128), 1, 127, api.Op{Kind: api.Reset, Path: of("a")}, api.Op{Kind: api.Remove, Path: of("a"), V: number(1)}, api.Op{Kind: api.Add, Path: of("a"), V: number(0)}), "\x00\x80\x01\x01\x7F\x00\x03\x05\x01\x01a\x00\x04\x01\x01a\x01\x02\x00\x02\x01\x01a\x01\x00"},
		{txn(dotOf(1, 1), 1, 1, slices.Repeat(some(inc("a", 1)), 16)...), "\x01\x01\x01\x01\x00\x10" + strings.Repeat("\x03\x01\x01a\x02", 16)},
	} {
		if got := Code(c.t); got != c.wanted {
			t.Errorf("Code(%s) = %q, want %q", short(c.t), got, c.wanted)
		}
	}
	for _, x := range txns() {
		if got := Code(x); got != slowCode(x) {
			t.Errorf("Code(%s) = %.100q, want %.100q", short(x), got, slowCode(x))
		}
	}
}

// wantSlow reads a transaction from a text, and holds it against what the document says.
func wantSlow(t *testing.T, s string) {
	t.Helper()
	slow := &slowReader{left: s}
	wanted := slow.txn()
	r := pack.Open(s)
	got := Read(r)
	if !alike(got, wanted) || r.Fault() != slow.fault || r.Left() != slow.rest() || slow.fault != api.OK && !zero(got) {
		t.Fatalf("of %.80q is read %s, with fault %d and %d bytes left, want %s, %d and %d", s, short(got), r.Fault(), r.Left(), short(wanted), slow.fault, slow.rest())
	}
}

// wantRead reads a transaction from a text, and holds what is told, what is wrong then, and how much is left.
func wantRead(t *testing.T, s string, wanted api.Txn, fault api.Errno, left int) {
	t.Helper()
	slow := &slowReader{left: s}
	if told := slow.txn(); !alike(told, wanted) || slow.fault != fault || slow.rest() != left {
		t.Fatalf("of %.80q the document says %s, fault %d and %d bytes left, not %s, %d and %d", s, short(told), slow.fault, slow.rest(), short(wanted), fault, left)
	}
	wantSlow(t, s)
}

// Promise 12.3: transactions are read, and what stands behind is left.
func TestRead(t *testing.T) {
	for _, x := range txns() {
		wantRead(t, slowCode(x), x, api.OK, 0)
		wantRead(t, slowCode(x)+"behind", x, api.OK, 6)
		wantRead(t, slowCode(x)+"\x00", x, api.OK, 1)
		wantRead(t, slowCode(x)+slowCode(x), x, api.OK, len(slowCode(x)))
	}
	var s strings.Builder
	for _, x := range txns() {
		s.WriteString(Code(x))
	}
	r := pack.Open(s.String())
	for _, x := range txns() {
		if got := Read(r); !alike(got, x) {
			t.Fatalf("%s is read as %s", short(x), short(got))
		}
	}
	if r.End() != api.OK {
		t.Errorf("behind all: %d", r.Fault())
	}
}

// Promise 12.3: bytes of which Check's error is each of those that it can be, and what is wrong with a part is told ahead of it.
func TestReadOfWrongBytes(t *testing.T) {
	d := dotOf(1, 2)
	great := strings.Repeat("\x80", 8) + "\x01"
	a := op.Code(inc("a", 1))
	for s, fault := range map[string]api.Errno{
		// the dot
		head(dotOf(16, 1), 1, 5, 0, 1) + a: api.ErrArg, head(dotOf(0, 0), 1, 5, 0, 1) + a: api.ErrArg, head(dotOf(0, mostSeq+1), 1, 5, 0, 1) + a: api.ErrArg, head(dotOf(1<<32, 1), 1, 5, 0, 1) + a: api.ErrArg, head(dotOf(16, 0), 1, 5, 1, 1) + a: api.ErrArg,
		// the user
		head(d, 8, 5, 0, 1) + a: api.ErrArg, head(d, 9, 5, 0, 1) + a: api.ErrArg, head(d, 1<<32, 5, 1, 1) + a: api.ErrArg, head(d, 1<<56-1, 5, 1, 1) + a: api.ErrArg,
		// the time
		head(d, 1, 0, 0, 1) + a: api.ErrArg, head(d, 1, mostTime+1, 0, 1) + a: api.ErrArg, head(d, 1, 1<<56-1, 0, 1) + a: api.ErrArg, head(d, 1, 0, 1, 1) + "\x00": api.ErrArg,
		// neither Thin nor not; that is named ahead of Check's error
		head(d, 1, 5, 2, 1) + a: api.ErrForm, head(d, 1, 5, 3, 1) + a: api.ErrForm, head(d, 1, 5, 127, 1) + a: api.ErrForm, head(d, 1, 5, 128, 1) + a: api.ErrForm, head(d, 1, 5, 256, 1) + a: api.ErrForm, head(d, 1, 5, 257, 1) + a: api.ErrForm, head(d, 1, 5, 1<<32+1, 1) + a: api.ErrForm, head(d, 1, 5, 1<<56-1, 1) + a: api.ErrForm, head(d, 1, 5, 2, 1) + "\x00": api.ErrForm, head(d, 1, 5, 2, 0): api.ErrForm, head(d, 8, 5, 2, 1) + a: api.ErrForm, head(d, 1, 0, 2, 1) + a: api.ErrForm, head(d, 8, mostTime+1, 3, 0): api.ErrForm, head(d, 1, 5, 2, 1) + a + "behind": api.ErrForm,
		// what is wrong with the operations, or how many there are, is read ahead of it
		head(d, 1, 5, 2, 17) + strings.Repeat(a, 17): api.ErrLong, head(d, 1, 5, 2, 2) + a: api.ErrShort, head(d, 1, 5, 2, 0)[:5]: api.ErrShort, head(d, 1, 5, 2, 1) + "\x03\x01\x00\x02": api.ErrPath,
		// the dot's error stays, as it is read first
		head(dotOf(16, 1), 1, 5, 2, 1) + a: api.ErrArg, head(dotOf(0, 0), 8, 0, 2, 0): api.ErrArg,
		// no operations
		head(d, 1, 5, 0, 0): api.ErrNothing, head(d, 1, 5, 1, 0): api.ErrNothing, head(d, 1, 5, 0, 0) + a: api.ErrNothing, head(d, 8, 5, 0, 0): api.ErrArg, head(d, 1, 0, 1, 0): api.ErrArg,
		// too many
		head(d, 1, 5, 0, 17) + strings.Repeat(a, 17): api.ErrLong, head(d, 1, 5, 1, 17) + strings.Repeat("\x00", 17): api.ErrLong, head(d, 1, 5, 0, 17): api.ErrLong, head(d, 1, 5, 0, 18) + strings.Repeat(a, 18): api.ErrLong, head(d, 1, 5, 0, 1<<20) + a: api.ErrLong, head(d, 1, 5, 0, 1<<56-1) + a: api.ErrLong, head(d, 8, 0, 1, 17) + a: api.ErrLong, head(d, 1, 5, 0, 0)[:5] + great + a: api.ErrLong, head(d, 1, 5, 0, 0)[:5] + "\x81\x00" + a: api.ErrForm,
		// fewer than there should be
		head(d, 1, 5, 0, 2) + a: api.ErrShort, head(d, 1, 5, 1, 2) + "\x00": api.ErrShort, head(d, 1, 5, 0, 16) + strings.Repeat(a, 15): api.ErrShort, head(d, 1, 5, 0, 6) + a: api.ErrShort,
		// one that is gone, where the transaction is not Thin
		head(d, 1, 5, 0, 1) + "\x00": api.ErrKind, head(d, 1, 5, 0, 3) + a + "\x00" + a: api.ErrKind, head(d, 1, 5, 0, 2) + a + "\x00": api.ErrKind, head(d, 1, 5, 0, 2) + "\x00" + a: api.ErrKind, head(d, 8, 5, 0, 1) + "\x00": api.ErrArg,
		// operations' own errors, in the order in which they stand, Thin or not
		head(d, 1, 5, 0, 1) + "\x06\x01\x01a": api.ErrKind, head(d, 1, 5, 1, 1) + "\x06\x01\x01a": api.ErrKind, head(d, 1, 5, 0, 1) + "\x03\x01\x00\x02": api.ErrPath, head(d, 1, 5, 1, 2) + "\x00\x03\x01\x00\x02": api.ErrPath, head(d, 1, 5, 0, 1) + "\x03\x01\x01a\x00": api.ErrArg, head(d, 1, 5, 1, 1) + "\x03\x01\x01a\x00": api.ErrArg, head(d, 1, 5, 0, 2) + "\x03\x01\x00\x02\x03\x01\x01a\x00": api.ErrPath, head(d, 1, 5, 0, 2) + "\x03\x01\x01a\x00\x03\x01\x00\x02": api.ErrArg, head(d, 1, 5, 1, 3) + a + "\x00\x06\x01\x01a": api.ErrKind, head(d, 1, 5, 0, 1) + "\x03\x09" + strings.Repeat("\x01a", 9) + "\x02": api.ErrLong,
		// an operation's error is read ahead of what is wrong with the user
		head(d, 8, 5, 0, 1) + "\x03\x01\x00\x02": api.ErrPath,
		// numbers that are wrong themselves
		great + "\x01\x01\x05\x00\x01" + a: api.ErrLong, "\x01\x81\x00\x01\x05\x00\x01" + a: api.ErrForm, "\x01\x02\x81\x00\x05\x00\x01" + a: api.ErrForm, "\x01\x02\x01\x85\x00\x00\x01" + a: api.ErrForm, "\x01\x02\x01\x05\x80\x00\x01" + a: api.ErrForm, "\x01\x02\x01\x05\x81\x00\x01" + a: api.ErrForm, "\x01\x02" + great + "\x05\x00\x01" + a: api.ErrLong, "\x01\x02\x01" + great + "\x00\x01" + a: api.ErrLong, "\x01\x02\x01\x05" + great + "\x01" + a: api.ErrLong,
	} {
		wantRead(t, s, api.Txn{}, fault, 0)
	}
}

// Promise 12.3: the bytes of transactions that may not be: Check's error is wrong, or what was wrong ahead.
func TestReadOfWrongTxns(t *testing.T) {
	met := map[api.Errno]int{}
	for _, w := range wrongTxns() {
		if min(w.t.D.R, w.t.D.N, w.t.User, w.t.Time) < 0 { // told as 0
			continue
		}
		s := slowCode(w.t) + "behind"
		slow := &slowReader{left: s}
		slow.txn()
		if slow.fault == api.OK && !w.t.Thin { // of a Thin one an operation of the Kind 0, whatever else is in it, is read as one that is gone
			t.Fatalf("%s may be", short(w.t))
		}
		if slow.fault == w.e {
			met[slow.fault]++
		}
		wantSlow(t, s)
		wantSlow(t, slowCode(w.t))
	}
	for _, e := range []api.Errno{api.ErrArg, api.ErrNothing, api.ErrKind, api.ErrPath} {
		if met[e] == 0 {
			t.Errorf("the error %d was never met", e)
		}
	}
}

// someBytes tells what stands for a byte, or between two, when bytes are spoilt.
func someBytes() []string {
	return of("", "\x00", "\x01", "\x02", "\x03", "\x05", "\x06", "\x07", "\x08", "\x0F", "\x10", "\x11", "a", "\x7F", "\x80", "\x81", "\xFF")
}

// few tells some transactions of all kinds, whose bytes are not many.
func few() []api.Txn {
	return row(
		simple(0, 1), txn(dotOf(3, 300), 7, mostTime, inc("a", 1), put("b", 2, ref(0, 1, 0))), thinned(txn(dotOf(15, mostSeq), 0, 1, api.Op{}, inc("a", -300), api.Op{})),
		txn(dotOf(1, 2), 3, 128, five()[:4]...), thinned(txn(dotOf(2, 2), 1, 1, make([]api.Op, 16)...)), thinned(txn(dotOf(2, 3), 1, 1, api.Op{})), txn(dotOf(2, 4), 6, 1<<20, slices.Repeat(some(inc("a", 1)), 16)...),
	)
}

// Promise 12.3: any end of transactions' bytes, and these with one byte spoilt, put in or left out.
func TestReadOfSpoiltBytes(t *testing.T) {
	for _, x := range few() {
		s := Code(x)
		for i := range len(s) + 1 {
			for _, b := range someBytes() {
				wantSlow(t, s[:i]+b+s[i:])
				if i < len(s) {
					wantSlow(t, s[:i]+b+s[i+1:])
				}
			}
			wantSlow(t, s[i:])
		}
	}
	for _, x := range txns() {
		s := Code(x)
		step := 1 + len(s)/200 // of long bytes some places are enough
		for i := 0; i < len(s); i += step {
			wantRead(t, s[:i], api.Txn{}, api.ErrShort, 0)
		}
	}
}

// anyBytes hands over all texts of so many of these bytes, behind a beginning.
func anyBytes(begin, bytes string, n int, take func(s string)) {
	take(begin)
	if n == 0 {
		return
	}
	for i := range len(bytes) {
		anyBytes(begin+bytes[i:i+1], bytes, n-1, take)
	}
}

// Promise 12.3: any short bytes ahead of operations, and of some operations; what is read is told as just these bytes.
func TestReadOfAnyBytes(t *testing.T) {
	read := 0
	take := func(s string) {
		wantSlow(t, s)
		r := pack.Open(s)
		if x := Read(r); r.Fault() == api.OK {
			read++
			if Check(x) != api.OK || Code(x) != s[:len(s)-r.Left()] {
				t.Fatalf("%q is read as %s", s, short(x))
			}
		}
	}
	end := op.Code(inc("a", 1))
	anyBytes("", "\x00\x01\x02\x08\x10\x80", 6, func(s string) { take(s); take(s + end); take(s + "\x00\x00") })
	for _, begin := range of("\x00\x01\x00\x01\x00", "\x00\x01\x00\x01\x01", "\x00\x01\x00\x01\x02") {
		anyBytes(begin, "\x00\x01\x02\x03\x11\x80", 5, func(s string) { take(s); take(s + end) })
		anyBytes(begin+"\x02", "\x00\x01\x03\x05\x06a", 6, func(s string) { take(s); take(s + "\x01a\x02") })
	}
	if read < 1000 {
		t.Errorf("%d are read", read)
	}
}

// faults tells errors that may be wrong ahead.
func faults() []api.Errno {
	return []api.Errno{api.ErrNil, api.ErrArg, api.ErrForm, api.ErrShort, api.ErrSum, api.ErrLong, api.ErrFull, api.ErrPath, api.ErrNothing, api.ErrKind, api.ErrText}
}

// Promise 12.3: of a reader with which something is wrong nothing is read, and that stays wrong; so of a nil one.
func TestReadOfWrongReaders(t *testing.T) {
	for _, x := range txns() {
		for _, e := range faults() {
			r := pack.Open(Code(x) + "behind")
			r.Fail(e)
			for range 2 {
				if got := Read(r); !zero(got) || r.Fault() != e || r.Left() != 0 || r.End() != e {
					t.Fatalf("with fault %d: %s, %d", e, short(got), r.Fault())
				}
			}
			r = pack.Open(List(row(x)) + "behind")
			r.Fail(e)
			if got := ReadList(r, 5); got != nil || r.Fault() != e || r.Left() != 0 {
				t.Fatalf("with fault %d: %s, %d", e, short(got), r.Fault())
			}
		}
		r := pack.Open(Code(x) + head(dotOf(1, 1), 8, 1, 0, 1) + op.Code(inc("a", 1)) + Code(x))
		if got := Read(r); !alike(got, x) {
			t.Fatalf("the first one is read as %s", short(got))
		}
		for range 3 {
			if got := Read(r); !zero(got) || r.Fault() != api.ErrArg || r.Left() != 0 {
				t.Fatalf("behind a wrong one: %s, %d", short(got), r.Fault())
			}
		}
	}
	var none *pack.Reader
	for range 2 {
		if got := Read(none); !zero(got) || none.Fault() != api.ErrNil {
			t.Errorf("of a nil reader %s, %d", short(got), none.Fault())
		}
		for _, most := range []int{math.MinInt, -1, 0, 1, 1000, math.MaxInt} {
			if got := ReadList(none, most); got != nil || none.Fault() != api.ErrNil {
				t.Errorf("of a nil reader %s, %d", short(got), none.Fault())
			}
		}
	}
}

// lists tells lists of transactions that rise: of none, one and many.
func lists() [][]api.Txn {
	l := [][]api.Txn{nil, {}, row(simple(0, 1)), row(simple(15, mostSeq)), row(simple(0, 1), simple(0, 2)), row(simple(0, 9), simple(1, 1)), few()[:1], dotted(eight()...), dotted(rightDots()...)}
	for _, x := range few() {
		l = append(l, row(x))
	}
	ordered := few()
	slices.SortFunc(ordered, func(a, b api.Txn) int { return slowDots(a.D, b.D) })
	var many []api.Dot
	for i := range 300 {
		many = append(many, dotOf(i/30, i%30*5+1))
	}
	return append(l, ordered, dotted(many[:16]...), dotted(many[:127]...), dotted(many[:128]...), dotted(many...))
}

// Promise 12.3: the bytes of none, one and many.
func TestList(t *testing.T) {
	a, b := txn(dotOf(0, 1), 0, 1, inc("a", 5)), thinned(txn(dotOf(1, 1), 2, 3, api.Op{}))
	for s, l := range map[string][]api.Txn{
		"\x00": nil,
		"\x01\x00\x01\x00\x01\x00\x01\x03\x01\x01a\x0A":                             row(a),
		"\x02\x00\x01\x00\x01\x00\x01\x03\x01\x01a\x0A\x01\x01\x02\x03\x01\x01\x00": row(a, b),
		"\x02\x01\x01\x02\x03\x01\x01\x00\x00\x01\x00\x01\x00\x01\x03\x01\x01a\x0A": row(b, a),
	} {
		if got := List(l); got != s {
			t.Errorf("List(%s) = %q, want %q", short(l), got, s)
		}
	}
	if List(row()) != "\x00" || List(row(a, b)[:0]) != "\x00" {
		t.Error("of an empty list")
	}
	for _, l := range lists() {
		if got := List(l); got != slowList(l) {
			t.Errorf("List(%s) = %.100q", short(l), got)
		}
	}
	if got := List(dotted(make([]api.Dot, 300)...)); !strings.HasPrefix(got, "\xAC\x02") {
		t.Errorf("of 300: %.10q", got)
	}
}

// wantSlowList reads transactions from a text, and holds them against what the document says.
func wantSlowList(t *testing.T, s string, most int) {
	t.Helper()
	slow := &slowReader{left: s}
	wanted := slow.list(most)
	r := pack.Open(s)
	got := ReadList(r, most)
	if !alikeLists(got, wanted) || r.Fault() != slow.fault || r.Left() != slow.rest() || slow.fault != api.OK && got != nil {
		t.Fatalf("of %.80q are read %s, with fault %d and %d bytes left, want %s, %d and %d", s, short(got), r.Fault(), r.Left(), short(wanted), slow.fault, slow.rest())
	}
}

// wantList reads transactions from a text, and holds what is told, what is wrong then, and how much is left.
func wantList(t *testing.T, s string, most int, wanted []api.Txn, fault api.Errno, left int) {
	t.Helper()
	slow := &slowReader{left: s}
	if told := slow.list(most); !alikeLists(told, wanted) || slow.fault != fault || slow.rest() != left {
		t.Fatalf("of %.80q the document says %s, fault %d and %d bytes left, not %s, %d and %d", s, short(told), slow.fault, slow.rest(), short(wanted), fault, left)
	}
	wantSlowList(t, s, most)
}

// Promise 12.3: transactions that rise are read, so many at the most; what stands behind is left.
func TestReadList(t *testing.T) {
	for _, l := range lists() {
		s := slowList(l)
		for _, most := range []int{len(l), len(l) + 1, len(l) + 100, 1000, 1 << 20, math.MaxInt} {
			wantList(t, s, most, l, api.OK, 0)
			wantList(t, s+"behind", most, l, api.OK, 6)
		}
		for _, most := range []int{len(l) - 1, len(l) / 2, 0, -1, -1000, math.MinInt} {
			if most < len(l) {
				wantList(t, s, most, nil, api.ErrLong, 0)
			}
		}
	}
	for most, fault := range map[int]api.Errno{0: api.OK, 1: api.OK, -1: api.ErrLong, math.MinInt: api.ErrLong, math.MaxInt: api.OK} {
		left := 6
		if fault != api.OK {
			left = 0
		}
		wantList(t, "\x00behind", most, nil, fault, left)
	}
}

// Promise 12.3: transactions that don't rise are wrong, unless something was wrong ahead.
func TestReadListOfFalling(t *testing.T) {
	a, b, c := simple(0, 5), simple(1, 2), simple(1, 3)
	again := txn(b.D, 2, 9, five()...)
	for _, l := range [][]api.Txn{row(b, a), row(c, b), row(a, a), row(b, again), row(b, a, c), row(a, c, b), row(c, b, a), row(a, b, b), row(a, a, b), row(a, b, a), row(a, b, again, c), slices.Repeat(row(a), 20)} {
		s := slowList(l)
		wantList(t, s, len(l), nil, api.ErrArg, 0)
		wantList(t, s+"behind", 1000, nil, api.ErrArg, 0)
		wantList(t, s, len(l)-1, nil, api.ErrLong, 0)
		wantList(t, s[:len(s)-1], 1000, nil, api.ErrShort, 0)
	}
	// what rises, and falls by the times, is read
	l := row(txn(dotOf(0, 1), 1, 9, inc("a", 1)), txn(dotOf(0, 2), 1, 8, inc("a", 1)), txn(dotOf(1, 1), 1, 1, inc("a", 1)))
	wantList(t, slowList(l), 3, l, api.OK, 0)
	for _, a := range eight()[:4] {
		for _, b := range eight()[:4] {
			for _, c := range eight()[:4] {
				for n := range 4 {
					wantSlowList(t, slowList(dotted(a, b, c)[:n]), 3)
				}
			}
		}
	}
}

// Promise 12.3: one within which something is wrong: then none is told, wherever it stands.
func TestReadListOfWrong(t *testing.T) {
	l := dotted(eight()...)
	for i := range l {
		for _, c := range []struct {
			change func(t *api.Txn)
			fault  api.Errno
		}{
			{func(t *api.Txn) { t.User = 8 }, api.ErrArg},
			{func(t *api.Txn) { t.Time = 0 }, api.ErrArg},
			{func(t *api.Txn) { t.D.N = 0 }, api.ErrArg},
			{func(t *api.Txn) { t.Ops = nil }, api.ErrNothing},
			{func(t *api.Txn) { t.Ops = opsOf(17) }, api.ErrLong},
			{func(t *api.Txn) { t.Ops = make([]api.Op, 1) }, api.ErrKind},
			{func(t *api.Txn) { t.Ops = some(inc("a", 1), inc("", 1)) }, api.ErrPath},
		} {
			wrong := slices.Clone(l)
			c.change(&wrong[i])
			wantList(t, slowList(wrong), 8, nil, c.fault, 0)
			wantList(t, slowList(wrong)+"behind", 1000, nil, c.fault, 0)
			// what stands behind the wrong one, falling, too many, or cut short, is not read any more
			more := append(wrong[:i+1:i+1], simple(0, 1), simple(0, 1))
			wantList(t, slowList(more), 1000, nil, c.fault, 0)
			more[len(more)-1].Ops = nil
			wantList(t, slowList(more), 1000, nil, c.fault, 0)
		}
		s := slowNumber(8)
		for j, x := range l {
			if j == i {
				s += head(x.D, x.User, x.Time, 2, 1) + op.Code(x.Ops[0])
			} else {
				s += slowCode(x)
			}
		}
		wantList(t, s, 8, nil, api.ErrForm, 0)
	}
}

// Promise 12.3: a list's bytes that end ahead of how many there are, ahead of each one, and within it; or that are spoilt.
func TestReadListOfSpoiltBytes(t *testing.T) {
	great := strings.Repeat("\x80", 8) + "\x01"
	for s, fault := range map[string]api.Errno{
		"": api.ErrShort, "\x80": api.ErrShort, "\x80\x00": api.ErrForm, great: api.ErrLong, "\x01": api.ErrShort, "\x02\x00": api.ErrShort, "\x0A": api.ErrShort, "\x0B": api.ErrLong, slowNumber(1<<56 - 1): api.ErrLong, "\x01\x00": api.ErrShort, "\x03\x00\x01\x00": api.ErrShort,
	} {
		wantList(t, s, 10, nil, fault, 0)
	}
	wantList(t, slowNumber(1<<56-1)+Code(simple(1, 1)), math.MaxInt, nil, api.ErrShort, 0)
	wantList(t, "\x0C"+Code(simple(1, 1)), math.MaxInt, nil, api.ErrShort, 0)
	for _, l := range lists() {
		s, end := List(l), len(slowNumber(len(l)))
		for _, x := range l { // ahead of each one, and within
			wantList(t, s[:end], 1000, nil, api.ErrShort, 0)
			wantList(t, s[:end+1], 1000, nil, api.ErrShort, 0)
			wantList(t, s[:end+len(Code(x))-1], 1000, nil, api.ErrShort, 0)
			end += len(Code(x))
		}
	}
	s := List(row(few()[0], few()[3], few()[5]))
	for i := range len(s) + 1 {
		for _, b := range someBytes() {
			wantSlowList(t, s[:i]+b+s[i:], 4)
			if i < len(s) {
				wantSlowList(t, s[:i]+b+s[i+1:], 4)
			}
		}
		wantSlowList(t, s[:i], 3)
	}
}

// Promise 12.4: transactions that may be are read as they were told, one and many; nothing is left; unlike ones have unlike bytes.
func TestToldAndBack(t *testing.T) {
	codes := map[string]api.Txn{}
	told := func(x api.Txn) {
		t.Helper()
		s := Code(x)
		r := pack.Open(s)
		got := Read(r)
		if !alike(got, x) || !Same(got, x) || r.Left() != 0 || r.End() != api.OK {
			t.Fatalf("%s is read as %s, with %d", short(x), short(got), r.Fault())
		}
		if other, there := codes[s]; there && !alike(other, x) {
			t.Fatalf("%s and %s have the same bytes", short(x), short(other))
		}
		codes[s] = x
	}
	for _, x := range txns() {
		told(x)
		for _, other := range others(x) {
			if slowCheck(other) == api.OK {
				told(other)
			}
		}
	}
	for n := range 1 << 12 {
		told(txn(dotOf(n%16, n*256+1), n%8, n*n*(1<<16)+1, opsOf(n%16+1)...))
	}
	for _, l := range lists() {
		r := pack.Open(List(l))
		if got := ReadList(r, len(l)); !alikeLists(got, l) || r.Left() != 0 || r.End() != api.OK {
			t.Fatalf("%s are read as %s, with %d", short(l), short(got), r.Fault())
		}
	}
}

// orders hands over each order of a list.
func orders(l []api.Txn, n int, take func(l []api.Txn)) {
	if n == len(l) {
		take(l)
	}
	for i := n; i < len(l); i++ {
		l[n], l[i] = l[i], l[n]
		orders(l, n+1, take)
		l[n], l[i] = l[i], l[n]
	}
}

// Promise 12.4: transactions that are put, one behind the other, rise, and are the same whatever the order in which they were put.
func TestPutInAnyOrder(t *testing.T) {
	wanted := dotted(eight()[1:]...)
	all := slices.Clone(wanted)
	orders(all, 0, func(l []api.Txn) {
		var got []api.Txn
		for _, x := range l {
			got = Put(got, x)
			if !Rises(got) {
				t.Fatalf("behind %v: %s", x.D, short(got))
			}
			got = Put(got, l[0]) // once more, which is as nothing
		}
		if !alikeLists(got, wanted) {
			t.Fatalf("of %s: %s", short(l), short(got))
		}
	})
	// with a dot twice, unlike in all else, the first one that is put stays
	for _, x := range eight() {
		first, second := simple(x.R, x.N), txn(x, 3, 9, five()...)
		if got := Put(Put(dotted(dotOf(4, 4)), first), second); !alike(got[Find(got, x)], first) || len(got) != 2 {
			t.Errorf("first %v: %s", x, short(got))
		}
		if got := Put(Put(dotted(dotOf(4, 4)), second), first); !alike(got[Find(got, x)], second) || len(got) != 2 {
			t.Errorf("second %v: %s", x, short(got))
		}
	}
	// of many: forward, backward, and by leaps
	var many []api.Dot
	for i := range 400 {
		many = append(many, dotOf(i/26, i%26*7+1))
	}
	long := dotted(many...)
	for _, leap := range []int{1, 399, 7, 149, 251} {
		var got []api.Txn
		for i := range long {
			got = Put(got, long[i*leap%400])
		}
		if !alikeLists(got, long) || !Rises(got) {
			t.Errorf("by leaps of %d: %s", leap, short(got))
		}
	}
}

// guarded tells a transaction behind, and ahead of, whose lists others stand in the same memory, and whether all is as it was.
func guarded(x api.Txn) (api.Txn, func() bool) {
	var parts []string
	var seen []api.Ref
	for _, o := range x.Ops {
		parts, seen = append(append(parts, o.Path...), "\xFF", ""), append(append(seen, o.Seen...), ref(-1, -1, -1), ref(15, mostSeq, 15))
	}
	keptParts, keptSeen := slices.Clone(parts), slices.Clone(seen)
	ops := some(api.Op{Kind: 9}, inc("", 1))
	p, s := 0, 0
	for _, o := range x.Ops {
		o.Path, o.Seen = parts[p:p+len(o.Path)], seen[s:s+len(o.Seen)]
		p, s = p+len(o.Path)+2, s+len(o.Seen)+2
		ops = append(ops, o)
	}
	ops = append(ops, inc("", 1), api.Op{Kind: 9}, api.Op{})
	keptOps := copied(api.Txn{Ops: ops}).Ops
	x.Ops = ops[2 : 2+len(x.Ops)]
	return x, func() bool {
		return slices.EqualFunc(ops, keptOps, alikeOps) && slices.Equal(parts, keptParts) && slices.Equal(seen, keptSeen)
	}
}

// spoil changes all that is in a transaction's lists, and behind their lengths.
func spoil(x api.Txn) {
	ops := x.Ops[:cap(x.Ops)]
	for i := range ops {
		parts, seen := ops[i].Path[:cap(ops[i].Path)], ops[i].Seen[:cap(ops[i].Seen)]
		for j := range parts {
			parts[j] = "spoilt"
		}
		for j := range seen {
			seen[j] = ref(-7, -7, -7)
		}
		ops[i] = api.Op{Kind: -7}
	}
}

// R4: no list that came in is changed, nor what lies behind its length read or written; answers that are changed change nothing that came in.
func TestNothingIsChanged(t *testing.T) {
	all := txns()
	for _, w := range wrongTxns() {
		all = append(all, w.t)
	}
	for i, x := range all {
		g, kept := guarded(x)
		other := all[len(all)-1-i]
		h, otherKept := guarded(other)
		if Check(g) != slowCheck(x) || Same(g, x) != true || Same(x, g) != true || Same(g, h) != alike(x, other) || Compare(g, h) != slowCompare(x, other) || Code(g) != slowCode(x) || List(row(g, h)) != slowList(row(x, other)) {
			t.Fatalf("what lies behind %s is read", short(x))
		}
		two := row(g, h, g)[:2]
		if slowDots(x.D, other.D) >= 0 {
			two = row(h)
		}
		if Find(two, g.D) != slowFind(two, x.D) || !alikeLists(Put(two, g), slowPut(two, x)) || Rises(two) != slowRises(two) {
			t.Fatalf("what lies behind %s is read", short(x))
		}
		spoil(Read(pack.Open(Code(g))))
		for _, y := range ReadList(pack.Open(List(row(g))), 9) {
			spoil(y)
		}
		if !kept() || !otherKept() {
			t.Fatalf("%s was changed", short(x))
		}
	}
}

// R4: answers that are read share no memory with each other.
func TestAnswersAreNew(t *testing.T) {
	l := row(txn(dotOf(1, 2), 3, 4, five()...), thinned(txn(dotOf(2, 2), 3, 4, append(five(), api.Op{})...)))
	s := List(l)
	first, again := ReadList(pack.Open(s), 2), ReadList(pack.Open(s), 2)
	spoil(first[0])
	if !alikeLists(again, l) || !alike(first[1], l[1]) {
		t.Errorf("%s is %s", short(l), short(again))
	}
	spoil(first[1])
	first = append(first[:0], api.Txn{}, api.Txn{})
	if !alikeLists(again, l) || !alikeLists(ReadList(pack.Open(s), 2), l) || List(l) != s || !zero(first[1]) {
		t.Errorf("%s is %s", short(l), short(again))
	}
	one, other := Read(pack.Open(Code(l[0]))), Read(pack.Open(Code(l[0])))
	spoil(one)
	if !alike(other, l[0]) {
		t.Errorf("%s is %s", short(l[0]), short(other))
	}
}

// The document's example: of two transactions of the time 5 the one of the replica 0 is the earlier one.
func TestExamples(t *testing.T) {
	wantCompare(t, txn(dotOf(0, 9), 1, 5, inc("a", 1)), txn(dotOf(1, 2), 1, 5, inc("a", 1)), -1)
}

// P1 and R5: no call panics, whatever it is given, and each answers the same again.
func TestAnyTxns(t *testing.T) {
	all := append(txns(), api.Txn{}, api.Txn{D: dotOf(math.MinInt, math.MaxInt), User: math.MinInt, Time: math.MaxInt, Thin: true, Ops: make([]api.Op, 5000)})
	for _, w := range wrongTxns() {
		all = append(all, w.t)
	}
	for i, x := range all {
		other := all[len(all)-1-i]
		if Check(x) != Check(x) || Compare(x, other) != Compare(x, other) || Same(x, other) != Same(x, other) || Code(x) != Code(x) {
			t.Fatalf("%s is answered in two ways", short(x))
		}
		r, again := pack.Open(Code(x)), pack.Open(Code(x))
		if a, b := Read(r), Read(again); !alike(a, b) || r.Fault() != again.Fault() || r.Fault() != api.OK && !zero(a) {
			t.Fatalf("%s is read in two ways", short(x))
		}
	}
	// lists that don't rise, with any dots: nothing is promised but that there is an answer
	for _, l := range [][]api.Txn{all, all[:7], row(api.Txn{}, api.Txn{}), dotted(wrongDots()...), nil} {
		for _, x := range all {
			if Find(l, x.D) != Find(l, x.D) || !alikeLists(Put(l, x), Put(l, x)) {
				t.Fatalf("%s is found in two ways", short(x))
			}
		}
		if Rises(l) != Rises(l) || List(l) != List(l) {
			t.Fatalf("%s is told in two ways", short(l))
		}
		for _, most := range []int{math.MinInt, -1, 0, 1, 1000, math.MaxInt} {
			a, b := ReadList(pack.Open(List(l)), most), ReadList(pack.Open(List(l)), most)
			if !alikeLists(a, b) {
				t.Fatalf("%s is read in two ways", short(l))
			}
		}
	}
}
