/- What the functions of an operation answer, said of the operation as one thing · The walks of Same over items that are the same: the statement's (of the program's and the document's), and the program's own · What clear does to a row of transactions, and to one of items. -/
import Derived.Test.YtmnehekcealjhaaGreatTxnsAll
import Derived.Test.YtmnehekcealjhaaGreatCoversAll
import Derived.Test.YtmnehekcealjhaaGreatRefCheck
import Derived.Test.YtmnehekcealjhaaGreatEx
import Derived.Test.YtmnehekcealjhaaGreatRwsAll
/- What the functions of an operation answer, said of the operation as one thing. -/
namespace Go.Proofs.YtmnehekcealjhaaGreat.O
open Go.RowKit

/-- Few, and short ones. -/
def tshort (t : Tx.Txn) : Bool := decide (t.ops.length ≤ 20) && t.ops.all Os.short
theorem short_parts {o : Os.Op} (h : Os.short o = true) : (o.p.length ≤ 12 ∧ ∀ x ∈ o.p, x.length ≤ 120) ∧ o.vs.length ≤ 200 ∧ o.l.length ≤ 300 := by
  have h1 : (Pt.short o.p = true ∧ o.vs.length ≤ 200) ∧ o.l.length ≤ 300 := by simpa [Os.short] using h
  exact ⟨Pt.short_iff h1.1.1, h1.1.2, h1.2⟩
theorem tshort_parts {t : Tx.Txn} (h : tshort t = true) : t.ops.length ≤ 20 ∧ ∀ o ∈ t.ops, Os.short o = true := by
  simpa [tshort] using h
section
variable (o : Os.Op) (pv sv : Value) (w : World)
theorem oshort (hw : opWide o) (hp : U.strsAt w pv o.p) (hs : refsIn w sv o.l) : Calls Tryz.prog 67 #[oV o pv sv] w fun e w' => e = .returned (.bool (Os.short o)) ∧ Below w.heap.size w w' :=
  refShort_any o.k pv o.vk o.vn o.vs o.n sv o.p o.l w hw.1 hw.2 hp hs
theorem orcheck (h : Os.short o = true) (hp : U.strsAt w pv o.p) (hs : refsIn w sv o.l) : Calls Tryz.prog 69 #[oV o pv sv] w fun e w' => e = .returned (.int .i64 (Os.check o : Nat)) ∧ Below w.heap.size w w' :=
  refCheck_any o.k pv o.vk o.vn o.vs o.n sv o.p o.l w (by have := short_parts h; omega) (fun x hx => by have := (short_parts h).1.2 x hx; omega) (by have := short_parts h; omega) (by have := short_parts h; omega) hp hs
theorem orgone (hp : U.strsAt w pv o.p) (hs : refsIn w sv o.l) : Calls Tryz.prog 70 #[oV o pv sv] w fun e w' => e = .returned (.bool (Os.gone o)) ∧ Below w.heap.size w w' :=
  refGone_any o.k pv o.vk o.vn o.vs o.n sv o.p o.l w hp hs
variable (o' : Os.Op) (pv' sv' : Value)
end
end Go.Proofs.YtmnehekcealjhaaGreat.O
/- The walks of Same over items that are the same: the statement's (of the program's and the document's), and the program's own. -/
namespace Go.Proofs.YtmnehekcealjhaaGreat.O
open Go.RowKit

/-- Their operations are short. -/
def ShortI (xs : List IE) : Prop := ∀ x ∈ xs, Os.short x.1.o = true
theorem items_at {xs ys : List IE} (h : xs.map (·.1) = ys.map (·.1)) {k : Nat} (hx : k < xs.length) (hy : k < ys.length) : ys[k].1 = xs[k].1 := by
  have e := congrArg (fun l => l[k]?) h
  simp only [List.getElem?_map, List.getElem?_eq_getElem hx, List.getElem?_eq_getElem hy, Option.map_some, Option.some.injEq] at e
  exact e.symm

end Go.Proofs.YtmnehekcealjhaaGreat.O
/- What clear does to a row of transactions, and to one of items. -/
namespace Go.Proofs.YtmnehekcealjhaaGreat.O
open Go.RowKit

abbrev tzero : Array Value := #[.int .i64 0, .int .i64 0, .int .i64 0, .int .i64 0, .bool false, .slice none 0 0]
theorem tclears {w : World} {g : Nat} {cur : List TE} (h : OwnR w g tcell 6 cur) (i n : Nat) (hi : i < n) (hn : cur.length = n) (c : Nat) (ty : TypeId) : (Builtin.clear_ #[22] ty #[.slice (some ⟨g, i * 6, none⟩) (n - i) c]).run Tryz.prog w = .ok (.tuple #[]) (w.setCells g (i * 6) (Builtin.zeroCells tzero (n - i)).toList) := by
  have hst := OwnR.clears (P := Tryz.prog) (m := 6) tzero rfl (Nat.succ_pos 5) (by decide) h i (n - i) (by omega)
  obtain ⟨m, hm⟩ : ∃ m, n - i = m + 1 := ⟨n - i - 1, by omega⟩
  rw [hm] at hst ⊢
  simp [Builtin.clear_, run_underlying Tryz.underlying22, hst, Value.cells, Result.andThen]
abbrev izero : Array Value := #[.int .i64 0, .int .i64 0, .int .i64 0, .int .i64 0, .slice none 0 0, .int .i64 0, .int .i64 0, .string ⟨#[]⟩, .int .i64 0, .slice none 0 0, .int .i64 0]
theorem iclears {w : World} {g : Nat} {cur : List IE} (h : OwnR w g icell 11 cur) (i n : Nat) (hi : i < n) (hn : cur.length = n) (c : Nat) (ty : TypeId) : (Builtin.clear_ #[28] ty #[.slice (some ⟨g, i * 11, none⟩) (n - i) c]).run Tryz.prog w = .ok (.tuple #[]) (w.setCells g (i * 11) (Builtin.zeroCells izero (n - i)).toList) := by
  have hst := OwnR.clears (P := Tryz.prog) (m := 11) izero rfl (Nat.succ_pos 10) (by decide) h i (n - i) (by omega)
  obtain ⟨m, hm⟩ : ∃ m, n - i = m + 1 := ⟨n - i - 1, by omega⟩
  rw [hm] at hst ⊢
  simp [Builtin.clear_, run_underlying Tryz.underlying28, hst, Value.cells, Result.andThen]
end Go.Proofs.YtmnehekcealjhaaGreat.O
