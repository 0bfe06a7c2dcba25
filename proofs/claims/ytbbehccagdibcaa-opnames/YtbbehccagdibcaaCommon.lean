/- Small laws on worlds that all texts of this seat share. -/
import Derived.Test.YtbbehccagdibcaaRead
import Derived.Deep.RegionHeld3
namespace Go.Proofs.Ytbbehccagdibcaa
open Go.RowKit
theorem bchain {a b c : World} (h : Below a.heap.size a b) (k : Below b.heap.size b c) : Below a.heap.size a c := h.trans (k.mono h.size)
theorem below_new2 (w : World) (o p : Obj) : Below w.heap.size w ((w.alloc o).alloc p) := bchain (below_new w o) (below_new _ p)
theorem below_new3 (w : World) (o p q : Obj) : Below w.heap.size w (((w.alloc o).alloc p).alloc q) := bchain (below_new2 w o p) (below_new _ q)
/-- What a cell holds, it holds behind a call that leaves all that was there. -/
theorem keep_cell {W w1 : World} {a : Addr} {v : Value} (hb : Below W.heap.size W w1) (h : W.cell? a = some v) : w1.cell? a = some v := (hb.cell (World.block_lt_of_cell? W a h)).trans h
theorem cat_lists (a b : List UInt8) : (⟨a.toArray⟩ : ByteArray) ++ ⟨b.toArray⟩ = ⟨(a ++ b).toArray⟩ := by apply ByteArray.ext; simp
theorem add_lists {x y : List UInt8} (h : ¬ 9223372036854775807 < x.length + y.length) (w : World) : (binOp .add 9 (.string ⟨x.toArray⟩) (.string ⟨y.toArray⟩)).run Try.prog w = .ok (.string ⟨(x ++ y).toArray⟩) w := by
  go_simp
  rw [cat_lists]
theorem stored2 {W : World} {b : Nat} {x0 y0 : Value} (h0 : W.cell? ⟨b, 0, none⟩ = some x0) (h1 : W.cell? ⟨b, 1, none⟩ = some y0) (x y : Value) :
    ((W.setCell ⟨b, 0, none⟩ x).setCell ⟨b, 1, none⟩ y).cell? ⟨b, 0, none⟩ = some x ∧ ((W.setCell ⟨b, 0, none⟩ x).setCell ⟨b, 1, none⟩ y).cell? ⟨b, 1, none⟩ = some y :=
  ⟨(World.cell?_setCell_other _ _ _ _ (by simp)).trans (World.cell?_setCell_same _ _ _ h0), World.cell?_setCell_same _ _ _ ((World.cell?_setCell_other _ _ _ _ (by simp)).trans h1)⟩
/-- A number that was told is read. -/
theorem int_ok {w : World} {b n : Nat} {rest : List UInt8} (h : Rd w b (Pk.enc n ++ rest) 0) (hl : (Pk.enc n ++ rest).length ≤ maxLen) (hn : n < 72057594037927936) :
    Calls Try.prog 57 #[.pointer (some ⟨b, 0, none⟩)] w fun e w' => e = .returned (.int .i64 (n : Int)) ∧ Rd w' b rest 0 ∧ But b w w' := by
  have hk := int_rd h hl
  have e : rdInt (Pk.enc n ++ rest) 0 = (n, rest, 0) := by
    rw [show rdInt (Pk.enc n ++ rest) 0 = took (Pk.enc n ++ rest) (Pk.num (Pk.enc n ++ rest)).1 (Pk.num (Pk.enc n ++ rest)).2.1 (Pk.num (Pk.enc n ++ rest)).2.2 from rfl, Pk.num_enc hn]
    rfl
  rw [e] at hk
  exact hk
end Go.Proofs.Ytbbehccagdibcaa
