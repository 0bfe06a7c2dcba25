/- What was told is read again: the walks of Many and Text over a reader whose text begins so. -/
import Derived.Test.YtbbehccagdibcaaReader
import Derived.Test.YtbbehccagdibcaaInts
namespace Go.Proofs.Ytbbehccagdibcaa
open Go.RowKit

theorem below_new (w : World) (o : Obj) : Below w.heap.size w (w.alloc o) := (Below.refl _ w).alloc (Nat.le_refl _) o
theorem But.setNew {b : Nat} {A W : World} (h : But b A W) {p : Addr} (hp : A.heap.size ≤ p.block) (v : Value) : But b A (W.setCell p v) := by
  have k := (Below.refl 0 W).setCell (p := p) (Nat.zero_le _) v
  exact ⟨k.os.trans h.os, k.tape.trans h.tape, k.output.trans h.output, Nat.le_trans h.size k.size, fun i hi hb => (Below.heap_setCell W p v i (Nat.ne_of_lt (Nat.lt_of_lt_of_le hi hp))).trans (h.block i hi hb)⟩
theorem But.new {b : Nat} {A W : World} (h : But b A W) (o : Obj) : But b A (W.alloc o) := h.trans (But.of (below_new W o))
theorem Rd.blk {w w' : World} {b : Nat} {l : List UInt8} {f : Nat} (h : Rd w b l f) (hb : w'.heap[b]? = w.heap[b]?) : Rd w' b l f :=
  ⟨(World.cell?_of_block (w := w) hb).trans h.left, (World.cell?_of_block (w := w) hb).trans h.bad, (World.frozen?_of_block (w := w) hb).trans h.free0, (World.frozen?_of_block (w := w) hb).trans h.free1⟩
theorem Rd.on {w w' : World} {b : Nat} {l : List UInt8} {f : Nat} (h : Rd w b l f) (hb : Below w.heap.size w w') : Rd w' b l f := h.below hb h.lt
theorem Rd.new {w : World} {b : Nat} {l : List UInt8} {f : Nat} (h : Rd w b l f) (o : Obj) : Rd (w.alloc o) b l f := h.on (below_new w o)
theorem Rd.setOther {w : World} {b : Nat} {l : List UInt8} {f : Nat} (h : Rd w b l f) {p : Addr} (hp : p.block ≠ b) (v : Value) : Rd (w.setCell p v) b l f := h.blk (Below.heap_setCell w p v b (Ne.symm hp))

set_option maxRecDepth 20000 in
set_option maxHeartbeats 1000000 in
/-- How many there are is read as it was told. -/
theorem many_ok {w : World} {b n : Nat} {rest : List UInt8} (h : Rd w b (Pk.enc n ++ rest) 0) (hl : (Pk.enc n ++ rest).length ≤ maxLen) (hn : n < 72057594037927936) (most : Int) (hm : (n : Int) ≤ most) (hr : n ≤ rest.length) :
    Calls Try.prog 92 #[.pointer (some ⟨b, 0, none⟩), .int .i64 most] w fun e w' => e = .returned (.int .i64 (n : Int)) ∧ Rd w' b rest 0 ∧ But b w w' := by
  have HR : Hid (Rd w b (Pk.enc n ++ rest) 0) := h
  have hlt := h.lt
  obtain ⟨h0, h1, h2, h3⟩ := h
  have HN : Hid (Pk.num (Pk.enc n ++ rest) = (n, rest, 0)) := by have e := Pk.num_enc hn rest; exact e
  generalize Pk.enc n ++ rest = l at *
  have hm' : ¬ most < (n : Int) := by omega
  have hk : ¬ rest.length < n := by omega
  clear hn hm hr
  go_enter Try.func92, Try.ntmps92
  go_wp2_with fail
  refine (fault_rd HR.out).mono ?_
  rintro e w' ⟨rfl, rfl⟩
  go_wp2_with fail
  refine (number_any _ _ (by rw [mk_size]; exact hl)).mono ?_
  rintro e w1 ⟨rfl, hb⟩
  rw [mk_data]
  unfold numV
  rw [HN.out]
  go_wp2_with fail
  refine (take_rd (HR.out.below hb hlt) n rest 0).mono ?_
  rintro e w2 ⟨rfl, hr, hb2⟩
  go_wp2
  go_ret
  exact ⟨rfl, hr, (But.of hb).trans hb2⟩

theorem cut_low (m : List UInt8) (n : Nat) : (⟨m.toArray⟩ : ByteArray).extract 0 n = ⟨(m.take n).toArray⟩ := by
  apply ByteArray.ext
  apply Array.toList_inj.1
  simp [ByteArray.data_extract]
theorem cut_high (m : List UInt8) (n : Nat) : (⟨m.toArray⟩ : ByteArray).extract n m.length = ⟨(m.drop n).toArray⟩ := by
  apply ByteArray.ext
  apply Array.toList_inj.1
  simp only [ByteArray.data_extract, Array.toList_extract, List.extract_eq_take_drop]
  exact List.take_of_length_le (by simp)

set_option maxRecDepth 20000 in
set_option maxHeartbeats 1000000 in
/-- A text that was told is read. -/
theorem text_ok {w : World} {b : Nat} {l rest : List UInt8} (h : Rd w b (Pk.enc l.length ++ (l ++ rest)) 0) (hl : (Pk.enc l.length ++ (l ++ rest)).length ≤ maxLen) (hn : l.length ≤ 120) :
    Calls Try.prog 94 #[.pointer (some ⟨b, 0, none⟩)] w fun e w' => e = .returned (.string ⟨l.toArray⟩) ∧ Rd w' b rest 0 ∧ But b w w' := by
  have hm := many_ok h hl (by omega) 72057594037927936 (by omega) (by simp)
  have hl' : (l ++ rest).length ≤ 9223372036854775807 := by
    rw [List.length_append] at hl
    have : maxLen ≤ 9223372036854775807 := by decide
    omega
  have e1 : (l ++ rest).take l.length = l := by simp
  have e2 : (l ++ rest).drop l.length = rest := by simp
  have hle : l.length ≤ (l ++ rest).length := by simp
  clear h hl
  generalize hM : l ++ rest = m at *
  generalize hN : l.length = n at *
  have E1 : Hid (m.take n = l) := by exact e1
  have E2 : Hid (m.drop n = rest) := by exact e2
  have HN : Hid (l.length = n) := by exact hN
  clear e1 e2 hM hN
  by_cases h0 : n = 0
  · subst h0
    have e3 : l = [] := List.eq_nil_of_length_eq_zero HN.out
    have e4 : m = rest := by have := E2.out; simpa using this
    subst e3 e4
    go_enter Try.func94, Try.ntmps94
    go_wp2_with fail
    refine hm.mono ?_
    rintro e w1 ⟨rfl, hr, hb⟩
    go_wp2
    go_ret
    exact ⟨rfl, hr, hb⟩
  · have hn' : ((n : Int) == 0) = false := beq_eq_false_iff_ne.2 (by omega)
    go_enter Try.func94, Try.ntmps94
    go_wp2_with fail
    refine hm.mono ?_
    rintro e w1 ⟨rfl, hr, hb⟩
    have HR : Hid (Rd w1 b m 0) := hr
    obtain ⟨h0, h1, h2, h3⟩ := hr
    go_wp2
    go_ret
    rw [cut_high]
    have R := HR.out.setLeft (m.drop n)
    rw [E2.out] at R ⊢
    refine ⟨congrArg (fun z : ByteArray => Ending.returned (.string z)) ?_, R.1, hb.trans R.2⟩
    have := cut_low m n
    rw [E1.out] at this
    exact this

/-! ### A row of one's own beside a reader -/
theorem own_but {w w' : World} {B s n g : Nat} {e : TypeId} {v : Value} {xs : List Value} (h : w.ownsRow B e s v n xs) (hb : But g w w') (hg : g < B) : w'.ownsRow B e s v n xs := by
  refine ⟨h.1, ?_⟩
  rcases h.2 with hn | ⟨q, cap, cur, hv, hbq, hq, r⟩
  · exact Or.inl hn
  · exact Or.inr ⟨q, cap, cur, hv, hbq, (hb.block q (Array.getElem?_eq_some_iff.1 hq).1 (by omega)).trans hq, r⟩
theorem But.grown {b : Nat} {A W W' : World} {row : Option Nat} (h : But b A W) (hg : W.grownBy W' row) (hr : ∀ g, row = some g → A.heap.size ≤ g) : But b A W' :=
  ⟨hg.os.trans h.os, hg.tape.trans h.tape, hg.output.trans h.output, Nat.le_trans h.size hg.size, fun k hk hne => (hg.block k (Nat.lt_of_lt_of_le hk h.size) (fun e => by have := hr k e.symm; omega)).trans (h.block k hk hne)⟩
theorem Rd.grown {w w' : World} {b : Nat} {l : List UInt8} {f : Nat} {row : Option Nat} (h : Rd w b l f) (hg : w.grownBy w' row) (hne : some b ≠ row) : Rd w' b l f := h.blk (hg.block b h.lt hne)

end Go.Proofs.Ytbbehccagdibcaa
