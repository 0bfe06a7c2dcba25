/- An operation that may be, or nothing that is left of one, is read as it was told: the walk of Read over a reader whose text begins so. -/
import Derived.Test.YtghkjbekjkejpaaGreatReadRefs
import Derived.Test.YtghkjbekjkejpaaGreatReadPath
import Derived.Test.YtghkjbekjkejpaaGreatReadV
import Derived.Test.YtghkjbekjkejpaaGreatCodeOp
namespace Go.Proofs.YtghkjbekjkejpaaGreat.O
open Go.RowKit

/-- An operation in a variable that may be written. -/
structure VO (w : World) (b : Nat) (k : Int) (pv : Value) (vk vn : Int) (vs : List UInt8) (n : Int) (sv : Value) : Prop where
  o : OAt w b k pv vk vn vs n sv
  f0 : w.frozen? ⟨b, 0, none⟩ = false
  f1 : w.frozen? ⟨b, 1, none⟩ = false
  f2 : w.frozen? ⟨b, 2, none⟩ = false
  f3 : w.frozen? ⟨b, 3, none⟩ = false
  f4 : w.frozen? ⟨b, 4, none⟩ = false
  f5 : w.frozen? ⟨b, 5, none⟩ = false
  f6 : w.frozen? ⟨b, 6, none⟩ = false
section
variable {w w' : World} {b : Nat} {k : Int} {pv : Value} {vk vn : Int} {vs : List UInt8} {n : Int} {sv : Value}
theorem VO.new (w : World) (k : Int) (pv : Value) (vk vn : Int) (vs : List UInt8) (n : Int) (sv : Value) : VO (w.alloc (opO k pv vk vn vs n sv)) w.heap.size k pv vk vn vs n sv := ⟨OAt.new w k pv vk vn vs n sv, by simp, by simp, by simp, by simp, by simp, by simp, by simp⟩
theorem VO.lt (h : VO w b k pv vk vn vs n sv) : b < w.heap.size := h.o.lt
theorem VO.blk (h : VO w b k pv vk vn vs n sv) (hb : w'.heap[b]? = w.heap[b]?) : VO w' b k pv vk vn vs n sv :=
  ⟨h.o.blk hb, (World.frozen?_of_block (w := w) hb).trans h.f0, (World.frozen?_of_block (w := w) hb).trans h.f1, (World.frozen?_of_block (w := w) hb).trans h.f2, (World.frozen?_of_block (w := w) hb).trans h.f3, (World.frozen?_of_block (w := w) hb).trans h.f4, (World.frozen?_of_block (w := w) hb).trans h.f5, (World.frozen?_of_block (w := w) hb).trans h.f6⟩
theorem VO.on (h : VO w b k pv vk vn vs n sv) (hb : Below w.heap.size w w') : VO w' b k pv vk vn vs n sv := h.blk (hb.block b h.lt)
theorem VO.but {g : Nat} (h : VO w b k pv vk vn vs n sv) (hb : But g w w') (hg : b ≠ g) : VO w' b k pv vk vn vs n sv := h.blk (hb.block b h.lt hg)
theorem VO.setOther (h : VO w b k pv vk vn vs n sv) {p : Addr} (hp : p.block ≠ b) (v : Value) : VO (w.setCell p v) b k pv vk vn vs n sv := h.blk (Below.heap_setCell w p v b (Ne.symm hp))
theorem VO.setK (h : VO w b k pv vk vn vs n sv) (k' : Int) : VO (w.setCell ⟨b, 0, none⟩ (.int .i64 k')) b k' pv vk vn vs n sv := ⟨⟨World.cell?_setCell_same _ _ _ h.o.c0, (World.cell?_setCell_other _ _ _ _ (by simp)).trans h.o.c1, (World.cell?_setCell_other _ _ _ _ (by simp)).trans h.o.c2, (World.cell?_setCell_other _ _ _ _ (by simp)).trans h.o.c3, (World.cell?_setCell_other _ _ _ _ (by simp)).trans h.o.c4, (World.cell?_setCell_other _ _ _ _ (by simp)).trans h.o.c5, (World.cell?_setCell_other _ _ _ _ (by simp)).trans h.o.c6⟩, by simp [h.f0], by simp [h.f1], by simp [h.f2], by simp [h.f3], by simp [h.f4], by simp [h.f5], by simp [h.f6]⟩
theorem VO.setP (h : VO w b k pv vk vn vs n sv) (pv' : Value) : VO (w.setCell ⟨b, 1, none⟩ (pv')) b k pv' vk vn vs n sv := ⟨⟨(World.cell?_setCell_other _ _ _ _ (by simp)).trans h.o.c0, World.cell?_setCell_same _ _ _ h.o.c1, (World.cell?_setCell_other _ _ _ _ (by simp)).trans h.o.c2, (World.cell?_setCell_other _ _ _ _ (by simp)).trans h.o.c3, (World.cell?_setCell_other _ _ _ _ (by simp)).trans h.o.c4, (World.cell?_setCell_other _ _ _ _ (by simp)).trans h.o.c5, (World.cell?_setCell_other _ _ _ _ (by simp)).trans h.o.c6⟩, by simp [h.f0], by simp [h.f1], by simp [h.f2], by simp [h.f3], by simp [h.f4], by simp [h.f5], by simp [h.f6]⟩
theorem VO.setVk (h : VO w b k pv vk vn vs n sv) (vk' : Int) : VO (w.setCell ⟨b, 2, none⟩ (.int .i64 vk')) b k pv vk' vn vs n sv := ⟨⟨(World.cell?_setCell_other _ _ _ _ (by simp)).trans h.o.c0, (World.cell?_setCell_other _ _ _ _ (by simp)).trans h.o.c1, World.cell?_setCell_same _ _ _ h.o.c2, (World.cell?_setCell_other _ _ _ _ (by simp)).trans h.o.c3, (World.cell?_setCell_other _ _ _ _ (by simp)).trans h.o.c4, (World.cell?_setCell_other _ _ _ _ (by simp)).trans h.o.c5, (World.cell?_setCell_other _ _ _ _ (by simp)).trans h.o.c6⟩, by simp [h.f0], by simp [h.f1], by simp [h.f2], by simp [h.f3], by simp [h.f4], by simp [h.f5], by simp [h.f6]⟩
theorem VO.setVn (h : VO w b k pv vk vn vs n sv) (vn' : Int) : VO (w.setCell ⟨b, 3, none⟩ (.int .i64 vn')) b k pv vk vn' vs n sv := ⟨⟨(World.cell?_setCell_other _ _ _ _ (by simp)).trans h.o.c0, (World.cell?_setCell_other _ _ _ _ (by simp)).trans h.o.c1, (World.cell?_setCell_other _ _ _ _ (by simp)).trans h.o.c2, World.cell?_setCell_same _ _ _ h.o.c3, (World.cell?_setCell_other _ _ _ _ (by simp)).trans h.o.c4, (World.cell?_setCell_other _ _ _ _ (by simp)).trans h.o.c5, (World.cell?_setCell_other _ _ _ _ (by simp)).trans h.o.c6⟩, by simp [h.f0], by simp [h.f1], by simp [h.f2], by simp [h.f3], by simp [h.f4], by simp [h.f5], by simp [h.f6]⟩
theorem VO.setVs (h : VO w b k pv vk vn vs n sv) (vs' : List UInt8) : VO (w.setCell ⟨b, 4, none⟩ (.string ⟨vs'.toArray⟩)) b k pv vk vn vs' n sv := ⟨⟨(World.cell?_setCell_other _ _ _ _ (by simp)).trans h.o.c0, (World.cell?_setCell_other _ _ _ _ (by simp)).trans h.o.c1, (World.cell?_setCell_other _ _ _ _ (by simp)).trans h.o.c2, (World.cell?_setCell_other _ _ _ _ (by simp)).trans h.o.c3, World.cell?_setCell_same _ _ _ h.o.c4, (World.cell?_setCell_other _ _ _ _ (by simp)).trans h.o.c5, (World.cell?_setCell_other _ _ _ _ (by simp)).trans h.o.c6⟩, by simp [h.f0], by simp [h.f1], by simp [h.f2], by simp [h.f3], by simp [h.f4], by simp [h.f5], by simp [h.f6]⟩
theorem VO.setN (h : VO w b k pv vk vn vs n sv) (n' : Int) : VO (w.setCell ⟨b, 5, none⟩ (.int .i64 n')) b k pv vk vn vs n' sv := ⟨⟨(World.cell?_setCell_other _ _ _ _ (by simp)).trans h.o.c0, (World.cell?_setCell_other _ _ _ _ (by simp)).trans h.o.c1, (World.cell?_setCell_other _ _ _ _ (by simp)).trans h.o.c2, (World.cell?_setCell_other _ _ _ _ (by simp)).trans h.o.c3, (World.cell?_setCell_other _ _ _ _ (by simp)).trans h.o.c4, World.cell?_setCell_same _ _ _ h.o.c5, (World.cell?_setCell_other _ _ _ _ (by simp)).trans h.o.c6⟩, by simp [h.f0], by simp [h.f1], by simp [h.f2], by simp [h.f3], by simp [h.f4], by simp [h.f5], by simp [h.f6]⟩
theorem VO.setS (h : VO w b k pv vk vn vs n sv) (sv' : Value) : VO (w.setCell ⟨b, 6, none⟩ (sv')) b k pv vk vn vs n sv' := ⟨⟨(World.cell?_setCell_other _ _ _ _ (by simp)).trans h.o.c0, (World.cell?_setCell_other _ _ _ _ (by simp)).trans h.o.c1, (World.cell?_setCell_other _ _ _ _ (by simp)).trans h.o.c2, (World.cell?_setCell_other _ _ _ _ (by simp)).trans h.o.c3, (World.cell?_setCell_other _ _ _ _ (by simp)).trans h.o.c4, (World.cell?_setCell_other _ _ _ _ (by simp)).trans h.o.c5, World.cell?_setCell_same _ _ _ h.o.c6⟩, by simp [h.f0], by simp [h.f1], by simp [h.f2], by simp [h.f3], by simp [h.f4], by simp [h.f5], by simp [h.f6]⟩
end
/-- What stands while an operation is read: its variable, the result's, the reader; what was there. -/
structure RS (w : World) (b q : Nat) (k : Int) (pv : Value) (vk vn : Int) (vs : List UInt8) (n : Int) (sv : Value) (m : List UInt8) (W : World) : Prop where
  v : VO W q k pv vk vn vs n sv
  z : VO W w.heap.size 0 (.slice none 0 0) 0 0 [] 0 (.slice none 0 0)
  rd : Rd W b m 0
  but : But b w W
  hq : w.heap.size < q
  hb : b < w.heap.size
section
variable {w W W' : World} {b q : Nat} {k : Int} {pv : Value} {vk vn : Int} {vs : List UInt8} {n : Int} {sv : Value} {m m' : List UInt8}
theorem RS.step (h : RS w b q k pv vk vn vs n sv m W) (hr : Rd W' b m' 0) (hb : But b W W') : RS w b q k pv vk vn vs n sv m' W' :=
  ⟨h.v.but hb (by have := h.hq; have := h.hb; omega), h.z.but hb (by have := h.hb; omega), hr, h.but.trans hb, h.hq, h.hb⟩
theorem RS.on (h : RS w b q k pv vk vn vs n sv m W) (hb : Below W.heap.size W W') : RS w b q k pv vk vn vs n sv m W' := ⟨h.v.on hb, h.z.on hb, h.rd.on hb, h.but.trans (But.of hb), h.hq, h.hb⟩
theorem RS.setP (h : RS w b q k pv vk vn vs n sv m W) (x : Value) : RS w b q k x vk vn vs n sv m (W.setCell ⟨q, 1, none⟩ x) :=
  ⟨h.v.setP x, h.z.setOther (by show q ≠ w.heap.size; have := h.hq; omega) _, h.rd.setOther (by show q ≠ b; have := h.hq; have := h.hb; omega) _, h.but.setNew (by show w.heap.size ≤ q; have := h.hq; omega) _, h.hq, h.hb⟩
theorem RS.setV (h : RS w b q k pv vk vn vs n sv m W) (xk xn : Int) (xs : List UInt8) : RS w b q k pv xk xn xs n sv m (((W.setCell ⟨q, 2, none⟩ (.int .i64 xk)).setCell ⟨q, 3, none⟩ (.int .i64 xn)).setCell ⟨q, 4, none⟩ (.string ⟨xs.toArray⟩)) :=
  ⟨((h.v.setVk xk).setVn xn).setVs xs, ((h.z.setOther (by show q ≠ w.heap.size; have := h.hq; omega) _).setOther (by show q ≠ w.heap.size; have := h.hq; omega) _).setOther (by show q ≠ w.heap.size; have := h.hq; omega) _,
    ((h.rd.setOther (by show q ≠ b; have := h.hq; have := h.hb; omega) _).setOther (by show q ≠ b; have := h.hq; have := h.hb; omega) _).setOther (by show q ≠ b; have := h.hq; have := h.hb; omega) _,
    ((h.but.setNew (by show w.heap.size ≤ q; have := h.hq; omega) _).setNew (by show w.heap.size ≤ q; have := h.hq; omega) _).setNew (by show w.heap.size ≤ q; have := h.hq; omega) _, h.hq, h.hb⟩
theorem RS.setN (h : RS w b q k pv vk vn vs n sv m W) (x : Int) : RS w b q k pv vk vn vs x sv m (W.setCell ⟨q, 5, none⟩ (.int .i64 x)) :=
  ⟨h.v.setN x, h.z.setOther (by show q ≠ w.heap.size; have := h.hq; omega) _, h.rd.setOther (by show q ≠ b; have := h.hq; have := h.hb; omega) _, h.but.setNew (by show w.heap.size ≤ q; have := h.hq; omega) _, h.hq, h.hb⟩
theorem RS.setS (h : RS w b q k pv vk vn vs n sv m W) (x : Value) : RS w b q k pv vk vn vs n x m (W.setCell ⟨q, 6, none⟩ x) :=
  ⟨h.v.setS x, h.z.setOther (by show q ≠ w.heap.size; have := h.hq; omega) _, h.rd.setOther (by show q ≠ b; have := h.hq; have := h.hb; omega) _, h.but.setNew (by show w.heap.size ≤ q; have := h.hq; omega) _, h.hq, h.hb⟩
/-- The result is stored. -/
theorem RS.result (h : RS w b q k pv vk vn vs n sv m W) (k' : Int) (pv' : Value) (vk' vn' : Int) (vs' : List UInt8) (n' : Int) (sv' : Value) {X : World}
    (hX : X = (((((((W.setCell ⟨w.heap.size, 0, none⟩ (.int .i64 k')).setCell ⟨w.heap.size, 1, none⟩ pv').setCell ⟨w.heap.size, 2, none⟩ (.int .i64 vk')).setCell ⟨w.heap.size, 3, none⟩ (.int .i64 vn')).setCell ⟨w.heap.size, 4, none⟩ (.string ⟨vs'.toArray⟩)).setCell ⟨w.heap.size, 5, none⟩ (.int .i64 n')).setCell ⟨w.heap.size, 6, none⟩ sv')) :
    VO X w.heap.size k' pv' vk' vn' vs' n' sv' ∧ Rd X b m 0 ∧ But b w X := by
  subst hX
  have hne : w.heap.size ≠ b := by have := h.hb; omega
  refine ⟨((((((h.z.setK k').setP pv').setVk vk').setVn vn').setVs vs').setN n').setS sv', ?_, ?_⟩
  · exact ((((((h.rd.setOther (p := ⟨w.heap.size, 0, none⟩) hne _).setOther (p := ⟨w.heap.size, 1, none⟩) hne _).setOther (p := ⟨w.heap.size, 2, none⟩) hne _).setOther (p := ⟨w.heap.size, 3, none⟩) hne _).setOther (p := ⟨w.heap.size, 4, none⟩) hne _).setOther (p := ⟨w.heap.size, 5, none⟩) hne _).setOther (p := ⟨w.heap.size, 6, none⟩) hne _
  · exact ((((((h.but.setNew (p := ⟨w.heap.size, 0, none⟩) (Nat.le_refl _) _).setNew (p := ⟨w.heap.size, 1, none⟩) (Nat.le_refl _) _).setNew (p := ⟨w.heap.size, 2, none⟩) (Nat.le_refl _) _).setNew (p := ⟨w.heap.size, 3, none⟩) (Nat.le_refl _) _).setNew (p := ⟨w.heap.size, 4, none⟩) (Nat.le_refl _) _).setNew (p := ⟨w.heap.size, 5, none⟩) (Nat.le_refl _) _).setNew (p := ⟨w.heap.size, 6, none⟩) (Nat.le_refl _) _
end
/-- A row of one's own, while the result's cells are written. -/
theorem own_set7 {w : World} {B s n g : Nat} {e : TypeId} {v : Value} {xs : List Value} (h : w.ownsRow B e s v n xs) (hg : g < B) (x0 x1 x2 x3 x4 x5 x6 : Value) :
    (((((((w.setCell ⟨g, 0, none⟩ x0).setCell ⟨g, 1, none⟩ x1).setCell ⟨g, 2, none⟩ x2).setCell ⟨g, 3, none⟩ x3).setCell ⟨g, 4, none⟩ x4).setCell ⟨g, 5, none⟩ x5).setCell ⟨g, 6, none⟩ x6).ownsRow B e s v n xs := by
  have hne : v.ownBlock ≠ some g := fun q => by have := (h.lt g q).1; omega
  exact own_set (own_set (own_set (own_set (own_set (own_set (own_set h hne x0) hne x1) hne x2) hne x3) hne x4) hne x5) hne x6
theorem own_low {w : World} {B s n g j : Nat} {e : TypeId} {v : Value} {xs : List Value} (h : w.ownsRow B e s v n xs) (hg : g < B) (x : Value) : (w.setCell ⟨g, j, none⟩ x).ownsRow B e s v n xs :=
  own_set h (fun q => by have := (h.lt g q).1; omega) x

set_option maxRecDepth 20000 in
set_option maxHeartbeats 4000000 in
theorem read_1 {w : World} {b : Nat} (vk vn : Int) (vs : List UInt8) (l : List U) (p : List (List UInt8)) (rest : List UInt8) (hc : Os.check ⟨1, p, vk, vn, vs, 0, l⟩ = 0) (hrest : rest.length ≤ 100000000) (h : Rd w b (Os.code ⟨1, p, vk, vn, vs, 0, l⟩ ++ rest) 0) :
    Calls Tryz.prog 66 #[.pointer (some ⟨b, 0, none⟩)] w fun e w' => ∃ pv sv, e = .returned (opV 1 pv vk vn vs 0 sv) ∧ w'.ownsRow w.heap.size 9 1 pv (p : List (List UInt8)).length (U.cellsS p) ∧ w'.ownsRow w.heap.size 94 3 sv (l : List U).length (ucells l) ∧ Rd w' b rest 0 ∧ But b w w' := by
  obtain ⟨-, -, h3, h4, h5, h6, h7, h8⟩ := Os.check_zero hc
  have hf : U.Few p := path_few h3
  have hu : Os.Ups l := Os.ups_iff.1 h8
  have hpl : p.length ≤ 12 := hf.1
  have hll : (l : List U).length ≤ 256 := h7
  have hbw := h.lt
  have hr : Vl.Right vk vn vs := by
    have h : Os.rv ⟨1, p, vk, vn, vs, 0, l⟩ = Vl.right vk vn vs := by unfold Os.rv; rw [if_pos (by show Os.hv 1 = true; decide)]
    exact Vl.right_iff.1 (h.symm.trans h4)
  have l3 := vcode_len hr
  have l4 := lcode_len hu.1 (Nat.le_trans hll (by decide))
  have hcode : Os.code ⟨1, p, vk, vn, vs, 0, l⟩ ++ rest = Pk.enc 1 ++ (Pt.code p ++ (Vl.code vk vn vs ++ (Os.lcode l ++ rest))) := by
    have h : Os.code ⟨1, p, vk, vn, vs, 0, l⟩ = Pk.enc 1 ++ (Pt.code p ++ Os.tail ⟨1, p, vk, vn, vs, 0, l⟩) := by
      unfold Os.code
      rw [if_neg (by rw [gone_no (by decide)]; decide)]
      rfl
    rw [h]
    have ht : Os.tail ⟨1, p, vk, vn, vs, 0, l⟩ = Vl.code vk vn vs ++ Os.lcode l := by
      show Vl.code vk vn vs ++ ([] ++ Os.lcode l) = _
      simp only [List.nil_append]
    rw [ht]
    simp only [List.append_assoc]
  rw [hcode] at h
  have l2 := hf.code
  have lk : (Pk.enc 1).length ≤ 9 := Pk.enc_len9 (by decide)
  have hmx : (200000000 : Nat) ≤ maxLen := by decide
  have CI : Calls Tryz.prog 38 #[.pointer (some ⟨b, 0, none⟩)] (w.alloc (opO 0 (.slice none 0 0) 0 0 [] 0 (.slice none 0 0))) fun e w' => e = .returned (.int .i64 1) ∧ Rd w' b (Pt.code p ++ (Vl.code vk vn vs ++ (Os.lcode l ++ rest))) 0 ∧ But b (w.alloc (opO 0 (.slice none 0 0) 0 0 [] 0 (.slice none 0 0))) w' := int_ok (n := 1) (h.new _) (by simp only [List.length_append]; omega) (by decide)
  have C17 := fun W => gone_any 1 (.slice none 0 0) 0 0 [] 0 (.slice none 0 0) [] [] W (by simp) (by simp) (U.strsAt_nil _) (refsIn_nil _)
  rw [show Os.gone ⟨1, [], 0, 0, [], 0, []⟩ = false from gone_no (by decide)] at C17
  have CP := fun W (hW : Rd W b (Pt.code p ++ (Vl.code vk vn vs ++ (Os.lcode l ++ rest))) 0) => U.read_ok (xs := p) (rest := Vl.code vk vn vs ++ (Os.lcode l ++ rest)) h3 hf (by simp only [List.length_append]; omega) hW
  have CV := fun W (hW : Rd W b (Vl.code vk vn vs ++ (Os.lcode l ++ rest)) 0) => V.read_ok hr hW (by simp only [List.length_append]; omega)
  have CR := fun W (hW : Rd W b (Os.lcode l ++ rest) 0) => readRefs_ok hW (by omega) hll hu.1
  have C47 := fun w => hv_any 1 w
  have C49 := fun w => ha_any 1 w
  have C36 := fun w => hs_any 1 w
  rw [show Os.hv 1 = true by decide] at C47
  rw [show Os.ha 1 = false by decide] at C49
  rw [show Os.hs 1 = true by decide] at C36
  have Z := VO.new w 0 (.slice none 0 0) 0 0 [] 0 (.slice none 0 0)
  have hB0 := (But.refl b w).new (opO 0 (.slice none 0 0) 0 0 [] 0 (.slice none 0 0))
  clear h hcode hrest l2 lk hmx h4 h5 h6 h7 h8 l3 l4 hr
  generalize Os.lcode l ++ rest = m2 at *
  generalize Vl.code vk vn vs ++ m2 = m1 at *
  generalize Pt.code p ++ m1 = m0 at *
  go_enter Tryz.func66, Tryz.ntmps66
  go_wp2_with fail
  refine CI.mono ?_
  rintro e w1 ⟨rfl, hr1, hb1⟩
  have hs1 := hb1.size
  have hq : w.heap.size < w1.heap.size := by simp at hs1; omega
  have S1 : RS w b w1.heap.size 1 (.slice none 0 0) 0 0 [] 0 (.slice none 0 0) m0 (w1.alloc (opO 1 (.slice none 0 0) 0 0 [] 0 (.slice none 0 0))) :=
    ⟨VO.new w1 1 (.slice none 0 0) 0 0 [] 0 (.slice none 0 0), (Z.but hb1 (by omega)).on (below_new _ _), hr1.new _, (hB0.trans hb1).new _, hq, hbw⟩
  clear hr1 Z hB0 CI
  go_wp2_with fail
  refine (C17 _).mono ?_
  rintro e w2 ⟨rfl, hb2⟩
  have S2 := S1.on hb2
  have q2 : w1.heap.size < w2.heap.size := S2.v.lt
  go_wp2_with fail
  refine (CP _ S2.rd).mono ?_
  rintro e w3 ⟨pu, rfl, hP3, hr3, hb3⟩
  have S3 := S2.step hr3 hb3
  obtain ⟨pao, pn, pca, rfl⟩ := own_slice hP3
  obtain ⟨⟨c0, c1, c2, c3, c4, c5, c6⟩, f0, f1, f2, f3, f4, f5, f6⟩ := id S3.v
  clear c0 c1 c2 c3 c4 c5 c6 f0 f2 f3 f4 f5 f6
  have hc1 := S3.v.o.c1
  have S4 := S3.setP (.slice pao pn pca)
  have hP4 := own_low (j := 1) hP3 q2 (.slice pao pn pca)
  obtain ⟨d0, d1, d2, d3, d4, d5, d6⟩ := id S4.v.o
  go_wp2_with fail
  refine (C47 _).mono ?_
  rintro e wq ⟨rfl, hw⟩
  have hw := hw.symm
  subst hw
  clear d0 d1 d2 d3 d4 d5 d6 hc1 f1
  obtain ⟨⟨c0, c1, c2, c3, c4, c5, c6⟩, f0, f1, f2, f3, f4, f5, f6⟩ := id S4.v
  go_wp2_with fail
  refine (CV _ S4.rd).mono ?_
  rintro e w5 ⟨rfl, hr5, hb5⟩
  have S5 := S4.step hr5 hb5
  have hP5 := own_but hP4 hb5 (by have := S5.hq; have := S5.hb; omega)
  clear c0 c1 c2 c3 c4 c5 c6 f0 f1 f2 f3 f4 f5 f6
  obtain ⟨⟨c0, c1, c2, c3, c4, c5, c6⟩, f0, f1, f2, f3, f4, f5, f6⟩ := id S5.v
  have S6 := S5.setV vk vn vs
  have hP6 := own_low (j := 4) (own_low (j := 3) (own_low (j := 2) hP5 q2 (.int .i64 vk)) q2 (.int .i64 vn)) q2 (.string ⟨vs.toArray⟩)
  obtain ⟨d0, d1, d2, d3, d4, d5, d6⟩ := id S6.v.o
  go_wp2_with fail
  refine (C49 _).mono ?_
  rintro e wq ⟨rfl, hw⟩
  have hw := hw.symm
  subst hw
  clear c0 c1 c2 c3 c4 c5 c6 f0 f1 f2 f3 f4 f5 f6 d0 d1 d2 d3 d4 d5 d6
  obtain ⟨⟨c0, c1, c2, c3, c4, c5, c6⟩, f0, f1, f2, f3, f4, f5, f6⟩ := id S6.v
  go_wp2_with fail
  refine (C36 _).mono ?_
  rintro e wq ⟨rfl, hw⟩
  have hw := hw.symm
  subst hw
  go_wp2_with fail
  refine (CR _ S6.rd).mono ?_
  rintro e w7 ⟨su, rfl, hL7, hr7, hb7⟩
  have S7 := S6.step hr7 hb7
  obtain ⟨sao, sn, sca, rfl⟩ := own_slice hL7
  have hP7 := own_but hP6 hb7 (by have := S7.hq; have := S7.hb; omega)
  have q7 : w1.heap.size < _ := S6.v.lt
  clear c0 c1 c2 c3 c4 c5 c6 f0 f1 f2 f3 f4 f5 f6
  obtain ⟨⟨c0, c1, c2, c3, c4, c5, c6⟩, f0, f1, f2, f3, f4, f5, f6⟩ := id S7.v
  have S8 := S7.setS (.slice sao sn sca)
  have hP8 := own_low (j := 6) hP7 q2 (.slice sao sn sca)
  have hL8 := own_low (j := 6) hL7 q7 (.slice sao sn sca)
  obtain ⟨d0, d1, d2, d3, d4, d5, d6⟩ := id S8.v.o
  have hs9 := U.strsAt_own hP8
  have C10 := check_any 1 (.slice pao pn pca) vk vn vs 0 (.slice sao sn sca) p l _ (by omega) (by omega) hs9 (refsIn_own hL8)
  rw [hc] at C10
  clear hs9
  go_wp2_with fail
  refine C10.mono ?_
  rintro e w9 ⟨rfl, hb9⟩
  have S9 := S8.on hb9
  have hP9 := own_on hP8 hb9
  have hL9 := own_on hL8 hb9
  go_wp2_with fail
  refine (fail_rd S9.rd 0).mono ?_
  rintro e w10 ⟨rfl, hr10, hb10⟩
  have S10 := S9.step hr10 hb10
  have hP10 := own_but hP9 hb10 (by have := S10.hq; have := S10.hb; omega)
  have hL10 := own_but hL9 hb10 (by have := S10.hq; have := S10.hb; omega)
  clear c0 c1 c2 c3 c4 c5 c6 f0 f1 f2 f3 f4 f5 f6 d0 d1 d2 d3 d4 d5 d6
  obtain ⟨⟨c0, c1, c2, c3, c4, c5, c6⟩, f0, f1, f2, f3, f4, f5, f6⟩ := id S10.v
  obtain ⟨⟨z0, z1, z2, z3, z4, z5, z6⟩, y0, y1, y2, y3, y4, y5, y6⟩ := id S10.z
  go_wp2_with fail
  refine (fault_rd S10.rd).mono ?_
  rintro e wq ⟨rfl, hw⟩
  have hw := hw.symm
  subst hw
  go_wp2
  obtain ⟨RV, RR, RB⟩ := S10.result 1 (.slice pao pn pca) vk vn vs 0 (.slice sao sn sca) rfl
  have hP11 := own_set7 (g := w.heap.size) hP10 (by omega) (.int .i64 1) (.slice pao pn pca) (.int .i64 vk) (.int .i64 vn) (.string ⟨(vs : List UInt8).toArray⟩) (.int .i64 0) (.slice sao sn sca)
  have hL11 := own_set7 (g := w.heap.size) hL10 (by omega) (.int .i64 1) (.slice pao pn pca) (.int .i64 vk) (.int .i64 vn) (.string ⟨(vs : List UInt8).toArray⟩) (.int .i64 0) (.slice sao sn sca)
  refine bodyPost_ret (v := opV 1 (.slice pao pn pca) vk vn vs 0 (.slice sao sn sca)) (by simp [results, Tryz.results66, go_sem, RV.o.c0, RV.o.c1, RV.o.c2, RV.o.c3, RV.o.c4, RV.o.c5, RV.o.c6]) rfl ⟨(.slice pao pn pca), (.slice sao sn sca), rfl, own_base hP11 (by omega), own_base hL11 (by omega), RR, RB⟩

set_option maxRecDepth 20000 in
set_option maxHeartbeats 4000000 in
theorem read_2 {w : World} {b : Nat} (vk vn : Int) (vs : List UInt8) (p : List (List UInt8)) (rest : List UInt8) (hc : Os.check ⟨2, p, vk, vn, vs, 0, []⟩ = 0) (hrest : rest.length ≤ 100000000) (h : Rd w b (Os.code ⟨2, p, vk, vn, vs, 0, []⟩ ++ rest) 0) :
    Calls Tryz.prog 66 #[.pointer (some ⟨b, 0, none⟩)] w fun e w' => ∃ pv sv, e = .returned (opV 2 pv vk vn vs 0 sv) ∧ w'.ownsRow w.heap.size 9 1 pv (p : List (List UInt8)).length (U.cellsS p) ∧ w'.ownsRow w.heap.size 94 3 sv ([] : List U).length (ucells []) ∧ Rd w' b rest 0 ∧ But b w w' := by
  obtain ⟨-, -, h3, h4, h5, h6, h7, h8⟩ := Os.check_zero hc
  have hf : U.Few p := path_few h3
  have hu : Os.Ups [] := Os.ups_iff.1 h8
  have hpl : p.length ≤ 12 := hf.1
  have hll : ([] : List U).length ≤ 256 := h7
  have hbw := h.lt
  have hr : Vl.Right vk vn vs := by
    have h : Os.rv ⟨2, p, vk, vn, vs, 0, []⟩ = Vl.right vk vn vs := by unfold Os.rv; rw [if_pos (by show Os.hv 2 = true; decide)]
    exact Vl.right_iff.1 (h.symm.trans h4)
  have l3 := vcode_len hr
  have hcode : Os.code ⟨2, p, vk, vn, vs, 0, []⟩ ++ rest = Pk.enc 2 ++ (Pt.code p ++ (Vl.code vk vn vs ++ rest)) := by
    have h : Os.code ⟨2, p, vk, vn, vs, 0, []⟩ = Pk.enc 2 ++ (Pt.code p ++ Os.tail ⟨2, p, vk, vn, vs, 0, []⟩) := by
      unfold Os.code
      rw [if_neg (by rw [gone_no (by decide)]; decide)]
      rfl
    rw [h]
    have ht : Os.tail ⟨2, p, vk, vn, vs, 0, []⟩ = Vl.code vk vn vs := by
      show Vl.code vk vn vs ++ ([] ++ []) = _
      simp only [List.append_nil]
    rw [ht]
    simp only [List.append_assoc]
  rw [hcode] at h
  have l2 := hf.code
  have lk : (Pk.enc 2).length ≤ 9 := Pk.enc_len9 (by decide)
  have hmx : (200000000 : Nat) ≤ maxLen := by decide
  have CI : Calls Tryz.prog 38 #[.pointer (some ⟨b, 0, none⟩)] (w.alloc (opO 0 (.slice none 0 0) 0 0 [] 0 (.slice none 0 0))) fun e w' => e = .returned (.int .i64 2) ∧ Rd w' b (Pt.code p ++ (Vl.code vk vn vs ++ rest)) 0 ∧ But b (w.alloc (opO 0 (.slice none 0 0) 0 0 [] 0 (.slice none 0 0))) w' := int_ok (n := 2) (h.new _) (by simp only [List.length_append]; omega) (by decide)
  have C17 := fun W => gone_any 2 (.slice none 0 0) 0 0 [] 0 (.slice none 0 0) [] [] W (by simp) (by simp) (U.strsAt_nil _) (refsIn_nil _)
  rw [show Os.gone ⟨2, [], 0, 0, [], 0, []⟩ = false from gone_no (by decide)] at C17
  have CP := fun W (hW : Rd W b (Pt.code p ++ (Vl.code vk vn vs ++ rest)) 0) => U.read_ok (xs := p) (rest := Vl.code vk vn vs ++ rest) h3 hf (by simp only [List.length_append]; omega) hW
  have CV := fun W (hW : Rd W b (Vl.code vk vn vs ++ (rest)) 0) => V.read_ok hr hW (by simp only [List.length_append]; omega)
  have C47 := fun w => hv_any 2 w
  have C49 := fun w => ha_any 2 w
  have C36 := fun w => hs_any 2 w
  rw [show Os.hv 2 = true by decide] at C47
  rw [show Os.ha 2 = false by decide] at C49
  rw [show Os.hs 2 = false by decide] at C36
  have Z := VO.new w 0 (.slice none 0 0) 0 0 [] 0 (.slice none 0 0)
  have hB0 := (But.refl b w).new (opO 0 (.slice none 0 0) 0 0 [] 0 (.slice none 0 0))
  clear h hcode hrest l2 lk hmx h4 h5 h6 h7 h8 l3 hr
  generalize Vl.code vk vn vs ++ rest = m1 at *
  generalize Pt.code p ++ m1 = m0 at *
  go_enter Tryz.func66, Tryz.ntmps66
  go_wp2_with fail
  refine CI.mono ?_
  rintro e w1 ⟨rfl, hr1, hb1⟩
  have hs1 := hb1.size
  have hq : w.heap.size < w1.heap.size := by simp at hs1; omega
  have S1 : RS w b w1.heap.size 2 (.slice none 0 0) 0 0 [] 0 (.slice none 0 0) m0 (w1.alloc (opO 2 (.slice none 0 0) 0 0 [] 0 (.slice none 0 0))) :=
    ⟨VO.new w1 2 (.slice none 0 0) 0 0 [] 0 (.slice none 0 0), (Z.but hb1 (by omega)).on (below_new _ _), hr1.new _, (hB0.trans hb1).new _, hq, hbw⟩
  clear hr1 Z hB0 CI
  go_wp2_with fail
  refine (C17 _).mono ?_
  rintro e w2 ⟨rfl, hb2⟩
  have S2 := S1.on hb2
  have q2 : w1.heap.size < w2.heap.size := S2.v.lt
  go_wp2_with fail
  refine (CP _ S2.rd).mono ?_
  rintro e w3 ⟨pu, rfl, hP3, hr3, hb3⟩
  have S3 := S2.step hr3 hb3
  obtain ⟨pao, pn, pca, rfl⟩ := own_slice hP3
  obtain ⟨⟨c0, c1, c2, c3, c4, c5, c6⟩, f0, f1, f2, f3, f4, f5, f6⟩ := id S3.v
  clear c0 c1 c2 c3 c4 c5 c6 f0 f2 f3 f4 f5 f6
  have hc1 := S3.v.o.c1
  have S4 := S3.setP (.slice pao pn pca)
  have hP4 := own_low (j := 1) hP3 q2 (.slice pao pn pca)
  obtain ⟨d0, d1, d2, d3, d4, d5, d6⟩ := id S4.v.o
  go_wp2_with fail
  refine (C47 _).mono ?_
  rintro e wq ⟨rfl, hw⟩
  have hw := hw.symm
  subst hw
  clear d0 d1 d2 d3 d4 d5 d6 hc1 f1
  obtain ⟨⟨c0, c1, c2, c3, c4, c5, c6⟩, f0, f1, f2, f3, f4, f5, f6⟩ := id S4.v
  go_wp2_with fail
  refine (CV _ S4.rd).mono ?_
  rintro e w5 ⟨rfl, hr5, hb5⟩
  have S5 := S4.step hr5 hb5
  have hP5 := own_but hP4 hb5 (by have := S5.hq; have := S5.hb; omega)
  clear c0 c1 c2 c3 c4 c5 c6 f0 f1 f2 f3 f4 f5 f6
  obtain ⟨⟨c0, c1, c2, c3, c4, c5, c6⟩, f0, f1, f2, f3, f4, f5, f6⟩ := id S5.v
  have S6 := S5.setV vk vn vs
  have hP6 := own_low (j := 4) (own_low (j := 3) (own_low (j := 2) hP5 q2 (.int .i64 vk)) q2 (.int .i64 vn)) q2 (.string ⟨vs.toArray⟩)
  obtain ⟨d0, d1, d2, d3, d4, d5, d6⟩ := id S6.v.o
  go_wp2_with fail
  refine (C49 _).mono ?_
  rintro e wq ⟨rfl, hw⟩
  have hw := hw.symm
  subst hw
  clear c0 c1 c2 c3 c4 c5 c6 f0 f1 f2 f3 f4 f5 f6 d0 d1 d2 d3 d4 d5 d6
  obtain ⟨⟨c0, c1, c2, c3, c4, c5, c6⟩, f0, f1, f2, f3, f4, f5, f6⟩ := id S6.v
  go_wp2_with fail
  refine (C36 _).mono ?_
  rintro e wq ⟨rfl, hw⟩
  have hw := hw.symm
  subst hw
  have hs9 := U.strsAt_own hP6
  have C10 := check_any 2 (.slice pao pn pca) vk vn vs 0 (.slice none 0 0) p [] _ (by omega) (by omega) hs9 (refsIn_nil _)
  rw [hc] at C10
  clear hs9
  go_wp2_with fail
  refine C10.mono ?_
  rintro e w9 ⟨rfl, hb9⟩
  have S9 := S6.on hb9
  have hP9 := own_on hP6 hb9
  go_wp2_with fail
  refine (fail_rd S9.rd 0).mono ?_
  rintro e w10 ⟨rfl, hr10, hb10⟩
  have S10 := S9.step hr10 hb10
  have hP10 := own_but hP9 hb10 (by have := S10.hq; have := S10.hb; omega)
  clear c0 c1 c2 c3 c4 c5 c6 f0 f1 f2 f3 f4 f5 f6
  obtain ⟨⟨c0, c1, c2, c3, c4, c5, c6⟩, f0, f1, f2, f3, f4, f5, f6⟩ := id S10.v
  obtain ⟨⟨z0, z1, z2, z3, z4, z5, z6⟩, y0, y1, y2, y3, y4, y5, y6⟩ := id S10.z
  go_wp2_with fail
  refine (fault_rd S10.rd).mono ?_
  rintro e wq ⟨rfl, hw⟩
  have hw := hw.symm
  subst hw
  go_wp2
  obtain ⟨RV, RR, RB⟩ := S10.result 2 (.slice pao pn pca) vk vn vs 0 (.slice none 0 0) rfl
  have hP11 := own_set7 (g := w.heap.size) hP10 (by omega) (.int .i64 2) (.slice pao pn pca) (.int .i64 vk) (.int .i64 vn) (.string ⟨(vs : List UInt8).toArray⟩) (.int .i64 0) (.slice none 0 0)
  refine bodyPost_ret (v := opV 2 (.slice pao pn pca) vk vn vs 0 (.slice none 0 0)) (by simp [results, Tryz.results66, go_sem, RV.o.c0, RV.o.c1, RV.o.c2, RV.o.c3, RV.o.c4, RV.o.c5, RV.o.c6]) rfl ⟨(.slice pao pn pca), (.slice none 0 0), rfl, own_base hP11 (by omega), World.ownsRow_nil _ _ _ _, RR, RB⟩

set_option maxRecDepth 20000 in
set_option maxHeartbeats 4000000 in
theorem read_3 {w : World} {b : Nat} (n : Int) (p : List (List UInt8)) (rest : List UInt8) (hc : Os.check ⟨3, p, 0, 0, [], n, []⟩ = 0) (hrest : rest.length ≤ 100000000) (h : Rd w b (Os.code ⟨3, p, 0, 0, [], n, []⟩ ++ rest) 0) :
    Calls Tryz.prog 66 #[.pointer (some ⟨b, 0, none⟩)] w fun e w' => ∃ pv sv, e = .returned (opV 3 pv 0 0 [] n sv) ∧ w'.ownsRow w.heap.size 9 1 pv (p : List (List UInt8)).length (U.cellsS p) ∧ w'.ownsRow w.heap.size 94 3 sv ([] : List U).length (ucells []) ∧ Rd w' b rest 0 ∧ But b w w' := by
  obtain ⟨-, -, h3, h4, h5, h6, h7, h8⟩ := Os.check_zero hc
  have hf : U.Few p := path_few h3
  have hu : Os.Ups [] := Os.ups_iff.1 h8
  have hpl : p.length ≤ 12 := hf.1
  have hll : ([] : List U).length ≤ 256 := h7
  have hbw := h.lt
  have hn : -2147483647 ≤ n ∧ n ≤ 2147483647 := by
    have h : Os.ra ⟨3, p, 0, 0, [], n, []⟩ = decide (n ≠ 0 ∧ -2147483647 ≤ n ∧ n ≤ 2147483647) := by unfold Os.ra; rw [if_pos (by show Os.ha 3 = true; decide)]
    have h' := of_decide_eq_true (h.symm.trans h5)
    omega
  have hf0 := Vl.fold_pos n
  have hf1 := Vl.fold_le hn.1 hn.2
  have hun := Vl.unfold_fold n
  obtain ⟨fo, hfo⟩ : ∃ f : Nat, Vl.fold n = (f : Int) := ⟨(Vl.fold n).toNat, by omega⟩
  have l3 := Pk.enc_len9 (n := fo) (by omega)
  have hcode : Os.code ⟨3, p, 0, 0, [], n, []⟩ ++ rest = Pk.enc 3 ++ (Pt.code p ++ (Pk.enc fo ++ rest)) := by
    have h : Os.code ⟨3, p, 0, 0, [], n, []⟩ = Pk.enc 3 ++ (Pt.code p ++ Os.tail ⟨3, p, 0, 0, [], n, []⟩) := by
      unfold Os.code
      rw [if_neg (by rw [gone_no (by decide)]; decide)]
      rfl
    rw [h]
    have ht : Os.tail ⟨3, p, 0, 0, [], n, []⟩ = Pk.enc fo := by
      show [] ++ (Pk.enc (Vl.fold n).toNat ++ []) = _
      simp only [List.nil_append, List.append_nil, hfo, Int.toNat_natCast]
    rw [ht]
    simp only [List.append_assoc]
  rw [hcode] at h
  have l2 := hf.code
  have lk : (Pk.enc 3).length ≤ 9 := Pk.enc_len9 (by decide)
  have hmx : (200000000 : Nat) ≤ maxLen := by decide
  have CI : Calls Tryz.prog 38 #[.pointer (some ⟨b, 0, none⟩)] (w.alloc (opO 0 (.slice none 0 0) 0 0 [] 0 (.slice none 0 0))) fun e w' => e = .returned (.int .i64 3) ∧ Rd w' b (Pt.code p ++ (Pk.enc fo ++ rest)) 0 ∧ But b (w.alloc (opO 0 (.slice none 0 0) 0 0 [] 0 (.slice none 0 0))) w' := int_ok (n := 3) (h.new _) (by simp only [List.length_append]; omega) (by decide)
  have C17 := fun W => gone_any 3 (.slice none 0 0) 0 0 [] 0 (.slice none 0 0) [] [] W (by simp) (by simp) (U.strsAt_nil _) (refsIn_nil _)
  rw [show Os.gone ⟨3, [], 0, 0, [], 0, []⟩ = false from gone_no (by decide)] at C17
  have CP := fun W (hW : Rd W b (Pt.code p ++ (Pk.enc fo ++ rest)) 0) => U.read_ok (xs := p) (rest := Pk.enc fo ++ rest) h3 hf (by simp only [List.length_append]; omega) hW
  have CF := fun W (hW : Rd W b (Pk.enc fo ++ rest) 0) => int_ok hW (by simp only [List.length_append]; omega) (by omega)
  have CU := fun w => unfold_any (fo : Int) w (by omega) (by omega)
  rw [← hfo, hun, hfo] at CU
  have C47 := fun w => hv_any 3 w
  have C49 := fun w => ha_any 3 w
  have C36 := fun w => hs_any 3 w
  rw [show Os.hv 3 = false by decide] at C47
  rw [show Os.ha 3 = true by decide] at C49
  rw [show Os.hs 3 = false by decide] at C36
  have Z := VO.new w 0 (.slice none 0 0) 0 0 [] 0 (.slice none 0 0)
  have hB0 := (But.refl b w).new (opO 0 (.slice none 0 0) 0 0 [] 0 (.slice none 0 0))
  clear h hcode hrest l2 lk hmx h4 h5 h6 h7 h8 l3 hf0 hf1 hun hfo hn
  generalize Pk.enc fo ++ rest = m1 at *
  generalize Pt.code p ++ m1 = m0 at *
  go_enter Tryz.func66, Tryz.ntmps66
  go_wp2_with fail
  refine CI.mono ?_
  rintro e w1 ⟨rfl, hr1, hb1⟩
  have hs1 := hb1.size
  have hq : w.heap.size < w1.heap.size := by simp at hs1; omega
  have S1 : RS w b w1.heap.size 3 (.slice none 0 0) 0 0 [] 0 (.slice none 0 0) m0 (w1.alloc (opO 3 (.slice none 0 0) 0 0 [] 0 (.slice none 0 0))) :=
    ⟨VO.new w1 3 (.slice none 0 0) 0 0 [] 0 (.slice none 0 0), (Z.but hb1 (by omega)).on (below_new _ _), hr1.new _, (hB0.trans hb1).new _, hq, hbw⟩
  clear hr1 Z hB0 CI
  go_wp2_with fail
  refine (C17 _).mono ?_
  rintro e w2 ⟨rfl, hb2⟩
  have S2 := S1.on hb2
  have q2 : w1.heap.size < w2.heap.size := S2.v.lt
  go_wp2_with fail
  refine (CP _ S2.rd).mono ?_
  rintro e w3 ⟨pu, rfl, hP3, hr3, hb3⟩
  have S3 := S2.step hr3 hb3
  obtain ⟨pao, pn, pca, rfl⟩ := own_slice hP3
  obtain ⟨⟨c0, c1, c2, c3, c4, c5, c6⟩, f0, f1, f2, f3, f4, f5, f6⟩ := id S3.v
  clear c0 c1 c2 c3 c4 c5 c6 f0 f2 f3 f4 f5 f6
  have hc1 := S3.v.o.c1
  have S4 := S3.setP (.slice pao pn pca)
  have hP4 := own_low (j := 1) hP3 q2 (.slice pao pn pca)
  obtain ⟨d0, d1, d2, d3, d4, d5, d6⟩ := id S4.v.o
  go_wp2_with fail
  refine (C47 _).mono ?_
  rintro e wq ⟨rfl, hw⟩
  have hw := hw.symm
  subst hw
  clear d0 d1 d2 d3 d4 d5 d6 hc1 f1
  obtain ⟨⟨c0, c1, c2, c3, c4, c5, c6⟩, f0, f1, f2, f3, f4, f5, f6⟩ := id S4.v
  go_wp2_with fail
  refine (C49 _).mono ?_
  rintro e wq ⟨rfl, hw⟩
  have hw := hw.symm
  subst hw
  go_wp2_with fail
  refine (CF _ S4.rd).mono ?_
  rintro e w5 ⟨rfl, hr5, hb5⟩
  have S5 := S4.step hr5 hb5
  have hP5 := own_but hP4 hb5 (by have := S5.hq; have := S5.hb; omega)
  clear c0 c1 c2 c3 c4 c5 c6 f0 f1 f2 f3 f4 f5 f6
  obtain ⟨⟨c0, c1, c2, c3, c4, c5, c6⟩, f0, f1, f2, f3, f4, f5, f6⟩ := id S5.v
  go_wp2_with fail
  refine (CU _).mono ?_
  rintro e wq ⟨rfl, hw⟩
  have hw := hw.symm
  subst hw
  have S6 := S5.setN n
  have hP6 := own_low (j := 5) hP5 q2 (.int .i64 n)
  obtain ⟨d0, d1, d2, d3, d4, d5, d6⟩ := id S6.v.o
  go_wp2_with fail
  refine (C36 _).mono ?_
  rintro e wq ⟨rfl, hw⟩
  have hw := hw.symm
  subst hw
  clear c0 c1 c2 c3 c4 c5 c6 f0 f1 f2 f3 f4 f5 f6 d0 d1 d2 d3 d4 d5 d6
  obtain ⟨⟨c0, c1, c2, c3, c4, c5, c6⟩, f0, f1, f2, f3, f4, f5, f6⟩ := id S6.v
  have hs9 := U.strsAt_own hP6
  have C10 := check_any 3 (.slice pao pn pca) 0 0 [] n (.slice none 0 0) p [] _ (by omega) (by omega) hs9 (refsIn_nil _)
  rw [hc] at C10
  clear hs9
  go_wp2_with fail
  refine C10.mono ?_
  rintro e w9 ⟨rfl, hb9⟩
  have S9 := S6.on hb9
  have hP9 := own_on hP6 hb9
  go_wp2_with fail
  refine (fail_rd S9.rd 0).mono ?_
  rintro e w10 ⟨rfl, hr10, hb10⟩
  have S10 := S9.step hr10 hb10
  have hP10 := own_but hP9 hb10 (by have := S10.hq; have := S10.hb; omega)
  clear c0 c1 c2 c3 c4 c5 c6 f0 f1 f2 f3 f4 f5 f6
  obtain ⟨⟨c0, c1, c2, c3, c4, c5, c6⟩, f0, f1, f2, f3, f4, f5, f6⟩ := id S10.v
  obtain ⟨⟨z0, z1, z2, z3, z4, z5, z6⟩, y0, y1, y2, y3, y4, y5, y6⟩ := id S10.z
  go_wp2_with fail
  refine (fault_rd S10.rd).mono ?_
  rintro e wq ⟨rfl, hw⟩
  have hw := hw.symm
  subst hw
  go_wp2
  obtain ⟨RV, RR, RB⟩ := S10.result 3 (.slice pao pn pca) 0 0 [] n (.slice none 0 0) rfl
  have hP11 := own_set7 (g := w.heap.size) hP10 (by omega) (.int .i64 3) (.slice pao pn pca) (.int .i64 0) (.int .i64 0) (.string ⟨([] : List UInt8).toArray⟩) (.int .i64 n) (.slice none 0 0)
  refine bodyPost_ret (v := opV 3 (.slice pao pn pca) 0 0 [] n (.slice none 0 0)) (by simp [results, Tryz.results66, go_sem, RV.o.c0, RV.o.c1, RV.o.c2, RV.o.c3, RV.o.c4, RV.o.c5, RV.o.c6]) rfl ⟨(.slice pao pn pca), (.slice none 0 0), rfl, own_base hP11 (by omega), World.ownsRow_nil _ _ _ _, RR, RB⟩

set_option maxRecDepth 20000 in
set_option maxHeartbeats 4000000 in
theorem read_4 {w : World} {b : Nat} (vk vn : Int) (vs : List UInt8) (l : List U) (p : List (List UInt8)) (rest : List UInt8) (hc : Os.check ⟨4, p, vk, vn, vs, 0, l⟩ = 0) (hrest : rest.length ≤ 100000000) (h : Rd w b (Os.code ⟨4, p, vk, vn, vs, 0, l⟩ ++ rest) 0) :
    Calls Tryz.prog 66 #[.pointer (some ⟨b, 0, none⟩)] w fun e w' => ∃ pv sv, e = .returned (opV 4 pv vk vn vs 0 sv) ∧ w'.ownsRow w.heap.size 9 1 pv (p : List (List UInt8)).length (U.cellsS p) ∧ w'.ownsRow w.heap.size 94 3 sv (l : List U).length (ucells l) ∧ Rd w' b rest 0 ∧ But b w w' := by
  obtain ⟨-, -, h3, h4, h5, h6, h7, h8⟩ := Os.check_zero hc
  have hf : U.Few p := path_few h3
  have hu : Os.Ups l := Os.ups_iff.1 h8
  have hpl : p.length ≤ 12 := hf.1
  have hll : (l : List U).length ≤ 256 := h7
  have hbw := h.lt
  have hr : Vl.Right vk vn vs := by
    have h : Os.rv ⟨4, p, vk, vn, vs, 0, l⟩ = Vl.right vk vn vs := by unfold Os.rv; rw [if_pos (by show Os.hv 4 = true; decide)]
    exact Vl.right_iff.1 (h.symm.trans h4)
  have l3 := vcode_len hr
  have l4 := lcode_len hu.1 (Nat.le_trans hll (by decide))
  have hcode : Os.code ⟨4, p, vk, vn, vs, 0, l⟩ ++ rest = Pk.enc 4 ++ (Pt.code p ++ (Vl.code vk vn vs ++ (Os.lcode l ++ rest))) := by
    have h : Os.code ⟨4, p, vk, vn, vs, 0, l⟩ = Pk.enc 4 ++ (Pt.code p ++ Os.tail ⟨4, p, vk, vn, vs, 0, l⟩) := by
      unfold Os.code
      rw [if_neg (by rw [gone_no (by decide)]; decide)]
      rfl
    rw [h]
    have ht : Os.tail ⟨4, p, vk, vn, vs, 0, l⟩ = Vl.code vk vn vs ++ Os.lcode l := by
      show Vl.code vk vn vs ++ ([] ++ Os.lcode l) = _
      simp only [List.nil_append]
    rw [ht]
    simp only [List.append_assoc]
  rw [hcode] at h
  have l2 := hf.code
  have lk : (Pk.enc 4).length ≤ 9 := Pk.enc_len9 (by decide)
  have hmx : (200000000 : Nat) ≤ maxLen := by decide
  have CI : Calls Tryz.prog 38 #[.pointer (some ⟨b, 0, none⟩)] (w.alloc (opO 0 (.slice none 0 0) 0 0 [] 0 (.slice none 0 0))) fun e w' => e = .returned (.int .i64 4) ∧ Rd w' b (Pt.code p ++ (Vl.code vk vn vs ++ (Os.lcode l ++ rest))) 0 ∧ But b (w.alloc (opO 0 (.slice none 0 0) 0 0 [] 0 (.slice none 0 0))) w' := int_ok (n := 4) (h.new _) (by simp only [List.length_append]; omega) (by decide)
  have C17 := fun W => gone_any 4 (.slice none 0 0) 0 0 [] 0 (.slice none 0 0) [] [] W (by simp) (by simp) (U.strsAt_nil _) (refsIn_nil _)
  rw [show Os.gone ⟨4, [], 0, 0, [], 0, []⟩ = false from gone_no (by decide)] at C17
  have CP := fun W (hW : Rd W b (Pt.code p ++ (Vl.code vk vn vs ++ (Os.lcode l ++ rest))) 0) => U.read_ok (xs := p) (rest := Vl.code vk vn vs ++ (Os.lcode l ++ rest)) h3 hf (by simp only [List.length_append]; omega) hW
  have CV := fun W (hW : Rd W b (Vl.code vk vn vs ++ (Os.lcode l ++ rest)) 0) => V.read_ok hr hW (by simp only [List.length_append]; omega)
  have CR := fun W (hW : Rd W b (Os.lcode l ++ rest) 0) => readRefs_ok hW (by omega) hll hu.1
  have C47 := fun w => hv_any 4 w
  have C49 := fun w => ha_any 4 w
  have C36 := fun w => hs_any 4 w
  rw [show Os.hv 4 = true by decide] at C47
  rw [show Os.ha 4 = false by decide] at C49
  rw [show Os.hs 4 = true by decide] at C36
  have Z := VO.new w 0 (.slice none 0 0) 0 0 [] 0 (.slice none 0 0)
  have hB0 := (But.refl b w).new (opO 0 (.slice none 0 0) 0 0 [] 0 (.slice none 0 0))
  clear h hcode hrest l2 lk hmx h4 h5 h6 h7 h8 l3 l4 hr
  generalize Os.lcode l ++ rest = m2 at *
  generalize Vl.code vk vn vs ++ m2 = m1 at *
  generalize Pt.code p ++ m1 = m0 at *
  go_enter Tryz.func66, Tryz.ntmps66
  go_wp2_with fail
  refine CI.mono ?_
  rintro e w1 ⟨rfl, hr1, hb1⟩
  have hs1 := hb1.size
  have hq : w.heap.size < w1.heap.size := by simp at hs1; omega
  have S1 : RS w b w1.heap.size 4 (.slice none 0 0) 0 0 [] 0 (.slice none 0 0) m0 (w1.alloc (opO 4 (.slice none 0 0) 0 0 [] 0 (.slice none 0 0))) :=
    ⟨VO.new w1 4 (.slice none 0 0) 0 0 [] 0 (.slice none 0 0), (Z.but hb1 (by omega)).on (below_new _ _), hr1.new _, (hB0.trans hb1).new _, hq, hbw⟩
  clear hr1 Z hB0 CI
  go_wp2_with fail
  refine (C17 _).mono ?_
  rintro e w2 ⟨rfl, hb2⟩
  have S2 := S1.on hb2
  have q2 : w1.heap.size < w2.heap.size := S2.v.lt
  go_wp2_with fail
  refine (CP _ S2.rd).mono ?_
  rintro e w3 ⟨pu, rfl, hP3, hr3, hb3⟩
  have S3 := S2.step hr3 hb3
  obtain ⟨pao, pn, pca, rfl⟩ := own_slice hP3
  obtain ⟨⟨c0, c1, c2, c3, c4, c5, c6⟩, f0, f1, f2, f3, f4, f5, f6⟩ := id S3.v
  clear c0 c1 c2 c3 c4 c5 c6 f0 f2 f3 f4 f5 f6
  have hc1 := S3.v.o.c1
  have S4 := S3.setP (.slice pao pn pca)
  have hP4 := own_low (j := 1) hP3 q2 (.slice pao pn pca)
  obtain ⟨d0, d1, d2, d3, d4, d5, d6⟩ := id S4.v.o
  go_wp2_with fail
  refine (C47 _).mono ?_
  rintro e wq ⟨rfl, hw⟩
  have hw := hw.symm
  subst hw
  clear d0 d1 d2 d3 d4 d5 d6 hc1 f1
  obtain ⟨⟨c0, c1, c2, c3, c4, c5, c6⟩, f0, f1, f2, f3, f4, f5, f6⟩ := id S4.v
  go_wp2_with fail
  refine (CV _ S4.rd).mono ?_
  rintro e w5 ⟨rfl, hr5, hb5⟩
  have S5 := S4.step hr5 hb5
  have hP5 := own_but hP4 hb5 (by have := S5.hq; have := S5.hb; omega)
  clear c0 c1 c2 c3 c4 c5 c6 f0 f1 f2 f3 f4 f5 f6
  obtain ⟨⟨c0, c1, c2, c3, c4, c5, c6⟩, f0, f1, f2, f3, f4, f5, f6⟩ := id S5.v
  have S6 := S5.setV vk vn vs
  have hP6 := own_low (j := 4) (own_low (j := 3) (own_low (j := 2) hP5 q2 (.int .i64 vk)) q2 (.int .i64 vn)) q2 (.string ⟨vs.toArray⟩)
  obtain ⟨d0, d1, d2, d3, d4, d5, d6⟩ := id S6.v.o
  go_wp2_with fail
  refine (C49 _).mono ?_
  rintro e wq ⟨rfl, hw⟩
  have hw := hw.symm
  subst hw
  clear c0 c1 c2 c3 c4 c5 c6 f0 f1 f2 f3 f4 f5 f6 d0 d1 d2 d3 d4 d5 d6
  obtain ⟨⟨c0, c1, c2, c3, c4, c5, c6⟩, f0, f1, f2, f3, f4, f5, f6⟩ := id S6.v
  go_wp2_with fail
  refine (C36 _).mono ?_
  rintro e wq ⟨rfl, hw⟩
  have hw := hw.symm
  subst hw
  go_wp2_with fail
  refine (CR _ S6.rd).mono ?_
  rintro e w7 ⟨su, rfl, hL7, hr7, hb7⟩
  have S7 := S6.step hr7 hb7
  obtain ⟨sao, sn, sca, rfl⟩ := own_slice hL7
  have hP7 := own_but hP6 hb7 (by have := S7.hq; have := S7.hb; omega)
  have q7 : w1.heap.size < _ := S6.v.lt
  clear c0 c1 c2 c3 c4 c5 c6 f0 f1 f2 f3 f4 f5 f6
  obtain ⟨⟨c0, c1, c2, c3, c4, c5, c6⟩, f0, f1, f2, f3, f4, f5, f6⟩ := id S7.v
  have S8 := S7.setS (.slice sao sn sca)
  have hP8 := own_low (j := 6) hP7 q2 (.slice sao sn sca)
  have hL8 := own_low (j := 6) hL7 q7 (.slice sao sn sca)
  obtain ⟨d0, d1, d2, d3, d4, d5, d6⟩ := id S8.v.o
  have hs9 := U.strsAt_own hP8
  have C10 := check_any 4 (.slice pao pn pca) vk vn vs 0 (.slice sao sn sca) p l _ (by omega) (by omega) hs9 (refsIn_own hL8)
  rw [hc] at C10
  clear hs9
  go_wp2_with fail
  refine C10.mono ?_
  rintro e w9 ⟨rfl, hb9⟩
  have S9 := S8.on hb9
  have hP9 := own_on hP8 hb9
  have hL9 := own_on hL8 hb9
  go_wp2_with fail
  refine (fail_rd S9.rd 0).mono ?_
  rintro e w10 ⟨rfl, hr10, hb10⟩
  have S10 := S9.step hr10 hb10
  have hP10 := own_but hP9 hb10 (by have := S10.hq; have := S10.hb; omega)
  have hL10 := own_but hL9 hb10 (by have := S10.hq; have := S10.hb; omega)
  clear c0 c1 c2 c3 c4 c5 c6 f0 f1 f2 f3 f4 f5 f6 d0 d1 d2 d3 d4 d5 d6
  obtain ⟨⟨c0, c1, c2, c3, c4, c5, c6⟩, f0, f1, f2, f3, f4, f5, f6⟩ := id S10.v
  obtain ⟨⟨z0, z1, z2, z3, z4, z5, z6⟩, y0, y1, y2, y3, y4, y5, y6⟩ := id S10.z
  go_wp2_with fail
  refine (fault_rd S10.rd).mono ?_
  rintro e wq ⟨rfl, hw⟩
  have hw := hw.symm
  subst hw
  go_wp2
  obtain ⟨RV, RR, RB⟩ := S10.result 4 (.slice pao pn pca) vk vn vs 0 (.slice sao sn sca) rfl
  have hP11 := own_set7 (g := w.heap.size) hP10 (by omega) (.int .i64 4) (.slice pao pn pca) (.int .i64 vk) (.int .i64 vn) (.string ⟨(vs : List UInt8).toArray⟩) (.int .i64 0) (.slice sao sn sca)
  have hL11 := own_set7 (g := w.heap.size) hL10 (by omega) (.int .i64 4) (.slice pao pn pca) (.int .i64 vk) (.int .i64 vn) (.string ⟨(vs : List UInt8).toArray⟩) (.int .i64 0) (.slice sao sn sca)
  refine bodyPost_ret (v := opV 4 (.slice pao pn pca) vk vn vs 0 (.slice sao sn sca)) (by simp [results, Tryz.results66, go_sem, RV.o.c0, RV.o.c1, RV.o.c2, RV.o.c3, RV.o.c4, RV.o.c5, RV.o.c6]) rfl ⟨(.slice pao pn pca), (.slice sao sn sca), rfl, own_base hP11 (by omega), own_base hL11 (by omega), RR, RB⟩

set_option maxRecDepth 20000 in
set_option maxHeartbeats 4000000 in
theorem read_5 {w : World} {b : Nat} (l : List U) (p : List (List UInt8)) (rest : List UInt8) (hc : Os.check ⟨5, p, 0, 0, [], 0, l⟩ = 0) (hrest : rest.length ≤ 100000000) (h : Rd w b (Os.code ⟨5, p, 0, 0, [], 0, l⟩ ++ rest) 0) :
    Calls Tryz.prog 66 #[.pointer (some ⟨b, 0, none⟩)] w fun e w' => ∃ pv sv, e = .returned (opV 5 pv 0 0 [] 0 sv) ∧ w'.ownsRow w.heap.size 9 1 pv (p : List (List UInt8)).length (U.cellsS p) ∧ w'.ownsRow w.heap.size 94 3 sv (l : List U).length (ucells l) ∧ Rd w' b rest 0 ∧ But b w w' := by
  obtain ⟨-, -, h3, h4, h5, h6, h7, h8⟩ := Os.check_zero hc
  have hf : U.Few p := path_few h3
  have hu : Os.Ups l := Os.ups_iff.1 h8
  have hpl : p.length ≤ 12 := hf.1
  have hll : (l : List U).length ≤ 256 := h7
  have hbw := h.lt
  have l4 := lcode_len hu.1 (Nat.le_trans hll (by decide))
  have hcode : Os.code ⟨5, p, 0, 0, [], 0, l⟩ ++ rest = Pk.enc 5 ++ (Pt.code p ++ (Os.lcode l ++ rest)) := by
    have h : Os.code ⟨5, p, 0, 0, [], 0, l⟩ = Pk.enc 5 ++ (Pt.code p ++ Os.tail ⟨5, p, 0, 0, [], 0, l⟩) := by
      unfold Os.code
      rw [if_neg (by rw [gone_no (by decide)]; decide)]
      rfl
    rw [h]
    have ht : Os.tail ⟨5, p, 0, 0, [], 0, l⟩ = Os.lcode l := by
      show [] ++ ([] ++ Os.lcode l) = _
      simp only [List.nil_append]
    rw [ht]
    simp only [List.append_assoc]
  rw [hcode] at h
  have l2 := hf.code
  have lk : (Pk.enc 5).length ≤ 9 := Pk.enc_len9 (by decide)
  have hmx : (200000000 : Nat) ≤ maxLen := by decide
  have CI : Calls Tryz.prog 38 #[.pointer (some ⟨b, 0, none⟩)] (w.alloc (opO 0 (.slice none 0 0) 0 0 [] 0 (.slice none 0 0))) fun e w' => e = .returned (.int .i64 5) ∧ Rd w' b (Pt.code p ++ (Os.lcode l ++ rest)) 0 ∧ But b (w.alloc (opO 0 (.slice none 0 0) 0 0 [] 0 (.slice none 0 0))) w' := int_ok (n := 5) (h.new _) (by simp only [List.length_append]; omega) (by decide)
  have C17 := fun W => gone_any 5 (.slice none 0 0) 0 0 [] 0 (.slice none 0 0) [] [] W (by simp) (by simp) (U.strsAt_nil _) (refsIn_nil _)
  rw [show Os.gone ⟨5, [], 0, 0, [], 0, []⟩ = false from gone_no (by decide)] at C17
  have CP := fun W (hW : Rd W b (Pt.code p ++ (Os.lcode l ++ rest)) 0) => U.read_ok (xs := p) (rest := Os.lcode l ++ rest) h3 hf (by simp only [List.length_append]; omega) hW
  have CR := fun W (hW : Rd W b (Os.lcode l ++ rest) 0) => readRefs_ok hW (by omega) hll hu.1
  have C47 := fun w => hv_any 5 w
  have C49 := fun w => ha_any 5 w
  have C36 := fun w => hs_any 5 w
  rw [show Os.hv 5 = false by decide] at C47
  rw [show Os.ha 5 = false by decide] at C49
  rw [show Os.hs 5 = true by decide] at C36
  have Z := VO.new w 0 (.slice none 0 0) 0 0 [] 0 (.slice none 0 0)
  have hB0 := (But.refl b w).new (opO 0 (.slice none 0 0) 0 0 [] 0 (.slice none 0 0))
  clear h hcode hrest l2 lk hmx h4 h5 h6 h7 h8 l4
  generalize Os.lcode l ++ rest = m1 at *
  generalize Pt.code p ++ m1 = m0 at *
  go_enter Tryz.func66, Tryz.ntmps66
  go_wp2_with fail
  refine CI.mono ?_
  rintro e w1 ⟨rfl, hr1, hb1⟩
  have hs1 := hb1.size
  have hq : w.heap.size < w1.heap.size := by simp at hs1; omega
  have S1 : RS w b w1.heap.size 5 (.slice none 0 0) 0 0 [] 0 (.slice none 0 0) m0 (w1.alloc (opO 5 (.slice none 0 0) 0 0 [] 0 (.slice none 0 0))) :=
    ⟨VO.new w1 5 (.slice none 0 0) 0 0 [] 0 (.slice none 0 0), (Z.but hb1 (by omega)).on (below_new _ _), hr1.new _, (hB0.trans hb1).new _, hq, hbw⟩
  clear hr1 Z hB0 CI
  go_wp2_with fail
  refine (C17 _).mono ?_
  rintro e w2 ⟨rfl, hb2⟩
  have S2 := S1.on hb2
  have q2 : w1.heap.size < w2.heap.size := S2.v.lt
  go_wp2_with fail
  refine (CP _ S2.rd).mono ?_
  rintro e w3 ⟨pu, rfl, hP3, hr3, hb3⟩
  have S3 := S2.step hr3 hb3
  obtain ⟨pao, pn, pca, rfl⟩ := own_slice hP3
  obtain ⟨⟨c0, c1, c2, c3, c4, c5, c6⟩, f0, f1, f2, f3, f4, f5, f6⟩ := id S3.v
  clear c0 c1 c2 c3 c4 c5 c6 f0 f2 f3 f4 f5 f6
  have hc1 := S3.v.o.c1
  have S4 := S3.setP (.slice pao pn pca)
  have hP4 := own_low (j := 1) hP3 q2 (.slice pao pn pca)
  obtain ⟨d0, d1, d2, d3, d4, d5, d6⟩ := id S4.v.o
  go_wp2_with fail
  refine (C47 _).mono ?_
  rintro e wq ⟨rfl, hw⟩
  have hw := hw.symm
  subst hw
  clear d0 d1 d2 d3 d4 d5 d6 hc1 f1
  obtain ⟨⟨c0, c1, c2, c3, c4, c5, c6⟩, f0, f1, f2, f3, f4, f5, f6⟩ := id S4.v
  go_wp2_with fail
  refine (C49 _).mono ?_
  rintro e wq ⟨rfl, hw⟩
  have hw := hw.symm
  subst hw
  go_wp2_with fail
  refine (C36 _).mono ?_
  rintro e wq ⟨rfl, hw⟩
  have hw := hw.symm
  subst hw
  go_wp2_with fail
  refine (CR _ S4.rd).mono ?_
  rintro e w7 ⟨su, rfl, hL7, hr7, hb7⟩
  have S7 := S4.step hr7 hb7
  obtain ⟨sao, sn, sca, rfl⟩ := own_slice hL7
  have hP7 := own_but hP4 hb7 (by have := S7.hq; have := S7.hb; omega)
  have q7 : w1.heap.size < _ := S4.v.lt
  clear c0 c1 c2 c3 c4 c5 c6 f0 f1 f2 f3 f4 f5 f6
  obtain ⟨⟨c0, c1, c2, c3, c4, c5, c6⟩, f0, f1, f2, f3, f4, f5, f6⟩ := id S7.v
  have S8 := S7.setS (.slice sao sn sca)
  have hP8 := own_low (j := 6) hP7 q2 (.slice sao sn sca)
  have hL8 := own_low (j := 6) hL7 q7 (.slice sao sn sca)
  obtain ⟨d0, d1, d2, d3, d4, d5, d6⟩ := id S8.v.o
  have hs9 := U.strsAt_own hP8
  have C10 := check_any 5 (.slice pao pn pca) 0 0 [] 0 (.slice sao sn sca) p l _ (by omega) (by omega) hs9 (refsIn_own hL8)
  rw [hc] at C10
  clear hs9
  go_wp2_with fail
  refine C10.mono ?_
  rintro e w9 ⟨rfl, hb9⟩
  have S9 := S8.on hb9
  have hP9 := own_on hP8 hb9
  have hL9 := own_on hL8 hb9
  go_wp2_with fail
  refine (fail_rd S9.rd 0).mono ?_
  rintro e w10 ⟨rfl, hr10, hb10⟩
  have S10 := S9.step hr10 hb10
  have hP10 := own_but hP9 hb10 (by have := S10.hq; have := S10.hb; omega)
  have hL10 := own_but hL9 hb10 (by have := S10.hq; have := S10.hb; omega)
  clear c0 c1 c2 c3 c4 c5 c6 f0 f1 f2 f3 f4 f5 f6 d0 d1 d2 d3 d4 d5 d6
  obtain ⟨⟨c0, c1, c2, c3, c4, c5, c6⟩, f0, f1, f2, f3, f4, f5, f6⟩ := id S10.v
  obtain ⟨⟨z0, z1, z2, z3, z4, z5, z6⟩, y0, y1, y2, y3, y4, y5, y6⟩ := id S10.z
  go_wp2_with fail
  refine (fault_rd S10.rd).mono ?_
  rintro e wq ⟨rfl, hw⟩
  have hw := hw.symm
  subst hw
  go_wp2
  obtain ⟨RV, RR, RB⟩ := S10.result 5 (.slice pao pn pca) 0 0 [] 0 (.slice sao sn sca) rfl
  have hP11 := own_set7 (g := w.heap.size) hP10 (by omega) (.int .i64 5) (.slice pao pn pca) (.int .i64 0) (.int .i64 0) (.string ⟨([] : List UInt8).toArray⟩) (.int .i64 0) (.slice sao sn sca)
  have hL11 := own_set7 (g := w.heap.size) hL10 (by omega) (.int .i64 5) (.slice pao pn pca) (.int .i64 0) (.int .i64 0) (.string ⟨([] : List UInt8).toArray⟩) (.int .i64 0) (.slice sao sn sca)
  refine bodyPost_ret (v := opV 5 (.slice pao pn pca) 0 0 [] 0 (.slice sao sn sca)) (by simp [results, Tryz.results66, go_sem, RV.o.c0, RV.o.c1, RV.o.c2, RV.o.c3, RV.o.c4, RV.o.c5, RV.o.c6]) rfl ⟨(.slice pao pn pca), (.slice sao sn sca), rfl, own_base hP11 (by omega), own_base hL11 (by omega), RR, RB⟩

set_option maxRecDepth 20000 in
set_option maxHeartbeats 2000000 in
theorem read_gone {w : World} {b : Nat} (rest : List UInt8) (hrest : rest.length ≤ 100000000) (h : Rd w b (Os.code ⟨0, [], 0, 0, [], 0, []⟩ ++ rest) 0) :
    Calls Tryz.prog 66 #[.pointer (some ⟨b, 0, none⟩)] w fun e w' => ∃ pv sv, e = .returned (opV 0 pv 0 0 [] 0 sv) ∧ w'.ownsRow w.heap.size 9 1 pv ([] : List (List UInt8)).length (U.cellsS []) ∧ w'.ownsRow w.heap.size 94 3 sv ([] : List U).length (ucells []) ∧ Rd w' b rest 0 ∧ But b w w' := by
  have hbw := h.lt
  rw [show Os.code ⟨0, [], 0, 0, [], 0, []⟩ = Pk.enc 0 from rfl] at h
  have lk : (Pk.enc 0).length ≤ 9 := Pk.enc_len9 (by decide)
  have hmx : (200000000 : Nat) ≤ maxLen := by decide
  have CI : Calls Tryz.prog 38 #[.pointer (some ⟨b, 0, none⟩)] (w.alloc (opO 0 (.slice none 0 0) 0 0 [] 0 (.slice none 0 0))) fun e w' => e = .returned (.int .i64 0) ∧ Rd w' b rest 0 ∧ But b (w.alloc (opO 0 (.slice none 0 0) 0 0 [] 0 (.slice none 0 0))) w' := int_ok (n := 0) (h.new _) (by simp only [List.length_append]; omega) (by decide)
  have C17 := fun W => gone_any 0 (.slice none 0 0) 0 0 [] 0 (.slice none 0 0) [] [] W (by simp) (by simp) (U.strsAt_nil _) (refsIn_nil _)
  rw [show Os.gone ⟨0, [], 0, 0, [], 0, []⟩ = true from rfl] at C17
  have Z := VO.new w 0 (.slice none 0 0) 0 0 [] 0 (.slice none 0 0)
  have hB0 := (But.refl b w).new (opO 0 (.slice none 0 0) 0 0 [] 0 (.slice none 0 0))
  clear h lk hmx hrest
  go_enter Tryz.func66, Tryz.ntmps66
  go_wp2_with fail
  refine CI.mono ?_
  rintro e w1 ⟨rfl, hr1, hb1⟩
  have hs1 := hb1.size
  have hq : w.heap.size < w1.heap.size := by simp at hs1; omega
  have S1 : RS w b w1.heap.size 0 (.slice none 0 0) 0 0 [] 0 (.slice none 0 0) rest (w1.alloc (opO 0 (.slice none 0 0) 0 0 [] 0 (.slice none 0 0))) :=
    ⟨VO.new w1 0 (.slice none 0 0) 0 0 [] 0 (.slice none 0 0), (Z.but hb1 (by omega)).on (below_new _ _), hr1.new _, (hB0.trans hb1).new _, hq, hbw⟩
  clear hr1 Z hB0 CI
  go_wp2_with fail
  refine (C17 _).mono ?_
  rintro e w2 ⟨rfl, hb2⟩
  have S2 := S1.on hb2
  obtain ⟨⟨c0, c1, c2, c3, c4, c5, c6⟩, f0, f1, f2, f3, f4, f5, f6⟩ := id S2.v
  obtain ⟨⟨z0, z1, z2, z3, z4, z5, z6⟩, y0, y1, y2, y3, y4, y5, y6⟩ := id S2.z
  go_wp2
  obtain ⟨RV, RR, RB⟩ := S2.result 0 (.slice none 0 0) 0 0 [] 0 (.slice none 0 0) rfl
  refine bodyPost_ret (v := opV 0 (.slice none 0 0) 0 0 [] 0 (.slice none 0 0)) (by simp [results, Tryz.results66, go_sem, RV.o.c0, RV.o.c1, RV.o.c2, RV.o.c3, RV.o.c4, RV.o.c5, RV.o.c6]) rfl ⟨(.slice none 0 0), (.slice none 0 0), rfl, World.ownsRow_nil _ _ _ _, World.ownsRow_nil _ _ _ _, RR, RB⟩
end Go.Proofs.YtghkjbekjkejpaaGreat.O
