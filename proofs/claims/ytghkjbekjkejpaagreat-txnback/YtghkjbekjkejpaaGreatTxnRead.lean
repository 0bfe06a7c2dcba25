/- The walks of Read and ReadList over a reader whose text begins with the bytes of transactions that may be. -/
import Derived.Test.YtghkjbekjkejpaaGreatTxnReadOps
import Derived.Test.YtghkjbekjkejpaaGreatTxnCheck2
import Derived.Test.YtghkjbekjkejpaaGreatTxnRises
import Derived.Test.YtghkjbekjkejpaaGreatTxnList
namespace Go.Proofs.YtghkjbekjkejpaaGreat.O
open Go.RowKit

theorem may_short {o : Os.Op} (h : Os.check o = 0 ∨ Os.gone o = true) : Os.short o = true := by
  rcases h with h | h
  · obtain ⟨h1, h2, h3, h4, h5, h6, h7, h8⟩ := Os.check_zero h
    have hf : o.p.length ≤ 12 ∧ ∀ x ∈ o.p, x.length ≤ 120 := path_few h3
    have hv : o.vs.length ≤ 200 := by
      unfold Os.rv at h4
      split at h4
      · have := (Vl.right_iff.1 h4).len
        omega
      · have := of_decide_eq_true h4
        rw [this.2.2]; simp
    unfold Os.short
    rw [decide_eq_true hv, decide_eq_true (show o.l.length ≤ 300 by omega), Bool.and_true, Bool.and_true]
    unfold Pt.short
    simpa using hf
  · rw [Os.gone_is h]
    decide
abbrev tvV (d : D) (u tt : Int) (th : Bool) (ov : Value) : Value := .agg #[.int .i64 d.1, .int .i64 d.2, .int .i64 u, .int .i64 tt, .bool th, ov]
abbrev tvO (d : D) (u tt : Int) (th : Bool) (ov : Value) : Obj := .cells #[.int .i64 d.1, .int .i64 d.2, .int .i64 u, .int .i64 tt, .bool th, ov] 37
/-- A transaction's variable, which may be written. -/
structure VT (w : World) (b : Nat) (d : D) (u tt : Int) (th : Bool) (ov : Value) : Prop where
  c0 : w.cell? ⟨b, 0, none⟩ = some (.int .i64 d.1)
  c1 : w.cell? ⟨b, 1, none⟩ = some (.int .i64 d.2)
  c2 : w.cell? ⟨b, 2, none⟩ = some (.int .i64 u)
  c3 : w.cell? ⟨b, 3, none⟩ = some (.int .i64 tt)
  c4 : w.cell? ⟨b, 4, none⟩ = some (.bool th)
  c5 : w.cell? ⟨b, 5, none⟩ = some ov
  f0 : w.frozen? ⟨b, 0, none⟩ = false
  f1 : w.frozen? ⟨b, 1, none⟩ = false
  f2 : w.frozen? ⟨b, 2, none⟩ = false
  f3 : w.frozen? ⟨b, 3, none⟩ = false
  f4 : w.frozen? ⟨b, 4, none⟩ = false
  f5 : w.frozen? ⟨b, 5, none⟩ = false
section
variable {w w' : World} {b : Nat} {d : D} {u tt : Int} {th : Bool} {ov : Value}
theorem VT.new (w : World) (d : D) (u tt : Int) (th : Bool) (ov : Value) : VT (w.alloc (tvO d u tt th ov)) w.heap.size d u tt th ov := ⟨by simp, by simp, by simp, by simp, by simp, by simp, by simp, by simp, by simp, by simp, by simp, by simp⟩
theorem VT.lt (h : VT w b d u tt th ov) : b < w.heap.size := World.block_lt_of_cell? w ⟨b, 0, none⟩ h.c0
theorem VT.blk (h : VT w b d u tt th ov) (hb : w'.heap[b]? = w.heap[b]?) : VT w' b d u tt th ov :=
  ⟨(World.cell?_of_block (w := w) hb).trans h.c0, (World.cell?_of_block (w := w) hb).trans h.c1, (World.cell?_of_block (w := w) hb).trans h.c2, (World.cell?_of_block (w := w) hb).trans h.c3, (World.cell?_of_block (w := w) hb).trans h.c4, (World.cell?_of_block (w := w) hb).trans h.c5,
   (World.frozen?_of_block (w := w) hb).trans h.f0, (World.frozen?_of_block (w := w) hb).trans h.f1, (World.frozen?_of_block (w := w) hb).trans h.f2, (World.frozen?_of_block (w := w) hb).trans h.f3, (World.frozen?_of_block (w := w) hb).trans h.f4, (World.frozen?_of_block (w := w) hb).trans h.f5⟩
theorem VT.on (h : VT w b d u tt th ov) (hb : Below w.heap.size w w') : VT w' b d u tt th ov := h.blk (hb.block b h.lt)
theorem VT.but {g : Nat} (h : VT w b d u tt th ov) (hb : But g w w') (hg : b ≠ g) : VT w' b d u tt th ov := h.blk (hb.block b h.lt hg)
theorem VT.setOther (h : VT w b d u tt th ov) {p : Addr} (hp : p.block ≠ b) (v : Value) : VT (w.setCell p v) b d u tt th ov := h.blk (Below.heap_setCell w p v b (Ne.symm hp))
theorem VT.setD0 (h : VT w b d u tt th ov) (x : Int) : VT (w.setCell ⟨b, 0, none⟩ (.int .i64 x)) b (x, d.2) u tt th ov := ⟨World.cell?_setCell_same _ _ _ h.c0, (World.cell?_setCell_other _ _ _ _ (by simp)).trans h.c1, (World.cell?_setCell_other _ _ _ _ (by simp)).trans h.c2, (World.cell?_setCell_other _ _ _ _ (by simp)).trans h.c3, (World.cell?_setCell_other _ _ _ _ (by simp)).trans h.c4, (World.cell?_setCell_other _ _ _ _ (by simp)).trans h.c5, by simp [h.f0], by simp [h.f1], by simp [h.f2], by simp [h.f3], by simp [h.f4], by simp [h.f5]⟩
theorem VT.setD1 (h : VT w b d u tt th ov) (x : Int) : VT (w.setCell ⟨b, 1, none⟩ (.int .i64 x)) b (d.1, x) u tt th ov := ⟨(World.cell?_setCell_other _ _ _ _ (by simp)).trans h.c0, World.cell?_setCell_same _ _ _ h.c1, (World.cell?_setCell_other _ _ _ _ (by simp)).trans h.c2, (World.cell?_setCell_other _ _ _ _ (by simp)).trans h.c3, (World.cell?_setCell_other _ _ _ _ (by simp)).trans h.c4, (World.cell?_setCell_other _ _ _ _ (by simp)).trans h.c5, by simp [h.f0], by simp [h.f1], by simp [h.f2], by simp [h.f3], by simp [h.f4], by simp [h.f5]⟩
theorem VT.setU (h : VT w b d u tt th ov) (x : Int) : VT (w.setCell ⟨b, 2, none⟩ (.int .i64 x)) b d x tt th ov := ⟨(World.cell?_setCell_other _ _ _ _ (by simp)).trans h.c0, (World.cell?_setCell_other _ _ _ _ (by simp)).trans h.c1, World.cell?_setCell_same _ _ _ h.c2, (World.cell?_setCell_other _ _ _ _ (by simp)).trans h.c3, (World.cell?_setCell_other _ _ _ _ (by simp)).trans h.c4, (World.cell?_setCell_other _ _ _ _ (by simp)).trans h.c5, by simp [h.f0], by simp [h.f1], by simp [h.f2], by simp [h.f3], by simp [h.f4], by simp [h.f5]⟩
theorem VT.setT (h : VT w b d u tt th ov) (x : Int) : VT (w.setCell ⟨b, 3, none⟩ (.int .i64 x)) b d u x th ov := ⟨(World.cell?_setCell_other _ _ _ _ (by simp)).trans h.c0, (World.cell?_setCell_other _ _ _ _ (by simp)).trans h.c1, (World.cell?_setCell_other _ _ _ _ (by simp)).trans h.c2, World.cell?_setCell_same _ _ _ h.c3, (World.cell?_setCell_other _ _ _ _ (by simp)).trans h.c4, (World.cell?_setCell_other _ _ _ _ (by simp)).trans h.c5, by simp [h.f0], by simp [h.f1], by simp [h.f2], by simp [h.f3], by simp [h.f4], by simp [h.f5]⟩
theorem VT.setH (h : VT w b d u tt th ov) (x : Bool) : VT (w.setCell ⟨b, 4, none⟩ (.bool x)) b d u tt x ov := ⟨(World.cell?_setCell_other _ _ _ _ (by simp)).trans h.c0, (World.cell?_setCell_other _ _ _ _ (by simp)).trans h.c1, (World.cell?_setCell_other _ _ _ _ (by simp)).trans h.c2, (World.cell?_setCell_other _ _ _ _ (by simp)).trans h.c3, World.cell?_setCell_same _ _ _ h.c4, (World.cell?_setCell_other _ _ _ _ (by simp)).trans h.c5, by simp [h.f0], by simp [h.f1], by simp [h.f2], by simp [h.f3], by simp [h.f4], by simp [h.f5]⟩
theorem VT.setO (h : VT w b d u tt th ov) (x : Value) : VT (w.setCell ⟨b, 5, none⟩ (x)) b d u tt th x := ⟨(World.cell?_setCell_other _ _ _ _ (by simp)).trans h.c0, (World.cell?_setCell_other _ _ _ _ (by simp)).trans h.c1, (World.cell?_setCell_other _ _ _ _ (by simp)).trans h.c2, (World.cell?_setCell_other _ _ _ _ (by simp)).trans h.c3, (World.cell?_setCell_other _ _ _ _ (by simp)).trans h.c4, World.cell?_setCell_same _ _ _ h.c5, by simp [h.f0], by simp [h.f1], by simp [h.f2], by simp [h.f3], by simp [h.f4], by simp [h.f5]⟩
end
/-- What stands while a transaction is read: its variable, the result's, the reader; what was there. -/
structure TS (w : World) (b q : Nat) (d : D) (u tt : Int) (th : Bool) (ov : Value) (m : List UInt8) (W : World) : Prop where
  v : VT W q d u tt th ov
  z : VT W w.heap.size (0, 0) 0 0 false (.slice none 0 0)
  rd : Rd W b m 0
  but : But b w W
  hq : w.heap.size < q
  hb : b < w.heap.size
section
variable {w W W' : World} {b q : Nat} {d : D} {u tt : Int} {th : Bool} {ov : Value} {m m' : List UInt8}
theorem TS.step (h : TS w b q d u tt th ov m W) (hr : Rd W' b m' 0) (hb : But b W W') : TS w b q d u tt th ov m' W' :=
  ⟨h.v.but hb (by have := h.hq; have := h.hb; omega), h.z.but hb (by have := h.hb; omega), hr, h.but.trans hb, h.hq, h.hb⟩
theorem TS.on (h : TS w b q d u tt th ov m W) (hb : Below W.heap.size W W') : TS w b q d u tt th ov m W' := ⟨h.v.on hb, h.z.on hb, h.rd.on hb, h.but.trans (But.of hb), h.hq, h.hb⟩
theorem TS.setU (h : TS w b q d u tt th ov m W) (x : Int) : TS w b q d x tt th ov m (W.setCell ⟨q, 2, none⟩ (.int .i64 x)) :=
  ⟨h.v.setU x, h.z.setOther (by show q ≠ w.heap.size; have := h.hq; omega) _, h.rd.setOther (by show q ≠ b; have := h.hq; have := h.hb; omega) _, h.but.setNew (by show w.heap.size ≤ q; have := h.hq; omega) _, h.hq, h.hb⟩
theorem TS.setT (h : TS w b q d u tt th ov m W) (x : Int) : TS w b q d u x th ov m (W.setCell ⟨q, 3, none⟩ (.int .i64 x)) :=
  ⟨h.v.setT x, h.z.setOther (by show q ≠ w.heap.size; have := h.hq; omega) _, h.rd.setOther (by show q ≠ b; have := h.hq; have := h.hb; omega) _, h.but.setNew (by show w.heap.size ≤ q; have := h.hq; omega) _, h.hq, h.hb⟩
theorem TS.setH (h : TS w b q d u tt th ov m W) (x : Bool) : TS w b q d u tt x ov m (W.setCell ⟨q, 4, none⟩ (.bool x)) :=
  ⟨h.v.setH x, h.z.setOther (by show q ≠ w.heap.size; have := h.hq; omega) _, h.rd.setOther (by show q ≠ b; have := h.hq; have := h.hb; omega) _, h.but.setNew (by show w.heap.size ≤ q; have := h.hq; omega) _, h.hq, h.hb⟩
theorem TS.setO (h : TS w b q d u tt th ov m W) (x : Value) : TS w b q d u tt th x m (W.setCell ⟨q, 5, none⟩ (x)) :=
  ⟨h.v.setO x, h.z.setOther (by show q ≠ w.heap.size; have := h.hq; omega) _, h.rd.setOther (by show q ≠ b; have := h.hq; have := h.hb; omega) _, h.but.setNew (by show w.heap.size ≤ q; have := h.hq; omega) _, h.hq, h.hb⟩
/-- The result is stored. -/
theorem TS.result (h : TS w b q d u tt th ov m W) (d' : D) (u' tt' : Int) (th' : Bool) (ov' : Value) {X : World}
    (hX : X = (((((W.setCell ⟨w.heap.size, 0, none⟩ (.int .i64 d'.1)).setCell ⟨w.heap.size, 1, none⟩ (.int .i64 d'.2)).setCell ⟨w.heap.size, 2, none⟩ (.int .i64 u')).setCell ⟨w.heap.size, 3, none⟩ (.int .i64 tt')).setCell ⟨w.heap.size, 4, none⟩ (.bool th')).setCell ⟨w.heap.size, 5, none⟩ ov') :
    VT X w.heap.size d' u' tt' th' ov' ∧ Rd X b m 0 ∧ But b w X := by
  subst hX
  have hne : w.heap.size ≠ b := by have := h.hb; omega
  refine ⟨?_, ((((((h.rd.setOther (p := ⟨w.heap.size, 0, none⟩) hne _).setOther (p := ⟨w.heap.size, 1, none⟩) hne _).setOther (p := ⟨w.heap.size, 2, none⟩) hne _).setOther (p := ⟨w.heap.size, 3, none⟩) hne _).setOther (p := ⟨w.heap.size, 4, none⟩) hne _).setOther (p := ⟨w.heap.size, 5, none⟩) hne _), ((((((h.but.setNew (p := ⟨w.heap.size, 0, none⟩) (Nat.le_refl _) _).setNew (p := ⟨w.heap.size, 1, none⟩) (Nat.le_refl _) _).setNew (p := ⟨w.heap.size, 2, none⟩) (Nat.le_refl _) _).setNew (p := ⟨w.heap.size, 3, none⟩) (Nat.le_refl _) _).setNew (p := ⟨w.heap.size, 4, none⟩) (Nat.le_refl _) _).setNew (p := ⟨w.heap.size, 5, none⟩) (Nat.le_refl _) _)⟩
  exact (((((h.z.setD0 d'.1).setD1 d'.2).setU u').setT tt').setH th').setO ov'
end

set_option maxRecDepth 20000 in
set_option maxHeartbeats 4000000 in
theorem tread_true {w : World} {b : Nat} (d : D) (u tt : Int) (os : List Os.Op) (rest : List UInt8) (hc : Tx.check ⟨d, u, tt, true, os⟩ = 0) (hrest : rest.length ≤ 40000000) (h : Rd w b (Tx.code ⟨d, u, tt, true, os⟩ ++ rest) 0) :
    Calls Tryz.prog 14 #[.pointer (some ⟨b, 0, none⟩)] w fun e w' => ∃ ov, e = .returned (tvV d u tt true ov) ∧ opsOwn w' w.heap.size ov os ∧ Rd w' b rest 0 ∧ But b w w' := by
  obtain ⟨h1, h2, h3, h4, h5⟩ := Tx.check_zero hc
  dsimp only at h1 h2 h3 h4 h5
  have hm : ∀ o ∈ os, Os.check o = 0 ∨ Os.gone o = true := fun o ho => (h5 o ho).imp id (·.2)
  have hsh : ∀ o ∈ os, Os.short o = true := fun o ho => may_short (hm o ho)
  have hos : os.length ≤ 16 := h4.2
  have hbw := h.lt
  have hcode : Tx.code ⟨d, u, tt, true, os⟩ ++ rest = D.codeL d.1 d.2 ++ (Pk.enc u.toNat ++ (Pk.enc tt.toNat ++ (Pk.enc 1 ++ (Pk.enc os.length ++ (os.flatMap Os.code ++ rest))))) := by
    unfold Tx.code Tx.head D.codeL
    simp only [List.append_assoc]
    rfl
  have hlc := tcode_len hc
  have hmx : (100000000 : Nat) ≤ maxLen := by decide
  have hlen : (Tx.code ⟨d, u, tt, true, os⟩ ++ rest).length ≤ 50000000 := by rw [List.length_append]; omega
  rw [hcode] at h hlen
  have L := hlen
  simp only [List.length_append] at L
  have CD : Calls Tryz.prog 37 #[.pointer (some ⟨b, 0, none⟩)] (w.alloc (tvO (0, 0) 0 0 false (.slice none 0 0))) fun e w' => e = .returned (dV d) ∧ Rd w' b (Pk.enc u.toNat ++ (Pk.enc tt.toNat ++ (Pk.enc 1 ++ (Pk.enc os.length ++ (os.flatMap Os.code ++ rest))))) 0 ∧ But b (w.alloc (tvO (0, 0) 0 0 false (.slice none 0 0))) w' := D.dotRead_ok (h.new _) (by omega) h1
  have CU := fun W (hW : Rd W b (Pk.enc u.toNat ++ (Pk.enc tt.toNat ++ (Pk.enc 1 ++ (Pk.enc os.length ++ (os.flatMap Os.code ++ rest))))) 0) => int_ok hW (by simp only [List.length_append]; omega) (by omega)
  rw [Int.toNat_of_nonneg h2.1] at CU
  have CT := fun W (hW : Rd W b (Pk.enc tt.toNat ++ (Pk.enc 1 ++ (Pk.enc os.length ++ (os.flatMap Os.code ++ rest)))) 0) => int_ok hW (by simp only [List.length_append]; omega) (by omega)
  rw [Int.toNat_of_nonneg (by omega)] at CT
  have CQ : ∀ W, Rd W b (Pk.enc 1 ++ (Pk.enc os.length ++ (os.flatMap Os.code ++ rest))) 0 → Calls Tryz.prog 38 #[.pointer (some ⟨b, 0, none⟩)] W fun e w' => e = .returned (.int .i64 1) ∧ Rd w' b (Pk.enc os.length ++ (os.flatMap Os.code ++ rest)) 0 ∧ But b W w' := fun W hW => int_ok (n := 1) hW (by simp only [List.length_append]; omega) (by decide)
  have CO := fun W (hW : Rd W b (Pk.enc os.length ++ (os.flatMap Os.code ++ rest)) 0) => readOps_ok hW (by omega) hos hm
  have Z := VT.new w (0, 0) 0 0 false (.slice none 0 0)
  have hB0 := (But.refl b w).new (tvO (0, 0) 0 0 false (.slice none 0 0))
  clear h hcode hrest hlc hmx hlen L h1 h2 h3 h4 h5 hm
  generalize Pk.enc os.length ++ (os.flatMap Os.code ++ rest) = m5 at *
  generalize hm4 : Pk.enc 1 ++ m5 = m4 at *
  generalize hm3 : Pk.enc tt.toNat ++ m4 = m3 at *
  generalize hm2 : Pk.enc u.toNat ++ m3 = m2 at *
  clear hm4 hm3 hm2
  go_enter Tryz.func14, Tryz.ntmps14
  go_wp2_with fail
  refine CD.mono ?_
  rintro e w1 ⟨rfl, hr1, hb1⟩
  have hs1 := hb1.size
  have hq : w.heap.size < w1.heap.size := by simp at hs1; omega
  have S1 : TS w b w1.heap.size d 0 0 false (.slice none 0 0) m2 (w1.alloc (tvO d 0 0 false (.slice none 0 0))) :=
    ⟨VT.new w1 d 0 0 false (.slice none 0 0), (Z.but hb1 (by omega)).on (below_new _ _), hr1.new _, (hB0.trans hb1).new _, hq, hbw⟩
  clear hr1 Z hB0 CD
  go_wp2_with fail
  refine (CU _ S1.rd).mono ?_
  rintro e w2 ⟨rfl, hr2, hb2⟩
  have S2 := S1.step hr2 hb2
  obtain ⟨c0, c1, c2, c3, c4, c5, f0, f1, f2, f3, f4, f5⟩ := id S2.v
  have S3 := S2.setU u
  go_wp2_with fail
  refine (CT _ S3.rd).mono ?_
  rintro e w3 ⟨rfl, hr3, hb3⟩
  have S4 := S3.step hr3 hb3
  clear c0 c1 c2 c3 c4 c5 f0 f1 f2 f3 f4 f5
  obtain ⟨c0, c1, c2, c3, c4, c5, f0, f1, f2, f3, f4, f5⟩ := id S4.v
  have S5 := S4.setT tt
  go_wp2_with fail
  refine (CQ _ S5.rd).mono ?_
  rintro e w4 ⟨rfl, hr4, hb4⟩
  have S6 := S5.step hr4 hb4
  clear c0 c1 c2 c3 c4 c5 f0 f1 f2 f3 f4 f5
  obtain ⟨c0, c1, c2, c3, c4, c5, f0, f1, f2, f3, f4, f5⟩ := id S6.v
  have S7 := S6.setH true
  have q7 := S7.v.lt
  go_wp2_with fail
  refine (CO _ S7.rd).mono ?_
  rintro e w5 ⟨sl, rfl, hO5, hr5, hb5⟩
  obtain ⟨oa, on, oc, rfl⟩ := hO5.slice
  have S8 := S7.step hr5 hb5
  clear c0 c1 c2 c3 c4 c5 f0 f1 f2 f3 f4 f5
  obtain ⟨c0, c1, c2, c3, c4, c5, f0, f1, f2, f3, f4, f5⟩ := id S8.v
  have S9 := S8.setO (.slice oa on oc)
  have hO9 := hO5.low (j := 5) q7 (.slice oa on oc)
  obtain ⟨d0, d1, d2, d3, d4, d5, -, -, -, -, -, -⟩ := id S9.v
  have C20 := tcheck_any ⟨d, u, tt, true, os⟩ (.slice oa on oc) _ hsh (by show os.length ≤ 1000000; omega) (opsIn_own hO9)
  rw [hc] at C20
  go_wp2_with fail
  refine C20.mono ?_
  rintro e w6 ⟨rfl, hb6⟩
  have S10 := S9.on hb6
  have hO10 := hO9.on hb6
  go_wp2_with fail
  refine (fail_rd S10.rd 0).mono ?_
  rintro e w7 ⟨rfl, hr7, hb7⟩
  have S11 := S10.step hr7 hb7
  have hO11 := hO10.but hb7 (by have := S11.hq; have := S11.hb; omega)
  clear c0 c1 c2 c3 c4 c5 f0 f1 f2 f3 f4 f5 d0 d1 d2 d3 d4 d5
  obtain ⟨c0, c1, c2, c3, c4, c5, f0, f1, f2, f3, f4, f5⟩ := id S11.v
  obtain ⟨z0, z1, z2, z3, z4, z5, y0, y1, y2, y3, y4, y5⟩ := id S11.z
  go_wp2_with fail
  refine (fault_rd S11.rd).mono ?_
  rintro e wq ⟨rfl, hw⟩
  have hw := hw.symm
  subst hw
  go_wp2
  obtain ⟨RV, RR, RB⟩ := S11.result d u tt true (.slice oa on oc) rfl
  have hO12 := (((((hO11.low (g := w.heap.size) (j := 0) (by omega) (.int .i64 d.1)).low (g := w.heap.size) (j := 1) (by omega) (.int .i64 d.2)).low (g := w.heap.size) (j := 2) (by omega) (.int .i64 u)).low (g := w.heap.size) (j := 3) (by omega) (.int .i64 tt)).low (g := w.heap.size) (j := 4) (by omega) (.bool true)).low (g := w.heap.size) (j := 5) (by omega) (.slice oa on oc)
  refine bodyPost_ret (v := tvV d u tt true (.slice oa on oc)) (by simp [results, Tryz.results14, go_sem, RV.c0, RV.c1, RV.c2, RV.c3, RV.c4, RV.c5]) rfl ⟨.slice oa on oc, rfl, hO12.base (by omega), RR, RB⟩

set_option maxRecDepth 20000 in
set_option maxHeartbeats 4000000 in
theorem tread_false {w : World} {b : Nat} (d : D) (u tt : Int) (os : List Os.Op) (rest : List UInt8) (hc : Tx.check ⟨d, u, tt, false, os⟩ = 0) (hrest : rest.length ≤ 40000000) (h : Rd w b (Tx.code ⟨d, u, tt, false, os⟩ ++ rest) 0) :
    Calls Tryz.prog 14 #[.pointer (some ⟨b, 0, none⟩)] w fun e w' => ∃ ov, e = .returned (tvV d u tt false ov) ∧ opsOwn w' w.heap.size ov os ∧ Rd w' b rest 0 ∧ But b w w' := by
  obtain ⟨h1, h2, h3, h4, h5⟩ := Tx.check_zero hc
  dsimp only at h1 h2 h3 h4 h5
  have hm : ∀ o ∈ os, Os.check o = 0 ∨ Os.gone o = true := fun o ho => (h5 o ho).imp id (·.2)
  have hsh : ∀ o ∈ os, Os.short o = true := fun o ho => may_short (hm o ho)
  have hos : os.length ≤ 16 := h4.2
  have hbw := h.lt
  have hcode : Tx.code ⟨d, u, tt, false, os⟩ ++ rest = D.codeL d.1 d.2 ++ (Pk.enc u.toNat ++ (Pk.enc tt.toNat ++ (Pk.enc 0 ++ (Pk.enc os.length ++ (os.flatMap Os.code ++ rest))))) := by
    unfold Tx.code Tx.head D.codeL
    simp only [List.append_assoc]
    rfl
  have hlc := tcode_len hc
  have hmx : (100000000 : Nat) ≤ maxLen := by decide
  have hlen : (Tx.code ⟨d, u, tt, false, os⟩ ++ rest).length ≤ 50000000 := by rw [List.length_append]; omega
  rw [hcode] at h hlen
  have L := hlen
  simp only [List.length_append] at L
  have CD : Calls Tryz.prog 37 #[.pointer (some ⟨b, 0, none⟩)] (w.alloc (tvO (0, 0) 0 0 false (.slice none 0 0))) fun e w' => e = .returned (dV d) ∧ Rd w' b (Pk.enc u.toNat ++ (Pk.enc tt.toNat ++ (Pk.enc 0 ++ (Pk.enc os.length ++ (os.flatMap Os.code ++ rest))))) 0 ∧ But b (w.alloc (tvO (0, 0) 0 0 false (.slice none 0 0))) w' := D.dotRead_ok (h.new _) (by omega) h1
  have CU := fun W (hW : Rd W b (Pk.enc u.toNat ++ (Pk.enc tt.toNat ++ (Pk.enc 0 ++ (Pk.enc os.length ++ (os.flatMap Os.code ++ rest))))) 0) => int_ok hW (by simp only [List.length_append]; omega) (by omega)
  rw [Int.toNat_of_nonneg h2.1] at CU
  have CT := fun W (hW : Rd W b (Pk.enc tt.toNat ++ (Pk.enc 0 ++ (Pk.enc os.length ++ (os.flatMap Os.code ++ rest)))) 0) => int_ok hW (by simp only [List.length_append]; omega) (by omega)
  rw [Int.toNat_of_nonneg (by omega)] at CT
  have CQ : ∀ W, Rd W b (Pk.enc 0 ++ (Pk.enc os.length ++ (os.flatMap Os.code ++ rest))) 0 → Calls Tryz.prog 38 #[.pointer (some ⟨b, 0, none⟩)] W fun e w' => e = .returned (.int .i64 0) ∧ Rd w' b (Pk.enc os.length ++ (os.flatMap Os.code ++ rest)) 0 ∧ But b W w' := fun W hW => int_ok (n := 0) hW (by simp only [List.length_append]; omega) (by decide)
  have CO := fun W (hW : Rd W b (Pk.enc os.length ++ (os.flatMap Os.code ++ rest)) 0) => readOps_ok hW (by omega) hos hm
  have Z := VT.new w (0, 0) 0 0 false (.slice none 0 0)
  have hB0 := (But.refl b w).new (tvO (0, 0) 0 0 false (.slice none 0 0))
  clear h hcode hrest hlc hmx hlen L h1 h2 h3 h4 h5 hm
  generalize Pk.enc os.length ++ (os.flatMap Os.code ++ rest) = m5 at *
  generalize hm4 : Pk.enc 0 ++ m5 = m4 at *
  generalize hm3 : Pk.enc tt.toNat ++ m4 = m3 at *
  generalize hm2 : Pk.enc u.toNat ++ m3 = m2 at *
  clear hm4 hm3 hm2
  go_enter Tryz.func14, Tryz.ntmps14
  go_wp2_with fail
  refine CD.mono ?_
  rintro e w1 ⟨rfl, hr1, hb1⟩
  have hs1 := hb1.size
  have hq : w.heap.size < w1.heap.size := by simp at hs1; omega
  have S1 : TS w b w1.heap.size d 0 0 false (.slice none 0 0) m2 (w1.alloc (tvO d 0 0 false (.slice none 0 0))) :=
    ⟨VT.new w1 d 0 0 false (.slice none 0 0), (Z.but hb1 (by omega)).on (below_new _ _), hr1.new _, (hB0.trans hb1).new _, hq, hbw⟩
  clear hr1 Z hB0 CD
  go_wp2_with fail
  refine (CU _ S1.rd).mono ?_
  rintro e w2 ⟨rfl, hr2, hb2⟩
  have S2 := S1.step hr2 hb2
  obtain ⟨c0, c1, c2, c3, c4, c5, f0, f1, f2, f3, f4, f5⟩ := id S2.v
  have S3 := S2.setU u
  go_wp2_with fail
  refine (CT _ S3.rd).mono ?_
  rintro e w3 ⟨rfl, hr3, hb3⟩
  have S4 := S3.step hr3 hb3
  clear c0 c1 c2 c3 c4 c5 f0 f1 f2 f3 f4 f5
  obtain ⟨c0, c1, c2, c3, c4, c5, f0, f1, f2, f3, f4, f5⟩ := id S4.v
  have S5 := S4.setT tt
  go_wp2_with fail
  refine (CQ _ S5.rd).mono ?_
  rintro e w4 ⟨rfl, hr4, hb4⟩
  have S6 := S5.step hr4 hb4
  clear c0 c1 c2 c3 c4 c5 f0 f1 f2 f3 f4 f5
  obtain ⟨c0, c1, c2, c3, c4, c5, f0, f1, f2, f3, f4, f5⟩ := id S6.v
  have S7 := S6.setH false
  have q7 := S7.v.lt
  go_wp2_with fail
  refine (CO _ S7.rd).mono ?_
  rintro e w5 ⟨sl, rfl, hO5, hr5, hb5⟩
  obtain ⟨oa, on, oc, rfl⟩ := hO5.slice
  have S8 := S7.step hr5 hb5
  clear c0 c1 c2 c3 c4 c5 f0 f1 f2 f3 f4 f5
  obtain ⟨c0, c1, c2, c3, c4, c5, f0, f1, f2, f3, f4, f5⟩ := id S8.v
  have S9 := S8.setO (.slice oa on oc)
  have hO9 := hO5.low (j := 5) q7 (.slice oa on oc)
  obtain ⟨d0, d1, d2, d3, d4, d5, -, -, -, -, -, -⟩ := id S9.v
  have C20 := tcheck_any ⟨d, u, tt, false, os⟩ (.slice oa on oc) _ hsh (by show os.length ≤ 1000000; omega) (opsIn_own hO9)
  rw [hc] at C20
  go_wp2_with fail
  refine C20.mono ?_
  rintro e w6 ⟨rfl, hb6⟩
  have S10 := S9.on hb6
  have hO10 := hO9.on hb6
  go_wp2_with fail
  refine (fail_rd S10.rd 0).mono ?_
  rintro e w7 ⟨rfl, hr7, hb7⟩
  have S11 := S10.step hr7 hb7
  have hO11 := hO10.but hb7 (by have := S11.hq; have := S11.hb; omega)
  clear c0 c1 c2 c3 c4 c5 f0 f1 f2 f3 f4 f5 d0 d1 d2 d3 d4 d5
  obtain ⟨c0, c1, c2, c3, c4, c5, f0, f1, f2, f3, f4, f5⟩ := id S11.v
  obtain ⟨z0, z1, z2, z3, z4, z5, y0, y1, y2, y3, y4, y5⟩ := id S11.z
  go_wp2_with fail
  refine (fault_rd S11.rd).mono ?_
  rintro e wq ⟨rfl, hw⟩
  have hw := hw.symm
  subst hw
  go_wp2
  obtain ⟨RV, RR, RB⟩ := S11.result d u tt false (.slice oa on oc) rfl
  have hO12 := (((((hO11.low (g := w.heap.size) (j := 0) (by omega) (.int .i64 d.1)).low (g := w.heap.size) (j := 1) (by omega) (.int .i64 d.2)).low (g := w.heap.size) (j := 2) (by omega) (.int .i64 u)).low (g := w.heap.size) (j := 3) (by omega) (.int .i64 tt)).low (g := w.heap.size) (j := 4) (by omega) (.bool false)).low (g := w.heap.size) (j := 5) (by omega) (.slice oa on oc)
  refine bodyPost_ret (v := tvV d u tt false (.slice oa on oc)) (by simp [results, Tryz.results14, go_sem, RV.c0, RV.c1, RV.c2, RV.c3, RV.c4, RV.c5]) rfl ⟨.slice oa on oc, rfl, hO12.base (by omega), RR, RB⟩

theorem tread_ok {w : World} {b : Nat} (t : Tx.Txn) (rest : List UInt8) (hc : Tx.check t = 0) (hrest : rest.length ≤ 40000000) (h : Rd w b (Tx.code t ++ rest) 0) :
    Calls Tryz.prog 14 #[.pointer (some ⟨b, 0, none⟩)] w fun e w' => ∃ ov, e = .returned (txV t ov) ∧ opsOwn w' w.heap.size ov t.ops ∧ Rd w' b rest 0 ∧ But b w w' := by
  obtain ⟨d, u, tt, th, os⟩ := t
  cases th
  · exact tread_false d u tt os rest hc hrest h
  · exact tread_true d u tt os rest hc hrest h

/-- So many were read into a row of one's own. -/
def txsTo (w : World) (B : Nat) (v : Value) (l : List Tx.Txn) (k : Nat) : Prop := ∃ xs : List TE, xs.map (·.1) = l.take k ∧ xs.length = k ∧ w.ownsRow B 37 6 v xs.length (tcells xs) ∧ ∀ x ∈ xs, opsOwn w B x.2 x.1.ops
theorem txsTo_all {w : World} {B : Nat} {v : Value} {l : List Tx.Txn} {k : Nat} (h : txsTo w B v l k) (hk : ¬ k < l.length) : txsIn w v l := by
  obtain ⟨xs, h1, _, h2, h3⟩ := h
  rw [List.take_of_length_le (by omega)] at h1
  rw [← h1]
  exact txsIn_row h2 fun x hx => opsIn_own (h3 x hx)
theorem tcode_pos (t : Tx.Txn) : 1 ≤ (Tx.code t).length := by
  have h := Pk.enc_pos t.d.1.toNat
  unfold Tx.code Tx.head
  simp only [List.length_append]
  omega

set_option maxRecDepth 20000 in
set_option maxHeartbeats 4000000 in
theorem treadList_ok {w : World} {b : Nat} {l : List Tx.Txn} (h : Rd w b (Tx.list l) 0) (hn : l.length ≤ 30) (hc : ∀ t ∈ l, Tx.check t = 0) (hp : Tx.Rises l) :
    Calls Tryz.prog 10 #[.pointer (some ⟨b, 0, none⟩), .int .i64 30] w fun e w' => ∃ v, e = .returned v ∧ txsIn w' v l ∧ Rd w' b [] 0 ∧ But b w w' := by
  have hbw := h.lt
  have hen := Pk.enc_len9 (n := l.length) (by omega)
  have hfl := fun k => flat_drop_len (l := l) (f := Tx.code) (B := 400000) (fun t ht => tcode_len (hc t ht)) k
  have hmul : l.length * 400000 ≤ 30 * 400000 := Nat.mul_le_mul_right _ hn
  have hge := flat_ge tcode_pos l
  have e0 : Tx.list l = Pk.enc l.length ++ (l.drop 0).flatMap Tx.code := by unfold Tx.list; rw [List.drop_zero]
  rw [e0] at h
  have hlen : (Pk.enc l.length ++ (l.drop 0).flatMap Tx.code).length ≤ maxLen := by
    have h0 := hfl 0
    rw [List.length_append]
    unfold maxLen
    omega
  have HM := many_ok h hlen (by omega) 30 (by omega) (by rw [List.drop_zero]; exact hge)
  obtain ⟨n, hn0⟩ : ∃ n, n = l.length := ⟨_, rfl⟩
  have HN : Hid (n = l.length) := hn0
  have HLen : Hid (∀ k, ((l.drop k).flatMap Tx.code).length ≤ 13000000) := fun k => by
    have h0 := hfl k
    omega
  have HR : Hid (∀ t ∈ l, Tx.check t = 0) := hc
  have HP : Hid (Tx.Rises l) := hp
  rw [← hn0] at HM hn
  clear h hlen hge hc hn0 e0 hen hfl hmul hp
  go_enter Tryz.func10, Tryz.ntmps10
  go_wp2_with fail
  refine HM.mono ?_
  rintro e w1 ⟨rfl, hr1, hb1⟩
  clear HM
  go_wp2
  go_loopw [5, 6, 10] (fun sl _ i wr => ∃ k : Nat, k ≤ n ∧ i = .int .i64 k ∧ Hid (txsTo wr w.heap.size sl l k) ∧ Hid (Rd wr b ((l.drop k).flatMap Tx.code) 0) ∧ But b w wr) (fun _ _ i _ => n - (intOf i).toNat)
  case atStart => exact ⟨0, by omega, rfl, ⟨[], rfl, rfl, World.ownsRow_nil _ _ _ _, fun x h => by simp at h⟩, hr1, hb1⟩
  case round =>
    clear hr1 hb1
    obtain ⟨k, hk, rfl, HY, HRd, hbw1⟩ := hrel
    have hsr := hbw1.size
    by_cases hlt : k < n
    · have hkx : k < l.length := by have := HN.out; omega
      have hR := HRd.out
      have hl1 := HLen.out (k + 1)
      rw [flat_drop Tx.code hkx] at hR
      have HC := tread_ok l[k] _ (HR.out _ (List.getElem_mem hkx)) (by omega) hR
      have HT : Hid (l.take (k + 1) = l.take k ++ [l[k]]) := by have e := List.take_succ_eq_append_getElem hkx; exact e
      obtain ⟨xs, hx1, hx2, hx3, hx4⟩ := HY.out
      have HX1 : Hid (xs.map (·.1) = l.take k) := hx1
      have HX2 : Hid (xs.length = k) := hx2
      have HX4 : Hid (∀ x ∈ xs, opsOwn wr w.heap.size x.2 x.1.ops) := hx4
      have HX3 : Hid (wr.ownsRow w.heap.size 37 6 _ xs.length (tcells xs)) := hx3
      clear hR hl1 HRd hx1 hx2 hx3 hx4 HY
      generalize hm3 : (l.drop (k + 1)).flatMap Tx.code = m3 at *
      have H3 : Hid ((l.drop (k + 1)).flatMap Tx.code = m3) := hm3
      clear hm3
      generalize l[k] = d at *
      go_wp2_with fail
      refine HC.mono ?_
      rintro e w2 ⟨ov, rfl, hy, hr2, hb2⟩
      obtain ⟨oa, on, oc, rfl⟩ := hy.slice
      have hs2 := hb2.size
      have hY2 := own_but HX3.out hb2 hbw
      have hin2 : ∀ x ∈ xs, opsOwn w2 w.heap.size x.2 x.1.ops := fun x hx => (HX4.out x hx).but hb2 hbw
      have hy2 : opsOwn w2 w.heap.size (.slice oa on oc) d.ops := hy.base hsr
      have b3 := below_new w2 (txO d (.slice oa on oc))
      have b4 := below_new2 w2 (txO d (.slice oa on oc)) (txO d (.slice oa on oc))
      have hY4 := own_on hY2 b4
      have hin4 : ∀ x ∈ xs, opsOwn ((w2.alloc (txO d (.slice oa on oc))).alloc (txO d (.slice oa on oc))) w.heap.size x.2 x.1.ops := fun x hx => (hin2 x hx).on b4
      have hy4 : opsOwn ((w2.alloc (txO d (.slice oa on oc))).alloc (txO d (.slice oa on oc))) w.heap.size (.slice oa on oc) d.ops := hy2.on b4
      have hr3 := hr2.on b3
      have hr4 := hr2.on b4
      have hB4 := (hbw1.trans hb2).trans (But.of (b := b) b4)
      have hv4 : ∀ j v, (tcells [(d, .slice oa on oc)])[j]? = some v → ((w2.alloc (txO d (.slice oa on oc))).alloc (txO d (.slice oa on oc))).cell? ((⟨w2.heap.size + 1, 0, none⟩ : Addr).add j) = some v := by
        have h := new_tx (w2.alloc (txO d (.slice oa on oc))) (d, .slice oa on oc)
        have e : (w2.alloc (txO d (.slice oa on oc))).heap.size = w2.heap.size + 1 := by simp
        rw [e] at h
        exact h
      have hone : ∀ u ∈ tcells [(d, Value.slice oa on oc)], u.oneCell' = true := tcells_one (fun x hx => by rw [List.mem_singleton.1 hx]; exact ⟨_, _, _, rfl⟩)
      have HY4 : Hid (((w2.alloc (txO d (.slice oa on oc))).alloc (txO d (.slice oa on oc))).ownsRow w.heap.size 37 6 _ xs.length (tcells xs)) := hY4
      have hsz4 : w.heap.size ≤ ((w2.alloc (txO d (.slice oa on oc))).alloc (txO d (.slice oa on oc))).heap.size := hB4.size
      have hn6 : xs.length + [(d, Value.slice oa on oc)].length ≤ 1000000 := by have := HX2.out; simp; omega
      have HIN : Hid (∀ x ∈ xs ++ [(d, Value.slice oa on oc)], opsOwn ((w2.alloc (txO d (.slice oa on oc))).alloc (txO d (.slice oa on oc))) w.heap.size x.2 x.1.ops) := fun x hx => by
        rcases List.mem_append.1 hx with hx | hx
        · exact hin4 x hx
        · rw [List.mem_singleton.1 hx]; exact hy4
      clear hY2 hin2 hy2 hy b3 b4 hY4 hin4 hy4 hr2 HC hb2 HX3 HX4 hbw1 hsr
      go_wp2_with fail
      refine (fault_rd hr3).mono ?_
      rintro e wq ⟨rfl, hw⟩
      have hw := hw.symm
      subst hw
      go_wp2_with (at_builtin
                   refine append_txs rfl _ _ rfl w.heap.size hsz4 _ xs rfl HY4.out _ [(d, Value.slice oa on oc)] 1 rfl hv4 hone hn6 ?_
                   intro v' w6 hown' hg6)
      go_roundw
      case rel =>
        refine ⟨k + 1, by omega, by go_num, ⟨xs ++ [(d, Value.slice oa on oc)], ?_, ?_, hown', ?_⟩, ?_, ?_⟩
        · rw [HT.out, List.map_append, HX1.out, List.map_cons, List.map_nil]
        · rw [List.length_append, HX2.out]; rfl
        · exact fun x hx => (HIN.out x hx).map fun hne k => own_grown_other k hg6 (own_types k HY4.out hne)
        · rw [H3.out]
          exact hr4.grown hg6 (fun e => by have := (HY4.out.lt b e.symm).1; omega)
        · exact hB4.grown hg6 (fun g eg => (HY4.out.lt g eg).1)
      case measure => simp [intOf]; omega
    · obtain rfl : k = n := by omega
      have hY := txsTo_all HY.out (by have := HN.out; omega)
      have hR := HRd.out
      rw [List.drop_of_length_le (by have := HN.out; omega), List.flatMap_nil] at hR
      have C31 := trises_any _ l wr hY (by have := HN.out; omega)
      rw [Tx.rises_iff.2 HP.out] at C31
      have HYY : Hid (txsIn wr _ l) := hY
      clear HY HRd hY
      go_wp2_with (go_at_call 31; refine C31.mono ?_; rintro e w8 ⟨rfl, hb8⟩)
      go_ret
      exact ⟨_, rfl, HYY.out.on hb8, hR.on hb8, hbw1.trans (But.of hb8)⟩
end Go.Proofs.YtghkjbekjkejpaaGreat.O
