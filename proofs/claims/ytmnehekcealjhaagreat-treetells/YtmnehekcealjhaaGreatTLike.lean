/- The walk of the statement's same, at the same leaves. -/
import Derived.Test.YtmnehekcealjhaaGreatTLeaves
import Derived.Test.YtmnehekcealjhaaGreatNamesAll
namespace Go.Proofs.YtmnehekcealjhaaGreat.O
open Go.RowKit

theorem leaves_at {xs ys : List LE} (h : xs.map Prod.fst = ys.map Prod.fst) {k : Nat} (hx : k < xs.length) (hy : k < ys.length) : ys[k].1 = xs[k].1 := by
  have e := congrArg (fun l => l[k]?) h
  simp only [List.getElem?_map, List.getElem?_eq_getElem hx, List.getElem?_eq_getElem hy, Option.map_some, Option.some.injEq] at e
  exact e.symm

set_option maxRecDepth 20000 in
set_option maxHeartbeats 2000000 in
theorem sameT_any (va vb : Value) (xs ys : List LE) (w : World) (ha : lvsE w va xs) (hb : lvsE w vb ys) (he : xs.map Prod.fst = ys.map Prod.fst) (hn : xs.length ≤ 1000000) (hf : ∀ x ∈ xs, x.1.1.length ≤ 2000000) :
    Calls Tryz.prog 12 #[va, vb] w fun e w' => e = .returned (.bool true) ∧ Below w.heap.size w w' := by
  obtain ⟨ao, ca, rfl⟩ := ha.slice
  obtain ⟨bo, cb, rfl⟩ := hb.slice
  have hl : ys.length = xs.length := by have := congrArg List.length he; simpa using this.symm
  obtain ⟨n, hn0⟩ : ∃ n, n = xs.length := ⟨_, rfl⟩
  have HN : Hid (n = xs.length) := hn0
  have HM : Hid (n = ys.length) := by rw [hl]; exact hn0
  rw [hl] at hb ⊢
  rw [← hn0] at ha hb hn ⊢
  have HA : Hid (lvsE w (.slice ao n ca) xs) := ha
  have HB : Hid (lvsE w (.slice bo n cb) ys) := hb
  have HE : Hid (xs.map Prod.fst = ys.map Prod.fst) := he
  have HF : Hid (∀ x ∈ xs, x.1.1.length ≤ 2000000) := hf
  clear hn0 ha hb he hf hl
  go_enter Tryz.func12, Tryz.ntmps12
  go_wp2
  go_loopw [5] (fun i wr => ∃ k : Nat, k ≤ n ∧ i = .int .i64 k ∧ Below w.heap.size w wr) (fun i _ => n - (intOf i).toNat)
  case atStart => exact ⟨0, by omega, rfl, Below.refl _ _⟩
  case round =>
    obtain ⟨k, hk, rfl, hbw⟩ := hrel
    by_cases hkn : k < n
    · have hkx : k < xs.length := by rw [← HN.out]; exact hkn
      have hky : k < ys.length := by rw [← HM.out]; exact hkn
      obtain ⟨ad, rfl, -, hX, hXo⟩ := (HA.out.on hbw).get hkx
      obtain ⟨bd, rfl, -, hY, hYo⟩ := (HB.out.on hbw).get hky
      have hxy := leaves_at HE.out hkx hky
      have hlen := HF.out _ (List.getElem_mem hkx)
      obtain ⟨a0, a1⟩ := hX
      obtain ⟨b0, b1⟩ := hY
      generalize xs[k] = x at *
      generalize ys[k] = y at *
      obtain ⟨⟨xp, xk⟩, xv⟩ := x
      obtain ⟨⟨yp, yk⟩, yv⟩ := y
      obtain ⟨rfl, rfl⟩ : yp = xp ∧ yk = xk := by simpa using hxy
      have hXo' : U.strsAt wr xv yp := hXo
      have hYo' : U.strsAt wr yv yp := hYo
      obtain ⟨xa, xn, xc, rfl⟩ := strs_slice hXo'
      obtain ⟨ya, yn, yc, rfl⟩ := strs_slice hYo'
      have HC := fun W (hb : Below wr.heap.size wr W) => U.same_any (.slice xa xn xc) (.slice ya yn yc) yp yp W hlen (U.strsAt_below hXo' hb (Nat.le_refl _)) (U.strsAt_below hYo' hb (Nat.le_refl _))
      rw [show decide (yp = yp) = true by simp] at HC
      have a1' : wr.cell? ⟨(ad.add (k * 2)).block, (ad.add (k * 2)).off + 1, none⟩ = some (.int .i64 yk) := a1
      have b1' : wr.cell? ⟨(bd.add (k * 2)).block, (bd.add (k * 2)).off + 1, none⟩ = some (.int .i64 yk) := b1
      have a0' : wr.cell? (ad.add (k * 2)) = some (.slice xa xn xc) := a0
      have b0' : wr.cell? (bd.add (k * 2)) = some (.slice ya yn yc) := b0
      have hi0 : (0 : Int) ≤ (k : Int) := by omega
      have hi1 : (k : Int) < (n : Int) := by omega
      clear hxy hlen hXo hYo hXo' hYo' a0 a1 b0 b1
      go_wp2_with fail
      go_region_held3 (fun W => W.cell? (ad.add (k * 2)) = some (.slice xa xn xc) ∧ W.cell? ⟨(ad.add (k * 2)).block, (ad.add (k * 2)).off + 1, none⟩ = some (.int .i64 yk) ∧ W.cell? (bd.add (k * 2)) = some (.slice ya yn yc) ∧ W.cell? ⟨(bd.add (k * 2)).block, (bd.add (k * 2)).off + 1, none⟩ = some (.int .i64 yk) ∧ Below wr.heap.size wr W)
        (first | exact ⟨a0', a1', b0', b1', Below.refl _ _⟩ | exact ⟨a0', a1', b0', b1', (Below.refl _ wr).drew⟩ | exact ⟨keep_cell (bchain (Below.refl _ wr).drew hb1) a0', keep_cell (bchain (Below.refl _ wr).drew hb1) a1', keep_cell (bchain (Below.refl _ wr).drew hb1) b0', keep_cell (bchain (Below.refl _ wr).drew hb1) b1', bchain (Below.refl _ wr).drew hb1⟩)
        (first | (go_at_call 15; refine (HC _ (Below.refl _ wr).drew).mono ?_; rintro e w1 ⟨rfl, hb1⟩))
      all_goals
        go_wp2
        go_roundw
        case rel => exact ⟨k + 1, by omega, by go_num, (by first | exact bchain hbw (bchain (Below.refl _ wr).drew hb1) | exact bchain hbw (bchain (Below.refl _ wr).drew hb1).drew)⟩
        case measure => simp [intOf]; omega
    · go_wp2
      go_ret
      exact ⟨rfl, hbw⟩
end Go.Proofs.YtmnehekcealjhaaGreat.O
