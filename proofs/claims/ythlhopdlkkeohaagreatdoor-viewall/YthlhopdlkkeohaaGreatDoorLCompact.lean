/- The walk of slices.CompactFunc, at leaves. -/
import Derived.Test.YthlhopdlkkeohaaGreatDoorLfMemAll
import Derived.Test.YthlhopdlkkeohaaGreatDoorOpSameAll
import Derived.Deep.RegionHeld3
namespace Go.Proofs.YthlhopdlkkeohaaGreatDoor.O
open Go.RowKit

theorem OwnR.cells2 {w : World} {g : Nat} {l : List LE} (h : OwnR w g lcell 2 l) {k : Nat} (hk : k < l.length) :
    w.cell? ⟨g, k * 2, none⟩ = some l[k].2 ∧ w.cell? ⟨g, k * 2 + 1, none⟩ = some (.int .i64 l[k].1.2) := by
  have h1 := (h.2 k hk).1
  exact ⟨h1 0 _ rfl, h1 1 _ rfl⟩
abbrev lzero : Array Value := #[.slice none 0 0, .int .i64 0]
theorem lclears {w : World} {g : Nat} {cur : List LE} (h : OwnR w g lcell 2 cur) (i n : Nat) (hi : i < n) (hn : cur.length = n) (c : Nat) (ty : TypeId) : (Builtin.clear_ #[82] ty #[.slice (some ⟨g, i * 2, none⟩) (n - i) c]).run Tryz.prog w = .ok (.tuple #[]) (w.setCells g (i * 2) (Builtin.zeroCells lzero (n - i)).toList) := by
  have hst := OwnR.clears (P := Tryz.prog) (m := 2) lzero rfl (Nat.succ_pos 1) (by decide) h i (n - i) (by omega)
  obtain ⟨m, hm⟩ : ∃ m, n - i = m + 1 := ⟨n - i - 1, by omega⟩
  rw [hm] at hst ⊢
  simp [Builtin.clear_, run_underlying Tryz.underlying82, hst, Value.cells, Result.andThen]
/-- Two leaves of the row, while they are held against each other. -/
structure L2 (w0 : World) (g i j : Nat) (x y : LE) (W : World) : Prop where
  x0 : W.cell? ⟨g, i, none⟩ = some x.2
  x1 : W.cell? ⟨g, i + 1, none⟩ = some (.int .i64 x.1.2)
  y0 : W.cell? ⟨g, j, none⟩ = some y.2
  y1 : W.cell? ⟨g, j + 1, none⟩ = some (.int .i64 y.1.2)
  below : Below w0.heap.size w0 W
theorem L2.on {w0 : World} {g i j : Nat} {x y : LE} {W W' : World} (h : L2 w0 g i j x y W) (hb : Below W.heap.size W W') : L2 w0 g i j x y W' :=
  ⟨keep_cell hb h.x0, keep_cell hb h.x1, keep_cell hb h.y0, keep_cell hb h.y1, bchain h.below hb⟩
theorem L2.drew {w0 : World} {g i j : Nat} {x y : LE} {W : World} (h : L2 w0 g i j x y W) : L2 w0 g i j x y W.drew := ⟨h.x0, h.x1, h.y0, h.y1, h.below.drew⟩
theorem L2.parts {w0 : World} {g i j : Nat} {x y : LE} {W : World} (h : L2 w0 g i j x y W) : W.cell? ⟨g, i, none⟩ = some x.2 ∧ W.cell? ⟨g, i + 1, none⟩ = some (.int .i64 x.1.2) ∧ W.cell? ⟨g, j, none⟩ = some y.2 ∧ W.cell? ⟨g, j + 1, none⟩ = some (.int .i64 y.1.2) ∧ Below w0.heap.size w0 W := ⟨h.x0, h.x1, h.y0, h.y1, h.below⟩
/-- What tree's same tells of two of them, whatever was laid since. -/
theorem same_two {w : World} {x y : LE} (fx : LFine x.1) (fy : LFine y.1) (ox : LOk w x) (oy : LOk w y) : ∀ W, Below w.heap.size w W → Calls Tryz.prog 76 #[.agg #[x.2, .int .i64 x.1.2], .agg #[y.2, .int .i64 y.1.2]] W fun e w' => e = .returned (.bool (decide (x.1 = y.1))) ∧ Below W.heap.size W w' := fun W hb =>
  lsame_any x.2 y.2 x.1.2 y.1.2 x.1.1 y.1.1 W fx.1 fy.1 fx.2.1 fy.2.1 (ox.on hb) (oy.on hb)

set_option maxRecDepth 20000 in
set_option maxHeartbeats 4000000 in
theorem compactL_any (g cap : Nat) (ds : List LE) (B : Nat) (w0 w : World) (hb0 : Below B w0 w) (hB : B ≤ g) (hO : OwnR w g lcell 2 ds) (hn : ds.length ≤ 1000000) (hc : ds.length ≤ cap) (hcm : cap ≤ maxLen) (hfine : ∀ x ∈ ds, LFine x.1) (hown : ∀ x ∈ ds, LOwn w B x) (hsep : ∀ x ∈ ds, x.2.ownBlock ≠ some g) :
    Calls Tryz.prog 75 #[.slice (some ⟨g, 0, none⟩) ds.length cap, .func (.func 76) #[] #[]] w fun e w' => e = .returned (.slice (some ⟨g, 0, none⟩) (Li.ddK Prod.fst ds ds.length).length cap) ∧ OwnR w' g lcell 2 (Li.ddK Prod.fst ds ds.length) ∧ Below B w0 w' ∧ But g w w' := by
  have hcap : cap ≤ 9223372036854775807 := by unfold maxLen at hcm; omega
  have HO : Hid (OwnR w g lcell 2 ds) := hO
  have HB : Hid (B ≤ g) := hB
  have HP : Hid (∀ W, But g w W → ∀ x ∈ ds, LOk W x) := by
    have h : ∀ W, But g w W → ∀ x ∈ ds, LOk W x := fun W hb x hx => LOwn.ok (own_but2 (hown x hx) hb (hsep x hx))
    exact h
  have HF : Hid (∀ x ∈ ds, LFine x.1) := hfine
  clear hO hB hown hsep hfine
  by_cases h2 : ds.length < 2
  · have hf : Li.ddK Prod.fst ds ds.length = ds := by
      match ds, h2 with
      | [], _ => rfl
      | [d], _ => exact Li.ddK_one (by simp)
    rw [hf]
    clear hf
    go_enter Tryz.func75, Tryz.ntmps75
    go_wp2
    go_ret
    exact ⟨rfl, HO.out, hb0, But.refl _ _⟩
  · obtain ⟨n, hn0⟩ : ∃ n, n = ds.length := ⟨_, rfl⟩
    have HN : Hid (n = ds.length) := hn0
    rw [← hn0] at hn hc h2 ⊢
    have HR : Hid (Li.fresh Prod.fst ds 1) := by have h := Li.fresh_one (f := Prod.fst) (ds := ds) (by omega); exact h
    clear hn0
    go_enter Tryz.func75, Tryz.ntmps75
    go_wp2
    go_loopw [5, 6, 7] (fun a _ _ wr => ∃ m : Nat, a = .int .i64 ((m + 1 : Nat) : Int) ∧ m + 1 ≤ n ∧ Hid (Li.fresh Prod.fst ds (m + 1)) ∧ Hid (OwnR wr g lcell 2 ds) ∧ Below B w0 wr ∧ But g w wr) (fun a _ _ _ => n - (intOf a).toNat)
    case atStart => exact ⟨0, by go_num, by omega, HR, HO, hb0, But.refl _ _⟩
    case round =>
      clear HR hb0 HO
      obtain ⟨m, rfl, hmn, HR, HOr, hbw, hbt⟩ := hrel
      by_cases hlt : m + 1 < n
      · have h1 : m + 1 < ds.length := by have := HN.out; omega
        obtain ⟨c0, c1⟩ := HOr.out.cells2 h1
        obtain ⟨d0, d1⟩ := HOr.out.cells2 (k := m) (by omega)
        have HC := same_two (HF.out _ (List.getElem_mem h1)) (HF.out _ (List.getElem_mem (show m < ds.length by omega))) (HP.out _ hbt _ (List.getElem_mem h1)) (HP.out _ hbt _ (List.getElem_mem (show m < ds.length by omega)))
        have hBg : B ≤ wr.heap.size := by have := HOr.out.1; have := HB.out; omega
        have HOn : Hid (∀ W, Below wr.heap.size wr W → OwnR W g lcell 2 ds ∧ Below B w0 W ∧ But g w W) := by
          have h : ∀ W, Below wr.heap.size wr W → OwnR W g lcell 2 ds ∧ Below B w0 W ∧ But g w W := fun W hb => ⟨HOr.out.on hb, hbw.trans (hb.mono hBg), hbt.trans (But.of hb)⟩
          exact h
        have hi0 : (0 : Int) ≤ (m : Int) + 1 := by omega
        have hi1 : (m : Int) + 1 < (n : Int) := by omega
        have hi2 : (0 : Int) ≤ (m : Int) := by omega
        have hi3 : (m : Int) < (n : Int) := by omega
        have hiw : IntKind.i64.wrap (m : Int) = (m : Int) := U.wrap_i64 (by omega) (by omega)
        obtain ⟨xa, xn, xc, ex⟩ := (HP.out _ hbt _ (List.getElem_mem h1)).slice
        obtain ⟨ya, yn, yc, ey⟩ := (HP.out _ hbt _ (List.getElem_mem (show m < ds.length by omega))).slice
        by_cases he : ds[m + 1].1 = ds[m].1
        · have HI : Hid (Li.CInv Prod.fst ds (m + 1) (m + 1 + 1) ds) := by have h := Li.CInv.start HR.out (by omega) h1 (by simpa using he); exact h
          rw [decide_eq_true he] at HC
          clear HR he HOr hbw hbt
          generalize ds[m] = y at *
          generalize ds[m + 1] = x at *
          obtain ⟨⟨xp, xk⟩, xv⟩ := x
          obtain ⟨⟨yp, yk⟩, yv⟩ := y
          simp only at ex ey c0 c1 d0 d1 HC
          subst ex
          subst ey
          go_wp2_with fail
          go_region_held3 (fun W => W.cell? ⟨g, (m + 1) * 2, none⟩ = some (.slice xa xn xc) ∧ W.cell? ⟨g, (m + 1) * 2 + 1, none⟩ = some (.int .i64 xk) ∧ W.cell? ⟨g, m * 2, none⟩ = some (.slice ya yn yc) ∧ W.cell? ⟨g, m * 2 + 1, none⟩ = some (.int .i64 yk) ∧ Below wr.heap.size wr W)
            (first | exact ⟨c0, c1, d0, d1, Below.refl _ _⟩ | exact (L2.drew (x := ((xp, xk), .slice xa xn xc)) (y := ((yp, yk), .slice ya yn yc)) ⟨c0, c1, d0, d1, Below.refl _ _⟩).parts | exact ((L2.drew (x := ((xp, xk), .slice xa xn xc)) (y := ((yp, yk), .slice ya yn yc)) ⟨c0, c1, d0, d1, Below.refl _ _⟩).on hb1).parts)
            (first | (go_at_call 76; refine (HC _ (Below.refl _ wr).drew).mono ?_; rintro e w1 ⟨rfl, hb1⟩))
          have hbx : Below wr.heap.size wr w1 := bchain (Below.refl _ wr).drew hb1
          obtain ⟨hO1, hbw1, hbt1⟩ := HOn.out w1 hbx
          have HO1 : Hid (OwnR w1 g lcell 2 ds) := hO1
          clear c0 c1 d0 d1 HC hO1 HOn hb1 hbx hBg hi0 hi1 hi2 hi3 hiw
          have hsub : ((m : Int) + 1).toNat = m + 1 := by omega
          go_wp2
          go_loopw [5, 7] (fun a b wr => ∃ (k q : Nat) (cur : List LE), a = .int .i64 (k : Int) ∧ b = .int .i64 ((q + 1 : Nat) : Int) ∧ m + 1 + (q + 1) ≤ n ∧ Hid (Li.CInv Prod.fst ds k (m + 1 + (q + 1)) cur) ∧ Hid (OwnR wr g lcell 2 cur) ∧ Below B w0 wr ∧ But g w wr) (fun _ b _ => n - (m + 1) - (intOf b).toNat)
          case atStart => exact ⟨m + 1, 0, ds, by go_num, by go_num, by omega, HI, HO1, hbw1, hbt1⟩
          case round =>
            clear HI HO1 hbw1 hbt1
            obtain ⟨k, q, cur, rfl, rfl, hq, HI, HOc, hbw, hbt⟩ := hrel
            have hcl : cur.length = n := by rw [HN.out]; exact HI.out.1
            have hkj := HI.out.2.1
            by_cases hlt2 : m + 1 + (q + 1) < n
            · have hjd : m + 1 + (q + 1) < ds.length := by have := HN.out; omega
              obtain ⟨a1, a2, a3, e1, e2⟩ := HI.out.at hjd
              obtain ⟨c0, c1⟩ := HOc.out.cells2 a1
              obtain ⟨d0, d1⟩ := HOc.out.cells2 a2
              have hkc : k < cur.length := by omega
              rw [e1] at c0 c1
              rw [e2] at d0 d1
              have HC := same_two (HF.out _ (List.getElem_mem hjd)) (HF.out _ (List.getElem_mem a3)) (HP.out _ hbt _ (List.getElem_mem hjd)) (HP.out _ hbt _ (List.getElem_mem a3))
              have hBg : B ≤ wr.heap.size := by have := HOc.out.1; have := HB.out; omega
              have HOn : Hid (∀ W, Below wr.heap.size wr W → OwnR W g lcell 2 cur ∧ Below B w0 W ∧ But g w W) := by
                have h : ∀ W, Below wr.heap.size wr W → OwnR W g lcell 2 cur ∧ Below B w0 W ∧ But g w W := fun W hb => ⟨HOc.out.on hb, hbw.trans (hb.mono hBg), hbt.trans (But.of hb)⟩
                exact h
              have hj0 : (0 : Int) ≤ (q : Int) + 1 := by omega
              have hj1 : (q : Int) + 1 < (n : Int) - ((m : Int) + 1) := by omega
              have hj2 : (0 : Int) ≤ (q : Int) := by omega
              have hj3 : (q : Int) < (n : Int) - ((m : Int) + 1) := by omega
              have hj4 : (q : Int) + ((m : Int) + 1) < (n : Int) := by omega
              have hj5 : (q : Int) < (n : Int) - (m : Int) - 1 := by omega
              have hj6 : (q : Int) < ((n - (m + 1) : Nat) : Int) := by omega
              have hj7 : q < n - (m + 1) := by omega
              have hjw : IntKind.i64.wrap (q : Int) = (q : Int) := U.wrap_i64 (by omega) (by omega)
              obtain ⟨xa, xn, xc, ex⟩ := (HP.out _ hbt _ (List.getElem_mem hjd)).slice
              obtain ⟨ya, yn, yc, ey⟩ := (HP.out _ hbt _ (List.getElem_mem a3)).slice
              rw [show (m + 1 + (q + 1)) * 2 = (m + 1) * 2 + (q + 1) * 2 by omega] at c0 c1
              rw [show (m + 1 + (q + 1) - 1) * 2 = (m + 1) * 2 + q * 2 by omega] at d0 d1
              by_cases he : ds[m + 1 + (q + 1)].1 = ds[m + 1 + (q + 1) - 1].1
              · have HI' : Hid (Li.CInv Prod.fst ds k (m + 1 + (q + 1 + 1)) cur) := by have h := HI.out.skip hjd he; exact h
                rw [decide_eq_true he] at HC
                clear HI e1 e2 he HOc hbw hbt
                generalize ds[m + 1 + (q + 1) - 1] = y at *
                generalize ds[m + 1 + (q + 1)] = x at *
                obtain ⟨⟨xp, xk⟩, xv⟩ := x
                obtain ⟨⟨yp, yk⟩, yv⟩ := y
                simp only at ex ey c0 c1 d0 d1 HC
                subst ex
                subst ey
                go_wp2_with fail
                go_region_held3 (fun W => W.cell? ⟨g, (m + 1) * 2 + (q + 1) * 2, none⟩ = some (.slice xa xn xc) ∧ W.cell? ⟨g, (m + 1) * 2 + (q + 1) * 2 + 1, none⟩ = some (.int .i64 xk) ∧ W.cell? ⟨g, (m + 1) * 2 + q * 2, none⟩ = some (.slice ya yn yc) ∧ W.cell? ⟨g, (m + 1) * 2 + q * 2 + 1, none⟩ = some (.int .i64 yk) ∧ Below wr.heap.size wr W)
                  (first | exact ⟨c0, c1, d0, d1, Below.refl _ _⟩ | exact (L2.drew (x := ((xp, xk), .slice xa xn xc)) (y := ((yp, yk), .slice ya yn yc)) ⟨c0, c1, d0, d1, Below.refl _ _⟩).parts | exact ((L2.drew (x := ((xp, xk), .slice xa xn xc)) (y := ((yp, yk), .slice ya yn yc)) ⟨c0, c1, d0, d1, Below.refl _ _⟩).on hb1).parts)
                  (first | (go_at_call 76; refine (HC _ (Below.refl _ wr).drew).mono ?_; rintro e w1 ⟨rfl, hb1⟩))
                have hbx : Below wr.heap.size wr w1 := bchain (Below.refl _ wr).drew hb1
                obtain ⟨hO1, hbw1, hbt1⟩ := HOn.out w1 hbx
                have HO1 : Hid (OwnR w1 g lcell 2 cur) := hO1
                clear c0 c1 d0 d1 HC hO1 HOn hb1 hbx hj0 hj1 hj2 hj3 hj4 hj5 hj6 hj7 hjw
                go_wp2
                go_roundw
                case rel => exact ⟨k, q + 1, cur, rfl, by go_num, by omega, HI', HO1, hbw1, hbt1⟩
                case measure => simp [intOf]; omega
              · have HI' : Hid (Li.CInv Prod.fst ds (k + 1) (m + 1 + (q + 1 + 1)) (cur.set k ds[m + 1 + (q + 1)])) := by have h := HI.out.keep hjd he; exact h
                have HF' : Hid (∀ w2, OwnR w2 g lcell 2 cur → OwnR (w2.setCells g (k * 2) (lcell ds[m + 1 + (q + 1)])) g lcell 2 (cur.set k ds[m + 1 + (q + 1)])) := by
                  have h := fun w2 (h2 : OwnR w2 g lcell 2 cur) => h2.set lcell_len hkc ds[m + 1 + (q + 1)]
                  exact h
                rw [decide_eq_false he] at HC
                clear HI e1 e2 he HOc hbw hbt
                generalize cur.set k ds[m + 1 + (q + 1)] = cur' at *
                generalize ds[m + 1 + (q + 1) - 1] = y at *
                generalize ds[m + 1 + (q + 1)] = x at *
                obtain ⟨⟨xp, xk⟩, xv⟩ := x
                obtain ⟨⟨yp, yk⟩, yv⟩ := y
                simp only at ex ey c0 c1 d0 d1 HC
                subst ex
                subst ey
                go_wp2_with fail
                go_region_held3 (fun W => W.cell? ⟨g, (m + 1) * 2 + (q + 1) * 2, none⟩ = some (.slice xa xn xc) ∧ W.cell? ⟨g, (m + 1) * 2 + (q + 1) * 2 + 1, none⟩ = some (.int .i64 xk) ∧ W.cell? ⟨g, (m + 1) * 2 + q * 2, none⟩ = some (.slice ya yn yc) ∧ W.cell? ⟨g, (m + 1) * 2 + q * 2 + 1, none⟩ = some (.int .i64 yk) ∧ Below wr.heap.size wr W)
                  (first | exact ⟨c0, c1, d0, d1, Below.refl _ _⟩ | exact (L2.drew (x := ((xp, xk), .slice xa xn xc)) (y := ((yp, yk), .slice ya yn yc)) ⟨c0, c1, d0, d1, Below.refl _ _⟩).parts | exact ((L2.drew (x := ((xp, xk), .slice xa xn xc)) (y := ((yp, yk), .slice ya yn yc)) ⟨c0, c1, d0, d1, Below.refl _ _⟩).on hb1).parts)
                  (first | (go_at_call 76; refine (HC _ (Below.refl _ wr).drew).mono ?_; rintro e w1 ⟨rfl, hb1⟩))
                have hbx : Below wr.heap.size wr w1 := bchain (Below.refl _ wr).drew hb1
                obtain ⟨hO1, hbw1, hbt1⟩ := HOn.out w1 hbx
                have HO1 : Hid (OwnR w1 g lcell 2 cur) := hO1
                have hth := (hO1.2 k hkc).2
                have f0 := keep_cell hbx c0
                have f1 := keep_cell hbx c1
                clear c0 c1 d0 d1 HC HOn hb1 hbx hO1
                go_wp2_with (first | (refine store_row rfl 85 _ _ rfl g (k * 2) (lcell ((xp, xk), .slice xa xn xc)) rfl rfl (by show World.there _ _ _ 2; exact hth) (lsize77 rfl) (lcell_one ⟨_, _, _, rfl⟩) ?_) | go_in)
                have hx : ((m : Int) + 1 < (n : Int)) := by omega
                (try push_cast)
                (try simp only [hx, decide_true])
                go_roundw
                case rel => exact ⟨k + 1, q + 1, cur', by go_num, by go_num, by omega, HI', HF'.out _ HO1.out, below_setCells HB.out (lcell ((xp, xk), .slice xa xn xc)) (k * 2) _ hbw1, but_setCells (lcell ((xp, xk), .slice xa xn xc)) (k * 2) _ hbt1⟩
                case measure => simp [intOf]; omega
            · have hjn : n = m + 1 + (q + 1) := by omega
              have hkl : k < n := by omega
              have hcl9 := lclears HOc.out k n hkl hcl
              have HE : Hid (k = (Li.ddK Prod.fst ds n).length ∧ cur.take k = Li.ddK Prod.fst ds n) := by
                have h1 := HI.out.len
                have h2 := HI.out.2.2.2.2.1
                rw [← hjn] at h1 h2
                exact (⟨h1, h2⟩ : k = (Li.ddK Prod.fst ds n).length ∧ cur.take k = Li.ddK Prod.fst ds n)
              have hin : k ≤ cap := by omega
              have hqn : ¬ ((q : Int) + 1 < (n : Int) - ((m : Int) + 1)) := by omega
              clear hjn
              generalize (Builtin.zeroCells lzero (n - k)).toList = vs at *
              go_wp2
              go_ret
              refine ⟨by rw [← HE.out.1]; rfl, ?_, below_setCells HB.out vs (k * 2) _ hbw, but_setCells vs (k * 2) _ hbt⟩
              rw [← HE.out.2]
              exact HOc.out.clear lcell_len k vs
        · have HR' : Hid (Li.fresh Prod.fst ds (m + 1 + 1)) := by have h := Li.fresh_step HR.out h1 (by simpa using he); exact h
          rw [decide_eq_false he] at HC
          clear HR he HOr hbw hbt
          generalize ds[m] = y at *
          generalize ds[m + 1] = x at *
          obtain ⟨⟨xp, xk⟩, xv⟩ := x
          obtain ⟨⟨yp, yk⟩, yv⟩ := y
          simp only at ex ey c0 c1 d0 d1 HC
          subst ex
          subst ey
          go_wp2_with fail
          go_region_held3 (fun W => W.cell? ⟨g, (m + 1) * 2, none⟩ = some (.slice xa xn xc) ∧ W.cell? ⟨g, (m + 1) * 2 + 1, none⟩ = some (.int .i64 xk) ∧ W.cell? ⟨g, m * 2, none⟩ = some (.slice ya yn yc) ∧ W.cell? ⟨g, m * 2 + 1, none⟩ = some (.int .i64 yk) ∧ Below wr.heap.size wr W)
            (first | exact ⟨c0, c1, d0, d1, Below.refl _ _⟩ | exact (L2.drew (x := ((xp, xk), .slice xa xn xc)) (y := ((yp, yk), .slice ya yn yc)) ⟨c0, c1, d0, d1, Below.refl _ _⟩).parts | exact ((L2.drew (x := ((xp, xk), .slice xa xn xc)) (y := ((yp, yk), .slice ya yn yc)) ⟨c0, c1, d0, d1, Below.refl _ _⟩).on hb1).parts)
            (first | (go_at_call 76; refine (HC _ (Below.refl _ wr).drew).mono ?_; rintro e w1 ⟨rfl, hb1⟩))
          have hbx : Below wr.heap.size wr w1 := bchain (Below.refl _ wr).drew hb1
          obtain ⟨hO1, hbw1, hbt1⟩ := HOn.out w1 hbx
          have HO1 : Hid (OwnR w1 g lcell 2 ds) := hO1
          clear c0 c1 d0 d1 HC hO1 HOn hb1 hbx hi0 hi1 hi2 hi3 hiw
          go_wp2
          go_roundw
          case rel => exact ⟨m + 1, by go_num, by omega, HR', HO1, hbw1, hbt1⟩
          case measure => simp [intOf]; omega
      · obtain rfl : n = m + 1 := by omega
        have HE : Hid (Li.ddK Prod.fst ds (m + 1) = ds ∧ m + 1 = ds.length) := by
          have h : Li.ddK Prod.fst ds (m + 1) = ds ∧ m + 1 = ds.length := ⟨by rw [HR.out, HN.out, List.take_length], HN.out⟩
          exact h
        go_wp2
        go_ret
        refine ⟨by rw [HE.out.1, ← HE.out.2]; rfl, by rw [HE.out.1]; exact HOr.out, hbw, hbt⟩
end Go.Proofs.YthlhopdlkkeohaaGreatDoor.O
