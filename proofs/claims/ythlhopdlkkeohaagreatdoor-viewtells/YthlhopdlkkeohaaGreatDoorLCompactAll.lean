/- The walk of slices.CompactFunc, at leaves · Small laws on worlds that all texts of this seat share · The walks of the dot's own functions, and of the document's: is it right, how two stand · The walks of the program's Compare and Refs, and of the document's · The walks of both dot Codes, and of dot.Read over a reader whose text begins with a dot's bytes · A value in memory; the walks of inside, holding, Fold, Unfold, and of the document's Fold · A region that draws its order, walked operation by operation: what yields in every world that meets the region's condition is taken first, whatever the order; a call by its contract. -/
import Derived.Test.YthlhopdlkkeohaaGreatDoorAtP2AllAll
import Derived.Test.YthlhopdlkkeohaaGreatDoorEqualsAllAll
import Derived.Deep.RegionHeld3
import Derived.Test.YthlhopdlkkeohaaGreatDoorQuotesAll
import Derived.Test.YthlhopdlkkeohaaGreatDoorPathsAll
import Derived.WalkKit
import Derived.Deep.RegionWith
import Derived.Deep.Quiet
import Derived.Test.YthlhopdlkkeohaaGreatDoorBuilderAll
/- The walk of slices.CompactFunc, at leaves. -/
namespace Go.Proofs.YthlhopdlkkeohaaGreatDoor.O
open Go.RowKit

theorem OwnR.cells2 {w : World} {g : Nat} {l : List LE} (h : OwnR w g lcell 2 l) {k : Nat} (hk : k < l.length) :
    w.cell? ⟨g, k * 2, none⟩ = some l[k].2 ∧ w.cell? ⟨g, k * 2 + 1, none⟩ = some (.int .i64 l[k].1.2) := by
  have h1 := (h.2 k hk).1
  exact ⟨h1 0 _ rfl, h1 1 _ rfl⟩
abbrev lzero : Array Value := #[.slice none 0 0, .int .i64 0]
theorem lclears {w : World} {g : Nat} {cur : List LE} (h : OwnR w g lcell 2 cur) (i n : Nat) (hi : i < n) (hn : cur.length = n) (c : Nat) (ty : TypeId) : (Builtin.clear_ #[82] ty #[.slice (some ⟨g, i * 2, none⟩) (n - i) c]).run Tryz.prog w = .ok (.tuple #[]) (w.setCells g (i * 2) (Builtin.zeroCells lzero (n - i)).toList) := by
  have hst := OwnR.clears (P := Tryz.prog) (m := 2) lzero rfl (Nat.succ_pos 1) (by decide) h i (n - i) (by omega)
  obtain ⟨m, hm⟩ : ∃ m, n - i = m + 1 := ⟨n - i - 1, by omega⟩
  rw [hm] at hst ⊢
  simp [Builtin.clear_, run_underlying Tryz.underlying82, hst, Value.cells, Result.andThen]
/-- Two leaves of the row, while they are held against each other. -/
structure L2 (w0 : World) (g i j : Nat) (x y : LE) (W : World) : Prop where
  x0 : W.cell? ⟨g, i, none⟩ = some x.2
  x1 : W.cell? ⟨g, i + 1, none⟩ = some (.int .i64 x.1.2)
  y0 : W.cell? ⟨g, j, none⟩ = some y.2
  y1 : W.cell? ⟨g, j + 1, none⟩ = some (.int .i64 y.1.2)
  below : Below w0.heap.size w0 W
theorem L2.on {w0 : World} {g i j : Nat} {x y : LE} {W W' : World} (h : L2 w0 g i j x y W) (hb : Below W.heap.size W W') : L2 w0 g i j x y W' :=
  ⟨keep_cell hb h.x0, keep_cell hb h.x1, keep_cell hb h.y0, keep_cell hb h.y1, bchain h.below hb⟩
theorem L2.drew {w0 : World} {g i j : Nat} {x y : LE} {W : World} (h : L2 w0 g i j x y W) : L2 w0 g i j x y W.drew := ⟨h.x0, h.x1, h.y0, h.y1, h.below.drew⟩
theorem L2.parts {w0 : World} {g i j : Nat} {x y : LE} {W : World} (h : L2 w0 g i j x y W) : W.cell? ⟨g, i, none⟩ = some x.2 ∧ W.cell? ⟨g, i + 1, none⟩ = some (.int .i64 x.1.2) ∧ W.cell? ⟨g, j, none⟩ = some y.2 ∧ W.cell? ⟨g, j + 1, none⟩ = some (.int .i64 y.1.2) ∧ Below w0.heap.size w0 W := ⟨h.x0, h.x1, h.y0, h.y1, h.below⟩
/-- What tree's same tells of two of them, whatever was laid since. -/
theorem same_two {w : World} {x y : LE} (fx : LFine x.1) (fy : LFine y.1) (ox : LOk w x) (oy : LOk w y) : ∀ W, Below w.heap.size w W → Calls Tryz.prog 76 #[.agg #[x.2, .int .i64 x.1.2], .agg #[y.2, .int .i64 y.1.2]] W fun e w' => e = .returned (.bool (decide (x.1 = y.1))) ∧ Below W.heap.size W w' := fun W hb =>
  lsame_any x.2 y.2 x.1.2 y.1.2 x.1.1 y.1.1 W fx.1 fy.1 fx.2.1 fy.2.1 (ox.on hb) (oy.on hb)

set_option maxRecDepth 20000 in
set_option maxHeartbeats 4000000 in
theorem compactL_any (g cap : Nat) (ds : List LE) (B : Nat) (w0 w : World) (hb0 : Below B w0 w) (hB : B ≤ g) (hO : OwnR w g lcell 2 ds) (hn : ds.length ≤ 1000000) (hc : ds.length ≤ cap) (hcm : cap ≤ maxLen) (hfine : ∀ x ∈ ds, LFine x.1) (hown : ∀ x ∈ ds, LOwn w B x) (hsep : ∀ x ∈ ds, x.2.ownBlock ≠ some g) :
    Calls Tryz.prog 75 #[.slice (some ⟨g, 0, none⟩) ds.length cap, .func (.func 76) #[] #[]] w fun e w' => e = .returned (.slice (some ⟨g, 0, none⟩) (Li.ddK Prod.fst ds ds.length).length cap) ∧ OwnR w' g lcell 2 (Li.ddK Prod.fst ds ds.length) ∧ Below B w0 w' ∧ But g w w' := by
  have hcap : cap ≤ 9223372036854775807 := by unfold maxLen at hcm; omega
  have HO : Hid (OwnR w g lcell 2 ds) := hO
  have HB : Hid (B ≤ g) := hB
  have HP : Hid (∀ W, But g w W → ∀ x ∈ ds, LOk W x) := by
    have h : ∀ W, But g w W → ∀ x ∈ ds, LOk W x := fun W hb x hx => LOwn.ok (own_but2 (hown x hx) hb (hsep x hx))
    exact h
  have HF : Hid (∀ x ∈ ds, LFine x.1) := hfine
  clear hO hB hown hsep hfine
  by_cases h2 : ds.length < 2
  · have hf : Li.ddK Prod.fst ds ds.length = ds := by
      match ds, h2 with
      | [], _ => rfl
      | [d], _ => exact Li.ddK_one (by simp)
    rw [hf]
    clear hf
    go_enter Tryz.func75, Tryz.ntmps75
    go_wp2
    go_ret
    exact ⟨rfl, HO.out, hb0, But.refl _ _⟩
  · obtain ⟨n, hn0⟩ : ∃ n, n = ds.length := ⟨_, rfl⟩
    have HN : Hid (n = ds.length) := hn0
    rw [← hn0] at hn hc h2 ⊢
    have HR : Hid (Li.fresh Prod.fst ds 1) := by have h := Li.fresh_one (f := Prod.fst) (ds := ds) (by omega); exact h
    clear hn0
    go_enter Tryz.func75, Tryz.ntmps75
    go_wp2
    go_loopw [5, 6, 7] (fun a _ _ wr => ∃ m : Nat, a = .int .i64 ((m + 1 : Nat) : Int) ∧ m + 1 ≤ n ∧ Hid (Li.fresh Prod.fst ds (m + 1)) ∧ Hid (OwnR wr g lcell 2 ds) ∧ Below B w0 wr ∧ But g w wr) (fun a _ _ _ => n - (intOf a).toNat)
    case atStart => exact ⟨0, by go_num, by omega, HR, HO, hb0, But.refl _ _⟩
    case round =>
      clear HR hb0 HO
      obtain ⟨m, rfl, hmn, HR, HOr, hbw, hbt⟩ := hrel
      by_cases hlt : m + 1 < n
      · have h1 : m + 1 < ds.length := by have := HN.out; omega
        obtain ⟨c0, c1⟩ := HOr.out.cells2 h1
        obtain ⟨d0, d1⟩ := HOr.out.cells2 (k := m) (by omega)
        have HC := same_two (HF.out _ (List.getElem_mem h1)) (HF.out _ (List.getElem_mem (show m < ds.length by omega))) (HP.out _ hbt _ (List.getElem_mem h1)) (HP.out _ hbt _ (List.getElem_mem (show m < ds.length by omega)))
        have hBg : B ≤ wr.heap.size := by have := HOr.out.1; have := HB.out; omega
        have HOn : Hid (∀ W, Below wr.heap.size wr W → OwnR W g lcell 2 ds ∧ Below B w0 W ∧ But g w W) := by
          have h : ∀ W, Below wr.heap.size wr W → OwnR W g lcell 2 ds ∧ Below B w0 W ∧ But g w W := fun W hb => ⟨HOr.out.on hb, hbw.trans (hb.mono hBg), hbt.trans (But.of hb)⟩
          exact h
        have hi0 : (0 : Int) ≤ (m : Int) + 1 := by omega
        have hi1 : (m : Int) + 1 < (n : Int) := by omega
        have hi2 : (0 : Int) ≤ (m : Int) := by omega
        have hi3 : (m : Int) < (n : Int) := by omega
        have hiw : IntKind.i64.wrap (m : Int) = (m : Int) := U.wrap_i64 (by omega) (by omega)
        obtain ⟨xa, xn, xc, ex⟩ := (HP.out _ hbt _ (List.getElem_mem h1)).slice
        obtain ⟨ya, yn, yc, ey⟩ := (HP.out _ hbt _ (List.getElem_mem (show m < ds.length by omega))).slice
        by_cases he : ds[m + 1].1 = ds[m].1
        · have HI : Hid (Li.CInv Prod.fst ds (m + 1) (m + 1 + 1) ds) := by have h := Li.CInv.start HR.out (by omega) h1 (by simpa using he); exact h
          rw [decide_eq_true he] at HC
          clear HR he HOr hbw hbt
          generalize ds[m] = y at *
          generalize ds[m + 1] = x at *
          obtain ⟨⟨xp, xk⟩, xv⟩ := x
          obtain ⟨⟨yp, yk⟩, yv⟩ := y
          simp only at ex ey c0 c1 d0 d1 HC
          subst ex
          subst ey
          go_wp2_with fail
          go_region_held3 (fun W => W.cell? ⟨g, (m + 1) * 2, none⟩ = some (.slice xa xn xc) ∧ W.cell? ⟨g, (m + 1) * 2 + 1, none⟩ = some (.int .i64 xk) ∧ W.cell? ⟨g, m * 2, none⟩ = some (.slice ya yn yc) ∧ W.cell? ⟨g, m * 2 + 1, none⟩ = some (.int .i64 yk) ∧ Below wr.heap.size wr W)
            (first | exact ⟨c0, c1, d0, d1, Below.refl _ _⟩ | exact (L2.drew (x := ((xp, xk), .slice xa xn xc)) (y := ((yp, yk), .slice ya yn yc)) ⟨c0, c1, d0, d1, Below.refl _ _⟩).parts | exact ((L2.drew (x := ((xp, xk), .slice xa xn xc)) (y := ((yp, yk), .slice ya yn yc)) ⟨c0, c1, d0, d1, Below.refl _ _⟩).on hb1).parts)
            (first | (go_at_call 76; refine (HC _ (Below.refl _ wr).drew).mono ?_; rintro e w1 ⟨rfl, hb1⟩))
          have hbx : Below wr.heap.size wr w1 := bchain (Below.refl _ wr).drew hb1
          obtain ⟨hO1, hbw1, hbt1⟩ := HOn.out w1 hbx
          have HO1 : Hid (OwnR w1 g lcell 2 ds) := hO1
          clear c0 c1 d0 d1 HC hO1 HOn hb1 hbx hBg hi0 hi1 hi2 hi3 hiw
          have hsub : ((m : Int) + 1).toNat = m + 1 := by omega
          go_wp2
          go_loopw [5, 7] (fun a b wr => ∃ (k q : Nat) (cur : List LE), a = .int .i64 (k : Int) ∧ b = .int .i64 ((q + 1 : Nat) : Int) ∧ m + 1 + (q + 1) ≤ n ∧ Hid (Li.CInv Prod.fst ds k (m + 1 + (q + 1)) cur) ∧ Hid (OwnR wr g lcell 2 cur) ∧ Below B w0 wr ∧ But g w wr) (fun _ b _ => n - (m + 1) - (intOf b).toNat)
          case atStart => exact ⟨m + 1, 0, ds, by go_num, by go_num, by omega, HI, HO1, hbw1, hbt1⟩
          case round =>
            clear HI HO1 hbw1 hbt1
            obtain ⟨k, q, cur, rfl, rfl, hq, HI, HOc, hbw, hbt⟩ := hrel
            have hcl : cur.length = n := by rw [HN.out]; exact HI.out.1
            have hkj := HI.out.2.1
            by_cases hlt2 : m + 1 + (q + 1) < n
            · have hjd : m + 1 + (q + 1) < ds.length := by have := HN.out; omega
              obtain ⟨a1, a2, a3, e1, e2⟩ := HI.out.at hjd
              obtain ⟨c0, c1⟩ := HOc.out.cells2 a1
              obtain ⟨d0, d1⟩ := HOc.out.cells2 a2
              have hkc : k < cur.length := by omega
              rw [e1] at c0 c1
              rw [e2] at d0 d1
              have HC := same_two (HF.out _ (List.getElem_mem hjd)) (HF.out _ (List.getElem_mem a3)) (HP.out _ hbt _ (List.getElem_mem hjd)) (HP.out _ hbt _ (List.getElem_mem a3))
              have hBg : B ≤ wr.heap.size := by have := HOc.out.1; have := HB.out; omega
              have HOn : Hid (∀ W, Below wr.heap.size wr W → OwnR W g lcell 2 cur ∧ Below B w0 W ∧ But g w W) := by
                have h : ∀ W, Below wr.heap.size wr W → OwnR W g lcell 2 cur ∧ Below B w0 W ∧ But g w W := fun W hb => ⟨HOc.out.on hb, hbw.trans (hb.mono hBg), hbt.trans (But.of hb)⟩
                exact h
              have hj0 : (0 : Int) ≤ (q : Int) + 1 := by omega
              have hj1 : (q : Int) + 1 < (n : Int) - ((m : Int) + 1) := by omega
              have hj2 : (0 : Int) ≤ (q : Int) := by omega
              have hj3 : (q : Int) < (n : Int) - ((m : Int) + 1) := by omega
              have hj4 : (q : Int) + ((m : Int) + 1) < (n : Int) := by omega
              have hj5 : (q : Int) < (n : Int) - (m : Int) - 1 := by omega
              have hj6 : (q : Int) < ((n - (m + 1) : Nat) : Int) := by omega
              have hj7 : q < n - (m + 1) := by omega
              have hjw : IntKind.i64.wrap (q : Int) = (q : Int) := U.wrap_i64 (by omega) (by omega)
              obtain ⟨xa, xn, xc, ex⟩ := (HP.out _ hbt _ (List.getElem_mem hjd)).slice
              obtain ⟨ya, yn, yc, ey⟩ := (HP.out _ hbt _ (List.getElem_mem a3)).slice
              rw [show (m + 1 + (q + 1)) * 2 = (m + 1) * 2 + (q + 1) * 2 by omega] at c0 c1
              rw [show (m + 1 + (q + 1) - 1) * 2 = (m + 1) * 2 + q * 2 by omega] at d0 d1
              by_cases he : ds[m + 1 + (q + 1)].1 = ds[m + 1 + (q + 1) - 1].1
              · have HI' : Hid (Li.CInv Prod.fst ds k (m + 1 + (q + 1 + 1)) cur) := by have h := HI.out.skip hjd he; exact h
                rw [decide_eq_true he] at HC
                clear HI e1 e2 he HOc hbw hbt
                generalize ds[m + 1 + (q + 1) - 1] = y at *
                generalize ds[m + 1 + (q + 1)] = x at *
                obtain ⟨⟨xp, xk⟩, xv⟩ := x
                obtain ⟨⟨yp, yk⟩, yv⟩ := y
                simp only at ex ey c0 c1 d0 d1 HC
                subst ex
                subst ey
                go_wp2_with fail
                go_region_held3 (fun W => W.cell? ⟨g, (m + 1) * 2 + (q + 1) * 2, none⟩ = some (.slice xa xn xc) ∧ W.cell? ⟨g, (m + 1) * 2 + (q + 1) * 2 + 1, none⟩ = some (.int .i64 xk) ∧ W.cell? ⟨g, (m + 1) * 2 + q * 2, none⟩ = some (.slice ya yn yc) ∧ W.cell? ⟨g, (m + 1) * 2 + q * 2 + 1, none⟩ = some (.int .i64 yk) ∧ Below wr.heap.size wr W)
                  (first | exact ⟨c0, c1, d0, d1, Below.refl _ _⟩ | exact (L2.drew (x := ((xp, xk), .slice xa xn xc)) (y := ((yp, yk), .slice ya yn yc)) ⟨c0, c1, d0, d1, Below.refl _ _⟩).parts | exact ((L2.drew (x := ((xp, xk), .slice xa xn xc)) (y := ((yp, yk), .slice ya yn yc)) ⟨c0, c1, d0, d1, Below.refl _ _⟩).on hb1).parts)
                  (first | (go_at_call 76; refine (HC _ (Below.refl _ wr).drew).mono ?_; rintro e w1 ⟨rfl, hb1⟩))
                have hbx : Below wr.heap.size wr w1 := bchain (Below.refl _ wr).drew hb1
                obtain ⟨hO1, hbw1, hbt1⟩ := HOn.out w1 hbx
                have HO1 : Hid (OwnR w1 g lcell 2 cur) := hO1
                clear c0 c1 d0 d1 HC hO1 HOn hb1 hbx hj0 hj1 hj2 hj3 hj4 hj5 hj6 hj7 hjw
                go_wp2
                go_roundw
                case rel => exact ⟨k, q + 1, cur, rfl, by go_num, by omega, HI', HO1, hbw1, hbt1⟩
                case measure => simp [intOf]; omega
              · have HI' : Hid (Li.CInv Prod.fst ds (k + 1) (m + 1 + (q + 1 + 1)) (cur.set k ds[m + 1 + (q + 1)])) := by have h := HI.out.keep hjd he; exact h
                have HF' : Hid (∀ w2, OwnR w2 g lcell 2 cur → OwnR (w2.setCells g (k * 2) (lcell ds[m + 1 + (q + 1)])) g lcell 2 (cur.set k ds[m + 1 + (q + 1)])) := by
                  have h := fun w2 (h2 : OwnR w2 g lcell 2 cur) => h2.set lcell_len hkc ds[m + 1 + (q + 1)]
                  exact h
                rw [decide_eq_false he] at HC
                clear HI e1 e2 he HOc hbw hbt
                generalize cur.set k ds[m + 1 + (q + 1)] = cur' at *
                generalize ds[m + 1 + (q + 1) - 1] = y at *
                generalize ds[m + 1 + (q + 1)] = x at *
                obtain ⟨⟨xp, xk⟩, xv⟩ := x
                obtain ⟨⟨yp, yk⟩, yv⟩ := y
                simp only at ex ey c0 c1 d0 d1 HC
                subst ex
                subst ey
                go_wp2_with fail
                go_region_held3 (fun W => W.cell? ⟨g, (m + 1) * 2 + (q + 1) * 2, none⟩ = some (.slice xa xn xc) ∧ W.cell? ⟨g, (m + 1) * 2 + (q + 1) * 2 + 1, none⟩ = some (.int .i64 xk) ∧ W.cell? ⟨g, (m + 1) * 2 + q * 2, none⟩ = some (.slice ya yn yc) ∧ W.cell? ⟨g, (m + 1) * 2 + q * 2 + 1, none⟩ = some (.int .i64 yk) ∧ Below wr.heap.size wr W)
                  (first | exact ⟨c0, c1, d0, d1, Below.refl _ _⟩ | exact (L2.drew (x := ((xp, xk), .slice xa xn xc)) (y := ((yp, yk), .slice ya yn yc)) ⟨c0, c1, d0, d1, Below.refl _ _⟩).parts | exact ((L2.drew (x := ((xp, xk), .slice xa xn xc)) (y := ((yp, yk), .slice ya yn yc)) ⟨c0, c1, d0, d1, Below.refl _ _⟩).on hb1).parts)
                  (first | (go_at_call 76; refine (HC _ (Below.refl _ wr).drew).mono ?_; rintro e w1 ⟨rfl, hb1⟩))
                have hbx : Below wr.heap.size wr w1 := bchain (Below.refl _ wr).drew hb1
                obtain ⟨hO1, hbw1, hbt1⟩ := HOn.out w1 hbx
                have HO1 : Hid (OwnR w1 g lcell 2 cur) := hO1
                have hth := (hO1.2 k hkc).2
                have f0 := keep_cell hbx c0
                have f1 := keep_cell hbx c1
                clear c0 c1 d0 d1 HC HOn hb1 hbx hO1
                go_wp2_with (first | (refine store_row rfl 85 _ _ rfl g (k * 2) (lcell ((xp, xk), .slice xa xn xc)) rfl rfl (by show World.there _ _ _ 2; exact hth) (lsize77 rfl) (lcell_one ⟨_, _, _, rfl⟩) ?_) | go_in)
                have hx : ((m : Int) + 1 < (n : Int)) := by omega
                (try push_cast)
                (try simp only [hx, decide_true])
                go_roundw
                case rel => exact ⟨k + 1, q + 1, cur', by go_num, by go_num, by omega, HI', HF'.out _ HO1.out, below_setCells HB.out (lcell ((xp, xk), .slice xa xn xc)) (k * 2) _ hbw1, but_setCells (lcell ((xp, xk), .slice xa xn xc)) (k * 2) _ hbt1⟩
                case measure => simp [intOf]; omega
            · have hjn : n = m + 1 + (q + 1) := by omega
              have hkl : k < n := by omega
              have hcl9 := lclears HOc.out k n hkl hcl
              have HE : Hid (k = (Li.ddK Prod.fst ds n).length ∧ cur.take k = Li.ddK Prod.fst ds n) := by
                have h1 := HI.out.len
                have h2 := HI.out.2.2.2.2.1
                rw [← hjn] at h1 h2
                exact (⟨h1, h2⟩ : k = (Li.ddK Prod.fst ds n).length ∧ cur.take k = Li.ddK Prod.fst ds n)
              have hin : k ≤ cap := by omega
              have hqn : ¬ ((q : Int) + 1 < (n : Int) - ((m : Int) + 1)) := by omega
              clear hjn
              generalize (Builtin.zeroCells lzero (n - k)).toList = vs at *
              go_wp2
              go_ret
              refine ⟨by rw [← HE.out.1]; rfl, ?_, below_setCells HB.out vs (k * 2) _ hbw, but_setCells vs (k * 2) _ hbt⟩
              rw [← HE.out.2]
              exact HOc.out.clear lcell_len k vs
        · have HR' : Hid (Li.fresh Prod.fst ds (m + 1 + 1)) := by have h := Li.fresh_step HR.out h1 (by simpa using he); exact h
          rw [decide_eq_false he] at HC
          clear HR he HOr hbw hbt
          generalize ds[m] = y at *
          generalize ds[m + 1] = x at *
          obtain ⟨⟨xp, xk⟩, xv⟩ := x
          obtain ⟨⟨yp, yk⟩, yv⟩ := y
          simp only at ex ey c0 c1 d0 d1 HC
          subst ex
          subst ey
          go_wp2_with fail
          go_region_held3 (fun W => W.cell? ⟨g, (m + 1) * 2, none⟩ = some (.slice xa xn xc) ∧ W.cell? ⟨g, (m + 1) * 2 + 1, none⟩ = some (.int .i64 xk) ∧ W.cell? ⟨g, m * 2, none⟩ = some (.slice ya yn yc) ∧ W.cell? ⟨g, m * 2 + 1, none⟩ = some (.int .i64 yk) ∧ Below wr.heap.size wr W)
            (first | exact ⟨c0, c1, d0, d1, Below.refl _ _⟩ | exact (L2.drew (x := ((xp, xk), .slice xa xn xc)) (y := ((yp, yk), .slice ya yn yc)) ⟨c0, c1, d0, d1, Below.refl _ _⟩).parts | exact ((L2.drew (x := ((xp, xk), .slice xa xn xc)) (y := ((yp, yk), .slice ya yn yc)) ⟨c0, c1, d0, d1, Below.refl _ _⟩).on hb1).parts)
            (first | (go_at_call 76; refine (HC _ (Below.refl _ wr).drew).mono ?_; rintro e w1 ⟨rfl, hb1⟩))
          have hbx : Below wr.heap.size wr w1 := bchain (Below.refl _ wr).drew hb1
          obtain ⟨hO1, hbw1, hbt1⟩ := HOn.out w1 hbx
          have HO1 : Hid (OwnR w1 g lcell 2 ds) := hO1
          clear c0 c1 d0 d1 HC hO1 HOn hb1 hbx hi0 hi1 hi2 hi3 hiw
          go_wp2
          go_roundw
          case rel => exact ⟨m + 1, by go_num, by omega, HR', HO1, hbw1, hbt1⟩
          case measure => simp [intOf]; omega
      · obtain rfl : n = m + 1 := by omega
        have HE : Hid (Li.ddK Prod.fst ds (m + 1) = ds ∧ m + 1 = ds.length) := by
          have h : Li.ddK Prod.fst ds (m + 1) = ds ∧ m + 1 = ds.length := ⟨by rw [HR.out, HN.out, List.take_length], HN.out⟩
          exact h
        go_wp2
        go_ret
        refine ⟨by rw [HE.out.1, ← HE.out.2]; rfl, by rw [HE.out.1]; exact HOr.out, hbw, hbt⟩
end Go.Proofs.YthlhopdlkkeohaaGreatDoor.O
/- Small laws on worlds that all texts of this seat share. -/
namespace Go.Proofs.YthlhopdlkkeohaaGreatDoor
open Go.RowKit
theorem bchain {a b c : World} (h : Below a.heap.size a b) (k : Below b.heap.size b c) : Below a.heap.size a c := h.trans (k.mono h.size)
theorem below_new2 (w : World) (o p : Obj) : Below w.heap.size w ((w.alloc o).alloc p) := bchain (below_new w o) (below_new _ p)
theorem below_new3 (w : World) (o p q : Obj) : Below w.heap.size w (((w.alloc o).alloc p).alloc q) := bchain (below_new2 w o p) (below_new _ q)
/-- What a cell holds, it holds behind a call that leaves all that was there. -/
theorem keep_cell {W w1 : World} {a : Addr} {v : Value} (hb : Below W.heap.size W w1) (h : W.cell? a = some v) : w1.cell? a = some v := (hb.cell (World.block_lt_of_cell? W a h)).trans h
theorem cat_lists (a b : List UInt8) : (⟨a.toArray⟩ : ByteArray) ++ ⟨b.toArray⟩ = ⟨(a ++ b).toArray⟩ := by apply ByteArray.ext; simp
theorem add_lists {x y : List UInt8} (h : ¬ 9223372036854775807 < x.length + y.length) (w : World) : (binOp .add 9 (.string ⟨x.toArray⟩) (.string ⟨y.toArray⟩)).run Tryz.prog w = .ok (.string ⟨(x ++ y).toArray⟩) w := by
  go_simp
  rw [cat_lists]
end Go.Proofs.YthlhopdlkkeohaaGreatDoor
/- The walks of the dot's own functions, and of the document's: is it right, how two stand. -/
namespace Go.Proofs.YthlhopdlkkeohaaGreatDoor.D
open Go.RowKit

/-- A dot, an operation, as the program holds them. -/
abbrev dotV (r n : Int) : Value := .agg #[.int .i64 r, .int .i64 n]
abbrev refV (r n i : Int) : Value := .agg #[.int .i64 r, .int .i64 n, .int .i64 i]

theorem refRight_any (r n : Int) (w : World) : Calls Tryz.prog 102 #[dotV r n] w fun e w' => e = .returned (.bool (Dt.right r n)) ∧ Below w.heap.size w w' := by
  by_cases h0 : 0 ≤ r
  rotate_left
  · rw [show Dt.right r n = false by rw [Bool.eq_false_iff]; intro h; rw [Dt.right_iff] at h; omega]
    have hd : decide (0 ≤ r) = false := decide_eq_false h0
    go_enter Tryz.func102, Tryz.ntmps102
    go_wp2
    go_ret
    exact ⟨rfl, below_new _ _⟩
  by_cases h1 : r ≤ 15
  rotate_left
  · rw [show Dt.right r n = false by rw [Bool.eq_false_iff]; intro h; rw [Dt.right_iff] at h; omega]
    have hd : decide (r ≤ 15) = false := decide_eq_false h1
    go_enter Tryz.func102, Tryz.ntmps102
    go_wp2
    go_ret
    exact ⟨rfl, below_new _ _⟩
  by_cases h2 : 1 ≤ n
  rotate_left
  · rw [show Dt.right r n = false by rw [Bool.eq_false_iff]; intro h; rw [Dt.right_iff] at h; omega]
    have hd : decide (1 ≤ n) = false := decide_eq_false h2
    go_enter Tryz.func102, Tryz.ntmps102
    go_wp2
    go_ret
    exact ⟨rfl, below_new _ _⟩
  by_cases h3 : n ≤ 1048576
  rotate_left
  · rw [show Dt.right r n = false by rw [Bool.eq_false_iff]; intro h; rw [Dt.right_iff] at h; omega]
    have hd : decide (n ≤ 1048576) = false := decide_eq_false h3
    go_enter Tryz.func102, Tryz.ntmps102
    go_wp2
    go_ret
    exact ⟨rfl, below_new _ _⟩
  rw [show Dt.right r n = true by rw [Dt.right_iff]; omega]
  go_enter Tryz.func102, Tryz.ntmps102
  go_wp2
  go_ret
  exact ⟨rfl, below_new _ _⟩

theorem ints_any (x y : Int) (w : World) : Calls Tryz.prog 134 #[.int .i64 x, .int .i64 y] w fun e w' => e = .returned (.int .i64 (Dt.compareInt x y)) ∧ w' = w := by
  rcases Dt.compareInt_cases x y with ⟨h, e⟩ | ⟨h, e⟩ | ⟨h, e⟩ <;> rw [e]
  · go_enter Tryz.func134, Tryz.ntmps134
    go_wp2
    go_ret
    exact ⟨rfl, rfl⟩
  · subst h
    go_enter Tryz.func134, Tryz.ntmps134
    go_wp2
    go_ret
    exact ⟨rfl, rfl⟩
  · have h' : ¬ x < y := by omega
    go_enter Tryz.func134, Tryz.ntmps134
    go_wp2
    go_ret
    exact ⟨rfl, rfl⟩

theorem refComp_any (r n r' n' : Int) (w : World) : Calls Tryz.prog 100 #[dotV r n, dotV r' n'] w fun e w' => e = .returned (.int .i64 (Dt.comp r n r' n')) ∧ Below w.heap.size w w' := by
  by_cases h : r = r'
  · subst h
    rw [show Dt.comp r n r n' = Dt.compareInt n n' by unfold Dt.comp Dt.two; rw [if_pos (Dt.compareInt_zero.2 rfl)]]
    go_enter Tryz.func100, Tryz.ntmps100
    go_wp2_with (go_at_call 134; refine (ints_any _ _ _).mono ?_; rintro e w1 ⟨rfl, rfl⟩)
    go_ret
    exact ⟨rfl, below_new2 _ _ _⟩
  · rw [show Dt.comp r n r' n' = Dt.compareInt r r' by unfold Dt.comp Dt.two; rw [if_neg (fun e => h (Dt.compareInt_zero.1 e))]]
    have hb : (r != r') = true := by simpa using h
    go_enter Tryz.func100, Tryz.ntmps100
    go_wp2_with (go_at_call 134; refine (ints_any _ _ _).mono ?_; rintro e w1 ⟨rfl, rfl⟩)
    go_ret
    exact ⟨rfl, below_new2 _ _ _⟩

end Go.Proofs.YthlhopdlkkeohaaGreatDoor.D
/- The walks of the program's Compare and Refs, and of the document's. -/
namespace Go.Proofs.YthlhopdlkkeohaaGreatDoor.D
open Go.RowKit

theorem cmp_any (x y : Int) (w : World) : Calls Tryz.prog 123 #[.int .i64 x, .int .i64 y] w fun e w' => e = .returned (.int .i64 (Dt.compareInt x y)) ∧ w' = w := by
  rcases Dt.compareInt_cases x y with ⟨h, e⟩ | ⟨h, e⟩ | ⟨h, e⟩ <;> rw [e] <;> clear e
  · go_enter Tryz.func123, Tryz.ntmps123
    go_wp2
    go_ret
    exact ⟨rfl, rfl⟩
  · subst h
    go_enter Tryz.func123, Tryz.ntmps123
    go_wp2
    go_ret
    exact ⟨rfl, rfl⟩
  · have h' : ¬ x < y := by omega
    go_enter Tryz.func123, Tryz.ntmps123
    go_wp2
    go_ret
    exact ⟨rfl, rfl⟩

set_option maxRecDepth 20000 in
/-- Of two numbers the first that is not 0. -/
theorem or_two (b : Nat) (x y : Int) (w : World) (h0 : w.cell? ⟨b, 0, none⟩ = some (.int .i64 x)) (h1 : w.cell? ⟨b, 1, none⟩ = some (.int .i64 y)) :
    Calls Tryz.prog 122 #[.slice (some ⟨b, 0, none⟩) 2 2] w fun e w' => e = .returned (.int .i64 (Dt.two x y)) ∧ w' = w := by
  by_cases hx : x = 0
  · subst hx
    rw [show Dt.two 0 y = y from rfl]
    by_cases hy : y = 0
    · subst hy
      go_enter Tryz.func122, Tryz.ntmps122
      go_wp2
      go_loop [8] (fun i => ∃ k : Nat, k ≤ 2 ∧ i = .int .i64 k) (fun i => 2 - (intOf i).toNat)
      case atStart => exact ⟨0, by omega, rfl⟩
      case round =>
        obtain ⟨k, hk, rfl⟩ := hrel
        match k, hk with
        | 0, _ =>
          go_wp2
          go_round
          case rel => exact ⟨1, by omega, rfl⟩
          case measure => simp [intOf]
        | 1, _ =>
          go_wp2
          go_round
          case rel => exact ⟨2, by omega, rfl⟩
          case measure => simp [intOf]
        | 2, _ =>
          go_wp2
          go_ret
          exact ⟨rfl, rfl⟩
    · have hyb : (y != 0) = true := by simpa using hy
      go_enter Tryz.func122, Tryz.ntmps122
      go_wp2
      go_loop [8] (fun i => ∃ k : Nat, k ≤ 1 ∧ i = .int .i64 k) (fun i => 2 - (intOf i).toNat)
      case atStart => exact ⟨0, by omega, rfl⟩
      case round =>
        obtain ⟨k, hk, rfl⟩ := hrel
        match k, hk with
        | 0, _ =>
          go_wp2
          go_round
          case rel => exact ⟨1, by omega, rfl⟩
          case measure => simp [intOf]
        | 1, _ =>
          go_wp2
          go_ret
          exact ⟨rfl, rfl⟩
  · rw [show Dt.two x y = x by unfold Dt.two; rw [if_neg hx]]
    have hxb : (x != 0) = true := by simpa using hx
    go_enter Tryz.func122, Tryz.ntmps122
    go_wp2
    go_loop [8] (fun i => i = .int .i64 0) (fun _ => 0)
    case atStart => rfl
    case round =>
      subst hrel
      go_wp2
      go_ret
      exact ⟨rfl, rfl⟩

theorem or_new (W : World) (o p : Obj) (x y : Int) : Calls Tryz.prog 122 #[.slice (some ⟨W.heap.size + 1 + 1, 0, none⟩) 2 2] (((W.alloc o).alloc p).alloc (.cells #[.int .i64 x, .int .i64 y] 3)).drew
    fun e w' => e = .returned (.int .i64 (Dt.two x y)) ∧ w' = (((W.alloc o).alloc p).alloc (.cells #[.int .i64 x, .int .i64 y] 3)).drew := by
  have e : ((W.alloc o).alloc p).heap.size = W.heap.size + 1 + 1 := by simp
  rw [← e]
  generalize (W.alloc o).alloc p = V at *
  exact or_two _ x y _ (by simp) (by simp)

set_option maxRecDepth 20000 in
theorem comp_exact (r n r' n' : Int) (w : World) : Calls Tryz.prog 99 #[dotV r n, dotV r' n'] w fun e w' => e = .returned (.int .i64 (Dt.comp r n r' n')) ∧ ∃ a b c, w' = (((w.alloc a).alloc b).alloc c).drew := by
  go_enter Tryz.func99, Tryz.ntmps99
  go_wp2_with fail
  go_region_held3 (fun w' => w'.cell? ⟨w.heap.size, 0, none⟩ = some (.int .i64 r) ∧ w'.cell? ⟨w.heap.size, 1, none⟩ = some (.int .i64 n) ∧ w'.cell? ⟨w.heap.size + 1, 0, none⟩ = some (.int .i64 r') ∧ w'.cell? ⟨w.heap.size + 1, 1, none⟩ = some (.int .i64 n')) (go_keep)
    (first | (go_at_call 123; refine (cmp_any _ _ _).mono ?_; rintro e w1 ⟨rfl, rfl⟩) | (go_at_call 122; refine (or_new _ _ _ _ _).mono ?_; rintro e w1 ⟨rfl, rfl⟩))
  go_wp2
  go_ret
  exact ⟨rfl, _, _, _, rfl⟩
theorem comp_any (r n r' n' : Int) (w : World) : Calls Tryz.prog 99 #[dotV r n, dotV r' n'] w fun e w' => e = .returned (.int .i64 (Dt.comp r n r' n')) ∧ Below w.heap.size w w' :=
  (comp_exact r n r' n' w).mono fun _ _ ⟨he, _, _, _, hw⟩ => ⟨he, by rw [hw]; exact (bchain (below_new2 _ _ _) (below_new _ _)).drew⟩


set_option maxRecDepth 20000 in
theorem refRefs_any (r n i r' n' i' : Int) (w : World) : Calls Tryz.prog 173 #[refV r n i, refV r' n' i'] w fun e w' => e = .returned (.int .i64 (Dt.two (Dt.comp r n r' n') (Dt.compareInt i i'))) ∧ Below w.heap.size w w' := by
  have c0 : ((w.alloc (.cells #[.int .i64 r, .int .i64 n, .int .i64 i] 70)).alloc (.cells #[.int .i64 r', .int .i64 n', .int .i64 i'] 70)).cell? ⟨w.heap.size, 0, none⟩ = some (.int .i64 r) := by simp
  have c1 : ((w.alloc (.cells #[.int .i64 r, .int .i64 n, .int .i64 i] 70)).alloc (.cells #[.int .i64 r', .int .i64 n', .int .i64 i'] 70)).cell? ⟨w.heap.size, 1, none⟩ = some (.int .i64 n) := by simp
  have c2 : ((w.alloc (.cells #[.int .i64 r, .int .i64 n, .int .i64 i] 70)).alloc (.cells #[.int .i64 r', .int .i64 n', .int .i64 i'] 70)).cell? ⟨w.heap.size, 2, none⟩ = some (.int .i64 i) := by simp
  have d0 : ((w.alloc (.cells #[.int .i64 r, .int .i64 n, .int .i64 i] 70)).alloc (.cells #[.int .i64 r', .int .i64 n', .int .i64 i'] 70)).cell? ⟨w.heap.size + 1, 0, none⟩ = some (.int .i64 r') := by
    have e : (w.alloc (.cells #[.int .i64 r, .int .i64 n, .int .i64 i] 70)).heap.size = w.heap.size + 1 := by simp
    rw [← e]; generalize w.alloc (.cells #[.int .i64 r, .int .i64 n, .int .i64 i] 70) = V; simp
  have d1 : ((w.alloc (.cells #[.int .i64 r, .int .i64 n, .int .i64 i] 70)).alloc (.cells #[.int .i64 r', .int .i64 n', .int .i64 i'] 70)).cell? ⟨w.heap.size + 1, 1, none⟩ = some (.int .i64 n') := by
    have e : (w.alloc (.cells #[.int .i64 r, .int .i64 n, .int .i64 i] 70)).heap.size = w.heap.size + 1 := by simp
    rw [← e]; generalize w.alloc (.cells #[.int .i64 r, .int .i64 n, .int .i64 i] 70) = V; simp
  have d2 : ((w.alloc (.cells #[.int .i64 r, .int .i64 n, .int .i64 i] 70)).alloc (.cells #[.int .i64 r', .int .i64 n', .int .i64 i'] 70)).cell? ⟨w.heap.size + 1, 2, none⟩ = some (.int .i64 i') := by
    have e : (w.alloc (.cells #[.int .i64 r, .int .i64 n, .int .i64 i] 70)).heap.size = w.heap.size + 1 := by simp
    rw [← e]; generalize w.alloc (.cells #[.int .i64 r, .int .i64 n, .int .i64 i] 70) = V; simp
  by_cases h : Dt.comp r n r' n' = 0
  · rw [show Dt.two (Dt.comp r n r' n') (Dt.compareInt i i') = Dt.compareInt i i' by unfold Dt.two; rw [if_pos h]]
    have HC : ∀ w, Calls Tryz.prog 100 #[dotV r n, dotV r' n'] w fun e w' => e = .returned (.int .i64 0) ∧ Below w.heap.size w w' := fun w => by have := refComp_any r n r' n' w; rw [h] at this; exact this
    clear h
    go_enter Tryz.func173, Tryz.ntmps173
    go_wp2_with (first | (go_at_call 100; refine (HC _).mono ?_; rintro e w1 ⟨rfl, hb⟩; have k2 := keep_cell hb c2; have l2 := keep_cell hb d2) | (go_at_call 134; refine (ints_any _ _ _).mono ?_; rintro e w2 ⟨rfl, rfl⟩))
    go_ret
    exact ⟨rfl, bchain (below_new2 _ _ _) hb⟩
  · have HC : ∀ w, Calls Tryz.prog 100 #[dotV r n, dotV r' n'] w fun e w' => e = .returned (.int .i64 (Dt.comp r n r' n')) ∧ Below w.heap.size w w' := fun w => refComp_any r n r' n' w
    rw [show Dt.two (Dt.comp r n r' n') (Dt.compareInt i i') = Dt.comp r n r' n' by unfold Dt.two; rw [if_neg h]]
    generalize Dt.comp r n r' n' = z at *
    have hz : (z != 0) = true := by simpa using h
    go_enter Tryz.func173, Tryz.ntmps173
    go_wp2_with fail
    refine (HC _).mono ?_
    rintro e w1 ⟨rfl, hb⟩
    have k0 := keep_cell hb c0
    have k1 := keep_cell hb c1
    have l0 := keep_cell hb d0
    have l1 := keep_cell hb d1
    go_wp2_with fail
    refine (HC _).mono ?_
    rintro e w2 ⟨rfl, hb2⟩
    go_wp2
    go_ret
    exact ⟨rfl, bchain (bchain (below_new2 _ _ _) hb) hb2⟩
end Go.Proofs.YthlhopdlkkeohaaGreatDoor.D
/- The walks of both dot Codes, and of dot.Read over a reader whose text begins with a dot's bytes. -/
namespace Go.Proofs.YthlhopdlkkeohaaGreatDoor.D
open Go.RowKit

/-- A dot's bytes. -/
def codeL (r n : Int) : List UInt8 := Pk.enc r.toNat ++ Pk.enc n.toNat
theorem enc_len {n : Int} (h1 : n ≤ 9223372036854775807) : (Pk.enc n.toNat).length ≤ 9 := Pk.enc_len9 (by omega)

end Go.Proofs.YthlhopdlkkeohaaGreatDoor.D
/- A value in memory; the walks of inside, holding, Fold, Unfold, and of the document's Fold. -/
namespace Go.Proofs.YthlhopdlkkeohaaGreatDoor
open Go.RowKit

/-- A value. -/
abbrev valV (k n : Int) (l : List UInt8) : Value := .agg #[.int .i64 k, .int .i64 n, .string ⟨l.toArray⟩]
abbrev valO (k n : Int) (l : List UInt8) : Obj := .cells #[.int .i64 k, .int .i64 n, .string ⟨l.toArray⟩] 61
/-- What is in a value. -/
def inV : Vl.In → Value
  | .int n => .iface 3 (.int .i64 n)
  | .str l => .iface 9 (.string ⟨l.toArray⟩)
  | .bool b => .iface 4 (.bool b)

theorem as3_3 (W : World) (v : Value) : (Instr.typeAssert (.iface 3 v) 20 3 true).run Tryz.prog W = .ok (.tuple #[v, .bool true]) W := by kernel_rfl
theorem as3_9 (W : World) (v : Value) : (Instr.typeAssert (.iface 3 v) 20 9 true).run Tryz.prog W = .ok (.tuple #[.string ⟨#[]⟩, .bool false]) W := by kernel_rfl
theorem as9_3 (W : World) (v : Value) : (Instr.typeAssert (.iface 9 v) 20 3 true).run Tryz.prog W = .ok (.tuple #[.int .i64 0, .bool false]) W := by kernel_rfl
theorem as9_9 (W : World) (v : Value) : (Instr.typeAssert (.iface 9 v) 20 9 true).run Tryz.prog W = .ok (.tuple #[v, .bool true]) W := by kernel_rfl
theorem as4_3 (W : World) (v : Value) : (Instr.typeAssert (.iface 4 v) 20 3 true).run Tryz.prog W = .ok (.tuple #[.int .i64 0, .bool false]) W := by kernel_rfl
theorem as4_9 (W : World) (v : Value) : (Instr.typeAssert (.iface 4 v) 20 9 true).run Tryz.prog W = .ok (.tuple #[.string ⟨#[]⟩, .bool false]) W := by kernel_rfl
theorem as4_4 (W : World) (v : Value) : (Instr.typeAssert (.iface 4 v) 20 4 false).run Tryz.prog W = .ok v W := by kernel_rfl

/-- A value in a variable. -/
structure VAt (w : World) (b : Nat) (k n : Int) (l : List UInt8) : Prop where
  c0 : w.cell? ⟨b, 0, none⟩ = some (.int .i64 k)
  c1 : w.cell? ⟨b, 1, none⟩ = some (.int .i64 n)
  c2 : w.cell? ⟨b, 2, none⟩ = some (.string ⟨l.toArray⟩)
  f0 : w.frozen? ⟨b, 0, none⟩ = false
  f1 : w.frozen? ⟨b, 1, none⟩ = false
  f2 : w.frozen? ⟨b, 2, none⟩ = false
theorem VAt.new (w : World) (k n : Int) (l : List UInt8) : VAt (w.alloc (valO k n l)) w.heap.size k n l := ⟨by simp, by simp, by simp, by simp, by simp, by simp⟩
theorem VAt.lt {w : World} {b : Nat} {k n : Int} {l : List UInt8} (h : VAt w b k n l) : b < w.heap.size := World.block_lt_of_cell? w ⟨b, 0, none⟩ h.c0
theorem VAt.blk {w w' : World} {b : Nat} {k n : Int} {l : List UInt8} (h : VAt w b k n l) (hb : w'.heap[b]? = w.heap[b]?) : VAt w' b k n l :=
  ⟨(World.cell?_of_block (w := w) hb).trans h.c0, (World.cell?_of_block (w := w) hb).trans h.c1, (World.cell?_of_block (w := w) hb).trans h.c2, (World.frozen?_of_block (w := w) hb).trans h.f0, (World.frozen?_of_block (w := w) hb).trans h.f1, (World.frozen?_of_block (w := w) hb).trans h.f2⟩
theorem VAt.on {w w' : World} {b : Nat} {k n : Int} {l : List UInt8} (h : VAt w b k n l) (hb : Below w.heap.size w w') : VAt w' b k n l := h.blk (hb.block b h.lt)
theorem VAt.but {w w' : World} {b g : Nat} {k n : Int} {l : List UInt8} (h : VAt w b k n l) (hb : But g w w') (hg : b ≠ g) : VAt w' b k n l := h.blk (hb.block b h.lt hg)
theorem VAt.drew {w : World} {b : Nat} {k n : Int} {l : List UInt8} (h : VAt w b k n l) : VAt w.drew b k n l := h.blk rfl
theorem VAt.setOther {w : World} {b : Nat} {k n : Int} {l : List UInt8} (h : VAt w b k n l) {p : Addr} (hp : p.block ≠ b) (v : Value) : VAt (w.setCell p v) b k n l := h.blk (Below.heap_setCell w p v b (Ne.symm hp))
theorem cell_frozen {w : World} {p q : Addr} {v : Value} : (w.setCell p v).frozen? q = w.frozen? q := by simp
theorem VAt.set {w : World} {b : Nat} {k n : Int} {l : List UInt8} (h : VAt w b k n l) (k' n' : Int) (l' : List UInt8) : VAt (((w.setCell ⟨b, 0, none⟩ (.int .i64 k')).setCell ⟨b, 1, none⟩ (.int .i64 n')).setCell ⟨b, 2, none⟩ (.string ⟨l'.toArray⟩)) b k' n' l' := by
  refine ⟨?_, ?_, ?_, by simp [h.f0], by simp [h.f1], by simp [h.f2]⟩
  · exact (World.cell?_setCell_other _ _ _ _ (by simp)).trans ((World.cell?_setCell_other _ _ _ _ (by simp)).trans (World.cell?_setCell_same _ _ _ h.c0))
  · exact (World.cell?_setCell_other _ _ _ _ (by simp)).trans (World.cell?_setCell_same _ _ _ ((World.cell?_setCell_other _ _ _ _ (by simp)).trans h.c1))
  · exact World.cell?_setCell_same _ _ _ ((World.cell?_setCell_other _ _ _ _ (by simp)).trans ((World.cell?_setCell_other _ _ _ _ (by simp)).trans h.c2))
end Go.Proofs.YthlhopdlkkeohaaGreatDoor
/- A region that draws its order, walked operation by operation: what yields in every world that meets the region's condition is taken first, whatever the order; a call by its contract. -/
namespace Go.Proofs.YthlhopdlkkeohaaGreatDoor
open Go.RowKit

section
variable {P : Program} {md : Region.Mode} {ops : Array Oper} {Q : Exit → Act → World → Prop} {S : World → Prop} {i : Nat} {o : Oper} {v : Value} {fuel : Nat} {listed : Array Bool} {a : Act} {w : World}

theorem held_take (ho : ops[i]? = some o) (hs : Region.noSelect ops = true) (hf : Region.free md ops listed i = true) (hr : (Region.ready md ops listed).contains i = true)
    (hQ : ∀ c a w, Q (.panic c) (a.put o.dst v) w → Q (.panic c) a w) (hw : Region.wanted o (yielded ops a.tmps) = true) (he : ∀ w, S w → (execOp a.eval o).run P w = .ok (.value v) w) (hS : S w)
    (h : wpAnyH P md ops Q S fuel (listed.setIfInBounds i true) (a.put o.dst v) w) : wpAnyH P md ops Q S (fuel + 1) listed a w :=
  wpAnyH_take ho hs hf hr hQ (Or.inl ⟨hw, he⟩) hS h
theorem held_skip (ho : ops[i]? = some o) (hs : Region.noSelect ops = true) (hf : Region.free md ops listed i = true) (hr : (Region.ready md ops listed).contains i = true)
    (hQ : ∀ c a w, Q (.panic c) (a.put o.dst undef) w → Q (.panic c) a w) (hw : Region.wanted o (yielded ops a.tmps) = false) (hS : S w)
    (h : wpAnyH P md ops Q S fuel (listed.setIfInBounds i true) (a.put o.dst undef) w) : wpAnyH P md ops Q S (fuel + 1) listed a w :=
  wpAnyH_take ho hs hf hr hQ (Or.inr ⟨hw, rfl⟩) hS h
theorem held_do (ho : ops[i]? = some o) (hr : Region.ready md ops listed = [i]) (hw : Region.wanted o (yielded ops a.tmps) = true) (he : (execOp a.eval o).run P w = .ok (.value v) w) (hS : S w)
    (h : wpAnyH P md ops Q S fuel (listed.setIfInBounds i true) (a.put o.dst v) w) : wpAnyH P md ops Q S (fuel + 1) listed a w :=
  wpAnyH_ready hr (by simp) (AllReadyH.cons ho (fun K hK => by
    rw [if_pos hw, Oper.wp, he]
    exact hK.out _ _ hS (fun _ => h)) AllReadyH.nil)
theorem exec_bin {op : BinOp} {t t' : TypeId} {x y : Operand} {X Y V : Value} (ho : o.op = .binOp op t x y t') (hx : a.eval x = X) (hy : a.eval y = Y) (hg : ∀ w, (eqGuard op t x y X Y).run P w = .ok () w) (hb : ∀ w, (binOp op t X Y).run P w = .ok V w) (w : World) :
    (execOp a.eval o).run P w = .ok (.value V) w := by
  unfold execOp
  simp only [ho, hx, hy, Sem.run_bind, hg, hb, Result.andThen_ok, Sem.run_pure]
theorem exec_un {op : UnOp} {t : TypeId} {x : Operand} {X V : Value} (ho : o.op = .unOp op t x) (hx : a.eval x = X) (hb : ∀ w, (Op.unary op X).run P w = .ok V w) (w : World) :
    (execOp a.eval o).run P w = .ok (.value V) w := by
  unfold execOp
  simp only [ho, hx, Sem.run_bind, hb, Result.andThen_ok, Sem.run_pure]
end
section
variable {P : Program} {md : Region.Mode} {ops : Array Oper} {Q : Exit → Act → World → Prop} {S : World → Prop} {i j : Nat} {o o' : Oper} {v v' : Value} {fuel : Nat} {listed : Array Bool} {a : Act} {w : World}
/-- A call, whatever it hands back. -/
theorem held_callX {F : FuncId} {vs : Array Value} {R : Ending → World → Prop} (ho : ops[i]? = some o) (hr : Region.ready md ops listed = [i]) (hw : Region.wanted o (yielded ops a.tmps) = true)
    (he : ∀ w, (execOp a.eval o).run P w = .ok (.enter F vs) w) (hc : Calls P F vs w R) (h : ∀ e w', R e w' → ∃ v, e = .returned v ∧ S w' ∧ wpAnyH P md ops Q S fuel (listed.setIfInBounds i true) (a.put o.dst v) w') :
    wpAnyH P md ops Q S (fuel + 1) listed a w :=
  wpAnyH_ready hr (by simp) (AllReadyH.cons ho (fun K hK => by
    rw [if_pos hw, Oper.wp, he]
    refine hc.mono ?_
    intro e w' hR
    obtain ⟨v, rfl, hs, hk⟩ := h e w' hR
    exact hK.out _ _ hs (fun _ => hk)) AllReadyH.nil)
end
section
variable {o : Oper} {a : Act} {w : World}
end
theorem eqb_same (x : Bool) (w : World) : (binOp .eql 4 (.bool x) (.bool x)).run Tryz.prog w = .ok (.bool true) w := by go_simp
theorem eqi_same (x : Int) (w : World) : (binOp .eql 3 (.int .i64 x) (.int .i64 x)).run Tryz.prog w = .ok (.bool true) w := by go_simp
theorem eqs_same (x : ByteArray) (w : World) : (binOp .eql 9 (.string x) (.string x)).run Tryz.prog w = .ok (.bool true) w := by go_simp
theorem not_of (x : Bool) (w : World) : (Op.unary .not (.bool x)).run Tryz.prog w = .ok (.bool (!x)) w := by go_simp
theorem neqb_same (x : Bool) (w : World) : (binOp .neq 4 (.bool x) (.bool x)).run Tryz.prog w = .ok (.bool false) w := by go_simp
theorem neqi_same (x : Int) (w : World) : (binOp .neq 3 (.int .i64 x) (.int .i64 x)).run Tryz.prog w = .ok (.bool false) w := by go_simp
theorem bytes_inj {a b : List UInt8} : ((⟨a.toArray⟩ : ByteArray) = ⟨b.toArray⟩) ↔ a = b := by
  constructor
  · intro h; have := congrArg (fun x : ByteArray => x.data.toList) h; simpa using this
  · rintro rfl; rfl
theorem eql_val (k n : Int) (l : List UInt8) (k' n' : Int) (l' : List UInt8) (w : World) : (binOp .eql 61 (valV k n l) (valV k' n' l')).run Tryz.prog w = .ok (.bool (decide (k = k' ∧ n = n' ∧ l = l'))) w := by
  go_simp
  by_cases h1 : k = k' <;> by_cases h2 : n = n' <;> by_cases h3 : l = l' <;> simp [h1, h2, h3]
theorem eqs_val (a b : List UInt8) (w : World) : (binOp .eql 9 (.string ⟨a.toArray⟩) (.string ⟨b.toArray⟩)).run Tryz.prog w = .ok (.bool (decide (a = b))) w := by
  go_simp
  rw [Bool.eq_iff_iff]; simp
end Go.Proofs.YthlhopdlkkeohaaGreatDoor
