/- The walk of the document's filled: dots that a vector reaches go to it. -/
import Derived.Test.YtenfbjlmfdiniaaMember
namespace Go.Proofs.Ytenfbjlmfdiniaa
open Go.RowKit Go.Shelf

theorem set_self (l : List Int) (q : Nat) (h : q < l.length) : l.set q (l.getD q 0) = l := by
  simp [List.getD, h]

set_option maxRecDepth 20000 in
set_option maxHeartbeats 1000000 in
theorem filled_any (l : List Int) (hl : l.length = 16) (hv : Vc.right l = true) (v : Value) (xs : List D) (w : World) (hd : dotsIn w v xs) (hlen : xs.length ≤ 1000000) (hr : ∀ d ∈ xs, rightD d = true) (hrow : xs.Pairwise St.lt) :
    Calls Try.prog 54 #[setV l v] w fun e w' => ∃ sl, e = .returned (setV (St.fill l xs).1 sl) ∧ w'.ownsRow w.heap.size 28 2 sl (St.fill l xs).2.length (dcells (St.fill l xs).2) ∧ Below w.heap.size w w' := by
  have hZ := SetAt.zero (w.alloc (.cells (setC l v).toArray 26))
  obtain ⟨W0, hW0⟩ : ∃ W0, W0 = (w.alloc (.cells (setC l v).toArray 26)).alloc (.cells (setC noughts (.slice none 0 0)).toArray 26) := ⟨_, rfl⟩
  have hB0 : Below w.heap.size w W0 := by rw [hW0]; exact below_new2 _ _ _
  have hA0 : SetAt W0 w.heap.size l v := by rw [hW0]; exact (SetAt.new w l v).alloc _
  have hR0 : SetAt W0 (w.heap.size + 1) noughts (.slice none 0 0) := by rw [hW0]; simpa using hZ
  have hsz : W0.heap.size = w.heap.size + 2 := by rw [hW0]; simp
  have hO0 := SetAt.zero W0
  obtain ⟨W3, hW3⟩ : ∃ W3, W3 = (W0.alloc (.cells (setC noughts (.slice none 0 0)).toArray 26)).setRow W0.heap.size (setC l (.slice none 0 0)).toArray := ⟨_, rfl⟩
  have hS3 : SetAt W3 (w.heap.size + 2) l (.slice none 0 0) := by rw [hW3, ← hsz]; exact hO0.row l _
  have hb3 : Below W0.heap.size W0 W3 := by rw [hW3]; exact below_setRow (below_new _ _) (Nat.le_refl _) _
  have hsz3 : W3.heap.size = w.heap.size + 3 := by rw [hW3, setRow_size]; simp [hsz]
  have hd3 := (hd.on hB0).on hb3
  have hA3 := hA0.on hb3
  have hR3 := hR0.on hb3
  have hB3 := bchain hB0 hb3
  rw [hsz] at hO0
  have HP : Hid (∀ k, St.Std (pre l xs k).1 (pre l xs k).2 ∧ (pre l xs k).2.length ≤ xs.length) := fun k => pre_std hl hv hr hrow k
  have HR : Hid (∀ d ∈ xs, rightD d = true) := hr
  obtain ⟨ao, ca, rfl, h0, hc⟩ := id hd3
  have HDs : Hid (dotsIn w (.slice ao xs.length ca) xs) := hd
  have HS : Hid (SetAt W3 (w.heap.size + 2) l (.slice none 0 0)) := hS3
  have HA : Hid (SetAt W3 w.heap.size l (.slice ao xs.length ca)) := hA3
  have HR3 : Hid (SetAt W3 (w.heap.size + 1) noughts (.slice none 0 0)) := hR3
  have HB : Hid (Below w.heap.size w W3) := hB3
  have HW : Hid (W3 = (((w.alloc (.cells (setC l (.slice ao xs.length ca)).toArray 26)).alloc (.cells (setC noughts (.slice none 0 0)).toArray 26)).alloc (.cells (setC noughts (.slice none 0 0)).toArray 26)).setRow (w.heap.size + 2) (setC l (.slice none 0 0)).toArray) := by
    have h : W3 = (((w.alloc (.cells (setC l (.slice ao xs.length ca)).toArray 26)).alloc (.cells (setC noughts (.slice none 0 0)).toArray 26)).alloc (.cells (setC noughts (.slice none 0 0)).toArray 26)).setRow (w.heap.size + 2) (setC l (.slice none 0 0)).toArray := by rw [hW3, hsz, hW0]
    exact h
  rw [hW0] at hA0 hO0
  obtain ⟨n, hn0⟩ : ∃ n, n = xs.length := ⟨_, rfl⟩
  have HN : Hid (n = xs.length) := hn0
  have HF : Hid (pre l xs n = St.fill l xs) := by have h := pre_all l xs; rw [← hn0] at h; exact h
  rw [← hn0] at hlen hA0 hO0 HA HDs HW ⊢
  clear hn0 hd hr hrow hd3 hA3 hR3 hS3 hB3 hb3 hB0 hR0 hW0 hW3 hZ hsz h0 hc
  go_enter Try.func54, Try.ntmps54
  go_wp2_with (first | (refine load_setVec rfl _ rfl w.heap.size l _ hl rfl hA0 ?_) | (refine take_build rfl _ rfl l hl rfl ?_) | (refine store_set rfl _ _ rfl (w.heap.size + 2) l noughts (.slice none 0 0) (.slice none 0 0) hl noughts_length ⟨none, 0, 0, rfl⟩ rfl rfl hO0 ?_))
  go_loopw [4, 5] (fun i _ wr => ∃ k : Nat, k ≤ n ∧ i = .int .i64 k ∧ ∃ sl, Hid (SetAt wr (w.heap.size + 1 + 1) (pre l xs k).1 sl) ∧ Hid (wr.ownsRow (w.heap.size + 1 + 1 + 1) 28 2 sl (pre l xs k).2.length (dcells (pre l xs k).2)) ∧ Below (w.heap.size + 1 + 1) W3 wr) (fun i _ _ => n - (intOf i).toNat)
  case atStart =>
    refine ⟨0, by omega, rfl, .slice none 0 0, ?_, ?_, ?_⟩
    · rw [pre_zero]
      have h := HS.out
      rw [HW.out] at h
      exact h
    · rw [pre_zero]
      exact World.ownsRow_nil _ _ _ _
    · have h := Below.refl (w.heap.size + 1 + 1) W3
      have h2 : Below (w.heap.size + 1 + 1) W3 ((((w.alloc (.cells (setC l (.slice ao n ca)).toArray 26)).alloc (.cells (setC noughts (.slice none 0 0)).toArray 26)).alloc (.cells (setC noughts (.slice none 0 0)).toArray 26)).setRow (w.heap.size + 1 + 1) (setC l (.slice none 0 0)).toArray) := by rw [← HW.out]; exact h
      exact h2
  case round =>
    clear hA0 hO0
    obtain ⟨k, hk, rfl, sl, HX, HY, hbw⟩ := hrel
    have hsr : w.heap.size + 1 + 1 + 1 ≤ wr.heap.size := by rw [← hsz3]; exact hbw.size
    have hAr := HA.out.upto hbw (by omega)
    have m0 := hAr.more hl
    have hBr : Below w.heap.size w wr := HB.out.trans (hbw.mono (by omega))
    by_cases hlt : k < n
    · have hkx : k < xs.length := by have := HN.out; omega
      obtain ⟨hSk, hlk⟩ := HP.out k
      have hpk := pre_step l xs k hkx
      have hdr : rightD xs[k] = true := HR.out _ (List.getElem_mem hkx)
      obtain ⟨ao2, cap2, e2, _, hc⟩ := HDs.out.on hBr
      obtain ⟨ad, hao, c0, c1⟩ := hc k hkx
      have e3 : ao = some ad := by cases e2; exact hao
      subst e3
      clear hc e2 hao
      have HK : Hid (pre l xs (k + 1) = St.step (pre l xs k) xs[k]) := hpk
      have hX := HX.out
      have hY := HY.out
      clear hpk HX HY HP
      generalize pre l xs k = S at *
      obtain ⟨lk, mk⟩ := S
      simp only at *
      generalize xs[k] = d at *
      have hmk : mk.length ≤ 1000000 := by have := HN.out; omega
      have hl16 : lk.length = 16 := hSk.len
      have hdr' := St.right_at hdr
      obtain ⟨r, y⟩ := d
      simp only at hdr' c0 c1
      obtain ⟨q, rfl⟩ : ∃ q : Nat, r = (q : Int) := ⟨r.toNat, by omega⟩
      have hq : q < 16 := by omega
      have hvk := Vc.right_iff.1 hSk.vec q (by omega)
      have hself := set_self lk q (by omega)
      have hcq := (hX.alloc (.cells #[.int .i64 (q : Int), .int .i64 y] 28)).cell (k := q) (by omega)
      have hfq := (hX.alloc (.cells #[.int .i64 (q : Int), .int .i64 y] 28)).frozen q
      have hX1 := hX.alloc (.cells #[.int .i64 (q : Int), .int .i64 y] 28)
      have hY1 := own_on hY (below_new wr (.cells #[.int .i64 (q : Int), .int .i64 y] 28))
      have hd0 : (wr.alloc (.cells #[.int .i64 (q : Int), .int .i64 y] 28)).cell? ⟨wr.heap.size, 0, none⟩ = some (.int .i64 (q : Int)) := by simp
      have hd1 : (wr.alloc (.cells #[.int .i64 (q : Int), .int .i64 y] 28)).cell? ⟨wr.heap.size, 1, none⟩ = some (.int .i64 y) := by simp
      have hix := indexAt_vec (w.heap.size + 1 + 1) q hq
      have hq16 : (q : Int) < 16 := by omega
      have hb1 : Below (w.heap.size + 1 + 1) W3 (wr.alloc (.cells #[.int .i64 (q : Int), .int .i64 y] 28)) := hbw.alloc (by omega) _
      have HST : Hid (St.step (lk, mk) ((q : Int), y) = if lk.getD q 0 + 1 < y then (lk, mk ++ [((q : Int), y)]) else (lk.set q (max (lk.getD q 0) y), mk)) := rfl
      obtain ⟨W5, hW5⟩ : ∃ W5, W5 = wr.alloc (.cells #[.int .i64 (q : Int), .int .i64 y] 28) := ⟨_, rfl⟩
      have hs5 : w.heap.size + 1 + 1 + 1 ≤ W5.heap.size := by rw [hW5]; simp; omega
      clear hSk hlk hdr hdr' hX hY
      generalize lk.getD q 0 = x at *
      by_cases hg : x + 1 < y
      · have HK2 : Hid (St.step (lk, mk) ((q : Int), y) = (lk, mk ++ [((q : Int), y)])) := by
          have h := HST.out
          rw [if_pos hg] at h
          exact h
        have hg1 : (y == x + 1) = false := beq_eq_false_iff_ne.2 (by omega)
        have hg2 : x < y := by omega
        obtain ⟨i0, hi, hz, hz1, hz2⟩ := info28
        have h63 : mk.length + 1 ≤ maxLen := by unfold maxLen; omega
        have hby : (mk.length + 1) * 16 ≤ 140737488355328 := by omega
        have hm1 := hX1.more hl16
        go_wp2
        rw [← hW5]
        rw [← hW5] at hX1 hY1 hd0 hd1 hb1 hcq hfq hm1
        clear hW5
        go_region
        go_wp2
        go_region
        go_wp2_with (at_builtin; refine wpList_append_own _ rfl _ _ 24 rfl (w.heap.size + 1 + 1 + 1) 28 i0 _ 2 16 Try.underlying24 hi hz hz1 hz2 rfl (by decide) _ _ _ rfl (own_on hY1 (below_new W5 _).drew.drew) ⟨W5.heap.size, 0, none⟩ 1 1 (dcells [((q : Int), y)]) rfl rfl (new_row W5 ((q : Int), y)) (dcells_one [((q : Int), y)]) h63 hby (Nat.le_trans hs5 (by simp)) ?_
                     intro v' w6 hown' hg6 _
                     obtain ⟨ao6, n6, c6, rfl⟩ := own_sl hown'
                     have hA6 : SetAt w6 (w.heap.size + 1 + 1) lk sl := (hg6.block (w.heap.size + 1 + 1) (by simp; omega) (own_ne hY1)).trans (hX1.alloc _)
                     have m6 := hA6.more hl16
                     have f6 := hA6.frozen 16)
        go_roundw
        case rel =>
          refine ⟨k + 1, by omega, by go_num, .slice ao6 n6 c6, ?_, ?_, ?_⟩
          · rw [HK.out, HK2.out]; exact hA6.setMore hl16 _
          · rw [HK.out, HK2.out]; exact own_other (by simpa [dcells_append] using hown') (fun q hq => heap_setCell_other w6 _ q _ (by simp; omega))
          · exact ((((hb1.alloc (by omega) _).drew).drew).grown hg6 (by simp; omega) (fun q hq => Nat.le_trans (by omega) (hY1.lt q hq).1)).setCell (p := ⟨w.heap.size + 1 + 1, 16, none⟩) (Nat.le_refl _) _
        case measure => simp [intOf]; omega
      · have hmax : max x y = if y = x + 1 then y else x := by split <;> omega
        by_cases hg1 : y = x + 1
        · have HK2 : Hid (St.step (lk, mk) ((q : Int), y) = (lk.set q y, mk)) := by
            have h := HST.out
            rw [if_neg hg, hmax, if_pos hg1] at h
            exact h
          clear hmax hg
          subst hg1
          have hwx : x + 1 ≤ 1048577 := by omega
          go_wp2
          rw [← hW5]
          rw [← hW5] at hX1 hY1 hd0 hd1 hb1 hcq hfq
          clear hW5
          go_region
          go_wp2
          go_roundw
          case rel =>
            refine ⟨k + 1, by omega, by go_num, sl, ?_, ?_, ?_⟩
            · rw [HK.out, HK2.out]; exact hX1.setNum (by omega) _
            · rw [HK.out, HK2.out]; exact own_other hY1 (fun p hp => heap_setCell_other _ _ p _ (by simp; omega))
            · exact (hb1.setCell (p := ⟨w.heap.size + 1 + 1, q, none⟩) (Nat.le_refl _) _).drew
          case measure => simp [intOf]; omega
        · have HK2 : Hid (St.step (lk, mk) ((q : Int), y) = (lk, mk)) := by
            have h := HST.out
            rw [if_neg hg, hmax, if_neg hg1, hself] at h
            exact h
          have hg2 : (y == x + 1) = false := beq_eq_false_iff_ne.2 hg1
          have hg3 : ¬ x < y := by omega
          clear hmax
          go_wp2
          rw [← hW5]
          rw [← hW5] at hX1 hY1 hd0 hd1 hb1 hcq hfq
          clear hW5
          go_region
          go_wp2
          go_region
          go_wp2
          go_roundw
          case rel =>
            refine ⟨k + 1, by omega, by go_num, sl, ?_, ?_, ?_⟩
            · rw [HK.out, HK2.out]; exact hX1
            · rw [HK.out, HK2.out]; exact hY1
            · exact hb1.drew.drew
          case measure => simp [intOf]; omega
    · obtain rfl : k = n := by omega
      rw [HF.out] at HX HY
      have hS9 := (HP.out xs.length).1
      rw [pre_all] at hS9
      generalize hG : St.fill l xs = S at *
      obtain ⟨lf, mf⟩ := S
      have HG : Hid (St.fill l xs = (lf, mf)) := hG
      clear hG
      have hlf : lf.length = 16 := hS9.len
      have hRr := HR3.out.upto hbw (by omega)
      have hsl : isSl sl := own_sl HY.out
      have hXr := HX.out
      simp only at hXr
      clear HP HDs hS9 HA hAr
      go_wp2_with (first | (refine load_set rfl _ rfl (w.heap.size + 1 + 1) lf sl hlf rfl hXr ?_) | (refine store_set rfl _ _ rfl (w.heap.size + 1) lf noughts sl (.slice none 0 0) hlf noughts_length hsl rfl rfl hRr ?_))
      refine bodyPost_ret (ret_set rfl _ hlf rfl (hRr.row lf sl)) rfl ⟨sl, by rw [HG.out], ?_, ?_⟩
      · rw [HG.out]
        exact own_base (own_other HY.out fun q hq => setRow_other wr _ q _ (by omega)) (by omega)
      · exact below_setRow (HB.out.trans (hbw.mono (by omega))) (by omega) _
end Go.Proofs.Ytenfbjlmfdiniaa
