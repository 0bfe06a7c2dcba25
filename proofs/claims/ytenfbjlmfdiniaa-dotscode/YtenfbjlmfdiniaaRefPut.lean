/- The walk of the document's Put. -/
import Derived.Test.YtenfbjlmfdiniaaFilled
namespace Go.Proofs.Ytenfbjlmfdiniaa
open Go.RowKit Go.Shelf

theorem build16s (a0 a1 a2 a3 a4 a5 a6 a7 a8 a9 a10 a11 a12 a13 a14 a15 : Int) (ao : Option Addr) (n c : Nat) (w : World) : (Instr.build 26 #[(0, vecV [a0, a1, a2, a3, a4, a5, a6, a7, a8, a9, a10, a11, a12, a13, a14, a15]), (1, .slice ao n c)]).run Try.prog w = .ok (setV [a0, a1, a2, a3, a4, a5, a6, a7, a8, a9, a10, a11, a12, a13, a14, a15] (.slice ao n c)) w := by kernel_rfl
theorem build_set2 (l : List Int) (hl : l.length = 16) (ao : Option Addr) (n c : Nat) (w : World) : (Instr.build 26 #[(0, vecV l), (1, .slice ao n c)]).run Try.prog w = .ok (setV l (.slice ao n c)) w := by
  match l, hl with
  | [a0, a1, a2, a3, a4, a5, a6, a7, a8, a9, a10, a11, a12, a13, a14, a15], _ => exact build16s a0 a1 a2 a3 a4 a5 a6 a7 a8 a9 a10 a11 a12 a13 a14 a15 ao n c w
theorem take_build2 {ops : Array Oper} {rest : List Oper} {o : Oper} {a : Act} {w : World} {Q : Exit → Act → World → Prop} (hgd : o.guard = none) (x y : Operand) (ho : o.op = .build 26 #[(0, x), (1, y)])
    (l : List Int) (hl : l.length = 16) (ao : Option Addr) (n c : Nat) (hx : a.eval x = vecV l) (hy : a.eval y = .slice ao n c) (hk : wpList Try.prog ops Q rest (a.put o.dst (setV l (.slice ao n c))) w) : wpList Try.prog ops Q (o :: rest) a w :=
  wpList_plain hgd fun _ hK => by
    unfold Oper.wp execOp
    simp only [ho, List.map_toArray, List.map_cons, List.map_nil, hx, hy, Sem.run_bind, build_set2 l hl, Result.andThen_ok, Sem.run_pure]
    exact hK _ _ hk

theorem own_snoc {w : World} {B : Nat} {v : Value} {acc : List D} {x : D} (h : w.ownsRow B 28 2 v (acc.length + 1) (dcells acc ++ dcells [x])) : w.ownsRow B 28 2 v (acc ++ [x]).length (dcells (acc ++ [x])) := by
  rw [dcells_append, List.length_append]
  exact h
/-- Where the laying stands. -/
def PInv (ds : List D) (d : D) (k : Nat) (laid : Bool) (acc : List D) : Prop :=
  acc.length ≤ k + 1 ∧ (laid = false → acc = ds.take k ∧ St.put d ds = acc ++ St.put d (ds.drop k)) ∧ (laid = true → St.put d ds = acc ++ ds.drop k)
theorem PInv.start (ds : List D) (d : D) : PInv ds d 0 false [] := ⟨by simp, fun _ => ⟨by simp, by simp⟩, fun h => by cases h⟩
theorem PInv.on {ds : List D} {d : D} {k : Nat} {acc : List D} (h : PInv ds d k true acc) (hk : k < ds.length) (hl : acc.length ≤ k + 1) : PInv ds d (k + 1) true (acc ++ [ds[k]]) := by
  refine ⟨by simp; omega, fun e => (by cases e), fun _ => ?_⟩
  rw [h.2.2 rfl, List.append_assoc, List.drop_eq_getElem_cons hk]
  rfl
theorem PInv.pass {ds : List D} {d : D} {k : Nat} {acc : List D} (h : PInv ds d k false acc) (hk : k < ds.length) (hn : ¬ St.lt d ds[k]) : PInv ds d (k + 1) false (acc ++ [ds[k]]) := by
  obtain ⟨h1, h2⟩ := h.2.1 rfl
  refine ⟨by have := h.1; simp; omega, fun _ => ⟨?_, ?_⟩, fun e => by cases e⟩
  · rw [h1, List.take_succ_eq_append_getElem hk]
  · rw [h2, List.append_assoc, List.drop_eq_getElem_cons hk]
    simp [St.put, hn]
theorem PInv.lay {ds : List D} {d : D} {k : Nat} {acc : List D} (h : PInv ds d k false acc) (hk : k < ds.length) (hn : St.lt d ds[k]) : PInv ds d (k + 1) true (acc ++ [d] ++ [ds[k]]) := by
  obtain ⟨h1, h2⟩ := h.2.1 rfl
  refine ⟨by rw [h1]; simp; omega, fun e => (by cases e), fun _ => ?_⟩
  rw [h2, List.append_assoc, List.append_assoc, List.drop_eq_getElem_cons hk]
  simp [St.put, hn]
theorem PInv.end1 {ds : List D} {d : D} {acc : List D} (h : PInv ds d ds.length false acc) : St.put d ds = acc ++ [d] := by
  rw [(h.2.1 rfl).2, List.drop_length]
  rfl
theorem PInv.end2 {ds : List D} {d : D} {acc : List D} (h : PInv ds d ds.length true acc) : St.put d ds = acc := by
  rw [h.2.2 rfl, List.drop_length, List.append_nil]
/-- What the document's Put tells. -/
def putS (l : List Int) (ds : List D) (d : D) : List Int × List D := if rightD d = true ∧ St.has l ds d = false then St.fill l (St.put d ds) else (l, ds)

set_option maxRecDepth 20000 in
set_option maxHeartbeats 1000000 in
theorem refPut_any (l : List Int) (v : Value) (ds : List D) (d : D) (w : World) (hS : St.Std l ds) (hd : dotsIn w v ds) (hn : ds.length ≤ 10000) :
    Calls Try.prog 16 #[setV l v, dV d] w fun e w' => ∃ sl, e = .returned (setV (putS l ds d).1 sl) ∧ dotsIn w' sl (putS l ds d).2 ∧ (∀ b, sl.ownBlock = some b → v.ownBlock = some b ∨ w.heap.size ≤ b) ∧ Below w.heap.size w w' := by
  have hl := hS.len
  have hZ := SetAt.zero ((w.alloc (.cells (setC l v).toArray 26)).alloc (.cells #[.int .i64 d.1, .int .i64 d.2] 28))
  obtain ⟨W0, hW0⟩ : ∃ W0, W0 = ((w.alloc (.cells (setC l v).toArray 26)).alloc (.cells #[.int .i64 d.1, .int .i64 d.2] 28)).alloc (.cells (setC noughts (.slice none 0 0)).toArray 26) := ⟨_, rfl⟩
  have hB0 : Below w.heap.size w W0 := by rw [hW0]; exact bchain (below_new2 _ _ _) (below_new _ _)
  have hA0 : SetAt W0 w.heap.size l v := by rw [hW0]; exact ((SetAt.new w l v).alloc _).alloc _
  have hR0 : SetAt W0 (w.heap.size + 1 + 1) noughts (.slice none 0 0) := by rw [hW0]; simpa using hZ
  have hD0 : DotAt W0 (w.heap.size + 1) d := by
    rw [hW0]
    have := (DotAt.new (w.alloc (.cells (setC l v).toArray 26)) d).on (below_new _ (.cells (setC noughts (.slice none 0 0)).toArray 26))
    simpa using this
  have hsz : W0.heap.size = w.heap.size + 1 + 1 + 1 := by rw [hW0]; simp
  have HQ := fun W => refRight_any d.1 d.2 W
  have HH : ∀ W, Below w.heap.size w W → Calls Try.prog 13 #[setV l v, dV d] W fun e w' => e = .returned (.bool (St.has l ds d)) ∧ Below W.heap.size W w' := fun W hb => refHasSet_any l hl v ds d W (hd.on hb) (by omega)
  obtain ⟨ao, ca, rfl, _, _⟩ := id hd
  have HA : Hid (SetAt W0 w.heap.size l (.slice ao ds.length ca)) := hA0
  have HR : Hid (SetAt W0 (w.heap.size + 1 + 1) noughts (.slice none 0 0)) := hR0
  have HD : Hid (DotAt W0 (w.heap.size + 1) d) := hD0
  have HB : Hid (Below w.heap.size w W0) := hB0
  have HDs : Hid (dotsIn w (.slice ao ds.length ca) ds) := hd
  have HW : Hid (W0 = ((w.alloc (.cells (setC l (.slice ao ds.length ca)).toArray 26)).alloc (.cells #[.int .i64 d.1, .int .i64 d.2] 28)).alloc (.cells (setC noughts (.slice none 0 0)).toArray 26)) := hW0
  rw [hW0] at hA0 hD0
  clear hW0 hd hB0 hR0 hZ
  cases hq : rightD d with
  | false =>
    have e : putS l ds d = (l, ds) := by unfold putS; rw [hq]; rfl
    rw [e]
    have hq' : Dt.right d.1 d.2 = false := hq
    rw [hq'] at HQ
    clear hq hq' e HH
    go_enter Try.func16, Try.ntmps16
    go_wp2_with (first
      | (refine load_dot rfl _ rfl (w.heap.size + 1) d rfl hD0 ?_)
      | (go_at_call 27; refine (HQ _).mono ?_; rintro e w1 ⟨rfl, hb1⟩
         have hb1' : Below W0.heap.size W0 w1 := by rw [HW.out]; exact hb1
         have hA1 := HA.out.on hb1'
         have hR1 := HR.out.on hb1')
      | (refine load_set rfl _ rfl w.heap.size l _ hl rfl hA1 ?_)
      | (refine store_set rfl _ _ rfl (w.heap.size + 1 + 1) l noughts _ (.slice none 0 0) hl noughts_length ⟨_, _, _, rfl⟩ rfl rfl hR1 ?_))
    have hbx := below_setRow (bchain HB.out hb1') (b := w.heap.size + 1 + 1) (by omega) (setC l (.slice ao ds.length ca)).toArray
    exact bodyPost_ret (ret_set rfl _ hl rfl (hR1.row l _)) rfl ⟨_, rfl, HDs.out.on hbx, fun _ hb => Or.inl hb, hbx⟩
  | true =>
    have hq' : Dt.right d.1 d.2 = true := hq
    rw [hq'] at HQ
    cases hh : St.has l ds d with
    | true =>
      have e : putS l ds d = (l, ds) := by unfold putS; rw [hh]; simp
      rw [e]
      rw [hh] at HH
      clear hq hq' e hh
      go_enter Try.func16, Try.ntmps16
      go_wp2_with (first
        | (refine load_dot rfl _ rfl (w.heap.size + 1) d rfl hD0 ?_)
        | (go_at_call 27; refine (HQ _).mono ?_; rintro e w1 ⟨rfl, hb1⟩
           have hb1' : Below W0.heap.size W0 w1 := by rw [HW.out]; exact hb1
           have hA1 := HA.out.on hb1'
           have hD1 := HD.out.on hb1'
           have d10 := hD1.1
           have d11 := hD1.2
           have HH1 := HH w1 (bchain HB.out hb1'))
        | (refine load_setG (by kernel_rfl) _ rfl w.heap.size l _ hl rfl hA1 ?_)
        | (go_at_call 13; refine HH1.mono ?_; rintro e w2 ⟨rfl, hb2⟩
           have hA2 := hA1.on hb2
           have hR2 := (HR.out.on hb1').on hb2)
        | (refine load_set rfl _ rfl w.heap.size l _ hl rfl hA2 ?_)
        | (refine store_set rfl _ _ rfl (w.heap.size + 1 + 1) l noughts _ (.slice none 0 0) hl noughts_length ⟨_, _, _, rfl⟩ rfl rfl hR2 ?_))
      have hbx := below_setRow (bchain (bchain HB.out hb1') hb2) (b := w.heap.size + 1 + 1) (by omega) (setC l (.slice ao ds.length ca)).toArray
      exact bodyPost_ret (ret_set rfl _ hl rfl (hR2.row l _)) rfl ⟨_, rfl, HDs.out.on hbx, fun _ hb => Or.inl hb, hbx⟩
    | false =>
      have e : putS l ds d = St.fill l (St.put d ds) := by unfold putS; rw [hh, if_pos ⟨hq, rfl⟩]
      rw [e]
      have hnm : d ∉ ds := fun hm => by
        unfold St.has at hh
        rw [decide_eq_true hm] at hh
        cases hh
      have hprow := St.put_row d ds hS.row hnm
      have hpr : ∀ x ∈ St.put d ds, rightD x = true := fun x hx => by
        rcases (St.put_mem d x ds).1 hx with e | e
        · rw [e]; exact hq
        · exact (hS.gap x e).1
      have hplen := St.put_len d ds
      have HF : ∀ (W : World) (u : Value), dotsIn W u (St.put d ds) → Calls Try.prog 54 #[setV l u] W fun e w' => ∃ sl, e = .returned (setV (St.fill l (St.put d ds)).1 sl) ∧ w'.ownsRow W.heap.size 28 2 sl (St.fill l (St.put d ds)).2.length (dcells (St.fill l (St.put d ds)).2) ∧ Below W.heap.size W w' :=
        fun W u hu => filled_any l hl hS.vec u _ W hu (by omega) hpr hprow
      have hlf := (St.fill_std hl hS.vec hpr hprow).1.len
      rw [hh] at HH
      clear hq hq' e hh hprow hpr hplen
      generalize St.fill l (St.put d ds) = S at *
      obtain ⟨lf, mf⟩ := S
      simp only at HF hlf ⊢
      have HFF : Hid (∀ (W : World) (u : Value), dotsIn W u (St.put d ds) → Calls Try.prog 54 #[setV l u] W fun e w' => ∃ sl, e = .returned (setV lf sl) ∧ w'.ownsRow W.heap.size 28 2 sl mf.length (dcells mf) ∧ Below W.heap.size W w') := HF
      have HPI : Hid (PInv ds d 0 false []) := PInv.start ds d
      obtain ⟨n, hn0⟩ : ∃ n, n = ds.length := ⟨_, rfl⟩
      have HN : Hid (n = ds.length) := hn0
      rw [← hn0] at hn hA0 HH HA HDs HW ⊢
      clear hn0 HF hnm
      go_enter Try.func16, Try.ntmps16
      go_wp2_with (first
        | (refine load_dot rfl _ rfl (w.heap.size + 1) d rfl hD0 ?_)
        | (go_at_call 27; refine (HQ _).mono ?_; rintro e w1 ⟨rfl, hb1⟩
           have hb1' : Below W0.heap.size W0 w1 := by rw [HW.out]; exact hb1
           have hA1 := HA.out.on hb1'
           have hD1 := HD.out.on hb1'
           have d10 := hD1.1
           have d11 := hD1.2
           have HH1 := HH w1 (bchain HB.out hb1'))
        | (refine load_setG (by kernel_rfl) _ rfl w.heap.size l _ hl rfl hA1 ?_)
        | (go_at_call 13; refine HH1.mono ?_; rintro e w2 ⟨rfl, hb2⟩))
      have hb02 : Below W0.heap.size W0 w2 := bchain hb1' hb2
      clear hb1 hb1' hA1 hD1 d10 d11 HH1 HH HQ hA0 hD0 hb2
      go_loopw [5, 6, 7] (fun r b i wr => ∃ (k : Nat) (laid : Bool) (acc : List D), k ≤ n ∧ i = .int .i64 k ∧ b = .bool laid ∧ Hid (PInv ds d k laid acc) ∧ Hid (wr.ownsRow W0.heap.size 28 2 r acc.length (dcells acc)) ∧ Below W0.heap.size W0 wr) (fun _ _ i _ => n - (intOf i).toNat)
      case atStart => exact ⟨0, false, [], by omega, rfl, rfl, HPI, World.ownsRow_nil _ _ _ _, hb02⟩
      case round =>
        clear HPI hb02
        obtain ⟨k, laid, acc, hk, rfl, rfl, HI, HO, hbw⟩ := hrel
        have hAr := HA.out.on hbw
        have m0 := hAr.more hl
        have hDr := HD.out.on hbw
        have e0 := hDr.1
        have e1 := hDr.2
        have hBr : Below w.heap.size w wr := bchain HB.out hbw
        have hacc : acc.length ≤ 10002 := by have := HI.out.1; omega
        have hsr := hbw.size
        obtain ⟨i0, hi, hz, hz1, hz2⟩ := info28
        have hown := HO.out
        by_cases hlt : k < n
        · have hkx : k < ds.length := by have := HN.out; omega
          obtain ⟨ao2, cap2, e2, _, hc⟩ := HDs.out.on hBr
          obtain ⟨ad, hao, c0, c1⟩ := hc k hkx
          have e3 : ao = some ad := by cases e2; exact hao
          subst e3
          clear hc e2 hao
          have hi0 : (0 : Int) ≤ (k : Int) := by omega
          have hi1 : (k : Int) < (n : Int) := by omega
          have FAC : Hid (∀ W, Below W0.heap.size W0 W → W.cell? ⟨w.heap.size, 16, none⟩ = some (.slice (some ad) n ca) ∧ W.cell? ⟨w.heap.size + 1, 0, none⟩ = some (.int .i64 d.1) ∧ W.cell? ⟨w.heap.size + 1, 1, none⟩ = some (.int .i64 d.2)
              ∧ W.cell? (ad.add (k * 2)) = some (.int .i64 (ds[k]).1) ∧ W.cell? ⟨(ad.add (k * 2)).block, (ad.add (k * 2)).off + 1, none⟩ = some (.int .i64 (ds[k]).2)) := fun W hW => by
            obtain ⟨ao3, cap3, e3, _, hc3⟩ := HDs.out.on (bchain HB.out hW)
            obtain ⟨ad3, hao3, c3, c4⟩ := hc3 k hkx
            have e4 : ad3 = ad := by cases e3; cases hao3; rfl
            subst e4
            exact ⟨(HA.out.on hW).more hl, (HD.out.on hW).1, (HD.out.on hW).2, c3, c4⟩
          have h63 : acc.length + 1 ≤ maxLen := by unfold maxLen; omega
          have hby : (acc.length + 1) * 16 ≤ 140737488355328 := by omega
          cases laid with
          | true =>
            have HI' : Hid (PInv ds d (k + 1) true (acc ++ [ds[k]])) := by
              have h := HI.out.on hkx HI.out.1
              exact h
            generalize ds[k] = x at *
            go_wp2
            go_region
            go_wp2_with (at_builtin; refine wpList_append_own _ rfl _ _ 24 rfl W0.heap.size 28 i0 _ 2 16 Try.underlying24 hi hz hz1 hz2 rfl (by decide) _ _ _ rfl (own_on hown (below_new wr _).drew) ⟨wr.heap.size, 0, none⟩ 1 1 (dcells [x]) rfl rfl (new_row wr x) (dcells_one [x]) h63 hby (by simp; omega) ?_; intro v' w6 hown' hg6 _)
            go_roundw
            case rel => exact ⟨k + 1, true, acc ++ [x], by omega, by go_num, rfl, HI', own_snoc hown', ((hbw.alloc hsr _).drew).grown hg6 (by simp; omega) (fun q hq => (hown.lt q hq).1)⟩
            case measure => simp [intOf]; omega
          | false =>
            have HC := fun W => refComp_any d.1 d.2 (ds[k]).1 (ds[k]).2 W
            have hzz := cf_lt d ds[k]
            by_cases hlx : St.lt d ds[k]
            · have HI' : Hid (PInv ds d (k + 1) true (acc ++ [d] ++ [ds[k]])) := by
                have h := HI.out.lay hkx hlx
                exact h
              rw [decide_eq_true hlx] at hzz
              have hz' : Dt.comp d.1 d.2 (ds[k]).1 (ds[k]).2 < 0 := of_decide_eq_true hzz
              have h63' : acc.length + 1 + 1 ≤ maxLen := by unfold maxLen; omega
              have hby' : (acc.length + 1 + 1) * 16 ≤ 140737488355328 := by omega
              clear hzz hlx HI
              generalize Dt.comp d.1 d.2 (ds[k]).1 (ds[k]).2 = z at *
              generalize ds[k] = x at *
              go_wp2
              go_region_held3 (fun W => W.cell? ⟨w.heap.size, 16, none⟩ = some (.slice (some ad) n ca) ∧ W.cell? (ad.add (k * 2)) = some (.int .i64 x.1) ∧ W.cell? ⟨(ad.add (k * 2)).block, (ad.add (k * 2)).off + 1, none⟩ = some (.int .i64 x.2) ∧ W.cell? ⟨w.heap.size + 1, 0, none⟩ = some (.int .i64 d.1) ∧ W.cell? ⟨w.heap.size + 1, 1, none⟩ = some (.int .i64 d.2) ∧ Below wr.heap.size wr W)
                (first | exact ⟨m0, c0, c1, e0, e1, (Below.refl _ _).drew⟩ | go_keep | (refine ⟨keep_cell hb ?_, keep_cell hb ?_, keep_cell hb ?_, keep_cell hb ?_, keep_cell hb ?_, bchain ?_ hb⟩ <;> go_keep))
                (first | (go_at_call 49; refine (HC _).mono ?_; rintro e w5 ⟨rfl, hb⟩))
              have hb5 : Below wr.heap.size wr w5 := bchain (Below.refl _ _).drew hb
              have hbw5 := bchain hbw hb5
              have hs5 := hbw5.size
              have hown5 := own_on hown hb5
              obtain ⟨f1, f2, f3, f4, f5⟩ := FAC.out w5 hbw5
              clear hb hb5 m0 c0 c1 e0 e1
              go_wp2_with (first
                | (at_builtin; refine wpList_append_own _ rfl _ _ 24 rfl W0.heap.size 28 i0 _ 2 16 Try.underlying24 hi hz hz1 hz2 rfl (by decide) _ _ _ rfl (own_on hown5 (below_new w5 _)) ⟨w5.heap.size, 0, none⟩ 1 1 (dcells [d]) rfl rfl (new_row w5 d) (dcells_one [d]) h63 hby (by simp; omega) ?_
                   intro v6 w6 hown6 hg6 _
                   have hb6 : Below W0.heap.size W0 w6 := (hbw5.alloc hs5 _).grown hg6 (by simp; omega) (fun q hq => (hown5.lt q hq).1)
                   have hs6 := hb6.size
                   obtain ⟨g1, g2, g3, g4, g5⟩ := FAC.out w6 hb6)
                | (at_builtin; refine wpList_append_own _ rfl _ _ 24 rfl W0.heap.size 28 i0 _ 2 16 Try.underlying24 hi hz hz1 hz2 rfl (by decide) _ _ _ rfl (own_on hown6 (below_new w6 _)) ⟨w6.heap.size, 0, none⟩ 1 1 (dcells [x]) rfl rfl (new_row w6 x) (dcells_one [x]) h63' hby' (by simp; omega) ?_
                   intro v7 w7 hown7 hg7 _))
              go_roundw
              case rel => exact ⟨k + 1, true, acc ++ [d] ++ [x], by omega, by go_num, rfl, HI', own_snoc (acc := acc ++ [d]) (by rw [dcells_append, List.length_append]; exact hown7), (hb6.alloc hs6 _).grown hg7 (by simp; omega) (fun q hq => (hown6.lt q hq).1)⟩
              case measure => simp [intOf]; omega
            · have HI' : Hid (PInv ds d (k + 1) false (acc ++ [ds[k]])) := by
                have h := HI.out.pass hkx hlx
                exact h
              rw [decide_eq_false hlx] at hzz
              have hz' : ¬ Dt.comp d.1 d.2 (ds[k]).1 (ds[k]).2 < 0 := of_decide_eq_false hzz
              clear hzz hlx HI
              generalize Dt.comp d.1 d.2 (ds[k]).1 (ds[k]).2 = z at *
              generalize ds[k] = x at *
              go_wp2
              go_region_held3 (fun W => W.cell? ⟨w.heap.size, 16, none⟩ = some (.slice (some ad) n ca) ∧ W.cell? (ad.add (k * 2)) = some (.int .i64 x.1) ∧ W.cell? ⟨(ad.add (k * 2)).block, (ad.add (k * 2)).off + 1, none⟩ = some (.int .i64 x.2) ∧ W.cell? ⟨w.heap.size + 1, 0, none⟩ = some (.int .i64 d.1) ∧ W.cell? ⟨w.heap.size + 1, 1, none⟩ = some (.int .i64 d.2) ∧ Below wr.heap.size wr W)
                (first | exact ⟨m0, c0, c1, e0, e1, (Below.refl _ _).drew⟩ | go_keep | (refine ⟨keep_cell hb ?_, keep_cell hb ?_, keep_cell hb ?_, keep_cell hb ?_, keep_cell hb ?_, bchain ?_ hb⟩ <;> go_keep))
                (first | (go_at_call 49; refine (HC _).mono ?_; rintro e w5 ⟨rfl, hb⟩))
              have hb5 : Below wr.heap.size wr w5 := bchain (Below.refl _ _).drew hb
              have hbw5 := bchain hbw hb5
              have hs5 := hbw5.size
              have hown5 := own_on hown hb5
              obtain ⟨f1, f2, f3, f4, f5⟩ := FAC.out w5 hbw5
              clear hb hb5 m0 c0 c1 e0 e1
              go_wp2_with (at_builtin; refine wpList_append_own _ rfl _ _ 24 rfl W0.heap.size 28 i0 _ 2 16 Try.underlying24 hi hz hz1 hz2 rfl (by decide) _ _ _ rfl (own_on hown5 (below_new w5 _)) ⟨w5.heap.size, 0, none⟩ 1 1 (dcells [x]) rfl rfl (new_row w5 x) (dcells_one [x]) h63 hby (by simp; omega) ?_; intro v6 w6 hown6 hg6 _)
              go_roundw
              case rel => exact ⟨k + 1, false, acc ++ [x], by omega, by go_num, rfl, HI', own_snoc hown6, (hbw5.alloc hs5 _).grown hg6 (by simp; omega) (fun q hq => (hown5.lt q hq).1)⟩
              case measure => simp [intOf]; omega
        · obtain rfl : k = n := by omega
          have hEI := HI.out
          rw [HN.out] at hEI
          have h63 : acc.length + 1 ≤ maxLen := by unfold maxLen; omega
          have hby : (acc.length + 1) * 16 ≤ 140737488355328 := by omega
          have hk' : ¬ (k : Int) < (k : Int) := by omega
          cases laid with
          | true =>
            have hp9 : dotsIn wr u5 (St.put d ds) := by rw [hEI.end2]; exact dotsIn_own hown
            have HC := HFF.out wr u5 hp9
            obtain ⟨a9, n9, c9, rfl⟩ := own_sl hown
            have hR := HR.out.on hbw
            clear HI HO hEI
            go_wp2_with (first
              | (refine load_setVec rfl _ rfl w.heap.size l _ hl rfl hAr ?_)
              | (refine take_build2 rfl _ _ rfl l hl _ _ _ rfl rfl ?_)
              | (go_at_call 54; refine HC.mono ?_; rintro e w7 ⟨sl, rfl, ho7, hb7⟩
                 have hR7 := hR.on hb7
                 have hs7 := own_sl ho7)
              | (refine store_set rfl _ _ rfl (w.heap.size + 1 + 1) lf noughts _ (.slice none 0 0) hlf noughts_length hs7 rfl rfl hR7 ?_))
            refine bodyPost_ret (ret_set rfl _ hlf rfl (hR7.row lf sl)) rfl ⟨sl, rfl, ?_, fun b hb => Or.inr (Nat.le_trans hBr.size (ho7.lt b hb).1), below_setRow (bchain hBr hb7) (by omega) _⟩
            exact dotsIn_own (own_other ho7 fun q hq => setRow_other w7 _ q _ (by omega))
          | false =>
            have hp9 := hEI.end1
            have HB6 : ∀ {w6 : World}, (wr.alloc (.cells #[.int .i64 d.1, .int .i64 d.2] 28)).grownBy w6 u5.ownBlock → Below W0.heap.size W0 w6 := fun hg6 => (hbw.alloc hsr _).grown hg6 (by simp; omega) (fun q hq => (hown.lt q hq).1)
            have HP9 : Hid (St.put d ds = acc ++ [d]) := hp9
            clear HI HO hEI hp9
            go_wp2_with (first
              | (at_builtin; refine wpList_append_own _ rfl _ _ 24 rfl W0.heap.size 28 i0 _ 2 16 Try.underlying24 hi hz hz1 hz2 rfl (by decide) _ _ _ rfl (own_on hown (below_new wr _)) ⟨wr.heap.size, 0, none⟩ 1 1 (dcells [d]) rfl rfl (new_row wr d) (dcells_one [d]) h63 hby (by simp; omega) ?_
                 intro v6 w6 hown6 hg6 _
                 have hb6 := HB6 hg6
                 have hA6 := HA.out.on hb6
                 have hR6 := HR.out.on hb6
                 have HC := HFF.out w6 v6 (by rw [HP9.out]; exact dotsIn_own (own_snoc hown6))
                 have hs6 := hb6.size
                 obtain ⟨a9, n9, c9, rfl⟩ := own_sl hown6)
              | (refine load_setVec rfl _ rfl w.heap.size l _ hl rfl hA6 ?_)
              | (refine take_build2 rfl _ _ rfl l hl _ _ _ rfl rfl ?_)
              | (go_at_call 54; refine HC.mono ?_; rintro e w7 ⟨sl, rfl, ho7, hb7⟩
                 have hR7 := hR6.on hb7
                 have hs7 := own_sl ho7)
              | (refine store_set rfl _ _ rfl (w.heap.size + 1 + 1) lf noughts _ (.slice none 0 0) hlf noughts_length hs7 rfl rfl hR7 ?_))
            refine bodyPost_ret (ret_set rfl _ hlf rfl (hR7.row lf sl)) rfl ⟨sl, rfl, ?_, fun b hb => Or.inr (Nat.le_trans (bchain HB.out hb6).size (ho7.lt b hb).1), below_setRow (bchain (bchain HB.out hb6) hb7) (by omega) _⟩
            exact dotsIn_own (own_other ho7 fun q hq => setRow_other w7 _ q _ (by omega))
end Go.Proofs.Ytenfbjlmfdiniaa
