/- The walk of the document's Parse, at a text that begins with a quote, and at any. -/
import Derived.Test.YthphoclfoejbfaaDoorRefParse
import Derived.Test.YthphoclfoejbfaaDoorAwake
namespace Go.Proofs.YthphoclfoejbfaaDoor
open Go.RowKit

set_option maxRecDepth 20000 in
set_option maxHeartbeats 4000000 in
theorem refParse_str (s : ByteArray) (w : World) (hs : s.size ≤ 200000) (h0 : 0 < s.size) (h34 : s[0].toNat = 34) :
    Calls Tryd.prog 17 #[.string s] w fun e w' => ParEnds s.data.toList e ∧ Below w.heap.size w w' := by
  have hd : s.data.toList = s[0] :: s.data.toList.drop 1 := by
    have := drop_cons' h0
    rwa [List.drop_zero] at this
  have q1 : (s.toList == [116, 114, 117, 101]) = false := by
    rw [Lib.toList_data, beq_eq_false_iff_ne, hd]
    intro e
    simp only [List.cons.injEq] at e
    rw [e.1] at h34; simp at h34
  have q2 : (s.toList == [102, 97, 108, 115, 101]) = false := by
    rw [Lib.toList_data, beq_eq_false_iff_ne, hd]
    intro e
    simp only [List.cons.injEq] at e
    rw [e.1] at h34; simp at h34
  have q0 : ((s.size : Int) == 0) = false := beq_eq_false_iff_ne.2 (by omega)
  have HN : Hid (Vl.up [] (s.data.toList.drop 1) = none → Vl.pars s.data.toList = none) := by
    have h : Vl.up [] (s.data.toList.drop 1) = none → Vl.pars s.data.toList = none := fun h => up_none h0 h34 h
    exact h
  have HP : Hid (Vl.pars s.data.toList = match Vl.up [] (s.data.toList.drop 1) with | some t => if Vl.right 2 0 t = true then some (2, 0, t) else none | none => none) := by
    have h := pars_at h0 h34
    exact h
  have HS : Hid (upAt s.data.toList 1 []) := by
    have h := upAt_one (l := s.data.toList) (by rw [size_len]; omega)
    exact h
  have B0 := below_new w (valO 0 0 [])
  have Z := VAt.new w 0 0 []
  clear hd
  go_enter Tryd.func17, Tryd.ntmps17
  go_wp2
  go_loop [7, 8] (fun t i => ∃ (pos : Nat) (acc : List UInt8), t = .string ⟨acc.toArray⟩ ∧ i = .int .i64 pos ∧ upAt s.data.toList pos acc) (fun _ i => s.size - (intOf i).toNat)
  case atStart => exact ⟨1, [], rfl, rfl, HS.out⟩
  case round =>
    obtain ⟨pos, acc, rfl, rfl, hR⟩ := hrel
    have hp0 := hR.1
    have hpl := hR.2.1
    rw [size_len] at hpl
    have hal := hR.2.2.1
    have hacc : acc.length ≤ 2000000 := by omega
    have V0 := (VAt.new2 w 0 0 [] 2 0 acc).2
    have B1 := below_new2 w (valO 0 0 []) (valO 2 0 acc)
    have Z1 := Z.on (below_new _ (valO 2 0 acc))
    by_cases hp : pos < s.size
    · by_cases e34 : s[pos].toNat = 34
      · have C9 := fun w => refRight_any 2 0 acc w hacc
        by_cases hl : pos + 1 = s.size
        · have hz : (s.size : Int) - 1 = (pos : Int) := by omega
          cases hr : Vl.right 2 0 acc with
          | true =>
            rw [hr] at C9
            have HE : Hid (Vl.pars s.data.toList = some (2, 0, acc)) := by
              have h : Vl.pars s.data.toList = some (2, 0, acc) := by rw [HP.out, upAt_end hR hp e34, if_pos hl]; simp [hr]
              exact h
            clear hR hr HP HN HS hl
            go_wp2_with (go_at_call 9; refine (C9 _).mono ?_; rintro e w2 ⟨rfl, hb2⟩; have Z2 := (Z.on (below_new _ (valO 2 0 acc))).on hb2; have z0 := Z2.c0; have z1 := Z2.c1; have z2 := Z2.c2; have y0 := Z2.f0; have y1 := Z2.f1; have y2 := Z2.f2; have V2 := V0.on hb2; have v0 := V2.c0; have v1 := V2.c1; have v2 := V2.c2)
            have R := Z2.set 2 0 acc
            exact bodyPost_ret (v := .tuple #[valV 2 0 acc, .bool true]) (by simp [results, Tryd.results17, go_sem, R.c0, R.c1, R.c2]) rfl ⟨par_yes HE.out, below_set3 (bchain B1 hb2) (Nat.le_refl _) _ _ _⟩
          | false =>
            rw [hr] at C9
            have HE : Hid (Vl.pars s.data.toList = none) := by
              have h : Vl.pars s.data.toList = none := by rw [HP.out, upAt_end hR hp e34, if_pos hl]; simp [hr]
              exact h
            clear hR hr HP HN HS hl
            go_wp2_with (go_at_call 9; refine (C9 _).mono ?_; rintro e w2 ⟨rfl, hb2⟩; have Z2 := (Z.on (below_new _ (valO 2 0 acc))).on hb2; have z0 := Z2.c0; have z1 := Z2.c1; have z2 := Z2.c2; have y0 := Z2.f0; have y1 := Z2.f1; have y2 := Z2.f2; have V2 := V0.on hb2; have v0 := V2.c0; have v1 := V2.c1; have v2 := V2.c2)
            have R := Z2.set 0 0 []
            exact bodyPost_ret (v := .tuple #[valV 0 0 [], .bool false]) (by simp [results, Tryd.results17, go_sem, R.c0, R.c1, R.c2]) rfl ⟨par_no HE.out, below_set3 (bchain B1 hb2) (Nat.le_refl _) _ _ _⟩
        · have hm : ((pos : Int) != (s.size : Int) - 1) = true := bne_iff_ne.2 (by omega)
          have HE : Hid (Vl.pars s.data.toList = none) := by
            have h : Vl.pars s.data.toList = none := by rw [HP.out, upAt_end hR hp e34, if_neg hl]
            exact h
          clear hR HP HN HS hl C9
          go_wp2
          exact bodyPost_ret (v := .tuple #[valV 0 0 [], .bool false]) (by simp [results, Tryd.results17, go_sem]) rfl ⟨par_no HE.out, below_new2 w _ _⟩
      · have n34 : ((s[pos].toNat : Int) == 34) = false := beq_eq_false_iff_ne.2 (by omega)
        by_cases e92 : s[pos].toNat = 92
        · by_cases hl : pos + 1 < s.size
          · have hp1 : ((pos : Int) + 1 == (s.size : Int)) = false := beq_eq_false_iff_ne.2 (by omega)
            have hix := index_next s pos hl
            by_cases hq : s[pos + 1].toNat = 34 ∨ s[pos + 1].toNat = 92
            · have HA : Hid ((⟨acc.toArray⟩ : ByteArray) ++ ⟨#[s[pos + 1]]⟩ = ⟨(acc ++ [s[pos + 1]]).toArray⟩) := app_bytes acc _
              have HR : Hid (upAt s.data.toList (pos + 1 + 1) (acc ++ [s[pos + 1]])) := by
                have h := upAt_esc hR hl e92 hq
                exact h
              clear hR HP HN HS
              have hsl2 := slice_next s pos hl
              generalize s[pos + 1] = y at *
              rcases hq with hq | hq
              all_goals
                rw [hq] at hix
                go_wp2
                go_round
                case rel => exact ⟨pos + 1 + 1, _, by rw [← HA.out], by go_num, HR.out⟩
                case measure => simp [intOf]; omega
            · have HE : Hid (Vl.pars s.data.toList = none) := by
                have h := HN.out (upAt_wrong hR hl e92 (fun e => hq (.inl e)) (fun e => hq (.inr e)))
                exact h
              have q3 : ¬ (s[pos + 1].toNat : Int) = 34 := fun e => hq (.inl (by omega))
              have q4 : ¬ (s[pos + 1].toNat : Int) = 92 := fun e => hq (.inr (by omega))
              have q5 : ((s[pos + 1].toNat : Int) != 34) = true := bne_iff_ne.2 q3
              have q6 : ((s[pos + 1].toNat : Int) != 92) = true := bne_iff_ne.2 q4
              clear hR HP HN HS hq
              generalize s[pos + 1].toNat = y at *
              go_wp2
              exact bodyPost_ret (v := .tuple #[valV 0 0 [], .bool false]) (by simp [results, Tryd.results17, go_sem]) rfl ⟨par_no HE.out, below_new w _⟩
          · have hp1 : ((pos : Int) + 1 == (s.size : Int)) = true := beq_iff_eq.2 (by omega)
            have HE : Hid (Vl.pars s.data.toList = none) := by
              have h := HN.out (upAt_last hR hp hl e92)
              exact h
            clear hR HP HN HS
            go_wp2
            exact bodyPost_ret (v := .tuple #[valV 0 0 [], .bool false]) (by simp [results, Tryd.results17, go_sem]) rfl ⟨par_no HE.out, below_new w _⟩
        · have n92 : ((s[pos].toNat : Int) == 92) = false := beq_eq_false_iff_ne.2 (by omega)
          have hsl := slice_one s pos hp
          have HA : Hid ((⟨acc.toArray⟩ : ByteArray) ++ ⟨#[s[pos]]⟩ = ⟨(acc ++ [s[pos]]).toArray⟩) := app_bytes acc _
          have HR : Hid (upAt s.data.toList (pos + 1) (acc ++ [s[pos]])) := by
            have h := upAt_plain hR hp e34 e92
            exact h
          clear hR HP HN HS
          go_wp2
          go_round
          case rel => exact ⟨pos + 1, _, by rw [← HA.out], by go_num, HR.out⟩
          case measure => simp [intOf]; omega
    · have hm : ((pos : Int) != (s.size : Int) - 1) = true := bne_iff_ne.2 (by omega)
      have HE : Hid (Vl.pars s.data.toList = none) := by
        have h := HN.out (upAt_out hR hp)
        exact h
      clear hR HP HN HS
      go_wp2
      exact bodyPost_ret (v := .tuple #[valV 0 0 [], .bool false]) (by simp [results, Tryd.results17, go_sem]) rfl ⟨par_no HE.out, below_new2 w _ _⟩

set_option maxRecDepth 20000 in
theorem refParse_any (s : ByteArray) (w : World) (hs : s.size ≤ 200000) :
    Calls Tryd.prog 17 #[.string s] w fun e w' => ParEnds s.data.toList e ∧ Below w.heap.size w w' := by
  by_cases h1 : s.data.toList = Vl.tru
  · obtain rfl := bytes_eq h1
    clear h1 hs
    have HE : Hid (Vl.pars Vl.tru = some (3, 1, [])) := by have h := Vl.pars_true; exact h
    show Calls Tryd.prog 17 #[.string ⟨#[116, 114, 117, 101]⟩] w fun e w' => ParEnds Vl.tru e ∧ Below w.heap.size w w'
    go_enter Tryd.func17, Tryd.ntmps17
    go_wp2
    exact bodyPost_ret (v := .tuple #[valV 3 1 [], .bool true]) (by simp [results, Tryd.results17, go_sem]) rfl ⟨par_yes HE.out, below_new w _⟩
  · by_cases h2 : s.data.toList = Vl.fls
    · obtain rfl := bytes_eq h2
      clear h1 h2 hs
      have HE : Hid (Vl.pars Vl.fls = some (3, 0, [])) := by have h := Vl.pars_false; exact h
      show Calls Tryd.prog 17 #[.string ⟨#[102, 97, 108, 115, 101]⟩] w fun e w' => ParEnds Vl.fls e ∧ Below w.heap.size w w'
      go_enter Tryd.func17, Tryd.ntmps17
      go_wp2
      exact bodyPost_ret (v := .tuple #[valV 3 0 [], .bool true]) (by simp [results, Tryd.results17, go_sem]) rfl ⟨par_yes HE.out, below_new w _⟩
    · by_cases h3 : s.data.toList.head? = some 34
      · have h0 : 0 < s.size := by
          rcases Nat.eq_zero_or_pos s.size with e | e
          · have : s.data.toList = [] := List.eq_nil_of_length_eq_zero (by rw [size_len]; exact e)
            rw [this] at h3; cases h3
          · exact e
        refine refParse_str s w hs h0 ?_
        have hd : s.data.toList = s[0] :: s.data.toList.drop 1 := by
          have := drop_cons' h0
          rwa [List.drop_zero] at this
        rw [hd, List.head?_cons] at h3
        simp only [Option.some.injEq] at h3
        rw [h3]; rfl
      · exact refParse_num s w (by omega) h1 h2 h3
theorem refParse_list (l : List UInt8) (w : World) (hs : l.length ≤ 200000) : Calls Tryd.prog 17 #[.string ⟨l.toArray⟩] w fun e w' => ParEnds l e ∧ Below w.heap.size w w' := refParse_any ⟨l.toArray⟩ w (by rw [mk_size]; exact hs)
end Go.Proofs.YthphoclfoejbfaaDoor
