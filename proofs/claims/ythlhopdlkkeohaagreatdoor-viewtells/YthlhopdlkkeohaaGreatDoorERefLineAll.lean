/- The walks of the document's Line and Text of a view · The walks of view's texts, Line and Text. -/
import Derived.Test.YthlhopdlkkeohaaGreatDoorCRefAll
import Derived.Test.YthlhopdlkkeohaaGreatDoorNCodesAll
import Derived.Deep.RegionHeld3
import Derived.Shelf.Strings.MapGrows
import Derived.Test.YthlhopdlkkeohaaGreatDoorNValsAll
import Derived.Test.YthlhopdlkkeohaaGreatDoorThinsAll
/- The walks of the document's Line and Text of a view. -/
namespace Go.Proofs.YthlhopdlkkeohaaGreatDoor.O
open Go.RowKit

/-- A value's text, and an entry's line. -/
abbrev vtx (v : Rg.Va) : List UInt8 := Vl.text v.1 v.2.1 v.2.2
abbrev lineE (e : Vw.Entry) : List UInt8 := Vw.line Nm.joined vtx Lib.itoa e
/-- An entry whose line can be told. -/
structure EFine (e : Vw.Entry) : Prop where
  few : U.Few e.p
  right : ∀ v ∈ e.l, Vl.Right v.1 v.2.1 v.2.2
  len : e.l.length ≤ 1000000
  lo : -9223372036854775808 ≤ e.n
  hi : e.n ≤ 9223372036854775807
theorem vtx_len {v : Rg.Va} (h : Vl.Right v.1 v.2.1 v.2.2) : (vtx v).length ≤ 130 := Vl.text_len h
theorem blanks_le {l : List Rg.Va} (h : ∀ v ∈ l, Vl.Right v.1 v.2.1 v.2.2) (hn : l.length ≤ 1000000) (k : Nat) : (Vw.blanks vtx (l.take k)).length ≤ 131000000 := by
  have h1 := Vw.blanks_len vtx (B := 130) (l := l.take k) fun v hv => vtx_len (h v (List.mem_of_mem_take hv))
  have h2 : (l.take k).length * (130 + 1) ≤ 1000000 * 131 := Nat.mul_le_mul (by rw [List.length_take]; omega) (Nat.le_refl _)
  omega
theorem lineE_len {e : Vw.Entry} (h : EFine e) : (lineE e).length ≤ 131003000 := by
  have h1 := h.few.joined
  have h2 := blanks_le h.right h.len e.l.length
  rw [List.take_length] at h2
  have h3 := N.itoa_len h.lo h.hi
  unfold lineE Vw.line
  rw [List.length_append, List.length_append, Vw.sign_len]
  split <;> omega
/-- The values' texts so far. -/
def blV (l : List Rg.Va) (k : Nat) : Value := .string ⟨(Vw.blanks vtx (l.take k)).toArray⟩

set_option maxRecDepth 20000 in
set_option maxHeartbeats 4000000 in
theorem refLine_any (x : EE) (w : World) (hx : EOk w x) (hf : EFine x.1) :
    Calls Tryz.prog 15 #[entV x.2.1 x.1.k x.2.2 x.1.n] w fun e w' => e = .returned (.string ⟨(lineE x.1).toArray⟩) ∧ Below w.heap.size w w' := by
  obtain ⟨E, hE⟩ : ∃ E, E = lineE x.1 := ⟨_, rfl⟩
  rw [← hE]
  obtain ⟨⟨p, k, l, n⟩, pv, lv⟩ := x
  have HE : Hid (E = lineE ⟨p, k, l, n⟩) := hE
  clear hE
  obtain ⟨hp, hl⟩ : U.strsAt w pv p ∧ valsIn w lv l := hx
  obtain ⟨hfp, hfr, hfn, hlo, hhi⟩ := hf
  obtain ⟨ao, cap, rfl⟩ := hl.slice
  obtain ⟨pa, pn, pc, rfl⟩ := strs_slice hp
  have hfn : l.length ≤ 1000000 := hfn
  have HF : Hid (U.Few p) := hfp
  have HR : Hid (∀ v ∈ l, Vl.Right v.1 v.2.1 v.2.2) := hfr
  obtain ⟨m, hm0⟩ : ∃ m, m = l.length := ⟨_, rfl⟩
  have HM : Hid (m = l.length) := hm0
  have HL : Hid (valsIn w (.slice ao m cap) l) := by rw [hm0]; exact hl
  have HP : Hid (U.strsAt w (.slice pa pn pc) p) := hp
  rw [← hm0] at hfn ⊢
  have hlo : -9223372036854775808 ≤ n := hlo
  have hhi : n ≤ 9223372036854775807 := hhi
  clear hm0 hfp hfr hl hp
  go_enter Tryz.func15, Tryz.ntmps15
  go_wp2
  go_loopw [3, 4] (fun s i wr => ∃ j : Nat, j ≤ m ∧ i = .int .i64 j ∧ s = blV l j ∧ EVar wr w.heap.size (.slice pa pn pc) k (.slice ao m cap) n ∧ Below w.heap.size w wr) (fun _ i _ => m - (intOf i).toNat)
  case atStart => exact ⟨0, by omega, rfl, rfl, EVar.new _ _ _ _ _ _, below_new _ _⟩
  case round =>
    obtain ⟨j, hj, rfl, rfl, V, hbw⟩ := hrel
    have V' := V
    obtain ⟨c0, c1, c2, c3, -, -, -, -⟩ := V'
    by_cases hjm : j < m
    · have hjx : j < l.length := by rw [← HM.out]; exact hjm
      obtain ⟨ad, rfl, hX⟩ := (HL.out.on hbw).get hjx
      have hrt := HR.out _ (List.getElem_mem hjx)
      have hbl := blanks_le HR.out (by rw [← HM.out]; exact hfn) j
      have htl := vtx_len hrt
      have HT : ∀ W, Calls Tryz.prog 45 #[vV l[j]] W fun e w' => e = .returned (.string ⟨(vtx l[j]).toArray⟩) ∧ Below W.heap.size W w' := fun W => N.refText_right _ _ _ W hrt
      have HV := fun W hb => EVar.on (w := wr) (w' := W) V hb
      clear V
      by_cases h0 : j = 0
      · subst h0
        have HJ : Hid (blV l (0 + 1) = .string ((⟨#[]⟩ : ByteArray) ++ ⟨(vtx l[0]).toArray⟩)) := by
          have h : blV l (0 + 1) = .string ((⟨#[]⟩ : ByteArray) ++ ⟨(vtx l[0]).toArray⟩) := by rw [U.app_empty, blV, Vw.blanks_first vtx hjx]
          exact h
        have hj0 : blV l 0 = .string ⟨#[]⟩ := rfl
        rw [hj0]
        obtain ⟨x0, x1, x2⟩ := hX
        have e : ad.add (0 * 3) = ad := by simp [Addr.add]
        rw [e] at x0 x1 x2
        clear hrt hbl e
        generalize vtx l[0] = t at *
        generalize l[0] = y at *
        go_wp2_with (go_at_call 45; refine (HT _).mono ?_; rintro e w1 ⟨rfl, hb1⟩)
        go_roundw
        case rel => exact ⟨0 + 1, by omega, by go_num, by rw [HJ.out], HV _ hb1, bchain hbw hb1⟩
        case measure => simp [intOf]; omega
      · have HJ : Hid (blV l (j + 1) = .string ((⟨(Vw.blanks vtx (l.take j)).toArray⟩ : ByteArray) ++ ⟨#[32]⟩ ++ ⟨(vtx l[j]).toArray⟩)) := by
          have h : blV l (j + 1) = .string ((⟨(Vw.blanks vtx (l.take j)).toArray⟩ : ByteArray) ++ ⟨#[32]⟩ ++ ⟨(vtx l[j]).toArray⟩) := by
            rw [blV, Vw.blanks_step vtx (by omega) hjx, show (⟨#[32]⟩ : ByteArray) = ⟨[32].toArray⟩ from rfl, cat_lists, cat_lists]
          exact h
        have hj0 : blV l j = .string ⟨(Vw.blanks vtx (l.take j)).toArray⟩ := rfl
        rw [hj0]
        have hk0 : 0 < (j : Int) := by omega
        obtain ⟨x0, x1, x2⟩ := hX
        clear hrt
        generalize Vw.blanks vtx (l.take j) = s at *
        generalize vtx l[j] = t at *
        generalize l[j] = y at *
        go_wp2_with (go_at_call 45; refine (HT _).mono ?_; rintro e w1 ⟨rfl, hb1⟩)
        go_roundw
        case rel => exact ⟨j + 1, by omega, by go_num, by rw [HJ.out], HV _ hb1, bchain hbw hb1⟩
        case measure => simp [intOf]; omega
    · obtain rfl : j = m := by omega
      have hbl := blanks_le HR.out (by rw [← HM.out]; exact hfn) j
      have HB : Hid (Vw.blanks vtx (l.take j) = Vw.blanks vtx l) := by
        have h : Vw.blanks vtx (l.take j) = Vw.blanks vtx l := by rw [HM.out, List.take_length]
        exact h
      have hj0 : blV l j = .string ⟨(Vw.blanks vtx (l.take j)).toArray⟩ := rfl
      rw [hj0]
      have HPT : ∀ W, Below w.heap.size w W → Calls Tryz.prog 46 #[.slice pa pn pc] W fun e w' => e = .returned (.string ⟨(Nm.joined p).toArray⟩) ∧ Below W.heap.size W w' := fun W hb => U.refPText_any _ p W HF.out (U.strsAt_below HP.out hb (Nat.le_refl _))
      have hpl := HF.out.joined
      have HE1 : Hid (k = 1 → E = (Nm.joined p ++ [32, 61, 32]) ++ Vw.blanks vtx (l.take j)) := by
        have h : k = 1 → E = (Nm.joined p ++ [32, 61, 32]) ++ Vw.blanks vtx (l.take j) := fun h1 => by rw [HE.out, HB.out]; simp [lineE, Vw.line, Vw.sign, h1]
        exact h
      have HE2 : Hid (k = 2 → E = (Nm.joined p ++ [32, 58, 32]) ++ Vw.blanks vtx (l.take j)) := by
        have h : k = 2 → E = (Nm.joined p ++ [32, 58, 32]) ++ Vw.blanks vtx (l.take j) := fun h1 => by rw [HE.out, HB.out]; simp [lineE, Vw.line, Vw.sign, h1]
        exact h
      have HE3 : Hid (k ≠ 1 → k ≠ 2 → E = (Nm.joined p ++ [32, 35, 32]) ++ Lib.itoa n) := by
        have h : k ≠ 1 → k ≠ 2 → E = (Nm.joined p ++ [32, 35, 32]) ++ Lib.itoa n := fun h1 h2 => by rw [HE.out]; simp [lineE, Vw.line, Vw.sign, h1, h2]
        exact h
      clear HB HE HL HP HF HR HM
      generalize Vw.blanks vtx (l.take j) = s at *
      generalize Nm.joined p = q at *
      by_cases h1 : k = 1
      · subst h1
        have HE4 : Hid (E = (q ++ [32, 61, 32]) ++ s) := HE1.out rfl
        clear HE1 HE2 HE3
        go_wp2_with (go_at_call 46; refine (HPT _ hbw).mono ?_; rintro e w1 ⟨rfl, hb1⟩)
        go_ret
        exact ⟨ret_str (by rw [HE4.out, show (⟨#[32, 61, 32]⟩ : ByteArray) = ⟨[32, 61, 32].toArray⟩ from rfl, cat_lists, cat_lists]), bchain hbw hb1⟩
      · by_cases h2 : k = 2
        · subst h2
          have HE4 : Hid (E = (q ++ [32, 58, 32]) ++ s) := HE2.out rfl
          clear HE1 HE2 HE3
          go_wp2_with (go_at_call 46; refine (HPT _ hbw).mono ?_; rintro e w1 ⟨rfl, hb1⟩)
          go_ret
          exact ⟨ret_str (by rw [HE4.out, show (⟨#[32, 58, 32]⟩ : ByteArray) = ⟨[32, 58, 32].toArray⟩ from rfl, cat_lists, cat_lists]), bchain hbw hb1⟩
        · have HE4 : Hid (E = (q ++ [32, 35, 32]) ++ Lib.itoa n) := HE3.out h1 h2
          have e1 : (k == 1) = false := beq_eq_false_iff_ne.2 h1
          have e2 : (k == 2) = false := beq_eq_false_iff_ne.2 h2
          have hnl := N.itoa_len hlo hhi
          have HN : ∀ W, Calls Tryz.prog 47 #[.int .i64 n] W fun e w' => e = .returned (.string ⟨(Lib.itoa n).toArray⟩) ∧ Below W.heap.size W w' := fun W => N.digits_any n W hlo hhi
          have hs1 : ¬ 9223372036854775807 < q.length + 3 := by omega
          have hs2 : ¬ 9223372036854775807 < q.length + 3 + (Lib.itoa n).length := by omega
          clear h1 h2 HE1 HE2 HE3 hlo hhi
          generalize Lib.itoa n = d at *
          go_wp2_with fail
          go_region_held3 (fun w' => Below w.heap.size w w' ∧ w'.cell? ⟨w.heap.size, 0, none⟩ = some (.slice pa pn pc) ∧ w'.cell? ⟨w.heap.size, 3, none⟩ = some (.int .i64 n))
            (first | exact ⟨hbw.drew, c0, c3⟩ | exact ⟨bchain hS.1 hb, keep_cell hb hS.2.1, keep_cell hb hS.2.2⟩ | (refine ⟨bchain ?_ hb, keep_cell hb ?_, keep_cell hb ?_⟩ <;> first | assumption | go_keep))
            (first | (go_at_call 46; refine (HPT _ (by first | exact hbw.drew | exact hbw.drew.drew | exact bchain hbw.drew hb2 | exact bchain hbw.drew.drew hb2)).mono ?_; rintro e w1 ⟨rfl, hb⟩; have hb1 := hb) | (go_at_call 47; refine (HN _).mono ?_; rintro e w2 ⟨rfl, hb⟩; have hb2 := hb))
          all_goals
            go_wp2
            go_ret
            exact ⟨ret_str (by rw [HE4.out, show (⟨#[32, 35, 32]⟩ : ByteArray) = ⟨[32, 35, 32].toArray⟩ from rfl, cat_lists, cat_lists]), by first | exact bchain (bchain hbw.drew hb1) hb2 | exact bchain (bchain hbw.drew hb2) hb1⟩
/-- The lines so far. -/
abbrev linesE (l : List Vw.Entry) : List UInt8 := Vw.text Nm.joined vtx Lib.itoa l
def lnV (xs : List EE) (k : Nat) : Value := .string ⟨(linesE ((xs.map Prod.fst).take k)).toArray⟩
theorem linesE_le {l : List Vw.Entry} (h : ∀ e ∈ l, EFine e) (hn : l.length ≤ 100000) (k : Nat) : (linesE (l.take k)).length ≤ 13200000000000 := by
  have h1 := Vw.text_len Nm.joined vtx Lib.itoa (M := 131003000) (l := l.take k) fun e he => lineE_len (h e (List.mem_of_mem_take he))
  have h2 : (l.take k).length * (131003000 + 1) ≤ 100000 * 131003001 := Nat.mul_le_mul (by rw [List.length_take]; omega) (Nat.le_refl _)
  unfold linesE
  omega

set_option maxRecDepth 20000 in
set_option maxHeartbeats 4000000 in
theorem refText18_any (v : Value) (xs : List EE) (w : World) (hv : entsE w v xs) (hf : ∀ x ∈ xs, EFine x.1) (hn : xs.length ≤ 100000) :
    Calls Tryz.prog 19 #[v] w fun e w' => e = .returned (.string ⟨(linesE (xs.map Prod.fst)).toArray⟩) ∧ Below w.heap.size w w' := by
  obtain ⟨ao, cap, rfl⟩ := hv.slice
  obtain ⟨m, hm0⟩ : ∃ m, m = xs.length := ⟨_, rfl⟩
  have HM : Hid (m = xs.length) := hm0
  rw [← hm0] at hv hn ⊢
  have HV : Hid (entsE w (.slice ao m cap) xs) := hv
  have HF : Hid (∀ x ∈ xs, EFine x.1) := hf
  clear hm0 hv hf
  go_enter Tryz.func19, Tryz.ntmps19
  go_wp2
  go_loopw [3, 4] (fun s i wr => ∃ j : Nat, j ≤ m ∧ i = .int .i64 j ∧ s = lnV xs j ∧ Below w.heap.size w wr) (fun _ i _ => m - (intOf i).toNat)
  case atStart => exact ⟨0, by omega, rfl, rfl, Below.refl _ _⟩
  case round =>
    obtain ⟨j, hj, rfl, rfl, hbw⟩ := hrel
    by_cases hjm : j < m
    · have hjx : j < xs.length := by rw [← HM.out]; exact hjm
      obtain ⟨ad, rfl, -, hX, hXo⟩ := (HV.out.on hbw).get hjx
      have hfx := HF.out _ (List.getElem_mem hjx)
      have hln := linesE_le (l := xs.map Prod.fst) (fun e he => by obtain ⟨x, hx, rfl⟩ := List.mem_map.1 he; exact HF.out x hx) (by rw [List.length_map, ← HM.out]; exact hn) j
      have hll := lineE_len hfx
      have hjx2 : j < (xs.map Prod.fst).length := by simpa using hjx
      have HJ : Hid (lnV xs (j + 1) = .string ((⟨(linesE ((xs.map Prod.fst).take j)).toArray⟩ : ByteArray) ++ ⟨(lineE xs[j].1).toArray⟩ ++ ⟨#[10]⟩)) := by
        have h : lnV xs (j + 1) = .string ((⟨(linesE ((xs.map Prod.fst).take j)).toArray⟩ : ByteArray) ++ ⟨(lineE xs[j].1).toArray⟩ ++ ⟨#[10]⟩) := by
          rw [lnV, linesE, Vw.text_step _ _ _ _ hjx2, show (⟨#[10]⟩ : ByteArray) = ⟨[10].toArray⟩ from rfl, cat_lists, cat_lists, List.getElem_map, List.append_assoc]
        exact h
      have hj0 : lnV xs j = .string ⟨(linesE ((xs.map Prod.fst).take j)).toArray⟩ := rfl
      rw [hj0]
      have HT := fun W hb => refLine_any xs[j] W (hXo.on (w' := W) hb) hfx
      obtain ⟨x0, x1, x2, x3⟩ := hX
      clear hXo hfx
      generalize linesE ((xs.map Prod.fst).take j) = s at *
      generalize lineE xs[j].1 = t at *
      generalize xs[j] = y at *
      go_wp2_with (go_at_call 15; refine (HT _ (Below.refl _ _)).mono ?_; rintro e w1 ⟨rfl, hb1⟩)
      go_roundw
      case rel => exact ⟨j + 1, by omega, by go_num, by rw [HJ.out], bchain hbw hb1⟩
      case measure => simp [intOf]; omega
    · obtain rfl : j = m := by omega
      have HB : Hid (lnV xs j = .string ⟨(linesE (xs.map Prod.fst)).toArray⟩) := by
        have h : lnV xs j = .string ⟨(linesE (xs.map Prod.fst)).toArray⟩ := by
          rw [lnV, HM.out, show (xs.map Prod.fst).take xs.length = xs.map Prod.fst from by rw [← List.length_map (f := Prod.fst), List.take_length]]
        exact h
      go_wp2
      go_ret
      exact ⟨congrArg Ending.returned HB.out, hbw⟩
end Go.Proofs.YthlhopdlkkeohaaGreatDoor.O
/- The walks of view's texts, Line and Text. -/
namespace Go.Proofs.YthlhopdlkkeohaaGreatDoor.O
open Go.RowKit

theorem blanks_join (l : List Rg.Va) : Lib.join (l.map vtx) [32] = Vw.blanks vtx l := by
  induction l with
  | nil => rfl
  | cons x r ih =>
    cases r with
    | nil => simp [Lib.join_one, Vw.blanks]
    | cons y r =>
      rw [show Vw.blanks vtx (x :: y :: r) = vtx x ++ 32 :: Vw.blanks vtx (y :: r) from rfl, ← ih]
      simp only [List.map_cons]
      rw [Lib.join_cons, Lib.join_cons]
      simp [Lib.joinTail]

set_option maxRecDepth 20000 in
set_option maxHeartbeats 4000000 in
theorem texts_any (v : Value) (l : List Rg.Va) (w : World) (hk : N.Keeps w) (hv : valsIn w v l) (hr : ∀ x ∈ l, Vl.Right x.1 x.2.1 x.2.2) (hn : l.length ≤ 1000000) :
    Calls Tryz.prog 43 #[v] w fun e w' => e = .returned (.string ⟨(Vw.blanks vtx l).toArray⟩) ∧ Below w.heap.size w w' := by
  obtain ⟨i0, hI0, hz0, hz1, hz2⟩ := sinfo9
  obtain ⟨ao, cap, rfl⟩ := hv.slice
  obtain ⟨n, hn0⟩ : ∃ n, n = l.length := ⟨_, rfl⟩
  have HN : Hid (n = l.length) := hn0
  rw [← hn0] at hv hn ⊢
  have HV : Hid (valsIn w (.slice ao n cap) l) := hv
  have HR : Hid (∀ x ∈ l, Vl.Right x.1 x.2.1 x.2.2) := hr
  have HK : Hid (N.Keeps w) := hk
  clear hn0 hv hr hk
  go_enter Tryz.func43, Tryz.ntmps43
  go_wp2
  go_loopw [3, 5, 8] (fun out _ i wr => ∃ (k : Nat) (acc : List (List UInt8)), k ≤ n ∧ i = .int .i64 k ∧ Hid (acc = (l.take k).map vtx) ∧ wr.ownsRow w.heap.size 9 1 out acc.length (acc.flatMap scell) ∧ Below w.heap.size w wr) (fun _ _ i _ => n - (intOf i).toNat)
  case atStart => exact ⟨0, [], by omega, rfl, rfl, World.ownsRow_nil _ _ _ _, Below.refl _ _⟩
  case round =>
    obtain ⟨k, acc, hk, rfl, HA, hown, hbw⟩ := hrel
    have hal := congrArg List.length HA.out
    rw [List.length_map, List.length_take] at hal
    by_cases hkn : k < n
    · have hkx : k < l.length := by rw [← HN.out]; exact hkn
      obtain ⟨ad, rfl, hX⟩ := (HV.out.on hbw).get hkx
      have hrt := HR.out _ (List.getElem_mem hkx)
      have hroom : acc.length + 1 ≤ 1000001 := by omega
      have HT : ∀ W, Below w.heap.size w W → Calls Tryz.prog 89 #[vV l[k]] W fun e w' => e = .returned (.string ⟨(vtx l[k]).toArray⟩) ∧ Below W.heap.size W w' := fun W hb => N.text_right _ _ _ W (HK.out.on hb) hrt
      have HE : Hid (acc ++ [vtx l[k]] = (l.take (k + 1)).map vtx) := by
        have h : acc ++ [vtx l[k]] = (l.take (k + 1)).map vtx := by rw [List.take_succ_eq_append_getElem hkx, List.map_append, HA.out]; rfl
        exact h
      obtain ⟨x0, x1, x2⟩ := hX
      clear HA hal hrt
      generalize vtx l[k] = t at *
      generalize l[k] = y at *
      have bA := below_new wr (vO y)
      go_wp2_with (first
        | (go_at_call 89; refine (HT _ (bchain hbw bA)).mono ?_; rintro e w1 ⟨rfl, hb1⟩)
        | (at_builtin; refine append_one (f := scell) (m := 1) (fun _ => rfl) (Nat.succ_pos 0) (ST := 24) (T := 9) rfl Tryz.underlying24 hI0 hz0 hz1 hz2 rfl (by decide) _ _ rfl w.heap.size (Nat.le_trans (bchain hbw (bchain bA hb1)).size (below_new w1 (.cells #[.string ⟨t.toArray⟩] 9)).size) _ acc rfl (own_on hown (bchain bA (bchain hb1 (below_new w1 (.cells #[.string ⟨t.toArray⟩] 9))))) _ t rfl (new_cells w1 (scell t) 9) (fun u hu => by rw [List.mem_singleton.1 hu]; rfl) hroom ?_; intro v2 w3 hown2 hg2)
        | go_in)
      go_roundw
      case rel => exact ⟨k + 1, acc ++ [t], by omega, by go_num, HE, hown2, (bchain hbw (bchain bA (bchain hb1 (below_new w1 (.cells #[.string ⟨t.toArray⟩] 9))))).grown hg2 (Nat.le_trans (bchain hbw (bchain bA hb1)).size (below_new w1 (.cells #[.string ⟨t.toArray⟩] 9)).size) (fun g e => (hown.lt g e).1)⟩
      case measure => simp [intOf]; omega
    · have HE : Hid (acc = l.map vtx) := by
        have h := HA.out
        rw [List.take_of_length_le (by rw [← HN.out]; omega)] at h
        exact h
      have hjl : (Lib.join acc [32]).length ≤ 140737488355328 := by
        have h1 := U.join_len (ys := acc) (m := 130) [32] (fun y hy => by
          rw [HE.out] at hy
          obtain ⟨x, hx, rfl⟩ := List.mem_map.1 hy
          exact vtx_len (HR.out x hx))
        have h2 : acc.length * (130 + [(32 : UInt8)].length) ≤ 1000000 * 131 := Nat.mul_le_mul (by omega) (Nat.le_refl _)
        omega
      have HJ := U.join_own (B := w.heap.size) (u := u3) (ys := acc) (w := wr) [32] (by rw [← flat_scell]; exact hown) (by omega) hjl
      have HX : Hid (Lib.join acc [32] = Vw.blanks vtx l) := by
        have h : Lib.join acc [32] = Vw.blanks vtx l := by rw [HE.out]; exact blanks_join l
        exact h
      clear hown hjl hal HA HE
      generalize Lib.join acc [32] = j at *
      go_wp2_with (go_at_call 86; refine HJ.mono ?_; rintro e w1 ⟨rfl, hb1⟩)
      go_ret
      exact ⟨congrArg (fun z : List UInt8 => Ending.returned (.string ⟨z.toArray⟩)) HX.out, bchain hbw hb1⟩

set_option maxRecDepth 20000 in
set_option maxHeartbeats 4000000 in
theorem line18_any (x : EE) (w : World) (hk : N.Keeps w) (hx : EOk w x) (hf : EFine x.1) :
    Calls Tryz.prog 14 #[entV x.2.1 x.1.k x.2.2 x.1.n] w fun e w' => e = .returned (.string ⟨(lineE x.1).toArray⟩) ∧ Below w.heap.size w w' := by
  obtain ⟨E, hE⟩ : ∃ E, E = lineE x.1 := ⟨_, rfl⟩
  rw [← hE]
  obtain ⟨⟨p, k, l, n⟩, pv, lv⟩ := x
  obtain ⟨hp, hl⟩ : U.strsAt w pv p ∧ valsIn w lv l := hx
  obtain ⟨hfp, hfr, hfn, hlo, hhi⟩ := hf
  obtain ⟨ao, cap, rfl⟩ := hl.slice
  obtain ⟨pa, pn, pc, rfl⟩ := strs_slice hp
  have hfn : l.length ≤ 1000000 := hfn
  have hlo : -9223372036854775808 ≤ n := hlo
  have hhi : n ≤ 9223372036854775807 := hhi
  have HPT : ∀ W, Below w.heap.size w W → Calls Tryz.prog 42 #[.slice pa pn pc] W fun e w' => e = .returned (.string ⟨(Nm.joined p).toArray⟩) ∧ Below W.heap.size W w' := fun W hb => U.text_any _ p W hfp (U.strsAt_below hp hb (Nat.le_refl _))
  have HTX : ∀ W, Below w.heap.size w W → Calls Tryz.prog 43 #[.slice ao l.length cap] W fun e w' => e = .returned (.string ⟨(Vw.blanks vtx l).toArray⟩) ∧ Below W.heap.size W w' := fun W hb => texts_any _ l W (hk.on hb) (hl.on hb) hfr hfn
  have HN : ∀ W, Below w.heap.size w W → Calls Tryz.prog 44 #[.int .i64 n] W fun e w' => e = .returned (.string ⟨(Lib.itoa n).toArray⟩) ∧ Below W.heap.size W w' := fun W hb => N.itoa_any n W (hk.on hb) hlo hhi
  have hbl := blanks_le hfr hfn l.length
  rw [List.take_length] at hbl
  have hpl := hfp.joined
  have hnl := N.itoa_len hlo hhi
  have HE1 : Hid (k = 1 → E = (Nm.joined p ++ [32, 61, 32]) ++ Vw.blanks vtx l) := by
    have h : k = 1 → E = (Nm.joined p ++ [32, 61, 32]) ++ Vw.blanks vtx l := fun h1 => by rw [hE]; simp [lineE, Vw.line, Vw.sign, h1]
    exact h
  have HE2 : Hid (k = 2 → E = (Nm.joined p ++ [32, 58, 32]) ++ Vw.blanks vtx l) := by
    have h : k = 2 → E = (Nm.joined p ++ [32, 58, 32]) ++ Vw.blanks vtx l := fun h1 => by rw [hE]; simp [lineE, Vw.line, Vw.sign, h1]
    exact h
  have HE3 : Hid (k ≠ 1 → k ≠ 2 → E = (Nm.joined p ++ [32, 35, 32]) ++ Lib.itoa n) := by
    have h : k ≠ 1 → k ≠ 2 → E = (Nm.joined p ++ [32, 35, 32]) ++ Lib.itoa n := fun h1 h2 => by rw [hE]; simp [lineE, Vw.line, Vw.sign, h1, h2]
    exact h
  clear hE hp hl hfp hfr hfn hlo hhi hk
  generalize Vw.blanks vtx l = s at *
  generalize Nm.joined p = q at *
  generalize Lib.itoa n = d at *
  generalize l.length = m at *
  have bA := below_new w (entO (.slice pa pn pc) k (.slice ao m cap) n 38)
  have hc : ∀ W, Below (w.alloc (entO (.slice pa pn pc) k (.slice ao m cap) n 38)).heap.size (w.alloc (entO (.slice pa pn pc) k (.slice ao m cap) n 38)) W → EVar W w.heap.size (.slice pa pn pc) k (.slice ao m cap) n := fun W hb => (EVar.new w (.slice pa pn pc) k (.slice ao m cap) n 38).on hb
  have hs1 : ¬ 9223372036854775807 < q.length + 3 := by omega
  have hs2 : ¬ 9223372036854775807 < q.length + 3 + s.length := by omega
  have hs3 : ¬ 9223372036854775807 < q.length + 3 + d.length := by omega
  by_cases h1 : k = 1
  · subst h1
    have HE4 : Hid (E = (q ++ [32, 61, 32]) ++ s) := HE1.out rfl
    clear HE1 HE2 HE3
    go_enter Tryz.func14, Tryz.ntmps14
    go_wp2_with (first
      | (go_at_call 42; refine (HPT _ bA).mono ?_; rintro e w1 ⟨rfl, hb1⟩; obtain ⟨c0, c1, c2, c3, -, -, -, -⟩ := hc w1 hb1)
      | (go_at_call 43; refine (HTX _ (bchain bA hb1)).mono ?_; rintro e w2 ⟨rfl, hb2⟩))
    go_ret
    exact ⟨ret_str (by rw [HE4.out, show (⟨#[32, 61, 32]⟩ : ByteArray) = ⟨[32, 61, 32].toArray⟩ from rfl, cat_lists, cat_lists]), bchain bA (bchain hb1 hb2)⟩
  · by_cases h2 : k = 2
    · subst h2
      have HE4 : Hid (E = (q ++ [32, 58, 32]) ++ s) := HE2.out rfl
      clear HE1 HE2 HE3
      go_enter Tryz.func14, Tryz.ntmps14
      go_wp2_with (first
        | (go_at_call 42; refine (HPT _ bA).mono ?_; rintro e w1 ⟨rfl, hb1⟩; obtain ⟨c0, c1, c2, c3, -, -, -, -⟩ := hc w1 hb1)
        | (go_at_call 43; refine (HTX _ (bchain bA hb1)).mono ?_; rintro e w2 ⟨rfl, hb2⟩))
      go_ret
      exact ⟨ret_str (by rw [HE4.out, show (⟨#[32, 58, 32]⟩ : ByteArray) = ⟨[32, 58, 32].toArray⟩ from rfl, cat_lists, cat_lists]), bchain bA (bchain hb1 hb2)⟩
    · have HE4 : Hid (E = (q ++ [32, 35, 32]) ++ d) := HE3.out h1 h2
      have e1 : (k == 1) = false := beq_eq_false_iff_ne.2 h1
      have e2 : (k == 2) = false := beq_eq_false_iff_ne.2 h2
      clear HE1 HE2 HE3 h1 h2
      go_enter Tryz.func14, Tryz.ntmps14
      go_wp2_with (first
        | (go_at_call 42; refine (HPT _ bA).mono ?_; rintro e w1 ⟨rfl, hb1⟩; obtain ⟨c0, c1, c2, c3, -, -, -, -⟩ := hc w1 hb1)
        | (go_at_call 44; refine (HN _ (bchain bA hb1)).mono ?_; rintro e w2 ⟨rfl, hb2⟩))
      go_ret
      exact ⟨ret_str (by rw [HE4.out, show (⟨#[32, 35, 32]⟩ : ByteArray) = ⟨[32, 35, 32].toArray⟩ from rfl, cat_lists, cat_lists]), bchain bA (bchain hb1 hb2)⟩

set_option maxRecDepth 20000 in
set_option maxHeartbeats 4000000 in
theorem text18_any (v : Value) (xs : List EE) (w : World) (hk : N.Keeps w) (hv : entsE w v xs) (hf : ∀ x ∈ xs, EFine x.1) (hn : xs.length ≤ 100000) :
    Calls Tryz.prog 18 #[v] w fun e w' => e = .returned (.string ⟨(linesE (xs.map Prod.fst)).toArray⟩) ∧ Below w.heap.size w w' := by
  obtain ⟨ao, cap, rfl⟩ := hv.slice
  obtain ⟨m, hm0⟩ : ∃ m, m = xs.length := ⟨_, rfl⟩
  have HM : Hid (m = xs.length) := hm0
  rw [← hm0] at hv hn ⊢
  have HV : Hid (entsE w (.slice ao m cap) xs) := hv
  have HF : Hid (∀ x ∈ xs, EFine x.1) := hf
  have HK : Hid (N.Keeps w) := hk
  have H0 := Lib.IsBuilderF.of (Lib.fresh_isBuilder 102 5 w)
  have B0 := below_new w (.cells #[.pointer none, .slice none 0 0] 102)
  clear hm0 hv hf hk
  go_enter Tryz.func18, Tryz.ntmps18
  go_wp2
  go_loopw [5, 8] (fun _ i wr => ∃ j : Nat, j ≤ m ∧ i = .int .i64 j ∧ Hid (Lib.IsBuilderF 102 5 w.heap.size w.heap.size (Lib.byteCells (linesE ((xs.map Prod.fst).take j))) wr) ∧ Below w.heap.size w wr) (fun _ i _ => m - (intOf i).toNat)
  case atStart => exact ⟨0, by omega, rfl, H0, B0⟩
  case round =>
    obtain ⟨j, hj, rfl, HB, hbw⟩ := hrel
    clear H0
    by_cases hjm : j < m
    · have hjx : j < xs.length := by rw [← HM.out]; exact hjm
      obtain ⟨ad, rfl, -, hX, hXo⟩ := (HV.out.on hbw).get hjx
      have hfx := HF.out _ (List.getElem_mem hjx)
      have hln := linesE_le (l := xs.map Prod.fst) (fun e he => by obtain ⟨x, hx, rfl⟩ := List.mem_map.1 he; exact HF.out x hx) (by rw [List.length_map, ← HM.out]; exact hn) j
      have hll := lineE_len hfx
      have hjx2 : j < (xs.map Prod.fst).length := by simpa using hjx
      have HJ : Hid (linesE ((xs.map Prod.fst).take (j + 1)) = linesE ((xs.map Prod.fst).take j) ++ (lineE xs[j].1 ++ [10])) := by
        have h : linesE ((xs.map Prod.fst).take (j + 1)) = linesE ((xs.map Prod.fst).take j) ++ (lineE xs[j].1 ++ [10]) := by
          rw [linesE, Vw.text_step _ _ _ _ hjx2, List.getElem_map]
        exact h
      have HT := fun W (hb : Below wr.heap.size wr W) => line18_any xs[j] W (HK.out.on (bchain hbw hb)) (hXo.on hb) hfx
      obtain ⟨x0, x1, x2, x3⟩ := hX
      obtain ⟨⟨pa, pn, pc, e1⟩, ra, rn, rk, e2⟩ := hXo.slices
      clear hXo hfx
      generalize linesE ((xs.map Prod.fst).take j) = s at *
      generalize lineE xs[j].1 = t at *
      generalize xs[j] = y at *
      obtain ⟨⟨p, k, l, n⟩, pv, lv⟩ := y
      obtain rfl : pv = .slice pa pn pc := e1
      obtain rfl : lv = .slice ra rn rk := e2
      have bA := below_new wr (entO (.slice pa pn pc) k (.slice ra rn rk) n 38)
      have HW : ∀ W, Below wr.heap.size wr W → Calls Tryz.prog 50 #[U.at0 w.heap.size, .string ⟨t.toArray⟩] W fun e w' => ∃ z, e = .returned (.tuple #[.int .i64 z, .nilIface]) ∧ Hid (Lib.IsBuilderF 102 5 w.heap.size w.heap.size (Lib.byteCells (s ++ t)) w') ∧ Below w.heap.size W w' := fun W hb =>
        (U.writeString_any w.heap.size w.heap.size (Lib.byteCells s) ⟨t.toArray⟩ W (HB.out.below hb) (by rw [Lib.byteCells_length]; show s.length + t.length ≤ _; omega) (Nat.le_trans hbw.size hb.size)).mono fun e w' ⟨e1, h1, h2, _⟩ => ⟨_, e1, by rw [Lib.byteCells_append]; exact h1, h2⟩
      have HL : ∀ W, Hid (Lib.IsBuilderF 102 5 w.heap.size w.heap.size (Lib.byteCells (s ++ t)) W) → w.heap.size ≤ W.heap.size → Calls Tryz.prog 51 #[U.at0 w.heap.size, .int .u8 10] W fun e w' => e = .returned .nilIface ∧ Hid (Lib.IsBuilderF 102 5 w.heap.size w.heap.size (Lib.byteCells (s ++ (t ++ [10]))) w') ∧ Below w.heap.size W w' := fun W h hb =>
        (U.writeByte_any w.heap.size w.heap.size (Lib.byteCells (s ++ t)) 10 W h.out (by rw [Lib.byteCells_length, List.length_append]; omega) hb).mono fun e w' ⟨e1, h1, h2, _⟩ => ⟨e1, by rw [← List.append_assoc, Lib.byteCells_append]; exact h1, h2⟩
      clear HB hln hll
      go_wp2_with (first
        | (go_at_call 14; refine (HT _ bA).mono ?_; rintro e w1 ⟨rfl, hb1⟩; have k1 := bchain bA hb1)
        | (go_at_call 50; refine (HW _ k1).mono ?_; rintro e w2 ⟨z, rfl, h2, hb2⟩; have k2 : Below w.heap.size w w2 := (bchain hbw k1).trans hb2)
        | (go_at_call 51; refine (HL _ h2 k2.size).mono ?_; rintro e w3 ⟨rfl, h3, hb3⟩))
      go_roundw
      case rel => exact ⟨j + 1, by omega, by go_num, by have h := h3.out; rw [← HJ.out] at h; exact h, k2.trans hb3⟩
      case measure => simp [intOf]; omega
    · obtain rfl : j = m := by omega
      have HE : Hid (linesE ((xs.map Prod.fst).take j) = linesE (xs.map Prod.fst)) := by
        have h : linesE ((xs.map Prod.fst).take j) = linesE (xs.map Prod.fst) := by rw [HM.out, show (xs.map Prod.fst).take xs.length = xs.map Prod.fst from by rw [← List.length_map (f := Prod.fst), List.take_length]]
        exact h
      have HS := Go.Proofs.YthlhopdlkkeohaaGreatDoor.bString w.heap.size w.heap.size (linesE ((xs.map Prod.fst).take j)) wr HB.out hbw.size
      rw [HE.out] at HS
      clear HB
      go_wp2_with (go_at_call 52; refine HS.mono ?_; rintro e w1 ⟨rfl, -, hb1, -⟩)
      go_ret
      exact ⟨rfl, hbw.trans hb1⟩
end Go.Proofs.YthlhopdlkkeohaaGreatDoor.O
