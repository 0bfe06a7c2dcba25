/- The walks of view's texts, Line and Text · Items that rise by their leaves, taken leaf by leaf: what is there to be seen of them is what is there of the first leaf's items, and then of the rest; the order of the items is nothing to a view. -/
import Derived.Shelf.Strings.MapGrows
import Derived.Test.YthlhopdlkkeohaaGreatDoorLayJoinAll
import Derived.Test.YthlhopdlkkeohaaGreatDoorNQuoteAll
import Derived.Test.YthlhopdlkkeohaaGreatDoorThinsAll
import Derived.Test.YthlhopdlkkeohaaGreatDoorViewsAll
/- The walks of view's texts, Line and Text. -/
namespace Go.Proofs.YthlhopdlkkeohaaGreatDoor.O
open Go.RowKit

theorem blanks_join (l : List Rg.Va) : Lib.join (l.map vtx) [32] = Vw.blanks vtx l := by
  induction l with
  | nil => rfl
  | cons x r ih =>
    cases r with
    | nil => simp [Lib.join_one, Vw.blanks]
    | cons y r =>
      rw [show Vw.blanks vtx (x :: y :: r) = vtx x ++ 32 :: Vw.blanks vtx (y :: r) from rfl, ← ih]
      simp only [List.map_cons]
      rw [Lib.join_cons, Lib.join_cons]
      simp [Lib.joinTail]

set_option maxRecDepth 20000 in
set_option maxHeartbeats 4000000 in
theorem texts_any (v : Value) (l : List Rg.Va) (w : World) (hk : N.Keeps w) (hv : valsIn w v l) (hr : ∀ x ∈ l, Vl.Right x.1 x.2.1 x.2.2) (hn : l.length ≤ 1000000) :
    Calls Tryz.prog 43 #[v] w fun e w' => e = .returned (.string ⟨(Vw.blanks vtx l).toArray⟩) ∧ Below w.heap.size w w' := by
  obtain ⟨i0, hI0, hz0, hz1, hz2⟩ := sinfo9
  obtain ⟨ao, cap, rfl⟩ := hv.slice
  obtain ⟨n, hn0⟩ : ∃ n, n = l.length := ⟨_, rfl⟩
  have HN : Hid (n = l.length) := hn0
  rw [← hn0] at hv hn ⊢
  have HV : Hid (valsIn w (.slice ao n cap) l) := hv
  have HR : Hid (∀ x ∈ l, Vl.Right x.1 x.2.1 x.2.2) := hr
  have HK : Hid (N.Keeps w) := hk
  clear hn0 hv hr hk
  go_enter Tryz.func43, Tryz.ntmps43
  go_wp2
  go_loopw [3, 5, 8] (fun out _ i wr => ∃ (k : Nat) (acc : List (List UInt8)), k ≤ n ∧ i = .int .i64 k ∧ Hid (acc = (l.take k).map vtx) ∧ wr.ownsRow w.heap.size 9 1 out acc.length (acc.flatMap scell) ∧ Below w.heap.size w wr) (fun _ _ i _ => n - (intOf i).toNat)
  case atStart => exact ⟨0, [], by omega, rfl, rfl, World.ownsRow_nil _ _ _ _, Below.refl _ _⟩
  case round =>
    obtain ⟨k, acc, hk, rfl, HA, hown, hbw⟩ := hrel
    have hal := congrArg List.length HA.out
    rw [List.length_map, List.length_take] at hal
    by_cases hkn : k < n
    · have hkx : k < l.length := by rw [← HN.out]; exact hkn
      obtain ⟨ad, rfl, hX⟩ := (HV.out.on hbw).get hkx
      have hrt := HR.out _ (List.getElem_mem hkx)
      have hroom : acc.length + 1 ≤ 1000001 := by omega
      have HT : ∀ W, Below w.heap.size w W → Calls Tryz.prog 89 #[vV l[k]] W fun e w' => e = .returned (.string ⟨(vtx l[k]).toArray⟩) ∧ Below W.heap.size W w' := fun W hb => N.text_right _ _ _ W (HK.out.on hb) hrt
      have HE : Hid (acc ++ [vtx l[k]] = (l.take (k + 1)).map vtx) := by
        have h : acc ++ [vtx l[k]] = (l.take (k + 1)).map vtx := by rw [List.take_succ_eq_append_getElem hkx, List.map_append, HA.out]; rfl
        exact h
      obtain ⟨x0, x1, x2⟩ := hX
      clear HA hal hrt
      generalize vtx l[k] = t at *
      generalize l[k] = y at *
      have bA := below_new wr (vO y)
      go_wp2_with (first
        | (go_at_call 89; refine (HT _ (bchain hbw bA)).mono ?_; rintro e w1 ⟨rfl, hb1⟩)
        | (at_builtin; refine append_one (f := scell) (m := 1) (fun _ => rfl) (Nat.succ_pos 0) (ST := 24) (T := 9) rfl Tryz.underlying24 hI0 hz0 hz1 hz2 rfl (by decide) _ _ rfl w.heap.size (Nat.le_trans (bchain hbw (bchain bA hb1)).size (below_new w1 (.cells #[.string ⟨t.toArray⟩] 9)).size) _ acc rfl (own_on hown (bchain bA (bchain hb1 (below_new w1 (.cells #[.string ⟨t.toArray⟩] 9))))) _ t rfl (new_cells w1 (scell t) 9) (fun u hu => by rw [List.mem_singleton.1 hu]; rfl) hroom ?_; intro v2 w3 hown2 hg2)
        | go_in)
      go_roundw
      case rel => exact ⟨k + 1, acc ++ [t], by omega, by go_num, HE, hown2, (bchain hbw (bchain bA (bchain hb1 (below_new w1 (.cells #[.string ⟨t.toArray⟩] 9))))).grown hg2 (Nat.le_trans (bchain hbw (bchain bA hb1)).size (below_new w1 (.cells #[.string ⟨t.toArray⟩] 9)).size) (fun g e => (hown.lt g e).1)⟩
      case measure => simp [intOf]; omega
    · have HE : Hid (acc = l.map vtx) := by
        have h := HA.out
        rw [List.take_of_length_le (by rw [← HN.out]; omega)] at h
        exact h
      have hjl : (Lib.join acc [32]).length ≤ 140737488355328 := by
        have h1 := U.join_len (ys := acc) (m := 130) [32] (fun y hy => by
          rw [HE.out] at hy
          obtain ⟨x, hx, rfl⟩ := List.mem_map.1 hy
          exact vtx_len (HR.out x hx))
        have h2 : acc.length * (130 + [(32 : UInt8)].length) ≤ 1000000 * 131 := Nat.mul_le_mul (by omega) (Nat.le_refl _)
        omega
      have HJ := U.join_own (B := w.heap.size) (u := u3) (ys := acc) (w := wr) [32] (by rw [← flat_scell]; exact hown) (by omega) hjl
      have HX : Hid (Lib.join acc [32] = Vw.blanks vtx l) := by
        have h : Lib.join acc [32] = Vw.blanks vtx l := by rw [HE.out]; exact blanks_join l
        exact h
      clear hown hjl hal HA HE
      generalize Lib.join acc [32] = j at *
      go_wp2_with (go_at_call 86; refine HJ.mono ?_; rintro e w1 ⟨rfl, hb1⟩)
      go_ret
      exact ⟨congrArg (fun z : List UInt8 => Ending.returned (.string ⟨z.toArray⟩)) HX.out, bchain hbw hb1⟩

set_option maxRecDepth 20000 in
set_option maxHeartbeats 4000000 in
theorem line18_any (x : EE) (w : World) (hk : N.Keeps w) (hx : EOk w x) (hf : EFine x.1) :
    Calls Tryz.prog 14 #[entV x.2.1 x.1.k x.2.2 x.1.n] w fun e w' => e = .returned (.string ⟨(lineE x.1).toArray⟩) ∧ Below w.heap.size w w' := by
  obtain ⟨E, hE⟩ : ∃ E, E = lineE x.1 := ⟨_, rfl⟩
  rw [← hE]
  obtain ⟨⟨p, k, l, n⟩, pv, lv⟩ := x
  obtain ⟨hp, hl⟩ : U.strsAt w pv p ∧ valsIn w lv l := hx
  obtain ⟨hfp, hfr, hfn, hlo, hhi⟩ := hf
  obtain ⟨ao, cap, rfl⟩ := hl.slice
  obtain ⟨pa, pn, pc, rfl⟩ := strs_slice hp
  have hfn : l.length ≤ 1000000 := hfn
  have hlo : -9223372036854775808 ≤ n := hlo
  have hhi : n ≤ 9223372036854775807 := hhi
  have HPT : ∀ W, Below w.heap.size w W → Calls Tryz.prog 42 #[.slice pa pn pc] W fun e w' => e = .returned (.string ⟨(Nm.joined p).toArray⟩) ∧ Below W.heap.size W w' := fun W hb => U.text_any _ p W hfp (U.strsAt_below hp hb (Nat.le_refl _))
  have HTX : ∀ W, Below w.heap.size w W → Calls Tryz.prog 43 #[.slice ao l.length cap] W fun e w' => e = .returned (.string ⟨(Vw.blanks vtx l).toArray⟩) ∧ Below W.heap.size W w' := fun W hb => texts_any _ l W (hk.on hb) (hl.on hb) hfr hfn
  have HN : ∀ W, Below w.heap.size w W → Calls Tryz.prog 44 #[.int .i64 n] W fun e w' => e = .returned (.string ⟨(Lib.itoa n).toArray⟩) ∧ Below W.heap.size W w' := fun W hb => N.itoa_any n W (hk.on hb) hlo hhi
  have hbl := blanks_le hfr hfn l.length
  rw [List.take_length] at hbl
  have hpl := hfp.joined
  have hnl := N.itoa_len hlo hhi
  have HE1 : Hid (k = 1 → E = (Nm.joined p ++ [32, 61, 32]) ++ Vw.blanks vtx l) := by
    have h : k = 1 → E = (Nm.joined p ++ [32, 61, 32]) ++ Vw.blanks vtx l := fun h1 => by rw [hE]; simp [lineE, Vw.line, Vw.sign, h1]
    exact h
  have HE2 : Hid (k = 2 → E = (Nm.joined p ++ [32, 58, 32]) ++ Vw.blanks vtx l) := by
    have h : k = 2 → E = (Nm.joined p ++ [32, 58, 32]) ++ Vw.blanks vtx l := fun h1 => by rw [hE]; simp [lineE, Vw.line, Vw.sign, h1]
    exact h
  have HE3 : Hid (k ≠ 1 → k ≠ 2 → E = (Nm.joined p ++ [32, 35, 32]) ++ Lib.itoa n) := by
    have h : k ≠ 1 → k ≠ 2 → E = (Nm.joined p ++ [32, 35, 32]) ++ Lib.itoa n := fun h1 h2 => by rw [hE]; simp [lineE, Vw.line, Vw.sign, h1, h2]
    exact h
  clear hE hp hl hfp hfr hfn hlo hhi hk
  generalize Vw.blanks vtx l = s at *
  generalize Nm.joined p = q at *
  generalize Lib.itoa n = d at *
  generalize l.length = m at *
  have bA := below_new w (entO (.slice pa pn pc) k (.slice ao m cap) n 38)
  have hc : ∀ W, Below (w.alloc (entO (.slice pa pn pc) k (.slice ao m cap) n 38)).heap.size (w.alloc (entO (.slice pa pn pc) k (.slice ao m cap) n 38)) W → EVar W w.heap.size (.slice pa pn pc) k (.slice ao m cap) n := fun W hb => (EVar.new w (.slice pa pn pc) k (.slice ao m cap) n 38).on hb
  have hs1 : ¬ 9223372036854775807 < q.length + 3 := by omega
  have hs2 : ¬ 9223372036854775807 < q.length + 3 + s.length := by omega
  have hs3 : ¬ 9223372036854775807 < q.length + 3 + d.length := by omega
  by_cases h1 : k = 1
  · subst h1
    have HE4 : Hid (E = (q ++ [32, 61, 32]) ++ s) := HE1.out rfl
    clear HE1 HE2 HE3
    go_enter Tryz.func14, Tryz.ntmps14
    go_wp2_with (first
      | (go_at_call 42; refine (HPT _ bA).mono ?_; rintro e w1 ⟨rfl, hb1⟩; obtain ⟨c0, c1, c2, c3, -, -, -, -⟩ := hc w1 hb1)
      | (go_at_call 43; refine (HTX _ (bchain bA hb1)).mono ?_; rintro e w2 ⟨rfl, hb2⟩))
    go_ret
    exact ⟨ret_str (by rw [HE4.out, show (⟨#[32, 61, 32]⟩ : ByteArray) = ⟨[32, 61, 32].toArray⟩ from rfl, cat_lists, cat_lists]), bchain bA (bchain hb1 hb2)⟩
  · by_cases h2 : k = 2
    · subst h2
      have HE4 : Hid (E = (q ++ [32, 58, 32]) ++ s) := HE2.out rfl
      clear HE1 HE2 HE3
      go_enter Tryz.func14, Tryz.ntmps14
      go_wp2_with (first
        | (go_at_call 42; refine (HPT _ bA).mono ?_; rintro e w1 ⟨rfl, hb1⟩; obtain ⟨c0, c1, c2, c3, -, -, -, -⟩ := hc w1 hb1)
        | (go_at_call 43; refine (HTX _ (bchain bA hb1)).mono ?_; rintro e w2 ⟨rfl, hb2⟩))
      go_ret
      exact ⟨ret_str (by rw [HE4.out, show (⟨#[32, 58, 32]⟩ : ByteArray) = ⟨[32, 58, 32].toArray⟩ from rfl, cat_lists, cat_lists]), bchain bA (bchain hb1 hb2)⟩
    · have HE4 : Hid (E = (q ++ [32, 35, 32]) ++ d) := HE3.out h1 h2
      have e1 : (k == 1) = false := beq_eq_false_iff_ne.2 h1
      have e2 : (k == 2) = false := beq_eq_false_iff_ne.2 h2
      clear HE1 HE2 HE3 h1 h2
      go_enter Tryz.func14, Tryz.ntmps14
      go_wp2_with (first
        | (go_at_call 42; refine (HPT _ bA).mono ?_; rintro e w1 ⟨rfl, hb1⟩; obtain ⟨c0, c1, c2, c3, -, -, -, -⟩ := hc w1 hb1)
        | (go_at_call 44; refine (HN _ (bchain bA hb1)).mono ?_; rintro e w2 ⟨rfl, hb2⟩))
      go_ret
      exact ⟨ret_str (by rw [HE4.out, show (⟨#[32, 35, 32]⟩ : ByteArray) = ⟨[32, 35, 32].toArray⟩ from rfl, cat_lists, cat_lists]), bchain bA (bchain hb1 hb2)⟩

set_option maxRecDepth 20000 in
set_option maxHeartbeats 4000000 in
theorem text18_any (v : Value) (xs : List EE) (w : World) (hk : N.Keeps w) (hv : entsE w v xs) (hf : ∀ x ∈ xs, EFine x.1) (hn : xs.length ≤ 100000) :
    Calls Tryz.prog 18 #[v] w fun e w' => e = .returned (.string ⟨(linesE (xs.map Prod.fst)).toArray⟩) ∧ Below w.heap.size w w' := by
  obtain ⟨ao, cap, rfl⟩ := hv.slice
  obtain ⟨m, hm0⟩ : ∃ m, m = xs.length := ⟨_, rfl⟩
  have HM : Hid (m = xs.length) := hm0
  rw [← hm0] at hv hn ⊢
  have HV : Hid (entsE w (.slice ao m cap) xs) := hv
  have HF : Hid (∀ x ∈ xs, EFine x.1) := hf
  have HK : Hid (N.Keeps w) := hk
  have H0 := Lib.IsBuilderF.of (Lib.fresh_isBuilder 102 5 w)
  have B0 := below_new w (.cells #[.pointer none, .slice none 0 0] 102)
  clear hm0 hv hf hk
  go_enter Tryz.func18, Tryz.ntmps18
  go_wp2
  go_loopw [5, 8] (fun _ i wr => ∃ j : Nat, j ≤ m ∧ i = .int .i64 j ∧ Hid (Lib.IsBuilderF 102 5 w.heap.size w.heap.size (Lib.byteCells (linesE ((xs.map Prod.fst).take j))) wr) ∧ Below w.heap.size w wr) (fun _ i _ => m - (intOf i).toNat)
  case atStart => exact ⟨0, by omega, rfl, H0, B0⟩
  case round =>
    obtain ⟨j, hj, rfl, HB, hbw⟩ := hrel
    clear H0
    by_cases hjm : j < m
    · have hjx : j < xs.length := by rw [← HM.out]; exact hjm
      obtain ⟨ad, rfl, -, hX, hXo⟩ := (HV.out.on hbw).get hjx
      have hfx := HF.out _ (List.getElem_mem hjx)
      have hln := linesE_le (l := xs.map Prod.fst) (fun e he => by obtain ⟨x, hx, rfl⟩ := List.mem_map.1 he; exact HF.out x hx) (by rw [List.length_map, ← HM.out]; exact hn) j
      have hll := lineE_len hfx
      have hjx2 : j < (xs.map Prod.fst).length := by simpa using hjx
      have HJ : Hid (linesE ((xs.map Prod.fst).take (j + 1)) = linesE ((xs.map Prod.fst).take j) ++ (lineE xs[j].1 ++ [10])) := by
        have h : linesE ((xs.map Prod.fst).take (j + 1)) = linesE ((xs.map Prod.fst).take j) ++ (lineE xs[j].1 ++ [10]) := by
          rw [linesE, Vw.text_step _ _ _ _ hjx2, List.getElem_map]
        exact h
      have HT := fun W (hb : Below wr.heap.size wr W) => line18_any xs[j] W (HK.out.on (bchain hbw hb)) (hXo.on hb) hfx
      obtain ⟨x0, x1, x2, x3⟩ := hX
      obtain ⟨⟨pa, pn, pc, e1⟩, ra, rn, rk, e2⟩ := hXo.slices
      clear hXo hfx
      generalize linesE ((xs.map Prod.fst).take j) = s at *
      generalize lineE xs[j].1 = t at *
      generalize xs[j] = y at *
      obtain ⟨⟨p, k, l, n⟩, pv, lv⟩ := y
      obtain rfl : pv = .slice pa pn pc := e1
      obtain rfl : lv = .slice ra rn rk := e2
      have bA := below_new wr (entO (.slice pa pn pc) k (.slice ra rn rk) n 38)
      have HW : ∀ W, Below wr.heap.size wr W → Calls Tryz.prog 50 #[U.at0 w.heap.size, .string ⟨t.toArray⟩] W fun e w' => ∃ z, e = .returned (.tuple #[.int .i64 z, .nilIface]) ∧ Hid (Lib.IsBuilderF 102 5 w.heap.size w.heap.size (Lib.byteCells (s ++ t)) w') ∧ Below w.heap.size W w' := fun W hb =>
        (U.writeString_any w.heap.size w.heap.size (Lib.byteCells s) ⟨t.toArray⟩ W (HB.out.below hb) (by rw [Lib.byteCells_length]; show s.length + t.length ≤ _; omega) (Nat.le_trans hbw.size hb.size)).mono fun e w' ⟨e1, h1, h2, _⟩ => ⟨_, e1, by rw [Lib.byteCells_append]; exact h1, h2⟩
      have HL : ∀ W, Hid (Lib.IsBuilderF 102 5 w.heap.size w.heap.size (Lib.byteCells (s ++ t)) W) → w.heap.size ≤ W.heap.size → Calls Tryz.prog 51 #[U.at0 w.heap.size, .int .u8 10] W fun e w' => e = .returned .nilIface ∧ Hid (Lib.IsBuilderF 102 5 w.heap.size w.heap.size (Lib.byteCells (s ++ (t ++ [10]))) w') ∧ Below w.heap.size W w' := fun W h hb =>
        (U.writeByte_any w.heap.size w.heap.size (Lib.byteCells (s ++ t)) 10 W h.out (by rw [Lib.byteCells_length, List.length_append]; omega) hb).mono fun e w' ⟨e1, h1, h2, _⟩ => ⟨e1, by rw [← List.append_assoc, Lib.byteCells_append]; exact h1, h2⟩
      clear HB hln hll
      go_wp2_with (first
        | (go_at_call 14; refine (HT _ bA).mono ?_; rintro e w1 ⟨rfl, hb1⟩; have k1 := bchain bA hb1)
        | (go_at_call 50; refine (HW _ k1).mono ?_; rintro e w2 ⟨z, rfl, h2, hb2⟩; have k2 : Below w.heap.size w w2 := (bchain hbw k1).trans hb2)
        | (go_at_call 51; refine (HL _ h2 k2.size).mono ?_; rintro e w3 ⟨rfl, h3, hb3⟩))
      go_roundw
      case rel => exact ⟨j + 1, by omega, by go_num, by have h := h3.out; rw [← HJ.out] at h; exact h, k2.trans hb3⟩
      case measure => simp [intOf]; omega
    · obtain rfl : j = m := by omega
      have HE : Hid (linesE ((xs.map Prod.fst).take j) = linesE (xs.map Prod.fst)) := by
        have h : linesE ((xs.map Prod.fst).take j) = linesE (xs.map Prod.fst) := by rw [HM.out, show (xs.map Prod.fst).take xs.length = xs.map Prod.fst from by rw [← List.length_map (f := Prod.fst), List.take_length]]
        exact h
      have HS := Go.Proofs.YthlhopdlkkeohaaGreatDoor.bString w.heap.size w.heap.size (linesE ((xs.map Prod.fst).take j)) wr HB.out hbw.size
      rw [HE.out] at HS
      clear HB
      go_wp2_with (go_at_call 52; refine HS.mono ?_; rintro e w1 ⟨rfl, -, hb1, -⟩)
      go_ret
      exact ⟨rfl, hbw.trans hb1⟩
end Go.Proofs.YthlhopdlkkeohaaGreatDoor.O
/- Items that rise by their leaves, taken leaf by leaf: what is there to be seen of them is what is there of the first leaf's items, and then of the rest; the order of the items is nothing to a view. -/
namespace Go.Proofs.YthlhopdlkkeohaaGreatDoor
namespace Vw

/-- Items that rise by their leaves. -/
abbrev Up (l : List Lv.Item) : Prop := l.Pairwise fun a b => Tr.lcomp (Tr.leafOf a) (Tr.leafOf b) ≤ 0

theorem sum_perm {a b : List Int} (h : a.Perm b) : a.sum = b.sum := by
  induction h with
  | nil => rfl
  | cons x _ ih => rw [List.sum_cons, List.sum_cons, ih]
  | swap x y l => rw [List.sum_cons, List.sum_cons, List.sum_cons, List.sum_cons]; omega
  | trans _ _ ih1 ih2 => exact ih1.trans ih2
theorem leaves_perm {a b : List Lv.Item} (h : a.Perm b) : Tr.leaves a = Tr.leaves b := by
  refine Li.rise_eq Tr.lord (Li.vals_rise Tr.lord _) (Li.vals_rise Tr.lord _) fun x => ?_
  show x ∈ Tr.leaves a ↔ x ∈ Tr.leaves b
  rw [Tr.mem_leaves, Tr.mem_leaves]
  exact exists_congr fun i => and_congr_left fun _ => h.mem_iff
/-- What is at a leaf is what its own items tell. -/
theorem at_same {a b : List Lv.Item} {p : List (List UInt8)} {k : Int} (h : Lv.atLeaf a p k = Lv.atLeaf b p k) : at' a p k = at' b p k := by
  have e1 : vals a p k = vals b p k := by unfold vals; rw [h]
  unfold at'
  rw [e1]
  by_cases h3 : k = 3
  · subst h3
    have e2 : sum a p = sum b p := by unfold sum Tr.nums; rw [h]
    rw [e2]
  · rw [if_neg h3, if_neg h3]
theorem vals_perm {a b : List Lv.Item} (h : a.Perm b) (p : List (List UInt8)) (k : Int) : vals a p k = vals b p k := by
  unfold vals
  refine Rg.rise_eq (Rg.vals_rise _) (Rg.vals_rise _) fun x => ?_
  rw [Rg.mem_vals, Rg.mem_vals]
  exact ((h.filter _).map _).mem_iff
theorem total_perm {a b : List Lv.Item} (h : a.Perm b) (p : List (List UInt8)) : sum a p = sum b p := by
  unfold sum Tr.nums
  exact sum_perm ((h.filter _).map _)
theorem at_perm {a b : List Lv.Item} (h : a.Perm b) (p : List (List UInt8)) (k : Int) : at' a p k = at' b p k := by
  unfold at'
  rw [vals_perm h, total_perm h]
theorem of_perm {a b : List Lv.Item} (h : a.Perm b) : of a = of b := by
  unfold of
  rw [leaves_perm h]
  exact List.map_congr_left fun x _ => at_perm h x.1 x.2

/-- The first n items, and no more, stand at a leaf. -/
def Run (x : Tr.Leaf) (l : List Lv.Item) (n : Nat) : Prop := n ≤ l.length ∧ (∀ j, ∀ h : j < l.length, j < n → Tr.leafOf l[j] = x) ∧ ∀ h : n < l.length, Tr.leafOf l[n] ≠ x
/-- So far all of them do. -/
def Runs (x : Tr.Leaf) (l : List Lv.Item) (n : Nat) : Prop := n ≤ l.length ∧ ∀ j, ∀ h : j < l.length, j < n → Tr.leafOf l[j] = x
theorem runs_zero (x : Tr.Leaf) (l : List Lv.Item) : Runs x l 0 := ⟨Nat.zero_le _, fun _ _ h => absurd h (Nat.not_lt_zero _)⟩
theorem Runs.step {x : Tr.Leaf} {l : List Lv.Item} {n : Nat} (h : Runs x l n) (hn : n < l.length) (he : Tr.leafOf l[n] = x) : Runs x l (n + 1) := ⟨hn, fun j hj hjn => by
  by_cases e : j = n
  · subst e; exact he
  · exact h.2 j hj (by omega)⟩
theorem Runs.stop {x : Tr.Leaf} {l : List Lv.Item} {n : Nat} (h : Runs x l n) (he : ∀ hn : n < l.length, Tr.leafOf l[n] ≠ x) : Run x l n := ⟨h.1, h.2, he⟩

theorem Up.drop {l : List Lv.Item} (h : Up l) (n : Nat) : Up (l.drop n) := List.Pairwise.sublist (List.drop_sublist n l) h
theorem split {l : List Lv.Item} (hu : Up l) {x : Tr.Leaf} {t : List Tr.Leaf} (hl : Tr.leaves l = x :: t) {n : Nat} (hn : Run x l n) :
    of l = at' (l.take n) x.1 x.2 :: of (l.drop n) ∧ Tr.leaves (l.drop n) = t := by
  have hr : Li.Rise Tr.lcomp (x :: t) := by rw [← hl]; exact Li.vals_rise Tr.lord _
  have hxt : ∀ y ∈ t, Li.lt Tr.lcomp x y := (List.pairwise_cons.1 hr).1
  have hmem : ∀ {y}, y ∈ x :: t ↔ ∃ i ∈ l, Tr.leafOf i = y := by intro y; rw [← hl]; exact Tr.mem_leaves
  have ha : ∀ i ∈ l.take n, Tr.leafOf i = x := fun i hi => by
    obtain ⟨j, hj, e⟩ := List.mem_iff_getElem.1 hi
    have hj' : j < n ∧ j < l.length := by rw [List.length_take] at hj; omega
    rw [List.getElem_take] at e
    rw [← e]
    exact hn.2.1 j hj'.2 hj'.1
  have hb : ∀ i ∈ l.drop n, Tr.leafOf i ≠ x := fun i hi e => by
    obtain ⟨j, hj, e2⟩ := List.mem_iff_getElem.1 hi
    have hj' : n + j < l.length := by rw [List.length_drop] at hj; omega
    have hn' : n < l.length := by omega
    rw [List.getElem_drop] at e2
    have hne := hn.2.2 hn'
    have hm : Tr.leafOf l[n] ∈ x :: t := hmem.2 ⟨l[n], List.getElem_mem hn', rfl⟩
    have hlt : Li.lt Tr.lcomp x (Tr.leafOf l[n]) := by
      rcases List.mem_cons.1 hm with q | q
      · exact absurd q hne
      · exact hxt _ q
    by_cases h0 : j = 0
    · subst h0
      have e3 : l[n] = i := e2
      rw [e3] at hne
      exact hne e
    · have hle := List.pairwise_iff_getElem.1 hu n (n + j) hn' hj' (by omega)
      rw [e2, e] at hle
      rcases (Tr.lord.le_iff).1 hle with q | q
      · exact Tr.lord.not hlt q
      · exact hne q
  have hlb : Tr.leaves (l.drop n) = t := by
    refine Li.rise_eq Tr.lord (Li.vals_rise Tr.lord _) (List.pairwise_cons.1 hr).2 fun y => ?_
    show y ∈ Tr.leaves (l.drop n) ↔ y ∈ t
    rw [Tr.mem_leaves]
    constructor
    · rintro ⟨i, hi, rfl⟩
      rcases List.mem_cons.1 (hmem.2 ⟨i, List.mem_of_mem_drop hi, rfl⟩) with q | q
      · exact absurd q (hb i hi)
      · exact q
    · intro hy
      obtain ⟨i, hi, rfl⟩ := hmem.1 (List.mem_cons_of_mem _ hy)
      refine ⟨i, ?_, rfl⟩
      rw [← List.take_append_drop n l] at hi
      rcases List.mem_append.1 hi with q | q
      · have := hxt _ hy
        rw [ha i q] at this
        exact absurd this (Tr.lord.irrefl x)
      · exact q
  have hcut : ∀ p k, Lv.atLeaf l p k = Lv.atLeaf (l.take n) p k ++ Lv.atLeaf (l.drop n) p k := fun p k => by
    unfold Lv.atLeaf
    rw [← List.filter_append, List.take_append_drop]
  have hb0 : Lv.atLeaf (l.drop n) x.1 x.2 = [] := by
    rw [List.eq_nil_iff_forall_not_mem]
    intro i hi
    obtain ⟨h1, h2⟩ := Tr.mem_atLeaf.1 hi
    exact hb i h1 h2
  have ha0 : ∀ y ∈ t, Lv.atLeaf (l.take n) y.1 y.2 = [] := fun y hy => by
    rw [List.eq_nil_iff_forall_not_mem]
    intro i hi
    obtain ⟨h1, h2⟩ := Tr.mem_atLeaf.1 hi
    have h3 : x = y := (ha i h1).symm.trans h2
    have := hxt y hy
    rw [← h3] at this
    exact Tr.lord.irrefl x this
  refine ⟨?_, hlb⟩
  unfold of
  rw [hl, hlb, List.map_cons]
  exact List.cons_eq_cons.2 ⟨at_same (by rw [hcut, hb0, List.append_nil]), List.map_congr_left fun y hy => at_same (by rw [hcut, ha0 y hy, List.nil_append])⟩
theorem of_nil {l : List Lv.Item} (h : Tr.leaves l = []) : of l = [] := by
  unfold of
  rw [h]
  rfl
end Vw
end Go.Proofs.YthlhopdlkkeohaaGreatDoor
