/- The walks of the document's Line and Text of a view · The walks of view's texts, Line and Text · strconv.Itoa, FormatBool, the builder and utf8.AppendRune: laid at this program · The builder's WriteRune · Values' texts, as plain mathematics · The walks of the two 'Int's and the two 'Text's: a number's bytes, a text behind its length · The walk of the document's Digits. -/
import Derived.Test.YthlhopdlkkeohaaGreatDoorBValsAll
import Derived.Test.YthlhopdlkkeohaaGreatDoorNDigitsAll
import Derived.Deep.RegionHeld3
import Derived.Shelf.Strings.MapGrows
import Derived.Test.YthlhopdlkkeohaaGreatDoorLinesAll
import Derived.Shelf.Strconv.Itoa3
import Derived.Shelf.Small.Wraps
import Derived.Shelf.Small.Strs
import Derived.Shelf.Strings.BuilderRune
import Derived.Lib.AppendIntMem
import Derived.Test.YthlhopdlkkeohaaGreatDoorChecked
import Derived.WalkKit
import Derived.Test.YthlhopdlkkeohaaGreatDoorCompDAllAll
import Derived.Test.YthlhopdlkkeohaaGreatDoorPlainAll
import Derived.Lib.ItoaLen
import Derived.Lib.Small
import Derived.Lib.Strings
import Derived.Lib.RuneBytes
import Derived.Test.YthlhopdlkkeohaaGreatDoorOpsAll
import Derived.Laws.IdiomStrings
import Derived.Laws.BytesArg
import Derived.Deep.RegionWith
import Derived.WalkLawsBesides
/- The walks of the document's Line and Text of a view. -/
namespace Go.Proofs.YthlhopdlkkeohaaGreatDoor.O
open Go.RowKit

/-- A value's text, and an entry's line. -/
abbrev vtx (v : Rg.Va) : List UInt8 := Vl.text v.1 v.2.1 v.2.2
abbrev lineE (e : Vw.Entry) : List UInt8 := Vw.line Nm.joined vtx Lib.itoa e
/-- An entry whose line can be told. -/
structure EFine (e : Vw.Entry) : Prop where
  few : U.Few e.p
  right : ∀ v ∈ e.l, Vl.Right v.1 v.2.1 v.2.2
  len : e.l.length ≤ 1000000
  lo : -9223372036854775808 ≤ e.n
  hi : e.n ≤ 9223372036854775807
theorem vtx_len {v : Rg.Va} (h : Vl.Right v.1 v.2.1 v.2.2) : (vtx v).length ≤ 130 := Vl.text_len h
theorem blanks_le {l : List Rg.Va} (h : ∀ v ∈ l, Vl.Right v.1 v.2.1 v.2.2) (hn : l.length ≤ 1000000) (k : Nat) : (Vw.blanks vtx (l.take k)).length ≤ 131000000 := by
  have h1 := Vw.blanks_len vtx (B := 130) (l := l.take k) fun v hv => vtx_len (h v (List.mem_of_mem_take hv))
  have h2 : (l.take k).length * (130 + 1) ≤ 1000000 * 131 := Nat.mul_le_mul (by rw [List.length_take]; omega) (Nat.le_refl _)
  omega
theorem lineE_len {e : Vw.Entry} (h : EFine e) : (lineE e).length ≤ 131003000 := by
  have h1 := h.few.joined
  have h2 := blanks_le h.right h.len e.l.length
  rw [List.take_length] at h2
  have h3 := N.itoa_len h.lo h.hi
  unfold lineE Vw.line
  rw [List.length_append, List.length_append, Vw.sign_len]
  split <;> omega
/-- The values' texts so far. -/
def blV (l : List Rg.Va) (k : Nat) : Value := .string ⟨(Vw.blanks vtx (l.take k)).toArray⟩

/-- The lines so far. -/
abbrev linesE (l : List Vw.Entry) : List UInt8 := Vw.text Nm.joined vtx Lib.itoa l
def lnV (xs : List EE) (k : Nat) : Value := .string ⟨(linesE ((xs.map Prod.fst).take k)).toArray⟩
theorem linesE_le {l : List Vw.Entry} (h : ∀ e ∈ l, EFine e) (hn : l.length ≤ 100000) (k : Nat) : (linesE (l.take k)).length ≤ 13200000000000 := by
  have h1 := Vw.text_len Nm.joined vtx Lib.itoa (M := 131003000) (l := l.take k) fun e he => lineE_len (h e (List.mem_of_mem_take he))
  have h2 : (l.take k).length * (131003000 + 1) ≤ 100000 * 131003001 := Nat.mul_le_mul (by rw [List.length_take]; omega) (Nat.le_refl _)
  unfold linesE
  omega

end Go.Proofs.YthlhopdlkkeohaaGreatDoor.O
/- The walks of view's texts, Line and Text. -/
namespace Go.Proofs.YthlhopdlkkeohaaGreatDoor.O
open Go.RowKit

theorem blanks_join (l : List Rg.Va) : Lib.join (l.map vtx) [32] = Vw.blanks vtx l := by
  induction l with
  | nil => rfl
  | cons x r ih =>
    cases r with
    | nil => simp [Lib.join_one, Vw.blanks]
    | cons y r =>
      rw [show Vw.blanks vtx (x :: y :: r) = vtx x ++ 32 :: Vw.blanks vtx (y :: r) from rfl, ← ih]
      simp only [List.map_cons]
      rw [Lib.join_cons, Lib.join_cons]
      simp [Lib.joinTail]

set_option maxRecDepth 20000 in
set_option maxHeartbeats 4000000 in
theorem texts_any (v : Value) (l : List Rg.Va) (w : World) (hk : N.Keeps w) (hv : valsIn w v l) (hr : ∀ x ∈ l, Vl.Right x.1 x.2.1 x.2.2) (hn : l.length ≤ 1000000) :
    Calls Tryz.prog 43 #[v] w fun e w' => e = .returned (.string ⟨(Vw.blanks vtx l).toArray⟩) ∧ Below w.heap.size w w' := by
  obtain ⟨i0, hI0, hz0, hz1, hz2⟩ := sinfo9
  obtain ⟨ao, cap, rfl⟩ := hv.slice
  obtain ⟨n, hn0⟩ : ∃ n, n = l.length := ⟨_, rfl⟩
  have HN : Hid (n = l.length) := hn0
  rw [← hn0] at hv hn ⊢
  have HV : Hid (valsIn w (.slice ao n cap) l) := hv
  have HR : Hid (∀ x ∈ l, Vl.Right x.1 x.2.1 x.2.2) := hr
  have HK : Hid (N.Keeps w) := hk
  clear hn0 hv hr hk
  go_enter Tryz.func43, Tryz.ntmps43
  go_wp2
  go_loopw [3, 5, 8] (fun out _ i wr => ∃ (k : Nat) (acc : List (List UInt8)), k ≤ n ∧ i = .int .i64 k ∧ Hid (acc = (l.take k).map vtx) ∧ wr.ownsRow w.heap.size 9 1 out acc.length (acc.flatMap scell) ∧ Below w.heap.size w wr) (fun _ _ i _ => n - (intOf i).toNat)
  case atStart => exact ⟨0, [], by omega, rfl, rfl, World.ownsRow_nil _ _ _ _, Below.refl _ _⟩
  case round =>
    obtain ⟨k, acc, hk, rfl, HA, hown, hbw⟩ := hrel
    have hal := congrArg List.length HA.out
    rw [List.length_map, List.length_take] at hal
    by_cases hkn : k < n
    · have hkx : k < l.length := by rw [← HN.out]; exact hkn
      obtain ⟨ad, rfl, hX⟩ := (HV.out.on hbw).get hkx
      have hrt := HR.out _ (List.getElem_mem hkx)
      have hroom : acc.length + 1 ≤ 1000001 := by omega
      have HT : ∀ W, Below w.heap.size w W → Calls Tryz.prog 89 #[vV l[k]] W fun e w' => e = .returned (.string ⟨(vtx l[k]).toArray⟩) ∧ Below W.heap.size W w' := fun W hb => N.text_right _ _ _ W (HK.out.on hb) hrt
      have HE : Hid (acc ++ [vtx l[k]] = (l.take (k + 1)).map vtx) := by
        have h : acc ++ [vtx l[k]] = (l.take (k + 1)).map vtx := by rw [List.take_succ_eq_append_getElem hkx, List.map_append, HA.out]; rfl
        exact h
      obtain ⟨x0, x1, x2⟩ := hX
      clear HA hal hrt
      generalize vtx l[k] = t at *
      generalize l[k] = y at *
      have bA := below_new wr (vO y)
      go_wp2_with (first
        | (go_at_call 89; refine (HT _ (bchain hbw bA)).mono ?_; rintro e w1 ⟨rfl, hb1⟩)
        | (at_builtin; refine append_one (f := scell) (m := 1) (fun _ => rfl) (Nat.succ_pos 0) (ST := 24) (T := 9) rfl Tryz.underlying24 hI0 hz0 hz1 hz2 rfl (by decide) _ _ rfl w.heap.size (Nat.le_trans (bchain hbw (bchain bA hb1)).size (below_new w1 (.cells #[.string ⟨t.toArray⟩] 9)).size) _ acc rfl (own_on hown (bchain bA (bchain hb1 (below_new w1 (.cells #[.string ⟨t.toArray⟩] 9))))) _ t rfl (new_cells w1 (scell t) 9) (fun u hu => by rw [List.mem_singleton.1 hu]; rfl) hroom ?_; intro v2 w3 hown2 hg2)
        | go_in)
      go_roundw
      case rel => exact ⟨k + 1, acc ++ [t], by omega, by go_num, HE, hown2, (bchain hbw (bchain bA (bchain hb1 (below_new w1 (.cells #[.string ⟨t.toArray⟩] 9))))).grown hg2 (Nat.le_trans (bchain hbw (bchain bA hb1)).size (below_new w1 (.cells #[.string ⟨t.toArray⟩] 9)).size) (fun g e => (hown.lt g e).1)⟩
      case measure => simp [intOf]; omega
    · have HE : Hid (acc = l.map vtx) := by
        have h := HA.out
        rw [List.take_of_length_le (by rw [← HN.out]; omega)] at h
        exact h
      have hjl : (Lib.join acc [32]).length ≤ 140737488355328 := by
        have h1 := U.join_len (ys := acc) (m := 130) [32] (fun y hy => by
          rw [HE.out] at hy
          obtain ⟨x, hx, rfl⟩ := List.mem_map.1 hy
          exact vtx_len (HR.out x hx))
        have h2 : acc.length * (130 + [(32 : UInt8)].length) ≤ 1000000 * 131 := Nat.mul_le_mul (by omega) (Nat.le_refl _)
        omega
      have HJ := U.join_own (B := w.heap.size) (u := u3) (ys := acc) (w := wr) [32] (by rw [← flat_scell]; exact hown) (by omega) hjl
      have HX : Hid (Lib.join acc [32] = Vw.blanks vtx l) := by
        have h : Lib.join acc [32] = Vw.blanks vtx l := by rw [HE.out]; exact blanks_join l
        exact h
      clear hown hjl hal HA HE
      generalize Lib.join acc [32] = j at *
      go_wp2_with (go_at_call 86; refine HJ.mono ?_; rintro e w1 ⟨rfl, hb1⟩)
      go_ret
      exact ⟨congrArg (fun z : List UInt8 => Ending.returned (.string ⟨z.toArray⟩)) HX.out, bchain hbw hb1⟩

set_option maxRecDepth 20000 in
set_option maxHeartbeats 4000000 in
theorem line18_any (x : EE) (w : World) (hk : N.Keeps w) (hx : EOk w x) (hf : EFine x.1) :
    Calls Tryz.prog 14 #[entV x.2.1 x.1.k x.2.2 x.1.n] w fun e w' => e = .returned (.string ⟨(lineE x.1).toArray⟩) ∧ Below w.heap.size w w' := by
  obtain ⟨E, hE⟩ : ∃ E, E = lineE x.1 := ⟨_, rfl⟩
  rw [← hE]
  obtain ⟨⟨p, k, l, n⟩, pv, lv⟩ := x
  obtain ⟨hp, hl⟩ : U.strsAt w pv p ∧ valsIn w lv l := hx
  obtain ⟨hfp, hfr, hfn, hlo, hhi⟩ := hf
  obtain ⟨ao, cap, rfl⟩ := hl.slice
  obtain ⟨pa, pn, pc, rfl⟩ := strs_slice hp
  have hfn : l.length ≤ 1000000 := hfn
  have hlo : -9223372036854775808 ≤ n := hlo
  have hhi : n ≤ 9223372036854775807 := hhi
  have HPT : ∀ W, Below w.heap.size w W → Calls Tryz.prog 42 #[.slice pa pn pc] W fun e w' => e = .returned (.string ⟨(Nm.joined p).toArray⟩) ∧ Below W.heap.size W w' := fun W hb => U.text_any _ p W hfp (U.strsAt_below hp hb (Nat.le_refl _))
  have HTX : ∀ W, Below w.heap.size w W → Calls Tryz.prog 43 #[.slice ao l.length cap] W fun e w' => e = .returned (.string ⟨(Vw.blanks vtx l).toArray⟩) ∧ Below W.heap.size W w' := fun W hb => texts_any _ l W (hk.on hb) (hl.on hb) hfr hfn
  have HN : ∀ W, Below w.heap.size w W → Calls Tryz.prog 44 #[.int .i64 n] W fun e w' => e = .returned (.string ⟨(Lib.itoa n).toArray⟩) ∧ Below W.heap.size W w' := fun W hb => N.itoa_any n W (hk.on hb) hlo hhi
  have hbl := blanks_le hfr hfn l.length
  rw [List.take_length] at hbl
  have hpl := hfp.joined
  have hnl := N.itoa_len hlo hhi
  have HE1 : Hid (k = 1 → E = (Nm.joined p ++ [32, 61, 32]) ++ Vw.blanks vtx l) := by
    have h : k = 1 → E = (Nm.joined p ++ [32, 61, 32]) ++ Vw.blanks vtx l := fun h1 => by rw [hE]; simp [lineE, Vw.line, Vw.sign, h1]
    exact h
  have HE2 : Hid (k = 2 → E = (Nm.joined p ++ [32, 58, 32]) ++ Vw.blanks vtx l) := by
    have h : k = 2 → E = (Nm.joined p ++ [32, 58, 32]) ++ Vw.blanks vtx l := fun h1 => by rw [hE]; simp [lineE, Vw.line, Vw.sign, h1]
    exact h
  have HE3 : Hid (k ≠ 1 → k ≠ 2 → E = (Nm.joined p ++ [32, 35, 32]) ++ Lib.itoa n) := by
    have h : k ≠ 1 → k ≠ 2 → E = (Nm.joined p ++ [32, 35, 32]) ++ Lib.itoa n := fun h1 h2 => by rw [hE]; simp [lineE, Vw.line, Vw.sign, h1, h2]
    exact h
  clear hE hp hl hfp hfr hfn hlo hhi hk
  generalize Vw.blanks vtx l = s at *
  generalize Nm.joined p = q at *
  generalize Lib.itoa n = d at *
  generalize l.length = m at *
  have bA := below_new w (entO (.slice pa pn pc) k (.slice ao m cap) n 38)
  have hc : ∀ W, Below (w.alloc (entO (.slice pa pn pc) k (.slice ao m cap) n 38)).heap.size (w.alloc (entO (.slice pa pn pc) k (.slice ao m cap) n 38)) W → EVar W w.heap.size (.slice pa pn pc) k (.slice ao m cap) n := fun W hb => (EVar.new w (.slice pa pn pc) k (.slice ao m cap) n 38).on hb
  have hs1 : ¬ 9223372036854775807 < q.length + 3 := by omega
  have hs2 : ¬ 9223372036854775807 < q.length + 3 + s.length := by omega
  have hs3 : ¬ 9223372036854775807 < q.length + 3 + d.length := by omega
  by_cases h1 : k = 1
  · subst h1
    have HE4 : Hid (E = (q ++ [32, 61, 32]) ++ s) := HE1.out rfl
    clear HE1 HE2 HE3
    go_enter Tryz.func14, Tryz.ntmps14
    go_wp2_with (first
      | (go_at_call 42; refine (HPT _ bA).mono ?_; rintro e w1 ⟨rfl, hb1⟩; obtain ⟨c0, c1, c2, c3, -, -, -, -⟩ := hc w1 hb1)
      | (go_at_call 43; refine (HTX _ (bchain bA hb1)).mono ?_; rintro e w2 ⟨rfl, hb2⟩))
    go_ret
    exact ⟨ret_str (by rw [HE4.out, show (⟨#[32, 61, 32]⟩ : ByteArray) = ⟨[32, 61, 32].toArray⟩ from rfl, cat_lists, cat_lists]), bchain bA (bchain hb1 hb2)⟩
  · by_cases h2 : k = 2
    · subst h2
      have HE4 : Hid (E = (q ++ [32, 58, 32]) ++ s) := HE2.out rfl
      clear HE1 HE2 HE3
      go_enter Tryz.func14, Tryz.ntmps14
      go_wp2_with (first
        | (go_at_call 42; refine (HPT _ bA).mono ?_; rintro e w1 ⟨rfl, hb1⟩; obtain ⟨c0, c1, c2, c3, -, -, -, -⟩ := hc w1 hb1)
        | (go_at_call 43; refine (HTX _ (bchain bA hb1)).mono ?_; rintro e w2 ⟨rfl, hb2⟩))
      go_ret
      exact ⟨ret_str (by rw [HE4.out, show (⟨#[32, 58, 32]⟩ : ByteArray) = ⟨[32, 58, 32].toArray⟩ from rfl, cat_lists, cat_lists]), bchain bA (bchain hb1 hb2)⟩
    · have HE4 : Hid (E = (q ++ [32, 35, 32]) ++ d) := HE3.out h1 h2
      have e1 : (k == 1) = false := beq_eq_false_iff_ne.2 h1
      have e2 : (k == 2) = false := beq_eq_false_iff_ne.2 h2
      clear HE1 HE2 HE3 h1 h2
      go_enter Tryz.func14, Tryz.ntmps14
      go_wp2_with (first
        | (go_at_call 42; refine (HPT _ bA).mono ?_; rintro e w1 ⟨rfl, hb1⟩; obtain ⟨c0, c1, c2, c3, -, -, -, -⟩ := hc w1 hb1)
        | (go_at_call 44; refine (HN _ (bchain bA hb1)).mono ?_; rintro e w2 ⟨rfl, hb2⟩))
      go_ret
      exact ⟨ret_str (by rw [HE4.out, show (⟨#[32, 35, 32]⟩ : ByteArray) = ⟨[32, 35, 32].toArray⟩ from rfl, cat_lists, cat_lists]), bchain bA (bchain hb1 hb2)⟩

set_option maxRecDepth 20000 in
set_option maxHeartbeats 4000000 in
theorem text18_any (v : Value) (xs : List EE) (w : World) (hk : N.Keeps w) (hv : entsE w v xs) (hf : ∀ x ∈ xs, EFine x.1) (hn : xs.length ≤ 100000) :
    Calls Tryz.prog 18 #[v] w fun e w' => e = .returned (.string ⟨(linesE (xs.map Prod.fst)).toArray⟩) ∧ Below w.heap.size w w' := by
  obtain ⟨ao, cap, rfl⟩ := hv.slice
  obtain ⟨m, hm0⟩ : ∃ m, m = xs.length := ⟨_, rfl⟩
  have HM : Hid (m = xs.length) := hm0
  rw [← hm0] at hv hn ⊢
  have HV : Hid (entsE w (.slice ao m cap) xs) := hv
  have HF : Hid (∀ x ∈ xs, EFine x.1) := hf
  have HK : Hid (N.Keeps w) := hk
  have H0 := Lib.IsBuilderF.of (Lib.fresh_isBuilder 102 5 w)
  have B0 := below_new w (.cells #[.pointer none, .slice none 0 0] 102)
  clear hm0 hv hf hk
  go_enter Tryz.func18, Tryz.ntmps18
  go_wp2
  go_loopw [5, 8] (fun _ i wr => ∃ j : Nat, j ≤ m ∧ i = .int .i64 j ∧ Hid (Lib.IsBuilderF 102 5 w.heap.size w.heap.size (Lib.byteCells (linesE ((xs.map Prod.fst).take j))) wr) ∧ Below w.heap.size w wr) (fun _ i _ => m - (intOf i).toNat)
  case atStart => exact ⟨0, by omega, rfl, H0, B0⟩
  case round =>
    obtain ⟨j, hj, rfl, HB, hbw⟩ := hrel
    clear H0
    by_cases hjm : j < m
    · have hjx : j < xs.length := by rw [← HM.out]; exact hjm
      obtain ⟨ad, rfl, -, hX, hXo⟩ := (HV.out.on hbw).get hjx
      have hfx := HF.out _ (List.getElem_mem hjx)
      have hln := linesE_le (l := xs.map Prod.fst) (fun e he => by obtain ⟨x, hx, rfl⟩ := List.mem_map.1 he; exact HF.out x hx) (by rw [List.length_map, ← HM.out]; exact hn) j
      have hll := lineE_len hfx
      have hjx2 : j < (xs.map Prod.fst).length := by simpa using hjx
      have HJ : Hid (linesE ((xs.map Prod.fst).take (j + 1)) = linesE ((xs.map Prod.fst).take j) ++ (lineE xs[j].1 ++ [10])) := by
        have h : linesE ((xs.map Prod.fst).take (j + 1)) = linesE ((xs.map Prod.fst).take j) ++ (lineE xs[j].1 ++ [10]) := by
          rw [linesE, Vw.text_step _ _ _ _ hjx2, List.getElem_map]
        exact h
      have HT := fun W (hb : Below wr.heap.size wr W) => line18_any xs[j] W (HK.out.on (bchain hbw hb)) (hXo.on hb) hfx
      obtain ⟨x0, x1, x2, x3⟩ := hX
      obtain ⟨⟨pa, pn, pc, e1⟩, ra, rn, rk, e2⟩ := hXo.slices
      clear hXo hfx
      generalize linesE ((xs.map Prod.fst).take j) = s at *
      generalize lineE xs[j].1 = t at *
      generalize xs[j] = y at *
      obtain ⟨⟨p, k, l, n⟩, pv, lv⟩ := y
      obtain rfl : pv = .slice pa pn pc := e1
      obtain rfl : lv = .slice ra rn rk := e2
      have bA := below_new wr (entO (.slice pa pn pc) k (.slice ra rn rk) n 38)
      have HW : ∀ W, Below wr.heap.size wr W → Calls Tryz.prog 50 #[U.at0 w.heap.size, .string ⟨t.toArray⟩] W fun e w' => ∃ z, e = .returned (.tuple #[.int .i64 z, .nilIface]) ∧ Hid (Lib.IsBuilderF 102 5 w.heap.size w.heap.size (Lib.byteCells (s ++ t)) w') ∧ Below w.heap.size W w' := fun W hb =>
        (U.writeString_any w.heap.size w.heap.size (Lib.byteCells s) ⟨t.toArray⟩ W (HB.out.below hb) (by rw [Lib.byteCells_length]; show s.length + t.length ≤ _; omega) (Nat.le_trans hbw.size hb.size)).mono fun e w' ⟨e1, h1, h2, _⟩ => ⟨_, e1, by rw [Lib.byteCells_append]; exact h1, h2⟩
      have HL : ∀ W, Hid (Lib.IsBuilderF 102 5 w.heap.size w.heap.size (Lib.byteCells (s ++ t)) W) → w.heap.size ≤ W.heap.size → Calls Tryz.prog 51 #[U.at0 w.heap.size, .int .u8 10] W fun e w' => e = .returned .nilIface ∧ Hid (Lib.IsBuilderF 102 5 w.heap.size w.heap.size (Lib.byteCells (s ++ (t ++ [10]))) w') ∧ Below w.heap.size W w' := fun W h hb =>
        (U.writeByte_any w.heap.size w.heap.size (Lib.byteCells (s ++ t)) 10 W h.out (by rw [Lib.byteCells_length, List.length_append]; omega) hb).mono fun e w' ⟨e1, h1, h2, _⟩ => ⟨e1, by rw [← List.append_assoc, Lib.byteCells_append]; exact h1, h2⟩
      clear HB hln hll
      go_wp2_with (first
        | (go_at_call 14; refine (HT _ bA).mono ?_; rintro e w1 ⟨rfl, hb1⟩; have k1 := bchain bA hb1)
        | (go_at_call 50; refine (HW _ k1).mono ?_; rintro e w2 ⟨z, rfl, h2, hb2⟩; have k2 : Below w.heap.size w w2 := (bchain hbw k1).trans hb2)
        | (go_at_call 51; refine (HL _ h2 k2.size).mono ?_; rintro e w3 ⟨rfl, h3, hb3⟩))
      go_roundw
      case rel => exact ⟨j + 1, by omega, by go_num, by have h := h3.out; rw [← HJ.out] at h; exact h, k2.trans hb3⟩
      case measure => simp [intOf]; omega
    · obtain rfl : j = m := by omega
      have HE : Hid (linesE ((xs.map Prod.fst).take j) = linesE (xs.map Prod.fst)) := by
        have h : linesE ((xs.map Prod.fst).take j) = linesE (xs.map Prod.fst) := by rw [HM.out, show (xs.map Prod.fst).take xs.length = xs.map Prod.fst from by rw [← List.length_map (f := Prod.fst), List.take_length]]
        exact h
      have HS := Go.Proofs.YthlhopdlkkeohaaGreatDoor.bString w.heap.size w.heap.size (linesE ((xs.map Prod.fst).take j)) wr HB.out hbw.size
      rw [HE.out] at HS
      clear HB
      go_wp2_with (go_at_call 52; refine HS.mono ?_; rintro e w1 ⟨rfl, -, hb1, -⟩)
      go_ret
      exact ⟨rfl, hbw.trans hb1⟩
end Go.Proofs.YthlhopdlkkeohaaGreatDoor.O
/- strconv.Itoa, FormatBool, the builder and utf8.AppendRune: laid at this program · The builder's WriteRune · Values' texts, as plain mathematics · The walks of the two 'Int's and the two 'Text's: a number's bytes, a text behind its length · The walk of the document's Digits. -/
/- strconv.Itoa, FormatBool, the builder and utf8.AppendRune: laid at this program. -/
namespace Go.Proofs.YthlhopdlkkeohaaGreatDoor.N
open Go.Shelf Go.RowKit

/-- Which number the library's functions, types and variables have here. -/
def ren : Ren := ⟨fun | 106 => 124 | 121 => 130 | 122 => 123 | 129 => 116 | 169 => 52 | 171 => 44 | 213 => 163 | 214 => 166 | 215 => 162 | 242 => 185 | 243 => 90 | 246 => 131 | 265 => 183 | 278 => 194 | 283 => 167 | 284 => 168 | 285 => 169 | 286 => 170 | 317 => 186 | 318 => 187 | 319 => 188 | 320 => 189 | 337 => 195 | 338 => 196 | n => n, fun | 0 => 0 | 2 => 2 | 3 => 3 | 4 => 4 | 5 => 5 | 9 => 9 | 20 => 20 | 21 => 21 | 37 => 100 | 46 => 124 | 51 => 163 | 53 => 165 | 70 => 99 | 72 => 102 | 75 => 104 | 76 => 105 | 80 => 108 | 127 => 140 | 171 => 201 | 173 => 203 | 212 => 219 | 213 => 220 | 232 => 224 | 233 => 225 | n => n, fun | 17 => 1 | 18 => 2 | 19 => 3 | n => n⟩
theorem lay106 : Lays.n106 Tryz.prog ren := {
  mixed := by kernel_rfl
  f106 := Tryz.func124.trans (congrArg some (by kernel_rfl))
  f213 := Tryz.func163.trans (congrArg some (by kernel_rfl))
  f265 := Tryz.func183.trans (congrArg some (by kernel_rfl))
  t3 := Tryz.underlying3, a3 := Tryz.isAgg3, z3 := Tryz.sizeOf3, v3 := Tryz.zeroValue3
  t9 := Tryz.underlying9, a9 := Tryz.isAgg9, z9 := Tryz.sizeOf9, v9 := Tryz.zeroValue9 }
theorem lay121 : Lays.n121 Tryz.prog ren := {
  mixed := by kernel_rfl
  f121 := Tryz.func130.trans (congrArg some (by kernel_rfl))
  f214 := Tryz.func166.trans (congrArg some (by kernel_rfl))
  t4 := Tryz.underlying4, a4 := Tryz.isAgg4, z4 := Tryz.sizeOf4, v4 := Tryz.zeroValue4
  t9 := Tryz.underlying9, a9 := Tryz.isAgg9, z9 := Tryz.sizeOf9, v9 := Tryz.zeroValue9 }
theorem lay122 : Lays.n122 Tryz.prog ren := {
  mixed := by kernel_rfl
  f122 := Tryz.func123.trans (congrArg some (by kernel_rfl))
  f215 := Tryz.func162.trans (congrArg some (by kernel_rfl))
  t3 := Tryz.underlying3, a3 := Tryz.isAgg3, z3 := Tryz.sizeOf3, v3 := Tryz.zeroValue3
  t4 := Tryz.underlying4, a4 := Tryz.isAgg4, z4 := Tryz.sizeOf4, v4 := Tryz.zeroValue4 }
theorem lay171 : LaysM.n171 Tryz.prog ren := {
  mixed := by kernel_rfl
  f129 := Tryz.func116.trans (congrArg some (by kernel_rfl))
  f171 := Tryz.func44.trans (congrArg some (by kernel_rfl))
  f243 := Tryz.func90.trans (congrArg some (by kernel_rfl))
  f246 := Tryz.func131.trans (congrArg some (by kernel_rfl))
  f283 := Tryz.func167.trans (congrArg some (by kernel_rfl))
  f284 := Tryz.func168.trans (congrArg some (by kernel_rfl))
  f285 := Tryz.func169.trans (congrArg some (by kernel_rfl))
  f286 := Tryz.func170.trans (congrArg some (by kernel_rfl))
  f317 := Tryz.func186.trans (congrArg some (by kernel_rfl))
  f318 := Tryz.func187.trans (congrArg some (by kernel_rfl))
  f319 := Tryz.func188.trans (congrArg some (by kernel_rfl))
  f320 := Tryz.func189.trans (congrArg some (by kernel_rfl))
  f337 := Tryz.func195.trans (congrArg some (by kernel_rfl))
  f338 := Tryz.func196.trans (congrArg some (by kernel_rfl))
  t0 := Tryz.underlying0, a0 := Tryz.isAgg0, z0 := Tryz.sizeOf0, v0 := Tryz.zeroValue0
  t2 := Tryz.underlying2, a2 := Tryz.isAgg2, z2 := Tryz.sizeOf2, v2 := Tryz.zeroValue2
  t3 := Tryz.underlying3, a3 := Tryz.isAgg3, z3 := Tryz.sizeOf3, v3 := Tryz.zeroValue3
  t4 := Tryz.underlying4, a4 := Tryz.isAgg4, z4 := Tryz.sizeOf4, v4 := Tryz.zeroValue4
  t5 := Tryz.underlying5, a5 := Tryz.isAgg5, z5 := Tryz.sizeOf5, v5 := Tryz.zeroValue5
  t9 := Tryz.underlying9, a9 := Tryz.isAgg9, z9 := Tryz.sizeOf9, v9 := Tryz.zeroValue9
  t20 := Tryz.underlying20, a20 := Tryz.isAgg20, z20 := Tryz.sizeOf20, v20 := Tryz.zeroValue20
  t37 := Tryz.underlying100, a37 := Tryz.isAgg100, z37 := Tryz.sizeOf100, v37 := Tryz.zeroValue100
  t46 := Tryz.underlying124, a46 := Tryz.isAgg124, z46 := Tryz.sizeOf124, v46 := Tryz.zeroValue124
  t51 := Tryz.underlying163, a51 := Tryz.isAgg163, z51 := Tryz.sizeOf163, v51 := Tryz.zeroValue163
  t53 := Tryz.underlying165, a53 := Tryz.isAgg165, z53 := Tryz.sizeOf165, v53 := Tryz.zeroValue165
  t171 := Tryz.underlying201, a171 := Tryz.isAgg201, z171 := Tryz.sizeOf201, v171 := Tryz.zeroValue201
  t173 := Tryz.underlying203, a173 := Tryz.isAgg203, z173 := Tryz.sizeOf203, v173 := Tryz.zeroValue203
  t212 := Tryz.underlying219, a212 := Tryz.isAgg219, z212 := Tryz.sizeOf219, v212 := Tryz.zeroValue219
  t213 := Tryz.underlying220, a213 := Tryz.isAgg220, z213 := Tryz.sizeOf220
  t232 := Tryz.underlying224, a232 := Tryz.isAgg224, z232 := Tryz.sizeOf224, v232 := Tryz.zeroValue224
  t233 := Tryz.underlying225, a233 := Tryz.isAgg225, z233 := Tryz.sizeOf225, v233 := Tryz.zeroValue225
  g17 := by kernel_rfl
  g18 := by kernel_rfl
  g19 := by kernel_rfl
  i0 := by kernel_rfl
  i2 := by kernel_rfl
  i3 := by kernel_rfl
  i4 := by kernel_rfl
  i5 := by kernel_rfl
  i9 := by kernel_rfl
  i20 := by kernel_rfl
  i37 := by kernel_rfl
  i46 := by kernel_rfl
  i51 := by kernel_rfl
  i53 := by kernel_rfl
  i171 := by kernel_rfl
  i173 := by kernel_rfl
  i212 := by kernel_rfl
  i232 := by kernel_rfl
  i233 := by kernel_rfl
  m17 := by kernel_rfl
  m18 := by kernel_rfl
  m19 := by kernel_rfl }
theorem lay169 : Lays.n169 Tryz.prog ren := {
  mixed := by kernel_rfl
  f169 := Tryz.func52.trans (congrArg some (by kernel_rfl))
  t0 := Tryz.underlying0, a0 := Tryz.isAgg0, z0 := Tryz.sizeOf0, v0 := Tryz.zeroValue0
  t3 := Tryz.underlying3, a3 := Tryz.isAgg3, z3 := Tryz.sizeOf3, v3 := Tryz.zeroValue3
  t9 := Tryz.underlying9, a9 := Tryz.isAgg9, z9 := Tryz.sizeOf9, v9 := Tryz.zeroValue9
  t37 := Tryz.underlying100, a37 := Tryz.isAgg100, z37 := Tryz.sizeOf100, v37 := Tryz.zeroValue100
  t70 := Tryz.underlying99, a70 := Tryz.isAgg99, z70 := Tryz.sizeOf99, v70 := Tryz.zeroValue99
  t72 := Tryz.underlying102, a72 := Tryz.isAgg102, z72 := Tryz.sizeOf102, v72 := Tryz.zeroValue102
  t127 := Tryz.underlying140, a127 := Tryz.isAgg140, z127 := Tryz.sizeOf140, v127 := Tryz.zeroValue140 }
theorem layX : Builder.Extra Tryz.prog ren := {
  sizeBuilder := by kernel_rfl
  liesBuilder := by kernel_rfl
  t5 := Tryz.underlying5, a5 := Tryz.isAgg5, z5 := Tryz.sizeOf5, v5 := Tryz.zeroValue5
  infoByte := by kernel_rfl
  cellsByte := by kernel_rfl
  sizeByte := by kernel_rfl
  neB5 := by decide }
theorem lay242 : Lays.n242 Tryz.prog ren := {
  mixed := by kernel_rfl
  f242 := Tryz.func185.trans (congrArg some (by kernel_rfl))
  f278 := Tryz.func194.trans (congrArg some (by kernel_rfl))
  t4 := Tryz.underlying4, a4 := Tryz.isAgg4, z4 := Tryz.sizeOf4, v4 := Tryz.zeroValue4
  t5 := Tryz.underlying5, a5 := Tryz.isAgg5, z5 := Tryz.sizeOf5, v5 := Tryz.zeroValue5
  t21 := Tryz.underlying21, a21 := Tryz.isAgg21, z21 := Tryz.sizeOf21, v21 := Tryz.zeroValue21
  t37 := Tryz.underlying100, a37 := Tryz.isAgg100, z37 := Tryz.sizeOf100, v37 := Tryz.zeroValue100
  t46 := Tryz.underlying124, a46 := Tryz.isAgg124, z46 := Tryz.sizeOf124, v46 := Tryz.zeroValue124
  t51 := Tryz.underlying163, a51 := Tryz.isAgg163, z51 := Tryz.sizeOf163, v51 := Tryz.zeroValue163 }

/-- What the listed variable holds: the table of tens. -/
structure Keeps (w : World) : Prop where
  tab : Lib.TabIs Tryz.prog w "internal/strconv.uint64pow10" .u64 Lib.pow10Tab
theorem Keeps.on {w w' : World} (h : Keeps w) (hb : Below w.heap.size w w') : Keeps w' := ⟨Lib.tabBelow_of_tabIs h.tab w' hb⟩

theorem itoa_any (n : Int) (w : World) (hk : Keeps w) (h0 : -9223372036854775808 ≤ n) (h1 : n ≤ 9223372036854775807) :
    Calls Tryz.prog 44 #[.int .i64 n] w fun e w' => e = .returned (.string ⟨(Lib.itoa n).toArray⟩) ∧ Below w.heap.size w w' := by
  refine (Any.strconv_Itoa lay171 n h0 h1 w hk.tab).mono ?_
  rintro e w' ⟨rfl, k, os, rfl⟩
  exact ⟨rfl, Lib.below_grow _ w (Nat.le_refl _) k os⟩
theorem cmp_any (x y : Int) (w : World) : Calls Tryz.prog 123 #[.int .i64 x, .int .i64 y] w fun e w' => e = .returned (.int .i64 (Lib.compareInt x y)) ∧ w' = w := Any.cmp_Compare_int lay122 x y w
theorem cmpS_any (a b : ByteArray) (w : World) : Calls Tryz.prog 124 #[.string a, .string b] w fun e w' => e = .returned (.int .i64 (Lib.compareBytes a.data.toList b.data.toList)) ∧ w' = w := Any.strings_Compare lay106 a b w
theorem formatBool_any (b : Bool) (w : World) : Calls Tryz.prog 130 #[.bool b] w fun e w' => e = .returned (.string ⟨(Lib.formatBool b).toArray⟩) ∧ w' = w := Any.strconv_FormatBool lay121 b w
/-- The builder tells its text. -/
theorem bString (B b : Nat) (l : List UInt8) (w : World) (h : Lib.IsBuilderF 102 5 B b (Lib.byteCells l) w) (hBw : B ≤ w.heap.size) :
    Calls Tryz.prog 52 #[.pointer (some ⟨b, 0, none⟩)] w fun e w' => e = .returned (.string ⟨l.toArray⟩) ∧ (Lib.IsBuilderF 102 5 B b (Lib.byteCells l) w' ∧ Below B w w' ∧ Lib.OthersKept 5 (some b) w w') := Any.Builder_String_any_k lay169 layX B b l w h hBw
theorem appendRune_any (B : Nat) (v : Value) (n : Nat) (xs : List Value) (r : Int) (hr0 : -2147483648 ≤ r) (hr1 : r ≤ 2147483647) (w : World) (hown : w.ownsRowF B 5 1 v n xs) (hlen : n + 4 ≤ 140737488355328) (hBw : B ≤ w.heap.size) :
    Calls Tryz.prog 185 #[v, .int .i32 r] w fun e w' => ∃ v', e = .returned v' ∧ w'.ownsRowF B 5 1 v' (n + (Lib.runeCells r).length) (xs ++ Lib.runeCells r) ∧ ∃ o, (w.alloc o).grownBy w' v.ownBlock := Any.utf8_AppendRune_own lay242 layX B v n xs r hr0 hr1 w hown hlen hBw

end Go.Proofs.YthlhopdlkkeohaaGreatDoor.N
/- The builder's WriteRune. -/
namespace Go.Proofs.YthlhopdlkkeohaaGreatDoor.U
open Go.RowKit
open N (appendRune_any)

set_option maxHeartbeats 4000000 in
set_option maxRecDepth 100000 in
theorem writeRune_any (B b : Nat) (bs : List Value) (r : Int) (hr0 : -2147483648 ≤ r) (hr1 : r ≤ 2147483647) (w : World) (h : Lib.IsBuilderF 102 5 B b bs w) (hlen : bs.length + 4 ≤ 140737488355328) (hBw : B ≤ w.heap.size) :
    Calls Tryz.prog 165 #[at0 b, .int .i32 r] w fun e w' => e = .returned (.tuple #[.int .i64 (Lib.runeCells r).length, .nilIface]) ∧ Left B b (bs ++ Lib.runeCells r) w w' := by
  have hk4 := Lib.runeCells_le r
  go_enter Tryz.func165, Tryz.ntmps165
  go_wp2_with (go_at_call 92; refine (copyCheck_any B b bs _ h).mono ?_)
  rintro e w1 ⟨rfl, hA, b1, k1⟩
  obtain ⟨u, c0, c1, _, _, hu⟩ := two_cells hA
  obtain ⟨au, cu, rfl⟩ := slice_form hu
  have hs1 := b1.size
  go_wp2_with (go_at_call 185; refine (appendRune_any B _ bs.length bs r hr0 hr1 _ hu hlen (by omega)).mono ?_)
  rintro e w2 ⟨v', rfl, hown, o, hg⟩
  obtain ⟨d0, d1, f1, R1, R2, R3⟩ := stored (v' := v') (bs' := bs ++ Lib.runeCells r) (hA.alloc o) ((World.cell?_of_block (Lib.alloc_old w1 _ b hA.lt)).trans c1) hg (by simpa using hown) (by simp; omega)
  obtain ⟨ao, cap, rfl⟩ := slice_form hown
  go_wp2
  go_ret2
  refine ⟨?_, .inr R1, b1.trans (((Below.refl B w1).alloc (by omega) _).trans R2), k1.trans (((Lib.OthersKept.refl _ _ w1).alloc _).trans R3)⟩
  simp [sub_same]


end Go.Proofs.YthlhopdlkkeohaaGreatDoor.U
/- Values' texts, as plain mathematics. -/
namespace Go.Proofs.YthlhopdlkkeohaaGreatDoor
namespace Nq
/-- A value is quoted so. -/
def isQ (b : UInt8) : Bool := b == 34 || b == 92
def quote (l : List UInt8) : List UInt8 := l.flatMap fun b => if isQ b = true then [92, b] else [b]
theorem quote_nil : quote [] = [] := rfl
theorem quote_cons (b : UInt8) (l : List UInt8) : quote (b :: l) = (if isQ b = true then [92, b] else [b]) ++ quote l := rfl
theorem quote_append (a b : List UInt8) : quote (a ++ b) = quote a ++ quote b := by simp [quote]
theorem isQ_high {b : UInt8} (h : 128 ≤ b.toNat) : isQ b = false := by
  simp only [isQ, Bool.or_eq_false_iff, beq_eq_false_iff_ne]
  constructor <;> (intro e; subst e; simp at h)
theorem quote_high {l : List UInt8} (h : ∀ x ∈ l, isQ x = false) : quote l = l := by
  induction l with
  | nil => rfl
  | cons b l ih =>
    rw [quote_cons, h b (by simp), ih (fun x hx => h x (by simp [hx]))]
    simp
theorem quote_length (l : List UInt8) : (quote l).length ≤ 2 * l.length := by
  induction l with
  | nil => simp [quote_nil]
  | cons b l ih =>
    rw [quote_cons, List.length_append, List.length_cons]
    split <;> simp <;> omega

/-- Is a character quoted? -/
def isQN (c : Nat) : Bool := c == 34 || c == 92
end Nq
namespace Vl
open Go.Lib

def tru : List UInt8 := [116, 114, 117, 101]
def fls : List UInt8 := [102, 97, 108, 115, 101]
theorem formatBool_eq (b : Bool) : formatBool b = if b then tru else fls := by cases b <;> decide +kernel
def quoted (l : List UInt8) : List UInt8 := 34 :: (Nq.quote l ++ [34])
/-- A right value's text. -/
def text (k n : Int) (l : List UInt8) : List UInt8 := if k = 1 then itoa n else if k = 2 then quoted l else if n = 1 then tru else fls
theorem text_str (l : List UInt8) : text 2 0 l = quoted l := rfl
theorem text_int (n : Int) : text 1 n [] = itoa n := rfl
theorem quoted_len (l : List UInt8) : (quoted l).length ≤ 2 * l.length + 2 := by
  have := Nq.quote_length l
  simp [quoted]; omega
theorem text_len {k n : Int} {l : List UInt8} (h : Right k n l) : (text k n l).length ≤ 130 := by
  have := h.len
  have := h.amount
  have := quoted_len l
  unfold text
  split
  · have := itoa_length_le n (by omega) (by omega); omega
  · split
    · omega
    · split <;> simp [tru, fls]


theorem decode_one (b : UInt8) (l : List UInt8) (h : b.toNat < 128) : decodeL (b :: l) = (b.toNat, 1) := by
  rcases Nm.chunk (b :: l) (by simp) with ⟨_, h2⟩ | ⟨h2, _⟩
  · simpa using h2
  · simp only [List.getD_cons_zero] at h2; omega
theorem rest_one (b : UInt8) (l : List UInt8) (h : b.toNat < 128) : Nm.rest (b :: l) = l := by
  unfold Nm.rest; rw [decode_one b l h]; rfl
theorem enc_one (b : UInt8) (h : b.toNat < 128) : encodeRune (b.toNat : Int) = [b] := by
  unfold encodeRune
  rw [encodeRuneZ_one (by omega) (by omega)]
  simp
theorem runes_some {l : List UInt8} (hne : l ≠ []) (h : utf l = true) : Nm.isBad l = false ∧ utf (Nm.rest l) = true := by
  unfold utf at *
  cases hb : Nm.isBad l with
  | true => rw [Nm.runes_bad hne hb] at h; cases h
  | false =>
    rw [Nm.runes_step hne hb] at h
    exact ⟨rfl, by simpa using h⟩

end Vl
end Go.Proofs.YthlhopdlkkeohaaGreatDoor
/- The walks of the two 'Int's and the two 'Text's: a number's bytes, a text behind its length. -/
namespace Go.Proofs.YthlhopdlkkeohaaGreatDoor
open Go.RowKit

/-- Bytes as cells. -/
def cellsOf (l : List UInt8) : List Value := l.map fun b => .int .u8 (b.toNat : Int)
theorem cellsOf_snoc (l : List UInt8) (b : UInt8) : cellsOf (l ++ [b]) = cellsOf l ++ [.int .u8 (b.toNat : Int)] := by simp [cellsOf]
theorem Tryz.info5 : (Tryz.prog.info? 5).map (fun i => (i.zero, i.size, i.bytes)) = some (some (.int .u8 0), 1, 1) := by kernel_rfl

theorem one_new (wr : World) (x : Value) : ∀ j u, [x][j]? = some u → (wr.alloc (.cells #[x] 5)).cell? ((⟨wr.heap.size, 0, none⟩ : Addr).add j) = some u := by
  intro j u hj
  match j, hj with
  | 0, hj => simp at hj; subst hj; simp [Addr.add]
theorem one_cell (n : Int) : ∀ u ∈ [Value.int .u8 n], u.oneCell' = true := by intro u hu; simp at hu; subst hu; rfl
theorem len_one {l : List UInt8} {k : Nat} (h : Hid (l.length ≤ k)) (hk : k ≤ 1000000) : l.length + 1 ≤ maxLen := by have := h.out; unfold maxLen; omega
theorem len_bytes {l : List UInt8} {k : Nat} (h : Hid (l.length ≤ k)) (hk : k ≤ 1000000) : (l.length + 1) * 1 ≤ 140737488355328 := by have := h.out; omega

theorem wrap_i64 {e : Int} (h : -9223372036854775808 ≤ e) (h' : e < 9223372036854775808) : IntKind.i64.wrap e = e := by
  simp [IntKind.wrap, IntKind.signed, IntKind.bits]; try split
  all_goals omega
theorem wrap_u8 {e : Int} (h : 0 ≤ e) (h' : e < 256) : IntKind.u8.wrap e = e := by
  simp [IntKind.wrap, IntKind.signed, IntKind.bits]; omega
theorem below_ahead {w w1 : World} (hb : Below w.drew.heap.size w.drew w1) (o : Obj) : Below w.heap.size w (w1.alloc o) :=
  ((Below.refl _ w).drew.trans hb).alloc hb.size o
theorem ret_str {a b : ByteArray} (h : a = b) : Ending.returned (.string a) = .returned (.string b) := by rw [h]
theorem cons_str (x : UInt8) (l : List UInt8) : (⟨#[x]⟩ : ByteArray) ++ ⟨l.toArray⟩ = ⟨(x :: l).toArray⟩ := by
  apply ByteArray.ext; simp

/-- A text behind its length. -/
def textL (l : List UInt8) : List UInt8 := Pk.enc l.length ++ l
theorem append_mk (l : List UInt8) (s : ByteArray) : (⟨l.toArray⟩ : ByteArray) ++ s = ⟨(l ++ s.data.toList).toArray⟩ := by
  apply ByteArray.ext; simp

end Go.Proofs.YthlhopdlkkeohaaGreatDoor
/- The walk of the document's Digits. -/
namespace Go.Proofs.YthlhopdlkkeohaaGreatDoor.N
open Go.RowKit

theorem bchain {a b c : World} (h : Below a.heap.size a b) (k : Below b.heap.size b c) : Below a.heap.size a c := h.trans (k.mono h.size)
theorem below_new (w : World) (o : Obj) : Below w.heap.size w (w.alloc o) := (Below.refl _ _).alloc (Nat.le_refl _) _
theorem below_new2 (w : World) (o p : Obj) : Below w.heap.size w ((w.alloc o).alloc p) := bchain (below_new w o) (below_new _ p)

/-- What a cell holds, it holds behind a call that leaves all that was there. -/
theorem keep_cell {W w1 : World} {a : Addr} {v : Value} (hb : Below W.heap.size W w1) (h : W.cell? a = some v) : w1.cell? a = some v := (hb.cell (World.block_lt_of_cell? W a h)).trans h

theorem dec_len {n : Nat} (h : n < 9223372036854775808) : (Lib.decDigits n).length ≤ 21 := by
  have := Lib.itoa_length_le (n : Int) (by omega) (by omega)
  rwa [Lib.itoa_nonneg] at this
theorem cat_lists (a b : List UInt8) : (⟨a.toArray⟩ : ByteArray) ++ ⟨b.toArray⟩ = ⟨(a ++ b).toArray⟩ := by apply ByteArray.ext; simp

theorem itoa_len {n : Int} (h0 : -9223372036854775808 ≤ n) (h1 : n ≤ 9223372036854775807) : (Lib.itoa n).length ≤ 21 := Lib.itoa_length_le n h0 h1
end Go.Proofs.YthlhopdlkkeohaaGreatDoor.N
