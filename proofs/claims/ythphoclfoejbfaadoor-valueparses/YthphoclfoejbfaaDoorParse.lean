/- The walks of Text (of a right value), meant, Parse. -/
import Derived.Test.YthphoclfoejbfaaDoorRights
import Derived.Test.YthphoclfoejbfaaDoorQuote
namespace Go.Proofs.YthphoclfoejbfaaDoor
open Go.RowKit

theorem quoted_list (l : List UInt8) (w : World) (hs : l.length ≤ 2000000) (hu : Vl.utf l = true) : Calls Tryd.prog 33 #[.string ⟨l.toArray⟩] w fun e w' => e = .returned (.string ⟨(Vl.quoted l).toArray⟩) ∧ Below w.heap.size w w' :=
  quoted_any ⟨l.toArray⟩ w (by rw [mk_size]; exact hs) hu
theorem formatBool_list (b : Bool) (w : World) : Calls Tryd.prog 34 #[.bool b] w fun e w' => e = .returned (.string ⟨(if b then Vl.tru else Vl.fls).toArray⟩) ∧ Below w.heap.size w w' := by
  refine (formatBool_any b w).mono ?_
  rintro e w' ⟨rfl, rfl⟩
  rw [Vl.formatBool_eq]
  exact ⟨rfl, Below.refl _ _⟩

set_option maxRecDepth 20000 in
theorem text_right (k n : Int) (l : List UInt8) (w : World) (hk : Keeps w) (h : Vl.Right k n l) : Calls Tryd.prog 12 #[valV k n l] w fun e w' => e = .returned (.string ⟨(Vl.text k n l).toArray⟩) ∧ Below w.heap.size w w' := by
  have hlen := h.len
  have hu := h.utf
  have ham := h.amount
  rcases h with ⟨rfl, rfl, h1, h2⟩ | ⟨rfl, rfl, h1, h2⟩ | ⟨rfl, rfl, h1, h2⟩
  · have C25 : ∀ w, Calls Tryd.prog 25 #[valV 1 n []] w fun e w' => e = .returned (.iface 3 (.int .i64 n)) ∧ Below w.heap.size w w' := fun w => inside_any 1 n [] w
    have C32 := fun w (hk : Keeps w) => itoa_any n w hk (by omega) (by omega)
    have A := as3_3
    rw [show Vl.text 1 n [] = Lib.itoa n from rfl]
    generalize Lib.itoa n = t at *
    go_enter Tryd.func12, Tryd.ntmps12
    go_wp2_with (first
      | (go_at_call 25; refine (C25 _).mono ?_; rintro e w1 ⟨rfl, hb1⟩; have B1 := bchain (below_new w (valO 1 n [])) hb1)
      | (go_at_call 32; refine (C32 _ (hk.on B1)).mono ?_; rintro e w2 ⟨rfl, hb2⟩))
    go_ret
    exact ⟨rfl, bchain B1 hb2⟩
  · have C25 : ∀ w, Calls Tryd.prog 25 #[valV 2 0 l] w fun e w' => e = .returned (.iface 9 (.string ⟨l.toArray⟩)) ∧ Below w.heap.size w w' := fun w => inside_any 2 0 l w
    have C33 := fun w => quoted_list l w (by omega) hu
    have A := as9_3
    have B := as9_9
    rw [Vl.text_str]
    generalize Vl.quoted l = t at *
    go_enter Tryd.func12, Tryd.ntmps12
    go_wp2_with (first
      | (go_at_call 25; refine (C25 _).mono ?_; rintro e w1 ⟨rfl, hb1⟩; have B1 := bchain (below_new w (valO 2 0 l)) hb1)
      | (go_at_call 33; refine (C33 _).mono ?_; rintro e w2 ⟨rfl, hb2⟩))
    go_ret
    exact ⟨rfl, bchain B1 hb2⟩
  · have C25 : ∀ w, Calls Tryd.prog 25 #[valV 3 n []] w fun e w' => e = .returned (.iface 4 (.bool (n == 1))) ∧ Below w.heap.size w w' := fun w => inside_any 3 n [] w
    have C34 := formatBool_list (n == 1)
    have A := as4_3
    have B := as4_9
    have C := as4_4
    rw [show (if (n == 1) = true then Vl.tru else Vl.fls) = Vl.text 3 n [] by rw [show Vl.text 3 n [] = (if n = 1 then Vl.tru else Vl.fls) from rfl]; by_cases e : n = 1 <;> simp [e]] at C34
    generalize Vl.text 3 n [] = t at *
    generalize (n == 1) = q at *
    go_enter Tryd.func12, Tryd.ntmps12
    go_wp2_with (first
      | (go_at_call 25; refine (C25 _).mono ?_; rintro e w1 ⟨rfl, hb1⟩; have B1 := bchain (below_new w (valO 3 n [])) hb1)
      | (go_at_call 34; refine (C34 _).mono ?_; rintro e w2 ⟨rfl, hb2⟩))
    go_ret
    exact ⟨rfl, bchain B1 hb2⟩

theorem unquoted_list (l : List UInt8) (w : World) (hs : l.length ≤ 2000000) : Calls Tryd.prog 58 #[.string ⟨l.toArray⟩] w fun e w' => e = .returned (.string ⟨(Vl.unq l).toArray⟩) ∧ Below w.heap.size w w' :=
  unquoted_any ⟨l.toArray⟩ w (by rw [mk_size]; exact hs)
theorem hasPrefix_list (l : List UInt8) (w : World) : Calls Tryd.prog 57 #[.string ⟨l.toArray⟩, .string ⟨#[34]⟩] w fun e w' => e = .returned (.bool (Lib.hasPrefix l [34])) ∧ w' = w := hasPrefix_any ⟨l.toArray⟩ ⟨#[34]⟩ w
theorem err_nil (N : Nat) : ∀ W, (binOp .eql 72 (.iface 100 (.pointer (some ⟨N, 0, none⟩))) .nilIface).run Tryd.prog W = .ok (.bool false) W := fun W => by kernel_rfl
theorem nil_nil : ∀ W, (binOp .eql 72 .nilIface .nilIface).run Tryd.prog W = .ok (.bool true) W := fun W => by kernel_rfl

set_option maxRecDepth 20000 in
theorem meant_any (l : List UInt8) (w : World) (hk : Keeps w) (hl : l.length ≤ 2000000) : Calls Tryd.prog 41 #[.string ⟨l.toArray⟩] w fun e w' => e = .returned (inV (Vl.meant l)) ∧ Below w.heap.size w w' := by
  have C57 := hasPrefix_list l
  cases hp : Lib.hasPrefix l [34] with
  | true =>
    rw [hp] at C57
    have C58 := fun w => unquoted_list l w hl
    rw [show Vl.meant l = .str (Vl.unq l) by unfold Vl.meant; rw [if_pos hp]]
    show Calls Tryd.prog 41 #[.string ⟨l.toArray⟩] w fun e w' => e = .returned (.iface 9 (.string ⟨(Vl.unq l).toArray⟩)) ∧ Below w.heap.size w w'
    generalize Vl.unq l = t at *
    clear hp
    go_enter Tryd.func41, Tryd.ntmps41
    go_wp2_with (first
      | (go_at_call 57; refine (C57 _).mono ?_; rintro e w1 ⟨rfl, hw⟩; have hw := hw.symm; subst hw)
      | (go_at_call 58; refine (C58 _).mono ?_; rintro e w2 ⟨rfl, hb2⟩))
    go_ret
    exact ⟨rfl, hb2⟩
  | false =>
    rw [hp] at C57
    have hn : Vl.meant l = match Lib.atoiAll l with | .ok v => .int v | _ => .bool (l == Vl.tru) := by unfold Vl.meant; rw [if_neg (by rw [hp]; simp)]; rfl
    by_cases ha : ∃ v, Lib.atoiAll l = .ok v
    · obtain ⟨v, ha⟩ := ha
      rw [ha] at hn
      have C59 := fun w => atoi_ok ⟨l.toArray⟩ v w (by rw [mk_size]; omega) ha
      have E := nil_nil
      rw [hn]
      show Calls Tryd.prog 41 #[.string ⟨l.toArray⟩] w fun e w' => e = .returned (.iface 3 (.int .i64 v)) ∧ Below w.heap.size w w'
      clear hp hn ha
      go_enter Tryd.func41, Tryd.ntmps41
      go_wp2_with (first
        | (go_at_call 57; refine (C57 _).mono ?_; rintro e w1 ⟨rfl, hw⟩; have hw := hw.symm; subst hw)
        | (go_at_call 59; refine (C59 _).mono ?_; rintro e w2 ⟨rfl, hb2⟩))
      go_ret
      exact ⟨rfl, hb2⟩
    · have ha' : ∀ v, Lib.atoiAll l ≠ .ok v := fun v e => ha ⟨v, e⟩
      have C59 := fun w hk => atoi_no ⟨l.toArray⟩ w hk (by rw [mk_size]; omega) ha'
      have hn' : Vl.meant l = .bool (l == Vl.tru) := by
        rw [hn]
        cases hx : Lib.atoiAll l with
        | ok v => exact absurd hx (ha' v)
        | «syntax» => rfl
        | range => rfl
      rw [hn']
      have C34 : ∀ w, Calls Tryd.prog 34 #[.bool true] w fun e w' => e = .returned (.string ⟨Vl.tru.toArray⟩) ∧ Below w.heap.size w w' := fun w => formatBool_list true w
      show Calls Tryd.prog 41 #[.string ⟨l.toArray⟩] w fun e w' => e = .returned (.iface 4 (.bool (l == Vl.tru))) ∧ Below w.heap.size w w'
      generalize Vl.tru = tr at *
      clear hp hn ha hn' ha'
      go_enter Tryd.func41, Tryd.ntmps41
      go_wp2_with (first
        | (go_at_call 57; refine (C57 _).mono ?_; rintro e w1 ⟨rfl, hw⟩; have hw := hw.symm; subst hw)
        | (go_at_call 59; refine (C59 _ hk).mono ?_; rintro e w2 ⟨v, N, rfl, hb2⟩; have E := err_nil N)
        | (go_at_call 34; refine (C34 _).mono ?_; rintro e w3 ⟨rfl, hb3⟩))
      go_ret
      exact ⟨rfl, bchain hb2 hb3⟩

set_option maxRecDepth 20000 in
set_option maxHeartbeats 1000000 in
theorem parse_some (l : List UInt8) (k n : Int) (t : List UInt8) (w : World) (hk : Keeps w) (hl : l.length ≤ 200000) (hp : Vl.pars l = some (k, n, t)) :
    Calls Tryd.prog 16 #[.string ⟨l.toArray⟩] w fun e w' => e = .returned (.tuple #[valV k n t, .int .i64 0]) ∧ Below w.heap.size w w' := by
  obtain ⟨hr, ht⟩ := Vl.pars_iff.1 hp
  have hm : Vl.meant l = Vl.inside k n t := by rw [← ht]; exact Vl.meant_text hr
  obtain ⟨i1, i2, i3⟩ := Vl.inside_is hr
  have C41 := fun w hk => meant_any l w hk (by omega)
  rw [hm] at C41
  have C24 := holding_any (Vl.inside k n t)
  rw [i1, i2, i3] at C24
  have C8 := right_any k n t
  rw [Vl.right_yes hr] at C8
  have C12 := fun w hk => text_right k n t w hk hr
  rw [ht] at C12
  have hne : (l != l) = false := by simp
  have Z := VAt.new w 0 0 []
  generalize inV (Vl.inside k n t) = x at *
  clear hr ht hp hm i1 i2 i3
  go_enter Tryd.func16, Tryd.ntmps16
  go_wp2_with (first
    | (go_at_call 41; refine (C41 _ (hk.on (below_new w _))).mono ?_; rintro e w1 ⟨rfl, hb1⟩; have B1 := bchain (below_new w (valO 0 0 [])) hb1)
    | (go_at_call 24; refine (C24 _).mono ?_; rintro e w2 ⟨rfl, hb2⟩; have B2 := bchain (bchain B1 hb2) (below_new w2 (valO k n t)); have V2 := VAt.new w2 k n t)
    | (go_at_call 8; refine (C8 _).mono ?_; rintro e w3 ⟨rfl, hb3⟩; have B3 := bchain B2 hb3; have V3 := V2.on hb3; have c0 := V3.c0; have c1 := V3.c1; have c2 := V3.c2)
    | (go_at_call 12; refine (C12 _ (hk.on B3)).mono ?_; rintro e w4 ⟨rfl, hb4⟩; have B4 := bchain B3 hb4; have V4 := V3.on hb4; have d0 := V4.c0; have d1 := V4.c1; have d2 := V4.c2; have Z4 := ((((Z.on hb1).on hb2).on (below_new w2 (valO k n t))).on hb3).on hb4; have z0 := Z4.c0; have z1 := Z4.c1; have z2 := Z4.c2; have y0 := Z4.f0; have y1 := Z4.f1; have y2 := Z4.f2))
  have R := Z4.set k n t
  refine bodyPost_ret (v := .tuple #[valV k n t, .int .i64 0]) (by simp [results, Tryd.results16, go_sem, R.c0, R.c1, R.c2]) rfl ⟨rfl, below_set3 B4 (Nat.le_refl _) _ _ _⟩

set_option maxRecDepth 20000 in
set_option maxHeartbeats 1000000 in
theorem parse_none (l : List UInt8) (w : World) (hk : Keeps w) (hl : l.length ≤ 200000) (hp : Vl.pars l = none) :
    Calls Tryd.prog 16 #[.string ⟨l.toArray⟩] w fun e w' => e = .returned (.tuple #[valV 0 0 [], .int .i64 19]) ∧ Below w.heap.size w w' := by
  have C41 := fun w hk => meant_any l w hk (by omega)
  have C24 := holding_any (Vl.meant l)
  have C8 := right_any (Vl.meant l).k (Vl.meant l).n (Vl.meant l).s
  have Z := VAt.new w 0 0 []
  unfold Vl.pars at hp
  cases hr : Vl.right (Vl.meant l).k (Vl.meant l).n (Vl.meant l).s with
  | true =>
    rw [hr] at C8 hp
    have C12 := fun w hk => text_right (Vl.meant l).k (Vl.meant l).n (Vl.meant l).s w hk (Vl.right_iff.1 hr)
    have hne : (Vl.text (Vl.meant l).k (Vl.meant l).n (Vl.meant l).s == l) = false := by
      rw [beq_eq_false_iff_ne]
      intro e
      rw [if_pos ⟨rfl, e⟩] at hp
      cases hp
    generalize Vl.text (Vl.meant l).k (Vl.meant l).n (Vl.meant l).s = tx at *
    generalize inV (Vl.meant l) = x at *
    generalize (Vl.meant l).k = k at *
    generalize (Vl.meant l).n = n at *
    generalize (Vl.meant l).s = t at *
    clear hr hp
    go_enter Tryd.func16, Tryd.ntmps16
    go_wp2_with (first
      | (go_at_call 41; refine (C41 _ (hk.on (below_new w _))).mono ?_; rintro e w1 ⟨rfl, hb1⟩; have B1 := bchain (below_new w (valO 0 0 [])) hb1)
      | (go_at_call 24; refine (C24 _).mono ?_; rintro e w2 ⟨rfl, hb2⟩; have B2 := bchain (bchain B1 hb2) (below_new w2 (valO k n t)); have V2 := VAt.new w2 k n t)
      | (go_at_call 8; refine (C8 _).mono ?_; rintro e w3 ⟨rfl, hb3⟩; have B3 := bchain B2 hb3; have V3 := V2.on hb3; have c0 := V3.c0; have c1 := V3.c1; have c2 := V3.c2)
      | (go_at_call 12; refine (C12 _ (hk.on B3)).mono ?_; rintro e w4 ⟨rfl, hb4⟩; have B4 := bchain B3 hb4; have Z4 := ((((Z.on hb1).on hb2).on (below_new w2 (valO k n t))).on hb3).on hb4; have z0 := Z4.c0; have z1 := Z4.c1; have z2 := Z4.c2; have y0 := Z4.f0; have y1 := Z4.f1; have y2 := Z4.f2))
    have R := Z4.set 0 0 []
    refine bodyPost_ret (v := .tuple #[valV 0 0 [], .int .i64 19]) (by simp [results, Tryd.results16, go_sem, R.c0, R.c1, R.c2]) rfl ⟨rfl, below_set3 B4 (Nat.le_refl _) _ _ _⟩
  | false =>
    rw [hr] at C8
    generalize inV (Vl.meant l) = x at *
    generalize (Vl.meant l).k = k at *
    generalize (Vl.meant l).n = n at *
    generalize (Vl.meant l).s = t at *
    clear hr hp
    go_enter Tryd.func16, Tryd.ntmps16
    go_wp2_with (first
      | (go_at_call 41; refine (C41 _ (hk.on (below_new w _))).mono ?_; rintro e w1 ⟨rfl, hb1⟩; have B1 := bchain (below_new w (valO 0 0 [])) hb1)
      | (go_at_call 24; refine (C24 _).mono ?_; rintro e w2 ⟨rfl, hb2⟩; have B2 := bchain (bchain B1 hb2) (below_new w2 (valO k n t)); have V2 := VAt.new w2 k n t)
      | (go_at_call 8; refine (C8 _).mono ?_; rintro e w3 ⟨rfl, hb3⟩; have B3 := bchain B2 hb3; have Z4 := (((Z.on hb1).on hb2).on (below_new w2 (valO k n t))).on hb3; have z0 := Z4.c0; have z1 := Z4.c1; have z2 := Z4.c2; have y0 := Z4.f0; have y1 := Z4.f1; have y2 := Z4.f2))
    have R := Z4.set 0 0 []
    refine bodyPost_ret (v := .tuple #[valV 0 0 [], .int .i64 19]) (by simp [results, Tryd.results16, go_sem, R.c0, R.c1, R.c2]) rfl ⟨rfl, below_set3 B3 (Nat.le_refl _) _ _ _⟩
end Go.Proofs.YthphoclfoejbfaaDoor
