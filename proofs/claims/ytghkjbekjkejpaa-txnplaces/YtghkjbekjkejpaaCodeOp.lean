/- The walks of Code, both sides, of an operation that may be, or of which nothing is left. -/
import Derived.Test.YtghkjbekjkejpaaCodes2
import Derived.Test.YtghkjbekjkejpaaCheck
import Derived.Test.YtghkjbekjkejpaaCodes
import Derived.Test.YtghkjbekjkejpaaTexts
namespace Go.Proofs.Ytghkjbekjkejpaa.O
open Go.RowKit

theorem ret_strL {a : ByteArray} {l : List UInt8} (h : a = ⟨l.toArray⟩) : Ending.returned (.string a) = .returned (.string ⟨l.toArray⟩) := by rw [h]
theorem gone_no {k : Int} {p : List (List UInt8)} {vk vn : Int} {vs : List UInt8} {n : Int} {l : List U} (h : k ≠ 0) : Os.gone ⟨k, p, vk, vn, vs, n, l⟩ = false := decide_eq_false fun x => h x.1
/-- Lengths of an operation's parts. -/
theorem path_few {xs : List (List UInt8)} (h : Pt.check xs = 0) : U.Few xs := by
  have h1 := Pt.check_zero h
  exact ⟨by omega, fun x hx => by have := Pt.right_len (h1.2.2 x hx); omega⟩
theorem vcode_len {k n : Int} {l : List UInt8} (h : Vl.Right k n l) : (Vl.code k n l).length ≤ 200 := by
  have h1 := h.len
  have h2 := h.amount
  have h3 := h.kind
  have h4 := Vl.fold_pos n
  have h5 := Vl.fold_le h2.1 h2.2
  have e1 := Pk.enc_len9 (n := k.toNat) (by omega)
  have e2 := Pk.enc_len9 (n := l.length) (by omega)
  have e3 := Pk.enc_len9 (n := (Vl.fold n).toNat) (by omega)
  unfold Vl.code
  rw [List.length_append]
  split
  · rw [List.length_append]; omega
  · omega
theorem lcode_len {l : List U} (hu : ∀ u ∈ l, Os.ok u = true) (hn : l.length ≤ 300) : (Os.lcode l).length ≤ 9000 := by
  have h1 := Os.rcodes_len hu
  have e1 := Pk.enc_len9 (n := l.length) (by omega)
  unfold Os.lcode
  rw [List.length_append]
  omega

set_option maxRecDepth 20000 in
set_option maxHeartbeats 4000000 in
theorem code_1 (pv : Value) (vk vn : Int) (vs : List UInt8) (n : Int) (sv : Value) (p : List (List UInt8)) (l : List U) (w : World) (hp : U.strsAt w pv p) (hs : refsIn w sv l) (hc : Os.check ⟨1, p, vk, vn, vs, n, l⟩ = 0) :
    Calls Try.prog 41 #[opV 1 pv vk vn vs n sv] w fun e w' => e = .returned (.string ⟨(Os.code ⟨1, p, vk, vn, vs, n, l⟩).toArray⟩) ∧ Below w.heap.size w w' := by
  obtain ⟨-, -, h3, h4, h5, h6, h7, h8⟩ := Os.check_zero hc
  have hf : U.Few p := path_few h3
  have hu : Os.Ups l := Os.ups_iff.1 h8
  have hpl : p.length ≤ 12 := hf.1
  have hll : l.length ≤ 300 := Nat.le_trans h7 (by decide)
  have hg : Os.gone ⟨1, p, vk, vn, vs, n, l⟩ = false := gone_no (by decide)
  have hr : Vl.Right vk vn vs := by
    have h : Os.rv ⟨1, p, vk, vn, vs, n, l⟩ = Vl.right vk vn vs := by unfold Os.rv; rw [if_pos (by show Os.hv 1 = true; decide)]
    exact Vl.right_iff.1 (h.symm.trans h4)
  have hcode : Os.code ⟨1, p, vk, vn, vs, n, l⟩ = Pk.enc 1 ++ (Pt.code p ++ (Vl.code vk vn vs ++ ([] ++ Os.lcode l))) := by
    unfold Os.code
    rw [if_neg (by rw [hg]; decide)]
    rfl
  rw [hcode]
  have Ck := fun w => int_any 1 w (by decide) (by decide)
  have Cg := fun W (hb : Below w.heap.size w W) => gone_any 1 pv vk vn vs n sv p l W (by omega) (by omega) (U.strsAt_below hp hb (Nat.le_refl _)) (hs.on hb)
  rw [hg] at Cg
  have Cp := fun W (hb : Below w.heap.size w W) => U.code_any pv p W hf (U.strsAt_below hp hb (Nat.le_refl _))
  have Cv := fun w => V.code_right vk vn vs w hr
  have l3 := vcode_len hr
  have C47 := fun w => hv_any 1 w
  have C49 := fun w => ha_any 1 w
  have C36 := fun w => hs_any 1 w
  rw [show Os.hv 1 = true by decide] at C47
  rw [show Os.ha 1 = false by decide] at C49
  rw [show Os.hs 1 = true by decide] at C36
  have Cr := fun W (hb : Below w.heap.size w W) => codeRefs_any sv l W (hs.on hb) hll hu.1
  have l4 := lcode_len hu.1 hll
  have l1 : (Pk.enc (1 : Int).toNat).length ≤ 9 := Pk.enc_len9 (by decide)
  have l2 := hf.code
  have B0 := below_new w (opO 1 pv vk vn vs n sv)
  have O0 := OAt.new w 1 pv vk vn vs n sv
  show Calls Try.prog 41 #[opV 1 pv vk vn vs n sv] w fun e w' => e = .returned (.string ⟨(Pk.enc (1 : Int).toNat ++ (Pt.code p ++ (Vl.code vk vn vs ++ ([] ++ Os.lcode l)))).toArray⟩) ∧ Below w.heap.size w w'
  generalize Pk.enc (1 : Int).toNat = x1 at *
  generalize Pt.code p = x2 at *
  generalize Vl.code vk vn vs = x3 at *
  generalize Os.lcode l = x4 at *
  have a1 : ¬ 9223372036854775807 < x1.length + x2.length := by omega
  have a2 : ¬ 9223372036854775807 < x1.length + x2.length + x3.length := by omega
  have a3 : ¬ 9223372036854775807 < x1.length + x2.length + x3.length + x4.length := by omega
  clear hp hs hc hcode hg h3 h4 h5 h6 h7 h8 hf hu hpl hll l1 l2 l3 l4 hr
  go_enter Try.func41, Try.ntmps41
  go_wp2_with (first
    | (go_at_call 40; (with_reducible refine (Ck _).mono ?_); rintro e w1 ⟨rfl, hb1⟩; have B1 := bchain B0 hb1; have O1 := O0.on hb1; obtain ⟨c0, c1, c2, c3, c4, c5, c6⟩ := id O1)
    | (go_at_call 53; refine (Cg _ B1).mono ?_; rintro e w2 ⟨rfl, hb2⟩; have B2 := bchain B1 hb2; have O2 := O1.on hb2; obtain ⟨c0, c1, c2, c3, c4, c5, c6⟩ := id O2)
    | (go_at_call 61; refine (Cp _ B2).mono ?_; rintro e w3 ⟨rfl, hb3⟩; have B3 := bchain B2 hb3; have O3 := O2.on hb3; obtain ⟨c0, c1, c2, c3, c4, c5, c6⟩ := id O3)
    | (go_at_call 62; refine (C47 _).mono ?_; rintro e wq ⟨rfl, hw⟩; have hw := hw.symm; subst hw)
    | (go_at_call 64; refine (C49 _).mono ?_; rintro e wq ⟨rfl, hw⟩; have hw := hw.symm; subst hw)
    | (go_at_call 66; refine (C36 _).mono ?_; rintro e wq ⟨rfl, hw⟩; have hw := hw.symm; subst hw)
    | (go_at_call 63; refine (Cv _).mono ?_; rintro e w4 ⟨rfl, hb4⟩; have B4 := bchain B3 hb4; have O4 := O3.on hb4; obtain ⟨c0, c1, c2, c3, c4, c5, c6⟩ := id O4)
    | (go_at_call 67; refine (Cr _ B4).mono ?_; rintro e w6 ⟨rfl, hb6⟩; have B6 := bchain B4 hb6))
  go_ret
  exact ⟨ret_strL (by simp only [cat_lists, List.append_assoc]), B6⟩

set_option maxRecDepth 20000 in
set_option maxHeartbeats 4000000 in
theorem code_2 (pv : Value) (vk vn : Int) (vs : List UInt8) (n : Int) (sv : Value) (p : List (List UInt8)) (l : List U) (w : World) (hp : U.strsAt w pv p) (hs : refsIn w sv l) (hc : Os.check ⟨2, p, vk, vn, vs, n, l⟩ = 0) :
    Calls Try.prog 41 #[opV 2 pv vk vn vs n sv] w fun e w' => e = .returned (.string ⟨(Os.code ⟨2, p, vk, vn, vs, n, l⟩).toArray⟩) ∧ Below w.heap.size w w' := by
  obtain ⟨-, -, h3, h4, h5, h6, h7, h8⟩ := Os.check_zero hc
  have hf : U.Few p := path_few h3
  have hu : Os.Ups l := Os.ups_iff.1 h8
  have hpl : p.length ≤ 12 := hf.1
  have hll : l.length ≤ 300 := Nat.le_trans h7 (by decide)
  have hg : Os.gone ⟨2, p, vk, vn, vs, n, l⟩ = false := gone_no (by decide)
  have hr : Vl.Right vk vn vs := by
    have h : Os.rv ⟨2, p, vk, vn, vs, n, l⟩ = Vl.right vk vn vs := by unfold Os.rv; rw [if_pos (by show Os.hv 2 = true; decide)]
    exact Vl.right_iff.1 (h.symm.trans h4)
  have hcode : Os.code ⟨2, p, vk, vn, vs, n, l⟩ = Pk.enc 2 ++ (Pt.code p ++ (Vl.code vk vn vs ++ ([] ++ []))) := by
    unfold Os.code
    rw [if_neg (by rw [hg]; decide)]
    rfl
  rw [hcode]
  have Ck := fun w => int_any 2 w (by decide) (by decide)
  have Cg := fun W (hb : Below w.heap.size w W) => gone_any 2 pv vk vn vs n sv p l W (by omega) (by omega) (U.strsAt_below hp hb (Nat.le_refl _)) (hs.on hb)
  rw [hg] at Cg
  have Cp := fun W (hb : Below w.heap.size w W) => U.code_any pv p W hf (U.strsAt_below hp hb (Nat.le_refl _))
  have Cv := fun w => V.code_right vk vn vs w hr
  have l3 := vcode_len hr
  have C47 := fun w => hv_any 2 w
  have C49 := fun w => ha_any 2 w
  have C36 := fun w => hs_any 2 w
  rw [show Os.hv 2 = true by decide] at C47
  rw [show Os.ha 2 = false by decide] at C49
  rw [show Os.hs 2 = false by decide] at C36
  have l1 : (Pk.enc (2 : Int).toNat).length ≤ 9 := Pk.enc_len9 (by decide)
  have l2 := hf.code
  have B0 := below_new w (opO 2 pv vk vn vs n sv)
  have O0 := OAt.new w 2 pv vk vn vs n sv
  show Calls Try.prog 41 #[opV 2 pv vk vn vs n sv] w fun e w' => e = .returned (.string ⟨(Pk.enc (2 : Int).toNat ++ (Pt.code p ++ (Vl.code vk vn vs ++ ([] ++ [])))).toArray⟩) ∧ Below w.heap.size w w'
  generalize Pk.enc (2 : Int).toNat = x1 at *
  generalize Pt.code p = x2 at *
  generalize Vl.code vk vn vs = x3 at *
  have a1 : ¬ 9223372036854775807 < x1.length + x2.length := by omega
  have a2 : ¬ 9223372036854775807 < x1.length + x2.length + x3.length := by omega
  clear hp hs hc hcode hg h3 h4 h5 h6 h7 h8 hf hu hpl hll l1 l2 l3 hr
  go_enter Try.func41, Try.ntmps41
  go_wp2_with (first
    | (go_at_call 40; (with_reducible refine (Ck _).mono ?_); rintro e w1 ⟨rfl, hb1⟩; have B1 := bchain B0 hb1; have O1 := O0.on hb1; obtain ⟨c0, c1, c2, c3, c4, c5, c6⟩ := id O1)
    | (go_at_call 53; refine (Cg _ B1).mono ?_; rintro e w2 ⟨rfl, hb2⟩; have B2 := bchain B1 hb2; have O2 := O1.on hb2; obtain ⟨c0, c1, c2, c3, c4, c5, c6⟩ := id O2)
    | (go_at_call 61; refine (Cp _ B2).mono ?_; rintro e w3 ⟨rfl, hb3⟩; have B3 := bchain B2 hb3; have O3 := O2.on hb3; obtain ⟨c0, c1, c2, c3, c4, c5, c6⟩ := id O3)
    | (go_at_call 62; refine (C47 _).mono ?_; rintro e wq ⟨rfl, hw⟩; have hw := hw.symm; subst hw)
    | (go_at_call 64; refine (C49 _).mono ?_; rintro e wq ⟨rfl, hw⟩; have hw := hw.symm; subst hw)
    | (go_at_call 66; refine (C36 _).mono ?_; rintro e wq ⟨rfl, hw⟩; have hw := hw.symm; subst hw)
    | (go_at_call 63; refine (Cv _).mono ?_; rintro e w4 ⟨rfl, hb4⟩; have B4 := bchain B3 hb4; have O4 := O3.on hb4; obtain ⟨c0, c1, c2, c3, c4, c5, c6⟩ := id O4))
  go_ret
  exact ⟨ret_strL (by simp only [cat_lists, List.append_nil, List.append_assoc]), B4⟩

set_option maxRecDepth 20000 in
set_option maxHeartbeats 4000000 in
theorem code_3 (pv : Value) (vk vn : Int) (vs : List UInt8) (n : Int) (sv : Value) (p : List (List UInt8)) (l : List U) (w : World) (hp : U.strsAt w pv p) (hs : refsIn w sv l) (hc : Os.check ⟨3, p, vk, vn, vs, n, l⟩ = 0) :
    Calls Try.prog 41 #[opV 3 pv vk vn vs n sv] w fun e w' => e = .returned (.string ⟨(Os.code ⟨3, p, vk, vn, vs, n, l⟩).toArray⟩) ∧ Below w.heap.size w w' := by
  obtain ⟨-, -, h3, h4, h5, h6, h7, h8⟩ := Os.check_zero hc
  have hf : U.Few p := path_few h3
  have hu : Os.Ups l := Os.ups_iff.1 h8
  have hpl : p.length ≤ 12 := hf.1
  have hll : l.length ≤ 300 := Nat.le_trans h7 (by decide)
  have hg : Os.gone ⟨3, p, vk, vn, vs, n, l⟩ = false := gone_no (by decide)
  have hn : -2147483647 ≤ n ∧ n ≤ 2147483647 := by
    have h : Os.ra ⟨3, p, vk, vn, vs, n, l⟩ = decide (n ≠ 0 ∧ -2147483647 ≤ n ∧ n ≤ 2147483647) := by unfold Os.ra; rw [if_pos (by show Os.ha 3 = true; decide)]
    have h' := of_decide_eq_true (h.symm.trans h5)
    omega
  have hf0 := Vl.fold_pos n
  have hf1 := Vl.fold_le hn.1 hn.2
  have hcode : Os.code ⟨3, p, vk, vn, vs, n, l⟩ = Pk.enc 3 ++ (Pt.code p ++ ([] ++ (Pk.enc (Vl.fold n).toNat ++ []))) := by
    unfold Os.code
    rw [if_neg (by rw [hg]; decide)]
    rfl
  rw [hcode]
  have Ck := fun w => int_any 3 w (by decide) (by decide)
  have Cg := fun W (hb : Below w.heap.size w W) => gone_any 3 pv vk vn vs n sv p l W (by omega) (by omega) (U.strsAt_below hp hb (Nat.le_refl _)) (hs.on hb)
  rw [hg] at Cg
  have Cp := fun W (hb : Below w.heap.size w W) => U.code_any pv p W hf (U.strsAt_below hp hb (Nat.le_refl _))
  have Cfo := fun w => fold_any n w (by omega) (by omega)
  have Cf := fun w => int_any (Vl.fold n) w (by omega) (by omega)
  have l3 := Pk.enc_len9 (n := (Vl.fold n).toNat) (by omega)
  have C47 := fun w => hv_any 3 w
  have C49 := fun w => ha_any 3 w
  have C36 := fun w => hs_any 3 w
  rw [show Os.hv 3 = false by decide] at C47
  rw [show Os.ha 3 = true by decide] at C49
  rw [show Os.hs 3 = false by decide] at C36
  have l1 : (Pk.enc (3 : Int).toNat).length ≤ 9 := Pk.enc_len9 (by decide)
  have l2 := hf.code
  have B0 := below_new w (opO 3 pv vk vn vs n sv)
  have O0 := OAt.new w 3 pv vk vn vs n sv
  show Calls Try.prog 41 #[opV 3 pv vk vn vs n sv] w fun e w' => e = .returned (.string ⟨(Pk.enc (3 : Int).toNat ++ (Pt.code p ++ ([] ++ (Pk.enc (Vl.fold n).toNat ++ [])))).toArray⟩) ∧ Below w.heap.size w w'
  generalize Pk.enc (3 : Int).toNat = x1 at *
  generalize Pt.code p = x2 at *
  generalize Pk.enc (Vl.fold n).toNat = x3 at *
  generalize Vl.fold n = fo at *
  have a1 : ¬ 9223372036854775807 < x1.length + x2.length := by omega
  have a2 : ¬ 9223372036854775807 < x1.length + x2.length + x3.length := by omega
  clear hp hs hc hcode hg h3 h4 h5 h6 h7 h8 hf hu hpl hll l1 l2 l3 hn hf0 hf1
  go_enter Try.func41, Try.ntmps41
  go_wp2_with (first
    | (go_at_call 40; first | ((with_reducible refine (Ck _).mono ?_); rintro e w1 ⟨rfl, hb1⟩; have B1 := bchain B0 hb1; have O1 := O0.on hb1; obtain ⟨c0, c1, c2, c3, c4, c5, c6⟩ := id O1) | ((with_reducible refine (Cf _).mono ?_); rintro e w5 ⟨rfl, hb5⟩; have B5 := bchain B3 hb5; have O5 := O3.on hb5; obtain ⟨c0, c1, c2, c3, c4, c5, c6⟩ := id O5))
    | (go_at_call 53; refine (Cg _ B1).mono ?_; rintro e w2 ⟨rfl, hb2⟩; have B2 := bchain B1 hb2; have O2 := O1.on hb2; obtain ⟨c0, c1, c2, c3, c4, c5, c6⟩ := id O2)
    | (go_at_call 61; refine (Cp _ B2).mono ?_; rintro e w3 ⟨rfl, hb3⟩; have B3 := bchain B2 hb3; have O3 := O2.on hb3; obtain ⟨c0, c1, c2, c3, c4, c5, c6⟩ := id O3)
    | (go_at_call 62; refine (C47 _).mono ?_; rintro e wq ⟨rfl, hw⟩; have hw := hw.symm; subst hw)
    | (go_at_call 64; refine (C49 _).mono ?_; rintro e wq ⟨rfl, hw⟩; have hw := hw.symm; subst hw)
    | (go_at_call 66; refine (C36 _).mono ?_; rintro e wq ⟨rfl, hw⟩; have hw := hw.symm; subst hw)
    | (go_at_call 65; refine (Cfo _).mono ?_; rintro e wq ⟨rfl, hw⟩; have hw := hw.symm; subst hw))
  go_ret
  exact ⟨ret_strL (by simp only [cat_lists, List.append_nil, List.append_assoc]), B5⟩

set_option maxRecDepth 20000 in
set_option maxHeartbeats 4000000 in
theorem code_4 (pv : Value) (vk vn : Int) (vs : List UInt8) (n : Int) (sv : Value) (p : List (List UInt8)) (l : List U) (w : World) (hp : U.strsAt w pv p) (hs : refsIn w sv l) (hc : Os.check ⟨4, p, vk, vn, vs, n, l⟩ = 0) :
    Calls Try.prog 41 #[opV 4 pv vk vn vs n sv] w fun e w' => e = .returned (.string ⟨(Os.code ⟨4, p, vk, vn, vs, n, l⟩).toArray⟩) ∧ Below w.heap.size w w' := by
  obtain ⟨-, -, h3, h4, h5, h6, h7, h8⟩ := Os.check_zero hc
  have hf : U.Few p := path_few h3
  have hu : Os.Ups l := Os.ups_iff.1 h8
  have hpl : p.length ≤ 12 := hf.1
  have hll : l.length ≤ 300 := Nat.le_trans h7 (by decide)
  have hg : Os.gone ⟨4, p, vk, vn, vs, n, l⟩ = false := gone_no (by decide)
  have hr : Vl.Right vk vn vs := by
    have h : Os.rv ⟨4, p, vk, vn, vs, n, l⟩ = Vl.right vk vn vs := by unfold Os.rv; rw [if_pos (by show Os.hv 4 = true; decide)]
    exact Vl.right_iff.1 (h.symm.trans h4)
  have hcode : Os.code ⟨4, p, vk, vn, vs, n, l⟩ = Pk.enc 4 ++ (Pt.code p ++ (Vl.code vk vn vs ++ ([] ++ Os.lcode l))) := by
    unfold Os.code
    rw [if_neg (by rw [hg]; decide)]
    rfl
  rw [hcode]
  have Ck := fun w => int_any 4 w (by decide) (by decide)
  have Cg := fun W (hb : Below w.heap.size w W) => gone_any 4 pv vk vn vs n sv p l W (by omega) (by omega) (U.strsAt_below hp hb (Nat.le_refl _)) (hs.on hb)
  rw [hg] at Cg
  have Cp := fun W (hb : Below w.heap.size w W) => U.code_any pv p W hf (U.strsAt_below hp hb (Nat.le_refl _))
  have Cv := fun w => V.code_right vk vn vs w hr
  have l3 := vcode_len hr
  have C47 := fun w => hv_any 4 w
  have C49 := fun w => ha_any 4 w
  have C36 := fun w => hs_any 4 w
  rw [show Os.hv 4 = true by decide] at C47
  rw [show Os.ha 4 = false by decide] at C49
  rw [show Os.hs 4 = true by decide] at C36
  have Cr := fun W (hb : Below w.heap.size w W) => codeRefs_any sv l W (hs.on hb) hll hu.1
  have l4 := lcode_len hu.1 hll
  have l1 : (Pk.enc (4 : Int).toNat).length ≤ 9 := Pk.enc_len9 (by decide)
  have l2 := hf.code
  have B0 := below_new w (opO 4 pv vk vn vs n sv)
  have O0 := OAt.new w 4 pv vk vn vs n sv
  show Calls Try.prog 41 #[opV 4 pv vk vn vs n sv] w fun e w' => e = .returned (.string ⟨(Pk.enc (4 : Int).toNat ++ (Pt.code p ++ (Vl.code vk vn vs ++ ([] ++ Os.lcode l)))).toArray⟩) ∧ Below w.heap.size w w'
  generalize Pk.enc (4 : Int).toNat = x1 at *
  generalize Pt.code p = x2 at *
  generalize Vl.code vk vn vs = x3 at *
  generalize Os.lcode l = x4 at *
  have a1 : ¬ 9223372036854775807 < x1.length + x2.length := by omega
  have a2 : ¬ 9223372036854775807 < x1.length + x2.length + x3.length := by omega
  have a3 : ¬ 9223372036854775807 < x1.length + x2.length + x3.length + x4.length := by omega
  clear hp hs hc hcode hg h3 h4 h5 h6 h7 h8 hf hu hpl hll l1 l2 l3 l4 hr
  go_enter Try.func41, Try.ntmps41
  go_wp2_with (first
    | (go_at_call 40; (with_reducible refine (Ck _).mono ?_); rintro e w1 ⟨rfl, hb1⟩; have B1 := bchain B0 hb1; have O1 := O0.on hb1; obtain ⟨c0, c1, c2, c3, c4, c5, c6⟩ := id O1)
    | (go_at_call 53; refine (Cg _ B1).mono ?_; rintro e w2 ⟨rfl, hb2⟩; have B2 := bchain B1 hb2; have O2 := O1.on hb2; obtain ⟨c0, c1, c2, c3, c4, c5, c6⟩ := id O2)
    | (go_at_call 61; refine (Cp _ B2).mono ?_; rintro e w3 ⟨rfl, hb3⟩; have B3 := bchain B2 hb3; have O3 := O2.on hb3; obtain ⟨c0, c1, c2, c3, c4, c5, c6⟩ := id O3)
    | (go_at_call 62; refine (C47 _).mono ?_; rintro e wq ⟨rfl, hw⟩; have hw := hw.symm; subst hw)
    | (go_at_call 64; refine (C49 _).mono ?_; rintro e wq ⟨rfl, hw⟩; have hw := hw.symm; subst hw)
    | (go_at_call 66; refine (C36 _).mono ?_; rintro e wq ⟨rfl, hw⟩; have hw := hw.symm; subst hw)
    | (go_at_call 63; refine (Cv _).mono ?_; rintro e w4 ⟨rfl, hb4⟩; have B4 := bchain B3 hb4; have O4 := O3.on hb4; obtain ⟨c0, c1, c2, c3, c4, c5, c6⟩ := id O4)
    | (go_at_call 67; refine (Cr _ B4).mono ?_; rintro e w6 ⟨rfl, hb6⟩; have B6 := bchain B4 hb6))
  go_ret
  exact ⟨ret_strL (by simp only [cat_lists, List.append_assoc]), B6⟩

set_option maxRecDepth 20000 in
set_option maxHeartbeats 4000000 in
theorem code_5 (pv : Value) (vk vn : Int) (vs : List UInt8) (n : Int) (sv : Value) (p : List (List UInt8)) (l : List U) (w : World) (hp : U.strsAt w pv p) (hs : refsIn w sv l) (hc : Os.check ⟨5, p, vk, vn, vs, n, l⟩ = 0) :
    Calls Try.prog 41 #[opV 5 pv vk vn vs n sv] w fun e w' => e = .returned (.string ⟨(Os.code ⟨5, p, vk, vn, vs, n, l⟩).toArray⟩) ∧ Below w.heap.size w w' := by
  obtain ⟨-, -, h3, h4, h5, h6, h7, h8⟩ := Os.check_zero hc
  have hf : U.Few p := path_few h3
  have hu : Os.Ups l := Os.ups_iff.1 h8
  have hpl : p.length ≤ 12 := hf.1
  have hll : l.length ≤ 300 := Nat.le_trans h7 (by decide)
  have hg : Os.gone ⟨5, p, vk, vn, vs, n, l⟩ = false := gone_no (by decide)
  have hcode : Os.code ⟨5, p, vk, vn, vs, n, l⟩ = Pk.enc 5 ++ (Pt.code p ++ ([] ++ ([] ++ Os.lcode l))) := by
    unfold Os.code
    rw [if_neg (by rw [hg]; decide)]
    rfl
  rw [hcode]
  have Ck := fun w => int_any 5 w (by decide) (by decide)
  have Cg := fun W (hb : Below w.heap.size w W) => gone_any 5 pv vk vn vs n sv p l W (by omega) (by omega) (U.strsAt_below hp hb (Nat.le_refl _)) (hs.on hb)
  rw [hg] at Cg
  have Cp := fun W (hb : Below w.heap.size w W) => U.code_any pv p W hf (U.strsAt_below hp hb (Nat.le_refl _))
  have C47 := fun w => hv_any 5 w
  have C49 := fun w => ha_any 5 w
  have C36 := fun w => hs_any 5 w
  rw [show Os.hv 5 = false by decide] at C47
  rw [show Os.ha 5 = false by decide] at C49
  rw [show Os.hs 5 = true by decide] at C36
  have Cr := fun W (hb : Below w.heap.size w W) => codeRefs_any sv l W (hs.on hb) hll hu.1
  have l4 := lcode_len hu.1 hll
  have l1 : (Pk.enc (5 : Int).toNat).length ≤ 9 := Pk.enc_len9 (by decide)
  have l2 := hf.code
  have B0 := below_new w (opO 5 pv vk vn vs n sv)
  have O0 := OAt.new w 5 pv vk vn vs n sv
  show Calls Try.prog 41 #[opV 5 pv vk vn vs n sv] w fun e w' => e = .returned (.string ⟨(Pk.enc (5 : Int).toNat ++ (Pt.code p ++ ([] ++ ([] ++ Os.lcode l)))).toArray⟩) ∧ Below w.heap.size w w'
  generalize Pk.enc (5 : Int).toNat = x1 at *
  generalize Pt.code p = x2 at *
  generalize Os.lcode l = x4 at *
  have a1 : ¬ 9223372036854775807 < x1.length + x2.length := by omega
  have a3 : ¬ 9223372036854775807 < x1.length + x2.length + x4.length := by omega
  clear hp hs hc hcode hg h3 h4 h5 h6 h7 h8 hf hu hpl hll l1 l2 l4
  go_enter Try.func41, Try.ntmps41
  go_wp2_with (first
    | (go_at_call 40; (with_reducible refine (Ck _).mono ?_); rintro e w1 ⟨rfl, hb1⟩; have B1 := bchain B0 hb1; have O1 := O0.on hb1; obtain ⟨c0, c1, c2, c3, c4, c5, c6⟩ := id O1)
    | (go_at_call 53; refine (Cg _ B1).mono ?_; rintro e w2 ⟨rfl, hb2⟩; have B2 := bchain B1 hb2; have O2 := O1.on hb2; obtain ⟨c0, c1, c2, c3, c4, c5, c6⟩ := id O2)
    | (go_at_call 61; refine (Cp _ B2).mono ?_; rintro e w3 ⟨rfl, hb3⟩; have B3 := bchain B2 hb3; have O3 := O2.on hb3; obtain ⟨c0, c1, c2, c3, c4, c5, c6⟩ := id O3)
    | (go_at_call 62; refine (C47 _).mono ?_; rintro e wq ⟨rfl, hw⟩; have hw := hw.symm; subst hw)
    | (go_at_call 64; refine (C49 _).mono ?_; rintro e wq ⟨rfl, hw⟩; have hw := hw.symm; subst hw)
    | (go_at_call 66; refine (C36 _).mono ?_; rintro e wq ⟨rfl, hw⟩; have hw := hw.symm; subst hw)
    | (go_at_call 67; refine (Cr _ B3).mono ?_; rintro e w6 ⟨rfl, hb6⟩; have B6 := bchain B3 hb6))
  go_ret
  exact ⟨ret_strL (by simp only [cat_lists, List.append_assoc]), B6⟩

set_option maxRecDepth 20000 in
set_option maxHeartbeats 2000000 in
theorem code_gone (pv sv : Value) (w : World) (hp : U.strsAt w pv []) (hs : refsIn w sv []) :
    Calls Try.prog 41 #[opV 0 pv 0 0 [] 0 sv] w fun e w' => e = .returned (.string ⟨(Os.code ⟨0, [], 0, 0, [], 0, []⟩).toArray⟩) ∧ Below w.heap.size w w' := by
  have Ck := fun w => int_any 0 w (by decide) (by decide)
  have Cg := fun W (hb : Below w.heap.size w W) => gone_any 0 pv 0 0 [] 0 sv [] [] W (by simp) (by simp) (U.strsAt_below hp hb (Nat.le_refl _)) (hs.on hb)
  rw [show Os.gone ⟨0, [], 0, 0, [], 0, []⟩ = true from rfl] at Cg
  have B0 := below_new w (opO 0 pv 0 0 [] 0 sv)
  have O0 := OAt.new w 0 pv 0 0 [] 0 sv
  rw [show Os.code ⟨0, [], 0, 0, [], 0, []⟩ = Pk.enc (0 : Int).toNat from rfl]
  generalize Pk.enc (0 : Int).toNat = x1 at *
  clear hp hs
  go_enter Try.func41, Try.ntmps41
  go_wp2_with (first
    | (go_at_call 40; refine (Ck _).mono ?_; rintro e w1 ⟨rfl, hb1⟩; have B1 := bchain B0 hb1; have O1 := O0.on hb1; obtain ⟨c0, c1, c2, c3, c4, c5, c6⟩ := id O1)
    | (go_at_call 53; refine (Cg _ B1).mono ?_; rintro e w2 ⟨rfl, hb2⟩))
  go_ret
  exact ⟨rfl, bchain B1 hb2⟩
set_option maxRecDepth 20000 in
set_option maxHeartbeats 2000000 in
theorem refCode_gone (pv sv : Value) (w : World) (hp : U.strsAt w pv []) (hs : refsIn w sv []) :
    Calls Try.prog 45 #[opV 0 pv 0 0 [] 0 sv] w fun e w' => e = .returned (.string ⟨(Os.code ⟨0, [], 0, 0, [], 0, []⟩).toArray⟩) ∧ Below w.heap.size w w' := by
  have Ck := fun w => refInt_any 0 w (by decide) (by decide)
  have Cg := fun W (hb : Below w.heap.size w W) => refGone_any 0 pv 0 0 [] 0 sv [] [] W (U.strsAt_below hp hb (Nat.le_refl _)) (hs.on hb)
  rw [show Os.gone ⟨0, [], 0, 0, [], 0, []⟩ = true from rfl] at Cg
  have B0 := below_new w (opO 0 pv 0 0 [] 0 sv)
  have O0 := OAt.new w 0 pv 0 0 [] 0 sv
  rw [show Os.code ⟨0, [], 0, 0, [], 0, []⟩ = Pk.enc (0 : Int).toNat from rfl]
  generalize Pk.enc (0 : Int).toNat = x1 at *
  clear hp hs
  go_enter Try.func45, Try.ntmps45
  go_wp2_with (first
    | (go_at_call 44; refine (Ck _).mono ?_; rintro e w1 ⟨rfl, hb1⟩; have B1 := bchain B0 hb1; have O1 := O0.on hb1; obtain ⟨c0, c1, c2, c3, c4, c5, c6⟩ := id O1)
    | (go_at_call 28; refine (Cg _ B1).mono ?_; rintro e w2 ⟨rfl, hb2⟩))
  go_ret
  exact ⟨rfl, bchain B1 hb2⟩
end Go.Proofs.Ytghkjbekjkejpaa.O
