/- The walk of the document's Code of an operation that may be. -/
import Derived.Test.YtghkjbekjkejpaaCodeOp
namespace Go.Proofs.Ytghkjbekjkejpaa.O
open Go.RowKit

/-- An operation and a reference of it, while its bytes are told. -/
structure CS (w : World) (b : Nat) (k : Int) (pv : Value) (vk vn : Int) (vs : List UInt8) (n : Int) (sv : Value) (ad : Addr) (j : Nat) (y : U) (W : World) : Prop where
  o : OAt W b k pv vk vn vs n sv
  r : CAt W (ad.add (j * 3)) y
  below : Below w.heap.size w W
theorem CS.on {w : World} {b : Nat} {k : Int} {pv : Value} {vk vn : Int} {vs : List UInt8} {n : Int} {sv : Value} {ad : Addr} {j : Nat} {y : U} {W W' : World} (h : CS w b k pv vk vn vs n sv ad j y W) (hb : Below W.heap.size W W') : CS w b k pv vk vn vs n sv ad j y W' := ⟨h.o.on hb, h.r.on hb, bchain h.below hb⟩

set_option maxRecDepth 20000 in
set_option maxHeartbeats 4000000 in
theorem refCode_1 (pv : Value) (vk vn : Int) (vs : List UInt8) (n : Int) (sv : Value) (p : List (List UInt8)) (l : List U) (w : World) (hp : U.strsAt w pv p) (hs : refsIn w sv l) (hc : Os.check ⟨1, p, vk, vn, vs, n, l⟩ = 0) :
    Calls Try.prog 45 #[opV 1 pv vk vn vs n sv] w fun e w' => e = .returned (.string ⟨(Os.code ⟨1, p, vk, vn, vs, n, l⟩).toArray⟩) ∧ Below w.heap.size w w' := by
  obtain ⟨-, -, h3, h4, h5, h6, h7, h8⟩ := Os.check_zero hc
  have hf : U.Few p := path_few h3
  have hu : Os.Ups l := Os.ups_iff.1 h8
  have hpl : p.length ≤ 12 := hf.1
  have hll : l.length ≤ 300 := Nat.le_trans h7 (by decide)
  have hg : Os.gone ⟨1, p, vk, vn, vs, n, l⟩ = false := gone_no (by decide)
  have hr : Vl.Right vk vn vs := by
    have h : Os.rv ⟨1, p, vk, vn, vs, n, l⟩ = Vl.right vk vn vs := by unfold Os.rv; rw [if_pos (by show Os.hv 1 = true; decide)]
    exact Vl.right_iff.1 (h.symm.trans h4)
  have hcode : Os.code ⟨1, p, vk, vn, vs, n, l⟩ = Pk.enc 1 ++ (Pt.code p ++ (Vl.code vk vn vs ++ ([] ++ Os.lcode l))) := by
    unfold Os.code
    rw [if_neg (by rw [hg]; decide)]
    rfl
  rw [hcode]
  have Ck := fun w => refInt_any 1 w (by decide) (by decide)
  have Cg := fun W (hb : Below w.heap.size w W) => refGone_any 1 pv vk vn vs n sv p l W (U.strsAt_below hp hb (Nat.le_refl _)) (hs.on hb)
  rw [hg] at Cg
  have Cp := fun W (hb : Below w.heap.size w W) => U.refCode_any pv p W hf (U.strsAt_below hp hb (Nat.le_refl _))
  have Cv := fun w => V.refCode_right vk vn vs w hr
  have l3 := vcode_len hr
  have l1 : (Pk.enc (1 : Int).toNat).length ≤ 9 := Pk.enc_len9 (by decide)
  have l2 := hf.code
  have B0 := below_new w (opO 1 pv vk vn vs n sv)
  have O0 := OAt.new w 1 pv vk vn vs n sv
  obtain ⟨bo, cs, rfl, _, _, hcc⟩ := hs
  have l5 := Pk.enc_len9 (n := l.length) (by omega)
  have HF : Hid (Os.rTo l (((Pk.enc (1 : Int).toNat ++ Pt.code p) ++ Vl.code vk vn vs) ++ Pk.enc l.length) l.length = Pk.enc (1 : Int).toNat ++ (Pt.code p ++ (Vl.code vk vn vs ++ ([] ++ Os.lcode l)))) := by
    have h : Os.rTo l (((Pk.enc (1 : Int).toNat ++ Pt.code p) ++ Vl.code vk vn vs) ++ Pk.enc l.length) l.length = Pk.enc (1 : Int).toNat ++ (Pt.code p ++ (Vl.code vk vn vs ++ ([] ++ Os.lcode l))) := by
      rw [Os.rTo_all]
      unfold Os.lcode
      simp only [List.nil_append, List.append_assoc]
    exact h
  have HLen : Hid (∀ j, (Os.rTo l (((Pk.enc (1 : Int).toNat ++ Pt.code p) ++ Vl.code vk vn vs) ++ Pk.enc l.length) j).length ≤ 20000) := by
    have h : ∀ j, (Os.rTo l (((Pk.enc (1 : Int).toNat ++ Pt.code p) ++ Vl.code vk vn vs) ++ Pk.enc l.length) j).length ≤ 20000 := fun j => by
      have h1 := rTo_len hu.1 hll (((Pk.enc (1 : Int).toNat ++ Pt.code p) ++ Vl.code vk vn vs) ++ Pk.enc l.length) j
      simp only [List.length_append] at h1 ⊢
      omega
    exact h
  have HG : Hid (∀ u ∈ l, Os.ok u = true) := hu.1
  have HCC : Hid (∀ k (h : k < l.length), ∃ ad, bo = some ad ∧ CAt w (ad.add (k * 3)) l[k]) := hcc
  have Cn := fun w => refInt_any (l.length : Int) w (by omega) (by omega)
  simp only [Int.toNat_natCast] at Cn
  show Calls Try.prog 45 #[opV 1 pv vk vn vs n (.slice bo l.length cs)] w fun e w' => e = .returned (.string ⟨(Pk.enc (1 : Int).toNat ++ (Pt.code p ++ (Vl.code vk vn vs ++ ([] ++ Os.lcode l)))).toArray⟩) ∧ Below w.heap.size w w'
  rw [← HF.out]
  clear HF
  generalize Pk.enc (1 : Int).toNat = x1 at *
  generalize Pt.code p = x2 at *
  generalize Vl.code vk vn vs = x3 at *
  generalize hxn : Pk.enc l.length = xn at *
  clear hxn
  obtain ⟨m, hm⟩ : ∃ m, m = l.length := ⟨_, rfl⟩
  have HM : Hid (m = l.length) := hm
  rw [← hm] at B0 O0 Cg hll Cn ⊢
  have a1 : ¬ 9223372036854775807 < x1.length + x2.length := by omega
  have a2 : ¬ 9223372036854775807 < x1.length + x2.length + x3.length := by omega
  have a3 : ¬ 9223372036854775807 < x1.length + x2.length + x3.length + xn.length := by omega
  clear hp hu hc hcc hm l5 hcode hg h3 h4 h5 h6 h7 h8 hf hpl l1 l2 l3 hr
  go_enter Try.func45, Try.ntmps45
  go_wp2_with (first
    | (go_at_call 44; first | ((with_reducible refine (Ck _).mono ?_); rintro e w1 ⟨rfl, hb1⟩; have B1 := bchain B0 hb1; have O1 := O0.on hb1; obtain ⟨c0, c1, c2, c3, c4, c5, c6⟩ := id O1) | ((with_reducible refine (Cn _).mono ?_); rintro e w5 ⟨rfl, hb5⟩; have B5 := bchain B4 hb5; have O5 := O4.on hb5))
    | (go_at_call 28; refine (Cg _ B1).mono ?_; rintro e w2 ⟨rfl, hb2⟩; have B2 := bchain B1 hb2; have O2 := O1.on hb2; obtain ⟨c0, c1, c2, c3, c4, c5, c6⟩ := id O2)
    | (go_at_call 68; refine (Cp _ B2).mono ?_; rintro e w3 ⟨rfl, hb3⟩; have B3 := bchain B2 hb3; have O3 := O2.on hb3; obtain ⟨c0, c1, c2, c3, c4, c5, c6⟩ := id O3)
    | (go_at_call 70; refine (Cv _).mono ?_; rintro e w4 ⟨rfl, hb4⟩; have B4 := bchain B3 hb4; have O4 := O3.on hb4; obtain ⟨c0, c1, c2, c3, c4, c5, c6⟩ := id O4))
  clear Ck Cg Cp Cn Cv
  go_loopw [3, 4] (fun s i wr => ∃ j : Nat, j ≤ m ∧ i = .int .i64 j ∧ s = .string ⟨(Os.rTo l (((x1 ++ x2) ++ x3) ++ xn) j).toArray⟩ ∧ Below w5.heap.size w5 wr) (fun _ i _ => m - (intOf i).toNat)
  case atStart => exact ⟨0, by omega, rfl, by rw [Os.rTo_zero]; simp only [cat_lists], Below.refl _ _⟩
  case round =>
    obtain ⟨j, hj, rfl, rfl, hbw⟩ := hrel
    have O6 := O5.on hbw
    have B6 := bchain B5 hbw
    clear O5 B5
    by_cases hlt : j < m
    · have hjl : j < l.length := by have := HM.out; omega
      obtain ⟨ad, rfl, hA⟩ := HCC.out j hjl
      have hA := hA.on B6
      have hok := HG.out _ (List.getElem_mem hjl)
      have hsm := Os.ok_small hok
      have HC : ∀ w1, Calls Try.prog 43 #[dV (l[j]).1] w1 fun e w2 => e = .returned (.string ⟨(Pk.enc (l[j]).1.1.toNat ++ Pk.enc (l[j]).1.2.toNat).toArray⟩) ∧ Below w1.heap.size w1 w2 := fun w1 => refDcode_any _ w1 hok
      have HC2 : ∀ w1, Calls Try.prog 44 #[.int .i64 (l[j]).2] w1 fun e w2 => e = .returned (.string ⟨(Pk.enc (l[j]).2.toNat).toArray⟩) ∧ Below w1.heap.size w1 w2 := fun w1 => refInt_any _ w1 (by omega) (by omega)
      have hst := Os.rTo_step l (((x1 ++ x2) ++ x3) ++ xn) hjl
      have hl1 := HLen.out (j + 1)
      rw [hst, List.length_append, List.length_append] at hl1
      generalize Pk.enc (l[j]).1.1.toNat ++ Pk.enc (l[j]).1.2.toNat = q1 at *
      generalize Pk.enc (l[j]).2.toNat = q2 at *
      have HX : Hid (Os.rTo l (((x1 ++ x2) ++ x3) ++ xn) (j + 1) = (Os.rTo l (((x1 ++ x2) ++ x3) ++ xn) j ++ q1) ++ q2) := hst
      have HY : Hid (Below w5.heap.size w5 wr) := hbw
      generalize hsj : Os.rTo l (((x1 ++ x2) ++ x3) ++ xn) j = s at *
      have hA1 : ¬ 9223372036854775807 < s.length + q1.length := by omega
      have hA2 : ¬ 9223372036854775807 < (s ++ q1).length + q2.length := by rw [List.length_append]; omega
      clear hst hl1 hok hsm hsj
      generalize l[j] = y at *
      have hCS : CS w w.heap.size 1 pv vk vn vs n (.slice (some ad) m cs) ad j y wr.drew := ⟨O6.drew, hA.on (Below.refl _ _).drew, B6.drew⟩
      obtain ⟨c0, c1, c2, c3, c4, c5, c6⟩ := O6
      clear hA
      go_wp2
      refine wp_region_held_drew (S := fun W => CS w w.heap.size 1 pv vk vn vs n (.slice (some ad) m cs) ad j y W) (by kernel_rfl) (hCS) (fun hH0 => ?_)
      refine held_take (i := 0) (o := { dst := some 50, op := Op.move (Operand.tmp 3), type := 9, pos := "ref.go:118", after := #[], guard := none }) (v := .string ⟨s.toArray⟩) (by kernel_rfl) (by kernel_rfl) (by kernel_rfl) (by kernel_rfl) (fun _ _ _ h => h) (by kernel_rfl) (fun _ _ => by kernel_rfl) hH0 ?_
      refine held_take (i := 1) (o := { dst := some 51, op := Op.fieldAddr 47 (Operand.tmp 1) 4, type := 0, pos := "ref.go:118", after := #[], guard := none }) (v := .pointer (some ⟨w.heap.size, 6, none⟩)) (by kernel_rfl) (by kernel_rfl) (by kernel_rfl) (by kernel_rfl) (fun _ _ _ h => h) (by kernel_rfl) (fun W _ => exec_ofld (i := 4) (by omega) rfl (by kernel_rfl) W) hH0 ?_
      refine held_take (i := 2) (o := { dst := some 52, op := Op.load 45 (Operand.tmp 51), type := 45, pos := "ref.go:118", after := #[{ on := 1, ground := Ground.data }], guard := none }) (v := .slice (some ad) m cs) (by kernel_rfl) (by kernel_rfl) (by kernel_rfl) (by kernel_rfl) (fun _ _ _ h => h) (by kernel_rfl) (fun _ h => exec_ldSl (q := 6) rfl (by kernel_rfl) h.o.c6) hH0 ?_
      refine held_take (i := 3) (o := { dst := some 53, op := Op.move (Operand.tmp 4), type := 3, pos := "ref.go:118", after := #[], guard := none }) (v := .int .i64 (j : Int)) (by kernel_rfl) (by kernel_rfl) (by kernel_rfl) (by kernel_rfl) (fun _ _ _ h => h) (by kernel_rfl) (fun _ _ => by kernel_rfl) hH0 ?_
      refine held_take (i := 4) (o := { dst := some 54, op := Op.indexAddr 45 (Operand.tmp 52) (Operand.tmp 53), type := 0, pos := "ref.go:118", after := #[{ on := 2, ground := Ground.data }, { on := 3, ground := Ground.data }], guard := none }) (v := .pointer (some (ad.add (j * 3)))) (by kernel_rfl) (by kernel_rfl) (by kernel_rfl) (by kernel_rfl) (fun _ _ _ h => h) (by kernel_rfl) (fun W _ => exec_idx (n := m) (c := cs) (k := j) rfl (by kernel_rfl) (by kernel_rfl) hlt W) hH0 ?_
      refine held_take (i := 5) (o := { dst := some 55, op := Op.fieldAddr 82 (Operand.tmp 54) 0, type := 0, pos := "ref.go:118", after := #[{ on := 4, ground := Ground.data }], guard := none }) (v := .pointer (some (ad.add (j * 3)))) (by kernel_rfl) (by kernel_rfl) (by kernel_rfl) (by kernel_rfl) (fun _ _ _ h => h) (by kernel_rfl) (fun W _ => exec_fld0 rfl (by kernel_rfl) W) hH0 ?_
      refine held_take (i := 6) (o := { dst := some 56, op := Op.load 23 (Operand.tmp 55), type := 23, pos := "ref.go:118", after := #[{ on := 5, ground := Ground.data }], guard := none }) (v := dV y.1) (by kernel_rfl) (by kernel_rfl) (by kernel_rfl) (by kernel_rfl) (fun _ _ _ h => h) (by kernel_rfl) (fun _ h => exec_ldD rfl (by kernel_rfl) h.r) hH0 ?_
      refine held_take (i := 9) (o := { dst := some 59, op := Op.fieldAddr 47 (Operand.tmp 1) 4, type := 0, pos := "ref.go:118", after := #[], guard := none }) (v := .pointer (some ⟨w.heap.size, 6, none⟩)) (by kernel_rfl) (by kernel_rfl) (by kernel_rfl) (by kernel_rfl) (fun _ _ _ h => h) (by kernel_rfl) (fun W _ => exec_ofld (i := 4) (by omega) rfl (by kernel_rfl) W) hH0 ?_
      refine held_take (i := 10) (o := { dst := some 60, op := Op.load 45 (Operand.tmp 59), type := 45, pos := "ref.go:118", after := #[{ on := 9, ground := Ground.data }], guard := none }) (v := .slice (some ad) m cs) (by kernel_rfl) (by kernel_rfl) (by kernel_rfl) (by kernel_rfl) (fun _ _ _ h => h) (by kernel_rfl) (fun _ h => exec_ldSl (q := 6) rfl (by kernel_rfl) h.o.c6) hH0 ?_
      refine held_take (i := 11) (o := { dst := some 61, op := Op.move (Operand.tmp 4), type := 3, pos := "ref.go:118", after := #[], guard := none }) (v := .int .i64 (j : Int)) (by kernel_rfl) (by kernel_rfl) (by kernel_rfl) (by kernel_rfl) (fun _ _ _ h => h) (by kernel_rfl) (fun _ _ => by kernel_rfl) hH0 ?_
      refine held_take (i := 12) (o := { dst := some 62, op := Op.indexAddr 45 (Operand.tmp 60) (Operand.tmp 61), type := 0, pos := "ref.go:118", after := #[{ on := 10, ground := Ground.data }, { on := 11, ground := Ground.data }], guard := none }) (v := .pointer (some (ad.add (j * 3)))) (by kernel_rfl) (by kernel_rfl) (by kernel_rfl) (by kernel_rfl) (fun _ _ _ h => h) (by kernel_rfl) (fun W _ => exec_idx (n := m) (c := cs) (k := j) rfl (by kernel_rfl) (by kernel_rfl) hlt W) hH0 ?_
      refine held_take (i := 13) (o := { dst := some 63, op := Op.fieldAddr 82 (Operand.tmp 62) 1, type := 0, pos := "ref.go:118", after := #[{ on := 12, ground := Ground.data }], guard := none }) (v := .pointer (some ⟨(ad.add (j * 3)).block, (ad.add (j * 3)).off + 2, none⟩)) (by kernel_rfl) (by kernel_rfl) (by kernel_rfl) (by kernel_rfl) (fun _ _ _ h => h) (by kernel_rfl) (fun W _ => exec_fld1 rfl (by kernel_rfl) W) hH0 ?_
      refine held_take (i := 14) (o := { dst := some 64, op := Op.load 3 (Operand.tmp 63), type := 3, pos := "ref.go:118", after := #[{ on := 13, ground := Ground.data }], guard := none }) (v := .int .i64 y.2) (by kernel_rfl) (by kernel_rfl) (by kernel_rfl) (by kernel_rfl) (fun _ _ _ h => h) (by kernel_rfl) (fun _ h => exec_ldN rfl (by kernel_rfl) h.r) hH0 ?_
      refine held_callX (i := 7) (o := { dst := some 57, op := Op.call { callee := Callee.value (Operand.func 43), args := #[Operand.tmp 56], argTypes := #[23] }, type := 9, pos := "ref.go:118", after := #[{ on := 6, ground := Ground.data }], guard := none }) (F := 43) (vs := #[dV y.1]) (by kernel_rfl) (by kernel_rfl) (by kernel_rfl) (fun _ => by kernel_rfl) (HC _) ?_
      rintro e w1 ⟨rfl, hb1⟩
      have hH1 := hH0.on hb1
      refine ⟨.string ⟨q1.toArray⟩, rfl, hH1, ?_⟩
      refine held_take (i := 8) (o := { dst := some 58, op := Op.binOp BinOp.add 9 (Operand.tmp 50) (Operand.tmp 57) 9, type := 9, pos := "ref.go:118", after := #[{ on := 0, ground := Ground.data }, { on := 7, ground := Ground.data }], guard := none }) (v := .string ⟨(s ++ q1).toArray⟩) (by kernel_rfl) (by kernel_rfl) (by kernel_rfl) (by kernel_rfl) (fun _ _ _ h => h) (by kernel_rfl) (fun W _ => exec_bin rfl (by kernel_rfl) (by kernel_rfl) (fun _ => by kernel_rfl) (add_lists hA1) W) hH1 ?_
      refine held_callX (i := 15) (o := { dst := some 65, op := Op.call { callee := Callee.value (Operand.func 44), args := #[Operand.tmp 64], argTypes := #[3] }, type := 9, pos := "ref.go:118", after := #[{ on := 14, ground := Ground.data }, { on := 7, ground := Ground.chain }], guard := none }) (F := 44) (vs := #[.int .i64 y.2]) (by kernel_rfl) (by kernel_rfl) (by kernel_rfl) (fun _ => by kernel_rfl) (HC2 _) ?_
      rintro e w2 ⟨rfl, hb2⟩
      have hH2 := hH1.on hb2
      refine ⟨.string ⟨q2.toArray⟩, rfl, hH2, ?_⟩
      refine held_take (i := 16) (o := { dst := some 66, op := Op.binOp BinOp.add 9 (Operand.tmp 58) (Operand.tmp 65) 9, type := 9, pos := "ref.go:118", after := #[{ on := 8, ground := Ground.data }, { on := 15, ground := Ground.data }], guard := none }) (v := .string ⟨((s ++ q1) ++ q2).toArray⟩) (by kernel_rfl) (by kernel_rfl) (by kernel_rfl) (by kernel_rfl) (fun _ _ _ h => h) (by kernel_rfl) (fun W _ => exec_bin rfl (by kernel_rfl) (by kernel_rfl) (fun _ => by kernel_rfl) (add_lists hA2) W) hH2 ?_
      refine held_do (i := 17) (o := { dst := some 3, op := Op.assign (Operand.tmp 66), type := 9, pos := "ref.go:118", after := #[{ on := 16, ground := Ground.data }, { on := 15, ground := Ground.chain }, { on := 0, ground := Ground.phase }, { on := 1, ground := Ground.phase }, { on := 2, ground := Ground.phase }, { on := 3, ground := Ground.phase }, { on := 4, ground := Ground.phase }, { on := 5, ground := Ground.phase }, { on := 6, ground := Ground.phase }, { on := 7, ground := Ground.phase }, { on := 8, ground := Ground.phase }, { on := 9, ground := Ground.phase }, { on := 10, ground := Ground.phase }, { on := 11, ground := Ground.phase }, { on := 12, ground := Ground.phase }, { on := 13, ground := Ground.phase }, { on := 14, ground := Ground.phase }, { on := 15, ground := Ground.phase }, { on := 16, ground := Ground.phase }], guard := none }) (v := .string ⟨((s ++ q1) ++ q2).toArray⟩) (by kernel_rfl) (by kernel_rfl) (by kernel_rfl) (by kernel_rfl) hH2 ?_
      refine wpAnyH_done (by kernel_rfl) ?_ _
      simp only [Act.put, List.setIfInBounds_toArray, List.set_cons_zero, List.set_cons_succ]
      go_wp2
      go_roundw
      case rel => exact ⟨j + 1, by omega, by go_num, by rw [HX.out], bchain (bchain (HY.out.drew) hb1) hb2⟩
      case measure => simp [intOf]; omega
    · obtain rfl : j = m := by omega
      obtain ⟨c0, c1, c2, c3, c4, c5, c6⟩ := O6
      go_wp2
      go_ret
      exact ⟨rfl, B6⟩

set_option maxRecDepth 20000 in
set_option maxHeartbeats 4000000 in
theorem refCode_2 (pv : Value) (vk vn : Int) (vs : List UInt8) (n : Int) (sv : Value) (p : List (List UInt8)) (l : List U) (w : World) (hp : U.strsAt w pv p) (hs : refsIn w sv l) (hc : Os.check ⟨2, p, vk, vn, vs, n, l⟩ = 0) :
    Calls Try.prog 45 #[opV 2 pv vk vn vs n sv] w fun e w' => e = .returned (.string ⟨(Os.code ⟨2, p, vk, vn, vs, n, l⟩).toArray⟩) ∧ Below w.heap.size w w' := by
  obtain ⟨-, -, h3, h4, h5, h6, h7, h8⟩ := Os.check_zero hc
  have hf : U.Few p := path_few h3
  have hu : Os.Ups l := Os.ups_iff.1 h8
  have hpl : p.length ≤ 12 := hf.1
  have hll : l.length ≤ 300 := Nat.le_trans h7 (by decide)
  have hg : Os.gone ⟨2, p, vk, vn, vs, n, l⟩ = false := gone_no (by decide)
  have hr : Vl.Right vk vn vs := by
    have h : Os.rv ⟨2, p, vk, vn, vs, n, l⟩ = Vl.right vk vn vs := by unfold Os.rv; rw [if_pos (by show Os.hv 2 = true; decide)]
    exact Vl.right_iff.1 (h.symm.trans h4)
  have hcode : Os.code ⟨2, p, vk, vn, vs, n, l⟩ = Pk.enc 2 ++ (Pt.code p ++ (Vl.code vk vn vs ++ ([] ++ []))) := by
    unfold Os.code
    rw [if_neg (by rw [hg]; decide)]
    rfl
  rw [hcode]
  have Ck := fun w => refInt_any 2 w (by decide) (by decide)
  have Cg := fun W (hb : Below w.heap.size w W) => refGone_any 2 pv vk vn vs n sv p l W (U.strsAt_below hp hb (Nat.le_refl _)) (hs.on hb)
  rw [hg] at Cg
  have Cp := fun W (hb : Below w.heap.size w W) => U.refCode_any pv p W hf (U.strsAt_below hp hb (Nat.le_refl _))
  have Cv := fun w => V.refCode_right vk vn vs w hr
  have l3 := vcode_len hr
  have l1 : (Pk.enc (2 : Int).toNat).length ≤ 9 := Pk.enc_len9 (by decide)
  have l2 := hf.code
  have B0 := below_new w (opO 2 pv vk vn vs n sv)
  have O0 := OAt.new w 2 pv vk vn vs n sv
  show Calls Try.prog 45 #[opV 2 pv vk vn vs n sv] w fun e w' => e = .returned (.string ⟨(Pk.enc (2 : Int).toNat ++ (Pt.code p ++ (Vl.code vk vn vs ++ ([] ++ [])))).toArray⟩) ∧ Below w.heap.size w w'
  generalize Pk.enc (2 : Int).toNat = x1 at *
  generalize Pt.code p = x2 at *
  generalize Vl.code vk vn vs = x3 at *
  have a1 : ¬ 9223372036854775807 < x1.length + x2.length := by omega
  have a2 : ¬ 9223372036854775807 < x1.length + x2.length + x3.length := by omega
  clear hp hs hu hll hc hcode hg h3 h4 h5 h6 h7 h8 hf hpl l1 l2 l3 hr
  go_enter Try.func45, Try.ntmps45
  go_wp2_with (first
    | (go_at_call 44; (with_reducible refine (Ck _).mono ?_); rintro e w1 ⟨rfl, hb1⟩; have B1 := bchain B0 hb1; have O1 := O0.on hb1; obtain ⟨c0, c1, c2, c3, c4, c5, c6⟩ := id O1)
    | (go_at_call 28; refine (Cg _ B1).mono ?_; rintro e w2 ⟨rfl, hb2⟩; have B2 := bchain B1 hb2; have O2 := O1.on hb2; obtain ⟨c0, c1, c2, c3, c4, c5, c6⟩ := id O2)
    | (go_at_call 68; refine (Cp _ B2).mono ?_; rintro e w3 ⟨rfl, hb3⟩; have B3 := bchain B2 hb3; have O3 := O2.on hb3; obtain ⟨c0, c1, c2, c3, c4, c5, c6⟩ := id O3)
    | (go_at_call 70; refine (Cv _).mono ?_; rintro e w4 ⟨rfl, hb4⟩; have B4 := bchain B3 hb4; have O4 := O3.on hb4; obtain ⟨c0, c1, c2, c3, c4, c5, c6⟩ := id O4))
  go_ret
  exact ⟨ret_strL (by simp only [cat_lists, List.append_nil, List.append_assoc]), B4⟩

set_option maxRecDepth 20000 in
set_option maxHeartbeats 4000000 in
theorem refCode_3 (pv : Value) (vk vn : Int) (vs : List UInt8) (n : Int) (sv : Value) (p : List (List UInt8)) (l : List U) (w : World) (hp : U.strsAt w pv p) (hs : refsIn w sv l) (hc : Os.check ⟨3, p, vk, vn, vs, n, l⟩ = 0) :
    Calls Try.prog 45 #[opV 3 pv vk vn vs n sv] w fun e w' => e = .returned (.string ⟨(Os.code ⟨3, p, vk, vn, vs, n, l⟩).toArray⟩) ∧ Below w.heap.size w w' := by
  obtain ⟨-, -, h3, h4, h5, h6, h7, h8⟩ := Os.check_zero hc
  have hf : U.Few p := path_few h3
  have hu : Os.Ups l := Os.ups_iff.1 h8
  have hpl : p.length ≤ 12 := hf.1
  have hll : l.length ≤ 300 := Nat.le_trans h7 (by decide)
  have hg : Os.gone ⟨3, p, vk, vn, vs, n, l⟩ = false := gone_no (by decide)
  have hn : -2147483647 ≤ n ∧ n ≤ 2147483647 := by
    have h : Os.ra ⟨3, p, vk, vn, vs, n, l⟩ = decide (n ≠ 0 ∧ -2147483647 ≤ n ∧ n ≤ 2147483647) := by unfold Os.ra; rw [if_pos (by show Os.ha 3 = true; decide)]
    have h' := of_decide_eq_true (h.symm.trans h5)
    omega
  have hf0 := Vl.fold_pos n
  have hf1 := Vl.fold_le hn.1 hn.2
  have hcode : Os.code ⟨3, p, vk, vn, vs, n, l⟩ = Pk.enc 3 ++ (Pt.code p ++ ([] ++ (Pk.enc (Vl.fold n).toNat ++ []))) := by
    unfold Os.code
    rw [if_neg (by rw [hg]; decide)]
    rfl
  rw [hcode]
  have Ck := fun w => refInt_any 3 w (by decide) (by decide)
  have Cg := fun W (hb : Below w.heap.size w W) => refGone_any 3 pv vk vn vs n sv p l W (U.strsAt_below hp hb (Nat.le_refl _)) (hs.on hb)
  rw [hg] at Cg
  have Cp := fun W (hb : Below w.heap.size w W) => U.refCode_any pv p W hf (U.strsAt_below hp hb (Nat.le_refl _))
  have Cfo := fun w => refFold_any n w (by omega) (by omega)
  have Cf := fun w => refInt_any (Vl.fold n) w (by omega) (by omega)
  have l3 := Pk.enc_len9 (n := (Vl.fold n).toNat) (by omega)
  have l1 : (Pk.enc (3 : Int).toNat).length ≤ 9 := Pk.enc_len9 (by decide)
  have l2 := hf.code
  have B0 := below_new w (opO 3 pv vk vn vs n sv)
  have O0 := OAt.new w 3 pv vk vn vs n sv
  show Calls Try.prog 45 #[opV 3 pv vk vn vs n sv] w fun e w' => e = .returned (.string ⟨(Pk.enc (3 : Int).toNat ++ (Pt.code p ++ ([] ++ (Pk.enc (Vl.fold n).toNat ++ [])))).toArray⟩) ∧ Below w.heap.size w w'
  generalize Pk.enc (3 : Int).toNat = x1 at *
  generalize Pt.code p = x2 at *
  generalize Pk.enc (Vl.fold n).toNat = x3 at *
  generalize Vl.fold n = fo at *
  have a1 : ¬ 9223372036854775807 < x1.length + x2.length := by omega
  have a2 : ¬ 9223372036854775807 < x1.length + x2.length + x3.length := by omega
  clear hp hs hu hll hc hcode hg h3 h4 h5 h6 h7 h8 hf hpl l1 l2 l3 hn hf0 hf1
  go_enter Try.func45, Try.ntmps45
  go_wp2_with (first
    | (go_at_call 44; first | ((with_reducible refine (Ck _).mono ?_); rintro e w1 ⟨rfl, hb1⟩; have B1 := bchain B0 hb1; have O1 := O0.on hb1; obtain ⟨c0, c1, c2, c3, c4, c5, c6⟩ := id O1) | ((with_reducible refine (Cf _).mono ?_); rintro e w5 ⟨rfl, hb5⟩; have B5 := bchain B3 hb5; have O5 := O3.on hb5; obtain ⟨c0, c1, c2, c3, c4, c5, c6⟩ := id O5))
    | (go_at_call 28; refine (Cg _ B1).mono ?_; rintro e w2 ⟨rfl, hb2⟩; have B2 := bchain B1 hb2; have O2 := O1.on hb2; obtain ⟨c0, c1, c2, c3, c4, c5, c6⟩ := id O2)
    | (go_at_call 68; refine (Cp _ B2).mono ?_; rintro e w3 ⟨rfl, hb3⟩; have B3 := bchain B2 hb3; have O3 := O2.on hb3; obtain ⟨c0, c1, c2, c3, c4, c5, c6⟩ := id O3)
    | (go_at_call 69; refine (Cfo _).mono ?_; rintro e wq ⟨rfl, hw⟩; have hw := hw.symm; subst hw))
  go_ret
  exact ⟨ret_strL (by simp only [cat_lists, List.append_nil, List.append_assoc]), B5⟩

set_option maxRecDepth 20000 in
set_option maxHeartbeats 4000000 in
theorem refCode_4 (pv : Value) (vk vn : Int) (vs : List UInt8) (n : Int) (sv : Value) (p : List (List UInt8)) (l : List U) (w : World) (hp : U.strsAt w pv p) (hs : refsIn w sv l) (hc : Os.check ⟨4, p, vk, vn, vs, n, l⟩ = 0) :
    Calls Try.prog 45 #[opV 4 pv vk vn vs n sv] w fun e w' => e = .returned (.string ⟨(Os.code ⟨4, p, vk, vn, vs, n, l⟩).toArray⟩) ∧ Below w.heap.size w w' := by
  obtain ⟨-, -, h3, h4, h5, h6, h7, h8⟩ := Os.check_zero hc
  have hf : U.Few p := path_few h3
  have hu : Os.Ups l := Os.ups_iff.1 h8
  have hpl : p.length ≤ 12 := hf.1
  have hll : l.length ≤ 300 := Nat.le_trans h7 (by decide)
  have hg : Os.gone ⟨4, p, vk, vn, vs, n, l⟩ = false := gone_no (by decide)
  have hr : Vl.Right vk vn vs := by
    have h : Os.rv ⟨4, p, vk, vn, vs, n, l⟩ = Vl.right vk vn vs := by unfold Os.rv; rw [if_pos (by show Os.hv 4 = true; decide)]
    exact Vl.right_iff.1 (h.symm.trans h4)
  have hcode : Os.code ⟨4, p, vk, vn, vs, n, l⟩ = Pk.enc 4 ++ (Pt.code p ++ (Vl.code vk vn vs ++ ([] ++ Os.lcode l))) := by
    unfold Os.code
    rw [if_neg (by rw [hg]; decide)]
    rfl
  rw [hcode]
  have Ck := fun w => refInt_any 4 w (by decide) (by decide)
  have Cg := fun W (hb : Below w.heap.size w W) => refGone_any 4 pv vk vn vs n sv p l W (U.strsAt_below hp hb (Nat.le_refl _)) (hs.on hb)
  rw [hg] at Cg
  have Cp := fun W (hb : Below w.heap.size w W) => U.refCode_any pv p W hf (U.strsAt_below hp hb (Nat.le_refl _))
  have Cv := fun w => V.refCode_right vk vn vs w hr
  have l3 := vcode_len hr
  have l1 : (Pk.enc (4 : Int).toNat).length ≤ 9 := Pk.enc_len9 (by decide)
  have l2 := hf.code
  have B0 := below_new w (opO 4 pv vk vn vs n sv)
  have O0 := OAt.new w 4 pv vk vn vs n sv
  obtain ⟨bo, cs, rfl, _, _, hcc⟩ := hs
  have l5 := Pk.enc_len9 (n := l.length) (by omega)
  have HF : Hid (Os.rTo l (((Pk.enc (4 : Int).toNat ++ Pt.code p) ++ Vl.code vk vn vs) ++ Pk.enc l.length) l.length = Pk.enc (4 : Int).toNat ++ (Pt.code p ++ (Vl.code vk vn vs ++ ([] ++ Os.lcode l)))) := by
    have h : Os.rTo l (((Pk.enc (4 : Int).toNat ++ Pt.code p) ++ Vl.code vk vn vs) ++ Pk.enc l.length) l.length = Pk.enc (4 : Int).toNat ++ (Pt.code p ++ (Vl.code vk vn vs ++ ([] ++ Os.lcode l))) := by
      rw [Os.rTo_all]
      unfold Os.lcode
      simp only [List.nil_append, List.append_assoc]
    exact h
  have HLen : Hid (∀ j, (Os.rTo l (((Pk.enc (4 : Int).toNat ++ Pt.code p) ++ Vl.code vk vn vs) ++ Pk.enc l.length) j).length ≤ 20000) := by
    have h : ∀ j, (Os.rTo l (((Pk.enc (4 : Int).toNat ++ Pt.code p) ++ Vl.code vk vn vs) ++ Pk.enc l.length) j).length ≤ 20000 := fun j => by
      have h1 := rTo_len hu.1 hll (((Pk.enc (4 : Int).toNat ++ Pt.code p) ++ Vl.code vk vn vs) ++ Pk.enc l.length) j
      simp only [List.length_append] at h1 ⊢
      omega
    exact h
  have HG : Hid (∀ u ∈ l, Os.ok u = true) := hu.1
  have HCC : Hid (∀ k (h : k < l.length), ∃ ad, bo = some ad ∧ CAt w (ad.add (k * 3)) l[k]) := hcc
  have Cn := fun w => refInt_any (l.length : Int) w (by omega) (by omega)
  simp only [Int.toNat_natCast] at Cn
  show Calls Try.prog 45 #[opV 4 pv vk vn vs n (.slice bo l.length cs)] w fun e w' => e = .returned (.string ⟨(Pk.enc (4 : Int).toNat ++ (Pt.code p ++ (Vl.code vk vn vs ++ ([] ++ Os.lcode l)))).toArray⟩) ∧ Below w.heap.size w w'
  rw [← HF.out]
  clear HF
  generalize Pk.enc (4 : Int).toNat = x1 at *
  generalize Pt.code p = x2 at *
  generalize Vl.code vk vn vs = x3 at *
  generalize hxn : Pk.enc l.length = xn at *
  clear hxn
  obtain ⟨m, hm⟩ : ∃ m, m = l.length := ⟨_, rfl⟩
  have HM : Hid (m = l.length) := hm
  rw [← hm] at B0 O0 Cg hll Cn ⊢
  have a1 : ¬ 9223372036854775807 < x1.length + x2.length := by omega
  have a2 : ¬ 9223372036854775807 < x1.length + x2.length + x3.length := by omega
  have a3 : ¬ 9223372036854775807 < x1.length + x2.length + x3.length + xn.length := by omega
  clear hp hu hc hcc hm l5 hcode hg h3 h4 h5 h6 h7 h8 hf hpl l1 l2 l3 hr
  go_enter Try.func45, Try.ntmps45
  go_wp2_with (first
    | (go_at_call 44; first | ((with_reducible refine (Ck _).mono ?_); rintro e w1 ⟨rfl, hb1⟩; have B1 := bchain B0 hb1; have O1 := O0.on hb1; obtain ⟨c0, c1, c2, c3, c4, c5, c6⟩ := id O1) | ((with_reducible refine (Cn _).mono ?_); rintro e w5 ⟨rfl, hb5⟩; have B5 := bchain B4 hb5; have O5 := O4.on hb5))
    | (go_at_call 28; refine (Cg _ B1).mono ?_; rintro e w2 ⟨rfl, hb2⟩; have B2 := bchain B1 hb2; have O2 := O1.on hb2; obtain ⟨c0, c1, c2, c3, c4, c5, c6⟩ := id O2)
    | (go_at_call 68; refine (Cp _ B2).mono ?_; rintro e w3 ⟨rfl, hb3⟩; have B3 := bchain B2 hb3; have O3 := O2.on hb3; obtain ⟨c0, c1, c2, c3, c4, c5, c6⟩ := id O3)
    | (go_at_call 70; refine (Cv _).mono ?_; rintro e w4 ⟨rfl, hb4⟩; have B4 := bchain B3 hb4; have O4 := O3.on hb4; obtain ⟨c0, c1, c2, c3, c4, c5, c6⟩ := id O4))
  clear Ck Cg Cp Cn Cv
  go_loopw [3, 4] (fun s i wr => ∃ j : Nat, j ≤ m ∧ i = .int .i64 j ∧ s = .string ⟨(Os.rTo l (((x1 ++ x2) ++ x3) ++ xn) j).toArray⟩ ∧ Below w5.heap.size w5 wr) (fun _ i _ => m - (intOf i).toNat)
  case atStart => exact ⟨0, by omega, rfl, by rw [Os.rTo_zero]; simp only [cat_lists], Below.refl _ _⟩
  case round =>
    obtain ⟨j, hj, rfl, rfl, hbw⟩ := hrel
    have O6 := O5.on hbw
    have B6 := bchain B5 hbw
    clear O5 B5
    by_cases hlt : j < m
    · have hjl : j < l.length := by have := HM.out; omega
      obtain ⟨ad, rfl, hA⟩ := HCC.out j hjl
      have hA := hA.on B6
      have hok := HG.out _ (List.getElem_mem hjl)
      have hsm := Os.ok_small hok
      have HC : ∀ w1, Calls Try.prog 43 #[dV (l[j]).1] w1 fun e w2 => e = .returned (.string ⟨(Pk.enc (l[j]).1.1.toNat ++ Pk.enc (l[j]).1.2.toNat).toArray⟩) ∧ Below w1.heap.size w1 w2 := fun w1 => refDcode_any _ w1 hok
      have HC2 : ∀ w1, Calls Try.prog 44 #[.int .i64 (l[j]).2] w1 fun e w2 => e = .returned (.string ⟨(Pk.enc (l[j]).2.toNat).toArray⟩) ∧ Below w1.heap.size w1 w2 := fun w1 => refInt_any _ w1 (by omega) (by omega)
      have hst := Os.rTo_step l (((x1 ++ x2) ++ x3) ++ xn) hjl
      have hl1 := HLen.out (j + 1)
      rw [hst, List.length_append, List.length_append] at hl1
      generalize Pk.enc (l[j]).1.1.toNat ++ Pk.enc (l[j]).1.2.toNat = q1 at *
      generalize Pk.enc (l[j]).2.toNat = q2 at *
      have HX : Hid (Os.rTo l (((x1 ++ x2) ++ x3) ++ xn) (j + 1) = (Os.rTo l (((x1 ++ x2) ++ x3) ++ xn) j ++ q1) ++ q2) := hst
      have HY : Hid (Below w5.heap.size w5 wr) := hbw
      generalize hsj : Os.rTo l (((x1 ++ x2) ++ x3) ++ xn) j = s at *
      have hA1 : ¬ 9223372036854775807 < s.length + q1.length := by omega
      have hA2 : ¬ 9223372036854775807 < (s ++ q1).length + q2.length := by rw [List.length_append]; omega
      clear hst hl1 hok hsm hsj
      generalize l[j] = y at *
      have hCS : CS w w.heap.size 4 pv vk vn vs n (.slice (some ad) m cs) ad j y wr.drew := ⟨O6.drew, hA.on (Below.refl _ _).drew, B6.drew⟩
      obtain ⟨c0, c1, c2, c3, c4, c5, c6⟩ := O6
      clear hA
      go_wp2
      refine wp_region_held_drew (S := fun W => CS w w.heap.size 4 pv vk vn vs n (.slice (some ad) m cs) ad j y W) (by kernel_rfl) (hCS) (fun hH0 => ?_)
      refine held_take (i := 0) (o := { dst := some 50, op := Op.move (Operand.tmp 3), type := 9, pos := "ref.go:118", after := #[], guard := none }) (v := .string ⟨s.toArray⟩) (by kernel_rfl) (by kernel_rfl) (by kernel_rfl) (by kernel_rfl) (fun _ _ _ h => h) (by kernel_rfl) (fun _ _ => by kernel_rfl) hH0 ?_
      refine held_take (i := 1) (o := { dst := some 51, op := Op.fieldAddr 47 (Operand.tmp 1) 4, type := 0, pos := "ref.go:118", after := #[], guard := none }) (v := .pointer (some ⟨w.heap.size, 6, none⟩)) (by kernel_rfl) (by kernel_rfl) (by kernel_rfl) (by kernel_rfl) (fun _ _ _ h => h) (by kernel_rfl) (fun W _ => exec_ofld (i := 4) (by omega) rfl (by kernel_rfl) W) hH0 ?_
      refine held_take (i := 2) (o := { dst := some 52, op := Op.load 45 (Operand.tmp 51), type := 45, pos := "ref.go:118", after := #[{ on := 1, ground := Ground.data }], guard := none }) (v := .slice (some ad) m cs) (by kernel_rfl) (by kernel_rfl) (by kernel_rfl) (by kernel_rfl) (fun _ _ _ h => h) (by kernel_rfl) (fun _ h => exec_ldSl (q := 6) rfl (by kernel_rfl) h.o.c6) hH0 ?_
      refine held_take (i := 3) (o := { dst := some 53, op := Op.move (Operand.tmp 4), type := 3, pos := "ref.go:118", after := #[], guard := none }) (v := .int .i64 (j : Int)) (by kernel_rfl) (by kernel_rfl) (by kernel_rfl) (by kernel_rfl) (fun _ _ _ h => h) (by kernel_rfl) (fun _ _ => by kernel_rfl) hH0 ?_
      refine held_take (i := 4) (o := { dst := some 54, op := Op.indexAddr 45 (Operand.tmp 52) (Operand.tmp 53), type := 0, pos := "ref.go:118", after := #[{ on := 2, ground := Ground.data }, { on := 3, ground := Ground.data }], guard := none }) (v := .pointer (some (ad.add (j * 3)))) (by kernel_rfl) (by kernel_rfl) (by kernel_rfl) (by kernel_rfl) (fun _ _ _ h => h) (by kernel_rfl) (fun W _ => exec_idx (n := m) (c := cs) (k := j) rfl (by kernel_rfl) (by kernel_rfl) hlt W) hH0 ?_
      refine held_take (i := 5) (o := { dst := some 55, op := Op.fieldAddr 82 (Operand.tmp 54) 0, type := 0, pos := "ref.go:118", after := #[{ on := 4, ground := Ground.data }], guard := none }) (v := .pointer (some (ad.add (j * 3)))) (by kernel_rfl) (by kernel_rfl) (by kernel_rfl) (by kernel_rfl) (fun _ _ _ h => h) (by kernel_rfl) (fun W _ => exec_fld0 rfl (by kernel_rfl) W) hH0 ?_
      refine held_take (i := 6) (o := { dst := some 56, op := Op.load 23 (Operand.tmp 55), type := 23, pos := "ref.go:118", after := #[{ on := 5, ground := Ground.data }], guard := none }) (v := dV y.1) (by kernel_rfl) (by kernel_rfl) (by kernel_rfl) (by kernel_rfl) (fun _ _ _ h => h) (by kernel_rfl) (fun _ h => exec_ldD rfl (by kernel_rfl) h.r) hH0 ?_
      refine held_take (i := 9) (o := { dst := some 59, op := Op.fieldAddr 47 (Operand.tmp 1) 4, type := 0, pos := "ref.go:118", after := #[], guard := none }) (v := .pointer (some ⟨w.heap.size, 6, none⟩)) (by kernel_rfl) (by kernel_rfl) (by kernel_rfl) (by kernel_rfl) (fun _ _ _ h => h) (by kernel_rfl) (fun W _ => exec_ofld (i := 4) (by omega) rfl (by kernel_rfl) W) hH0 ?_
      refine held_take (i := 10) (o := { dst := some 60, op := Op.load 45 (Operand.tmp 59), type := 45, pos := "ref.go:118", after := #[{ on := 9, ground := Ground.data }], guard := none }) (v := .slice (some ad) m cs) (by kernel_rfl) (by kernel_rfl) (by kernel_rfl) (by kernel_rfl) (fun _ _ _ h => h) (by kernel_rfl) (fun _ h => exec_ldSl (q := 6) rfl (by kernel_rfl) h.o.c6) hH0 ?_
      refine held_take (i := 11) (o := { dst := some 61, op := Op.move (Operand.tmp 4), type := 3, pos := "ref.go:118", after := #[], guard := none }) (v := .int .i64 (j : Int)) (by kernel_rfl) (by kernel_rfl) (by kernel_rfl) (by kernel_rfl) (fun _ _ _ h => h) (by kernel_rfl) (fun _ _ => by kernel_rfl) hH0 ?_
      refine held_take (i := 12) (o := { dst := some 62, op := Op.indexAddr 45 (Operand.tmp 60) (Operand.tmp 61), type := 0, pos := "ref.go:118", after := #[{ on := 10, ground := Ground.data }, { on := 11, ground := Ground.data }], guard := none }) (v := .pointer (some (ad.add (j * 3)))) (by kernel_rfl) (by kernel_rfl) (by kernel_rfl) (by kernel_rfl) (fun _ _ _ h => h) (by kernel_rfl) (fun W _ => exec_idx (n := m) (c := cs) (k := j) rfl (by kernel_rfl) (by kernel_rfl) hlt W) hH0 ?_
      refine held_take (i := 13) (o := { dst := some 63, op := Op.fieldAddr 82 (Operand.tmp 62) 1, type := 0, pos := "ref.go:118", after := #[{ on := 12, ground := Ground.data }], guard := none }) (v := .pointer (some ⟨(ad.add (j * 3)).block, (ad.add (j * 3)).off + 2, none⟩)) (by kernel_rfl) (by kernel_rfl) (by kernel_rfl) (by kernel_rfl) (fun _ _ _ h => h) (by kernel_rfl) (fun W _ => exec_fld1 rfl (by kernel_rfl) W) hH0 ?_
      refine held_take (i := 14) (o := { dst := some 64, op := Op.load 3 (Operand.tmp 63), type := 3, pos := "ref.go:118", after := #[{ on := 13, ground := Ground.data }], guard := none }) (v := .int .i64 y.2) (by kernel_rfl) (by kernel_rfl) (by kernel_rfl) (by kernel_rfl) (fun _ _ _ h => h) (by kernel_rfl) (fun _ h => exec_ldN rfl (by kernel_rfl) h.r) hH0 ?_
      refine held_callX (i := 7) (o := { dst := some 57, op := Op.call { callee := Callee.value (Operand.func 43), args := #[Operand.tmp 56], argTypes := #[23] }, type := 9, pos := "ref.go:118", after := #[{ on := 6, ground := Ground.data }], guard := none }) (F := 43) (vs := #[dV y.1]) (by kernel_rfl) (by kernel_rfl) (by kernel_rfl) (fun _ => by kernel_rfl) (HC _) ?_
      rintro e w1 ⟨rfl, hb1⟩
      have hH1 := hH0.on hb1
      refine ⟨.string ⟨q1.toArray⟩, rfl, hH1, ?_⟩
      refine held_take (i := 8) (o := { dst := some 58, op := Op.binOp BinOp.add 9 (Operand.tmp 50) (Operand.tmp 57) 9, type := 9, pos := "ref.go:118", after := #[{ on := 0, ground := Ground.data }, { on := 7, ground := Ground.data }], guard := none }) (v := .string ⟨(s ++ q1).toArray⟩) (by kernel_rfl) (by kernel_rfl) (by kernel_rfl) (by kernel_rfl) (fun _ _ _ h => h) (by kernel_rfl) (fun W _ => exec_bin rfl (by kernel_rfl) (by kernel_rfl) (fun _ => by kernel_rfl) (add_lists hA1) W) hH1 ?_
      refine held_callX (i := 15) (o := { dst := some 65, op := Op.call { callee := Callee.value (Operand.func 44), args := #[Operand.tmp 64], argTypes := #[3] }, type := 9, pos := "ref.go:118", after := #[{ on := 14, ground := Ground.data }, { on := 7, ground := Ground.chain }], guard := none }) (F := 44) (vs := #[.int .i64 y.2]) (by kernel_rfl) (by kernel_rfl) (by kernel_rfl) (fun _ => by kernel_rfl) (HC2 _) ?_
      rintro e w2 ⟨rfl, hb2⟩
      have hH2 := hH1.on hb2
      refine ⟨.string ⟨q2.toArray⟩, rfl, hH2, ?_⟩
      refine held_take (i := 16) (o := { dst := some 66, op := Op.binOp BinOp.add 9 (Operand.tmp 58) (Operand.tmp 65) 9, type := 9, pos := "ref.go:118", after := #[{ on := 8, ground := Ground.data }, { on := 15, ground := Ground.data }], guard := none }) (v := .string ⟨((s ++ q1) ++ q2).toArray⟩) (by kernel_rfl) (by kernel_rfl) (by kernel_rfl) (by kernel_rfl) (fun _ _ _ h => h) (by kernel_rfl) (fun W _ => exec_bin rfl (by kernel_rfl) (by kernel_rfl) (fun _ => by kernel_rfl) (add_lists hA2) W) hH2 ?_
      refine held_do (i := 17) (o := { dst := some 3, op := Op.assign (Operand.tmp 66), type := 9, pos := "ref.go:118", after := #[{ on := 16, ground := Ground.data }, { on := 15, ground := Ground.chain }, { on := 0, ground := Ground.phase }, { on := 1, ground := Ground.phase }, { on := 2, ground := Ground.phase }, { on := 3, ground := Ground.phase }, { on := 4, ground := Ground.phase }, { on := 5, ground := Ground.phase }, { on := 6, ground := Ground.phase }, { on := 7, ground := Ground.phase }, { on := 8, ground := Ground.phase }, { on := 9, ground := Ground.phase }, { on := 10, ground := Ground.phase }, { on := 11, ground := Ground.phase }, { on := 12, ground := Ground.phase }, { on := 13, ground := Ground.phase }, { on := 14, ground := Ground.phase }, { on := 15, ground := Ground.phase }, { on := 16, ground := Ground.phase }], guard := none }) (v := .string ⟨((s ++ q1) ++ q2).toArray⟩) (by kernel_rfl) (by kernel_rfl) (by kernel_rfl) (by kernel_rfl) hH2 ?_
      refine wpAnyH_done (by kernel_rfl) ?_ _
      simp only [Act.put, List.setIfInBounds_toArray, List.set_cons_zero, List.set_cons_succ]
      go_wp2
      go_roundw
      case rel => exact ⟨j + 1, by omega, by go_num, by rw [HX.out], bchain (bchain (HY.out.drew) hb1) hb2⟩
      case measure => simp [intOf]; omega
    · obtain rfl : j = m := by omega
      obtain ⟨c0, c1, c2, c3, c4, c5, c6⟩ := O6
      go_wp2
      go_ret
      exact ⟨rfl, B6⟩

set_option maxRecDepth 20000 in
set_option maxHeartbeats 4000000 in
theorem refCode_5 (pv : Value) (vk vn : Int) (vs : List UInt8) (n : Int) (sv : Value) (p : List (List UInt8)) (l : List U) (w : World) (hp : U.strsAt w pv p) (hs : refsIn w sv l) (hc : Os.check ⟨5, p, vk, vn, vs, n, l⟩ = 0) :
    Calls Try.prog 45 #[opV 5 pv vk vn vs n sv] w fun e w' => e = .returned (.string ⟨(Os.code ⟨5, p, vk, vn, vs, n, l⟩).toArray⟩) ∧ Below w.heap.size w w' := by
  obtain ⟨-, -, h3, h4, h5, h6, h7, h8⟩ := Os.check_zero hc
  have hf : U.Few p := path_few h3
  have hu : Os.Ups l := Os.ups_iff.1 h8
  have hpl : p.length ≤ 12 := hf.1
  have hll : l.length ≤ 300 := Nat.le_trans h7 (by decide)
  have hg : Os.gone ⟨5, p, vk, vn, vs, n, l⟩ = false := gone_no (by decide)
  have hcode : Os.code ⟨5, p, vk, vn, vs, n, l⟩ = Pk.enc 5 ++ (Pt.code p ++ ([] ++ ([] ++ Os.lcode l))) := by
    unfold Os.code
    rw [if_neg (by rw [hg]; decide)]
    rfl
  rw [hcode]
  have Ck := fun w => refInt_any 5 w (by decide) (by decide)
  have Cg := fun W (hb : Below w.heap.size w W) => refGone_any 5 pv vk vn vs n sv p l W (U.strsAt_below hp hb (Nat.le_refl _)) (hs.on hb)
  rw [hg] at Cg
  have Cp := fun W (hb : Below w.heap.size w W) => U.refCode_any pv p W hf (U.strsAt_below hp hb (Nat.le_refl _))
  have l1 : (Pk.enc (5 : Int).toNat).length ≤ 9 := Pk.enc_len9 (by decide)
  have l2 := hf.code
  have B0 := below_new w (opO 5 pv vk vn vs n sv)
  have O0 := OAt.new w 5 pv vk vn vs n sv
  obtain ⟨bo, cs, rfl, _, _, hcc⟩ := hs
  have l5 := Pk.enc_len9 (n := l.length) (by omega)
  have HF : Hid (Os.rTo l ((Pk.enc (5 : Int).toNat ++ Pt.code p) ++ Pk.enc l.length) l.length = Pk.enc (5 : Int).toNat ++ (Pt.code p ++ ([] ++ ([] ++ Os.lcode l)))) := by
    have h : Os.rTo l ((Pk.enc (5 : Int).toNat ++ Pt.code p) ++ Pk.enc l.length) l.length = Pk.enc (5 : Int).toNat ++ (Pt.code p ++ ([] ++ ([] ++ Os.lcode l))) := by
      rw [Os.rTo_all]
      unfold Os.lcode
      simp only [List.nil_append, List.append_assoc]
    exact h
  have HLen : Hid (∀ j, (Os.rTo l ((Pk.enc (5 : Int).toNat ++ Pt.code p) ++ Pk.enc l.length) j).length ≤ 20000) := by
    have h : ∀ j, (Os.rTo l ((Pk.enc (5 : Int).toNat ++ Pt.code p) ++ Pk.enc l.length) j).length ≤ 20000 := fun j => by
      have h1 := rTo_len hu.1 hll ((Pk.enc (5 : Int).toNat ++ Pt.code p) ++ Pk.enc l.length) j
      simp only [List.length_append] at h1 ⊢
      omega
    exact h
  have HG : Hid (∀ u ∈ l, Os.ok u = true) := hu.1
  have HCC : Hid (∀ k (h : k < l.length), ∃ ad, bo = some ad ∧ CAt w (ad.add (k * 3)) l[k]) := hcc
  have Cn := fun w => refInt_any (l.length : Int) w (by omega) (by omega)
  simp only [Int.toNat_natCast] at Cn
  show Calls Try.prog 45 #[opV 5 pv vk vn vs n (.slice bo l.length cs)] w fun e w' => e = .returned (.string ⟨(Pk.enc (5 : Int).toNat ++ (Pt.code p ++ ([] ++ ([] ++ Os.lcode l)))).toArray⟩) ∧ Below w.heap.size w w'
  rw [← HF.out]
  clear HF
  generalize Pk.enc (5 : Int).toNat = x1 at *
  generalize Pt.code p = x2 at *
  generalize hxn : Pk.enc l.length = xn at *
  clear hxn
  obtain ⟨m, hm⟩ : ∃ m, m = l.length := ⟨_, rfl⟩
  have HM : Hid (m = l.length) := hm
  rw [← hm] at B0 O0 Cg hll Cn ⊢
  have a1 : ¬ 9223372036854775807 < x1.length + x2.length := by omega
  have a3 : ¬ 9223372036854775807 < x1.length + x2.length + xn.length := by omega
  clear hp hu hc hcc hm l5 hcode hg h3 h4 h5 h6 h7 h8 hf hpl l1 l2
  go_enter Try.func45, Try.ntmps45
  go_wp2_with (first
    | (go_at_call 44; first | ((with_reducible refine (Ck _).mono ?_); rintro e w1 ⟨rfl, hb1⟩; have B1 := bchain B0 hb1; have O1 := O0.on hb1; obtain ⟨c0, c1, c2, c3, c4, c5, c6⟩ := id O1) | ((with_reducible refine (Cn _).mono ?_); rintro e w5 ⟨rfl, hb5⟩; have B5 := bchain B3 hb5; have O5 := O3.on hb5))
    | (go_at_call 28; refine (Cg _ B1).mono ?_; rintro e w2 ⟨rfl, hb2⟩; have B2 := bchain B1 hb2; have O2 := O1.on hb2; obtain ⟨c0, c1, c2, c3, c4, c5, c6⟩ := id O2)
    | (go_at_call 68; refine (Cp _ B2).mono ?_; rintro e w3 ⟨rfl, hb3⟩; have B3 := bchain B2 hb3; have O3 := O2.on hb3; obtain ⟨c0, c1, c2, c3, c4, c5, c6⟩ := id O3))
  clear Ck Cg Cp Cn
  go_loopw [3, 4] (fun s i wr => ∃ j : Nat, j ≤ m ∧ i = .int .i64 j ∧ s = .string ⟨(Os.rTo l ((x1 ++ x2) ++ xn) j).toArray⟩ ∧ Below w5.heap.size w5 wr) (fun _ i _ => m - (intOf i).toNat)
  case atStart => exact ⟨0, by omega, rfl, by rw [Os.rTo_zero]; simp only [cat_lists], Below.refl _ _⟩
  case round =>
    obtain ⟨j, hj, rfl, rfl, hbw⟩ := hrel
    have O6 := O5.on hbw
    have B6 := bchain B5 hbw
    clear O5 B5
    by_cases hlt : j < m
    · have hjl : j < l.length := by have := HM.out; omega
      obtain ⟨ad, rfl, hA⟩ := HCC.out j hjl
      have hA := hA.on B6
      have hok := HG.out _ (List.getElem_mem hjl)
      have hsm := Os.ok_small hok
      have HC : ∀ w1, Calls Try.prog 43 #[dV (l[j]).1] w1 fun e w2 => e = .returned (.string ⟨(Pk.enc (l[j]).1.1.toNat ++ Pk.enc (l[j]).1.2.toNat).toArray⟩) ∧ Below w1.heap.size w1 w2 := fun w1 => refDcode_any _ w1 hok
      have HC2 : ∀ w1, Calls Try.prog 44 #[.int .i64 (l[j]).2] w1 fun e w2 => e = .returned (.string ⟨(Pk.enc (l[j]).2.toNat).toArray⟩) ∧ Below w1.heap.size w1 w2 := fun w1 => refInt_any _ w1 (by omega) (by omega)
      have hst := Os.rTo_step l ((x1 ++ x2) ++ xn) hjl
      have hl1 := HLen.out (j + 1)
      rw [hst, List.length_append, List.length_append] at hl1
      generalize Pk.enc (l[j]).1.1.toNat ++ Pk.enc (l[j]).1.2.toNat = q1 at *
      generalize Pk.enc (l[j]).2.toNat = q2 at *
      have HX : Hid (Os.rTo l ((x1 ++ x2) ++ xn) (j + 1) = (Os.rTo l ((x1 ++ x2) ++ xn) j ++ q1) ++ q2) := hst
      have HY : Hid (Below w5.heap.size w5 wr) := hbw
      generalize hsj : Os.rTo l ((x1 ++ x2) ++ xn) j = s at *
      have hA1 : ¬ 9223372036854775807 < s.length + q1.length := by omega
      have hA2 : ¬ 9223372036854775807 < (s ++ q1).length + q2.length := by rw [List.length_append]; omega
      clear hst hl1 hok hsm hsj
      generalize l[j] = y at *
      have hCS : CS w w.heap.size 5 pv vk vn vs n (.slice (some ad) m cs) ad j y wr.drew := ⟨O6.drew, hA.on (Below.refl _ _).drew, B6.drew⟩
      obtain ⟨c0, c1, c2, c3, c4, c5, c6⟩ := O6
      clear hA
      go_wp2
      refine wp_region_held_drew (S := fun W => CS w w.heap.size 5 pv vk vn vs n (.slice (some ad) m cs) ad j y W) (by kernel_rfl) (hCS) (fun hH0 => ?_)
      refine held_take (i := 0) (o := { dst := some 50, op := Op.move (Operand.tmp 3), type := 9, pos := "ref.go:118", after := #[], guard := none }) (v := .string ⟨s.toArray⟩) (by kernel_rfl) (by kernel_rfl) (by kernel_rfl) (by kernel_rfl) (fun _ _ _ h => h) (by kernel_rfl) (fun _ _ => by kernel_rfl) hH0 ?_
      refine held_take (i := 1) (o := { dst := some 51, op := Op.fieldAddr 47 (Operand.tmp 1) 4, type := 0, pos := "ref.go:118", after := #[], guard := none }) (v := .pointer (some ⟨w.heap.size, 6, none⟩)) (by kernel_rfl) (by kernel_rfl) (by kernel_rfl) (by kernel_rfl) (fun _ _ _ h => h) (by kernel_rfl) (fun W _ => exec_ofld (i := 4) (by omega) rfl (by kernel_rfl) W) hH0 ?_
      refine held_take (i := 2) (o := { dst := some 52, op := Op.load 45 (Operand.tmp 51), type := 45, pos := "ref.go:118", after := #[{ on := 1, ground := Ground.data }], guard := none }) (v := .slice (some ad) m cs) (by kernel_rfl) (by kernel_rfl) (by kernel_rfl) (by kernel_rfl) (fun _ _ _ h => h) (by kernel_rfl) (fun _ h => exec_ldSl (q := 6) rfl (by kernel_rfl) h.o.c6) hH0 ?_
      refine held_take (i := 3) (o := { dst := some 53, op := Op.move (Operand.tmp 4), type := 3, pos := "ref.go:118", after := #[], guard := none }) (v := .int .i64 (j : Int)) (by kernel_rfl) (by kernel_rfl) (by kernel_rfl) (by kernel_rfl) (fun _ _ _ h => h) (by kernel_rfl) (fun _ _ => by kernel_rfl) hH0 ?_
      refine held_take (i := 4) (o := { dst := some 54, op := Op.indexAddr 45 (Operand.tmp 52) (Operand.tmp 53), type := 0, pos := "ref.go:118", after := #[{ on := 2, ground := Ground.data }, { on := 3, ground := Ground.data }], guard := none }) (v := .pointer (some (ad.add (j * 3)))) (by kernel_rfl) (by kernel_rfl) (by kernel_rfl) (by kernel_rfl) (fun _ _ _ h => h) (by kernel_rfl) (fun W _ => exec_idx (n := m) (c := cs) (k := j) rfl (by kernel_rfl) (by kernel_rfl) hlt W) hH0 ?_
      refine held_take (i := 5) (o := { dst := some 55, op := Op.fieldAddr 82 (Operand.tmp 54) 0, type := 0, pos := "ref.go:118", after := #[{ on := 4, ground := Ground.data }], guard := none }) (v := .pointer (some (ad.add (j * 3)))) (by kernel_rfl) (by kernel_rfl) (by kernel_rfl) (by kernel_rfl) (fun _ _ _ h => h) (by kernel_rfl) (fun W _ => exec_fld0 rfl (by kernel_rfl) W) hH0 ?_
      refine held_take (i := 6) (o := { dst := some 56, op := Op.load 23 (Operand.tmp 55), type := 23, pos := "ref.go:118", after := #[{ on := 5, ground := Ground.data }], guard := none }) (v := dV y.1) (by kernel_rfl) (by kernel_rfl) (by kernel_rfl) (by kernel_rfl) (fun _ _ _ h => h) (by kernel_rfl) (fun _ h => exec_ldD rfl (by kernel_rfl) h.r) hH0 ?_
      refine held_take (i := 9) (o := { dst := some 59, op := Op.fieldAddr 47 (Operand.tmp 1) 4, type := 0, pos := "ref.go:118", after := #[], guard := none }) (v := .pointer (some ⟨w.heap.size, 6, none⟩)) (by kernel_rfl) (by kernel_rfl) (by kernel_rfl) (by kernel_rfl) (fun _ _ _ h => h) (by kernel_rfl) (fun W _ => exec_ofld (i := 4) (by omega) rfl (by kernel_rfl) W) hH0 ?_
      refine held_take (i := 10) (o := { dst := some 60, op := Op.load 45 (Operand.tmp 59), type := 45, pos := "ref.go:118", after := #[{ on := 9, ground := Ground.data }], guard := none }) (v := .slice (some ad) m cs) (by kernel_rfl) (by kernel_rfl) (by kernel_rfl) (by kernel_rfl) (fun _ _ _ h => h) (by kernel_rfl) (fun _ h => exec_ldSl (q := 6) rfl (by kernel_rfl) h.o.c6) hH0 ?_
      refine held_take (i := 11) (o := { dst := some 61, op := Op.move (Operand.tmp 4), type := 3, pos := "ref.go:118", after := #[], guard := none }) (v := .int .i64 (j : Int)) (by kernel_rfl) (by kernel_rfl) (by kernel_rfl) (by kernel_rfl) (fun _ _ _ h => h) (by kernel_rfl) (fun _ _ => by kernel_rfl) hH0 ?_
      refine held_take (i := 12) (o := { dst := some 62, op := Op.indexAddr 45 (Operand.tmp 60) (Operand.tmp 61), type := 0, pos := "ref.go:118", after := #[{ on := 10, ground := Ground.data }, { on := 11, ground := Ground.data }], guard := none }) (v := .pointer (some (ad.add (j * 3)))) (by kernel_rfl) (by kernel_rfl) (by kernel_rfl) (by kernel_rfl) (fun _ _ _ h => h) (by kernel_rfl) (fun W _ => exec_idx (n := m) (c := cs) (k := j) rfl (by kernel_rfl) (by kernel_rfl) hlt W) hH0 ?_
      refine held_take (i := 13) (o := { dst := some 63, op := Op.fieldAddr 82 (Operand.tmp 62) 1, type := 0, pos := "ref.go:118", after := #[{ on := 12, ground := Ground.data }], guard := none }) (v := .pointer (some ⟨(ad.add (j * 3)).block, (ad.add (j * 3)).off + 2, none⟩)) (by kernel_rfl) (by kernel_rfl) (by kernel_rfl) (by kernel_rfl) (fun _ _ _ h => h) (by kernel_rfl) (fun W _ => exec_fld1 rfl (by kernel_rfl) W) hH0 ?_
      refine held_take (i := 14) (o := { dst := some 64, op := Op.load 3 (Operand.tmp 63), type := 3, pos := "ref.go:118", after := #[{ on := 13, ground := Ground.data }], guard := none }) (v := .int .i64 y.2) (by kernel_rfl) (by kernel_rfl) (by kernel_rfl) (by kernel_rfl) (fun _ _ _ h => h) (by kernel_rfl) (fun _ h => exec_ldN rfl (by kernel_rfl) h.r) hH0 ?_
      refine held_callX (i := 7) (o := { dst := some 57, op := Op.call { callee := Callee.value (Operand.func 43), args := #[Operand.tmp 56], argTypes := #[23] }, type := 9, pos := "ref.go:118", after := #[{ on := 6, ground := Ground.data }], guard := none }) (F := 43) (vs := #[dV y.1]) (by kernel_rfl) (by kernel_rfl) (by kernel_rfl) (fun _ => by kernel_rfl) (HC _) ?_
      rintro e w1 ⟨rfl, hb1⟩
      have hH1 := hH0.on hb1
      refine ⟨.string ⟨q1.toArray⟩, rfl, hH1, ?_⟩
      refine held_take (i := 8) (o := { dst := some 58, op := Op.binOp BinOp.add 9 (Operand.tmp 50) (Operand.tmp 57) 9, type := 9, pos := "ref.go:118", after := #[{ on := 0, ground := Ground.data }, { on := 7, ground := Ground.data }], guard := none }) (v := .string ⟨(s ++ q1).toArray⟩) (by kernel_rfl) (by kernel_rfl) (by kernel_rfl) (by kernel_rfl) (fun _ _ _ h => h) (by kernel_rfl) (fun W _ => exec_bin rfl (by kernel_rfl) (by kernel_rfl) (fun _ => by kernel_rfl) (add_lists hA1) W) hH1 ?_
      refine held_callX (i := 15) (o := { dst := some 65, op := Op.call { callee := Callee.value (Operand.func 44), args := #[Operand.tmp 64], argTypes := #[3] }, type := 9, pos := "ref.go:118", after := #[{ on := 14, ground := Ground.data }, { on := 7, ground := Ground.chain }], guard := none }) (F := 44) (vs := #[.int .i64 y.2]) (by kernel_rfl) (by kernel_rfl) (by kernel_rfl) (fun _ => by kernel_rfl) (HC2 _) ?_
      rintro e w2 ⟨rfl, hb2⟩
      have hH2 := hH1.on hb2
      refine ⟨.string ⟨q2.toArray⟩, rfl, hH2, ?_⟩
      refine held_take (i := 16) (o := { dst := some 66, op := Op.binOp BinOp.add 9 (Operand.tmp 58) (Operand.tmp 65) 9, type := 9, pos := "ref.go:118", after := #[{ on := 8, ground := Ground.data }, { on := 15, ground := Ground.data }], guard := none }) (v := .string ⟨((s ++ q1) ++ q2).toArray⟩) (by kernel_rfl) (by kernel_rfl) (by kernel_rfl) (by kernel_rfl) (fun _ _ _ h => h) (by kernel_rfl) (fun W _ => exec_bin rfl (by kernel_rfl) (by kernel_rfl) (fun _ => by kernel_rfl) (add_lists hA2) W) hH2 ?_
      refine held_do (i := 17) (o := { dst := some 3, op := Op.assign (Operand.tmp 66), type := 9, pos := "ref.go:118", after := #[{ on := 16, ground := Ground.data }, { on := 15, ground := Ground.chain }, { on := 0, ground := Ground.phase }, { on := 1, ground := Ground.phase }, { on := 2, ground := Ground.phase }, { on := 3, ground := Ground.phase }, { on := 4, ground := Ground.phase }, { on := 5, ground := Ground.phase }, { on := 6, ground := Ground.phase }, { on := 7, ground := Ground.phase }, { on := 8, ground := Ground.phase }, { on := 9, ground := Ground.phase }, { on := 10, ground := Ground.phase }, { on := 11, ground := Ground.phase }, { on := 12, ground := Ground.phase }, { on := 13, ground := Ground.phase }, { on := 14, ground := Ground.phase }, { on := 15, ground := Ground.phase }, { on := 16, ground := Ground.phase }], guard := none }) (v := .string ⟨((s ++ q1) ++ q2).toArray⟩) (by kernel_rfl) (by kernel_rfl) (by kernel_rfl) (by kernel_rfl) hH2 ?_
      refine wpAnyH_done (by kernel_rfl) ?_ _
      simp only [Act.put, List.setIfInBounds_toArray, List.set_cons_zero, List.set_cons_succ]
      go_wp2
      go_roundw
      case rel => exact ⟨j + 1, by omega, by go_num, by rw [HX.out], bchain (bchain (HY.out.drew) hb1) hb2⟩
      case measure => simp [intOf]; omega
    · obtain rfl : j = m := by omega
      obtain ⟨c0, c1, c2, c3, c4, c5, c6⟩ := O6
      go_wp2
      go_ret
      exact ⟨rfl, B6⟩
end Go.Proofs.Ytghkjbekjkejpaa.O
