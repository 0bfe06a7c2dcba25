/- The walk of the statement OpNames. -/
import Derived.Test.YtbbehccagdibcaaAwake
import Derived.Test.YtbbehccagdibcaaCovers
import Derived.Test.YtbbehccagdibcaaRefCheck
namespace Go.Proofs.Ytbbehccagdibcaa.O
open Go.RowKit

/-- An operation, a reference, and one of its references, while the law is walked. -/
structure NS (w : World) (k : Int) (pv : Value) (vk vn : Int) (vs : List UInt8) (n : Int) (sv : Value) (x : U) (ad : Addr) (j : Nat) (y : U) (W : World) : Prop where
  o : OAt W w.heap.size k pv vk vn vs n sv
  x : CAt W ⟨w.heap.size + 1, 0, none⟩ x
  r : CAt W (ad.add (j * 3)) y
  below : Below w.heap.size w W
theorem NS.on {w : World} {k : Int} {pv : Value} {vk vn : Int} {vs : List UInt8} {n : Int} {sv : Value} {x : U} {ad : Addr} {j : Nat} {y : U} {W W' : World} (h : NS w k pv vk vn vs n sv x ad j y W) (hb : Below W.heap.size W W') : NS w k pv vk vn vs n sv x ad j y W' := ⟨h.o.on hb, h.x.on hb, h.r.on hb, bchain h.below hb⟩

set_option maxRecDepth 20000 in
set_option maxHeartbeats 4000000 in
theorem opNames_walk (k : Int) (pv : Value) (vk vn : Int) (vs : List UInt8) (n : Int) (sv : Value) (p : List (List UInt8)) (l : List U) (x : U) (w : World)
    (hx : p.length ≤ 9223372036854775807) (hz : ∀ x ∈ p, x.length ≤ 9223372036854775807) (hp : U.strsAt w pv p) (hs : refsIn w sv l) :
    Calls Try.prog 6 #[opV k pv vk vn vs n sv, uV x] w fun e w' => e = .returned (.bool true) ∧ Below w.heap.size w w' := by
  have B0 := below_new2 w (opO k pv vk vn vs n sv) (uO x)
  have O0 := OAt.newU w k pv vk vn vs n sv x
  have C7 := refShort_any k pv vk vn vs n sv p l _ hx hz (U.strsAt_below hp B0 (Nat.le_refl _)) (hs.on B0)
  cases hsh : Os.short ⟨k, p, vk, vn, vs, n, l⟩ with
  | false =>
    rw [hsh] at C7
    clear hx hz hp hs hsh
    go_enter Try.func6, Try.ntmps6
    go_wp2_with (first
      | (go_at_call 7; refine C7.mono ?_; rintro e w1 ⟨rfl, hb1⟩)
      | (go_at_call 8; refine (awake_any _).mono ?_; rintro e w2 ⟨rfl, hb2⟩))
    go_ret
    exact ⟨rfl, bchain (bchain B0 hb1) hb2⟩
  | true =>
  rw [hsh] at C7
  have hsh' : (Pt.short p = true ∧ vs.length ≤ 200) ∧ l.length ≤ 300 := by simpa [Os.short] using hsh
  have hps := Pt.short_iff hsh'.1.1
  have hll := hsh'.2
  have hvs := hsh'.1.2
  have C9 := fun W (hb : Below w.heap.size w W) => refCheck_any k pv vk vn vs n sv p l W (by omega) (fun y hy => by have := hps.2 y hy; omega) (by omega) (by omega) (U.strsAt_below hp hb (Nat.le_refl _)) (hs.on hb)
  clear hx hz hsh hsh' hvs
  by_cases hc : Os.check ⟨k, p, vk, vn, vs, n, l⟩ = 0
  rotate_left
  · generalize Os.check ⟨k, p, vk, vn, vs, n, l⟩ = q at *
    have e1 : ((q : Int) != 0) = true := by simp; omega
    clear hc hp hs hps
    go_enter Try.func6, Try.ntmps6
    go_wp2_with (first
      | (go_at_call 7; refine C7.mono ?_; rintro e w1 ⟨rfl, hb1⟩; obtain ⟨c0, c1, c2, c3, c4, c5, c6⟩ := O0.1.on hb1)
      | (go_at_call 9; refine (C9 _ (bchain B0 hb1)).mono ?_; rintro e w2 ⟨rfl, hb2⟩)
      | (go_at_call 8; refine (awake_any _).mono ?_; rintro e w3 ⟨rfl, hb3⟩))
    go_ret
    exact ⟨rfl, bchain (bchain (bchain B0 hb1) hb2) hb3⟩
  have hu : Os.Ups l := Os.ups_iff.1 (Os.check_zero hc).2.2.2.2.2.2.2
  rw [hc] at C9
  have HU : Hid (Os.Ups l) := hu
  have CV := fun (y : U) W (hb : Below w.heap.size w W) => covers_any k pv vk vn vs n sv l y W (by omega) (hs.on hb) hu
  obtain ⟨bo, cs, rfl, _, _, hcc⟩ := hs
  have HC : Hid (∀ k (h : k < l.length), ∃ ad, bo = some ad ∧ CAt w (ad.add (k * 3)) l[k]) := hcc
  obtain ⟨m, hm⟩ : ∃ m, m = l.length := ⟨_, rfl⟩
  have HM : Hid (m = l.length) := hm
  rw [← hm] at hll CV C9 C7 B0 O0 ⊢
  clear hm hcc hc hu hp hps
  go_enter Try.func6, Try.ntmps6
  go_wp2_with (first
    | (go_at_call 7; refine C7.mono ?_; rintro e w1 ⟨rfl, hb1⟩; obtain ⟨c0, c1, c2, c3, c4, c5, c6⟩ := O0.1.on hb1)
    | (go_at_call 9; refine (C9 _ (bchain B0 hb1)).mono ?_; rintro e w2 ⟨rfl, hb2⟩))
  have O2 := O0.1.on (bchain hb1 hb2)
  have X2 := O0.2.on (bchain hb1 hb2)
  have B2 := bchain (bchain B0 hb1) hb2
  clear c0 c1 c2 c3 c4 c5 c6 O0 B0 C7 C9 hb1 hb2
  have HZ : Hid ((l.take 0).count x = 0) := by
    have h : (l.take 0).count x = 0 := by simp
    exact h
  go_loopw [5, 6] (fun a i wr => ∃ j c : Nat, j ≤ m ∧ a = .int .i64 (c : Int) ∧ i = .int .i64 j ∧ c ≤ j ∧ Hid ((l.take j).count x = c) ∧ Below w2.heap.size w2 wr) (fun _ i _ => m - (intOf i).toNat)
  case atStart => exact ⟨0, 0, by omega, rfl, rfl, by omega, HZ, Below.refl _ _⟩
  case round =>
    clear HZ
    obtain ⟨j, c, hj, rfl, rfl, hcj, HS, hbw⟩ := hrel
    have O3 := O2.on hbw
    have X3 := X2.on hbw
    have B3 := bchain B2 hbw
    by_cases hlt : j < m
    · have hjl : j < l.length := by have := HM.out; omega
      obtain ⟨ad, rfl, hA⟩ := HC.out j hjl
      have hA := hA.on B3
      have CVj := fun W (hb : Below w.heap.size w W) => CV l[j] W hb
      rw [show hasR l l[j] = true from decide_eq_true (List.getElem_mem hjl)] at CVj
      have hE := eql_cnt l[j] x
      have hst := Os.count_step l x hjl
      rw [HS.out] at hst
      have hi0 : (0 : Int) ≤ (j : Int) := by omega
      have hi1 : (j : Int) < (m : Int) := by omega
      have HY : Hid (Below w2.heap.size w2 wr) := hbw
      obtain ⟨c0, c1, c2, c3, c4, c5, c6⟩ := id O3
      by_cases he : l[j] = x
      · rw [if_pos he] at hst
        have HS' : Hid ((l.take (j + 1)).count x = c + 1) := hst
        simp only [he, decide_true] at hE
        clear hst HS
        generalize l[j] = y at *
        have hNS : NS w k pv vk vn vs n (.slice (some ad) m cs) x ad j y wr.drew := ⟨O3.drew, X3.on (Below.refl _ _).drew, hA.on (Below.refl _ _).drew, B3.drew⟩
        clear O3 X3 hA B3
        go_wp2
        refine wp_region_held_drew (S := fun W => NS w k pv vk vn vs n (.slice (some ad) m cs) x ad j y W) (by kernel_rfl) (hNS) (fun hH0 => ?_)
        refine held_take (i := 0) (o := { dst := some 23, op := Op.load 27 (Operand.tmp 2), type := 27, pos := "law.go:59", after := #[], guard := none }) (v := opV k pv vk vn vs n (.slice (some ad) m cs)) (by kernel_rfl) (by kernel_rfl) (by kernel_rfl) (by kernel_rfl) (fun _ _ _ h => h) (by kernel_rfl) (fun _ h => exec_ldO rfl (by kernel_rfl) h.o) hH0 ?_
        refine held_take (i := 1) (o := { dst := some 24, op := Op.fieldAddr 27 (Operand.tmp 2) 4, type := 0, pos := "law.go:59", after := #[], guard := none }) (v := .pointer (some ⟨w.heap.size, 6, none⟩)) (by kernel_rfl) (by kernel_rfl) (by kernel_rfl) (by kernel_rfl) (fun _ _ _ h => h) (by kernel_rfl) (fun W _ => exec_ofld (i := 4) (by omega) rfl (by kernel_rfl) W) hH0 ?_
        refine held_take (i := 2) (o := { dst := some 25, op := Op.load 25 (Operand.tmp 24), type := 25, pos := "law.go:59", after := #[{ on := 1, ground := Ground.data }], guard := none }) (v := .slice (some ad) m cs) (by kernel_rfl) (by kernel_rfl) (by kernel_rfl) (by kernel_rfl) (fun _ _ _ h => h) (by kernel_rfl) (fun _ h => exec_ldSl (q := 6) rfl (by kernel_rfl) h.o.c6) hH0 ?_
        refine held_take (i := 3) (o := { dst := some 26, op := Op.move (Operand.tmp 6), type := 3, pos := "law.go:59", after := #[], guard := none }) (v := .int .i64 (j : Int)) (by kernel_rfl) (by kernel_rfl) (by kernel_rfl) (by kernel_rfl) (fun _ _ _ h => h) (by kernel_rfl) (fun _ _ => by kernel_rfl) hH0 ?_
        refine held_take (i := 4) (o := { dst := some 27, op := Op.indexAddr 25 (Operand.tmp 25) (Operand.tmp 26), type := 0, pos := "law.go:59", after := #[{ on := 2, ground := Ground.data }, { on := 3, ground := Ground.data }], guard := none }) (v := .pointer (some (ad.add (j * 3)))) (by kernel_rfl) (by kernel_rfl) (by kernel_rfl) (by kernel_rfl) (fun _ _ _ h => h) (by kernel_rfl) (fun W _ => exec_idx (n := m) (c := cs) (k := j) rfl (by kernel_rfl) (by kernel_rfl) hlt W) hH0 ?_
        refine held_take (i := 5) (o := { dst := some 28, op := Op.load 31 (Operand.tmp 27), type := 31, pos := "law.go:59", after := #[{ on := 4, ground := Ground.data }], guard := none }) (v := uV y) (by kernel_rfl) (by kernel_rfl) (by kernel_rfl) (by kernel_rfl) (fun _ _ _ h => h) (by kernel_rfl) (fun _ h => exec_ldU rfl (by kernel_rfl) h.r) hH0 ?_
        refine held_callX (i := 6) (o := { dst := some 29, op := Op.call { callee := Callee.value (Operand.func 19), args := #[Operand.tmp 23, Operand.tmp 28], argTypes := #[27, 31] }, type := 4, pos := "law.go:59", after := #[{ on := 0, ground := Ground.data }, { on := 5, ground := Ground.data }], guard := none }) (F := 19) (vs := #[opV k pv vk vn vs n (.slice (some ad) m cs), uV y]) (by kernel_rfl) (by kernel_rfl) (by kernel_rfl) (fun _ => by kernel_rfl) (CVj _ hH0.below) ?_
        rintro e w1 ⟨rfl, hb1⟩
        have hH1 := hH0.on hb1
        refine ⟨.bool true, rfl, hH1, ?_⟩
        refine held_take (i := 7) (o := { dst := some 30, op := Op.unOp UnOp.not 4 (Operand.tmp 29), type := 4, pos := "law.go:59", after := #[{ on := 6, ground := Ground.data }], guard := none }) (v := .bool false) (by kernel_rfl) (by kernel_rfl) (by kernel_rfl) (by kernel_rfl) (fun _ _ _ h => h) (by kernel_rfl) (fun W _ => exec_un rfl (by kernel_rfl) (not_of true) W) hH1 ?_
        refine wpAnyH_done (by kernel_rfl) ?_ _
        simp only [Act.put, List.setIfInBounds_toArray, List.set_cons_zero, List.set_cons_succ]
        obtain ⟨d0, d1, d2, d3, d4, d5, d6⟩ := id hH1.o
        obtain ⟨x0, x1, x2⟩ := id hH1.x
        obtain ⟨r0, r1, r2⟩ := id hH1.r
        have hbz : Below w2.heap.size w2 w1 := bchain (HY.out.drew) hb1
        clear hH1
        go_wp2
        go_region
        all_goals
          go_wp2
          go_roundw
          case rel => exact ⟨j + 1, c + 1, by omega, by go_num, by go_num, by omega, HS', hbz.drew⟩
          case measure => simp [intOf]; omega
      · rw [if_neg he] at hst
        have HS' : Hid ((l.take (j + 1)).count x = c) := hst
        simp only [he, decide_false] at hE
        clear hst HS he
        generalize l[j] = y at *
        have hNS : NS w k pv vk vn vs n (.slice (some ad) m cs) x ad j y wr.drew := ⟨O3.drew, X3.on (Below.refl _ _).drew, hA.on (Below.refl _ _).drew, B3.drew⟩
        clear O3 X3 hA B3
        go_wp2
        refine wp_region_held_drew (S := fun W => NS w k pv vk vn vs n (.slice (some ad) m cs) x ad j y W) (by kernel_rfl) (hNS) (fun hH0 => ?_)
        refine held_take (i := 0) (o := { dst := some 23, op := Op.load 27 (Operand.tmp 2), type := 27, pos := "law.go:59", after := #[], guard := none }) (v := opV k pv vk vn vs n (.slice (some ad) m cs)) (by kernel_rfl) (by kernel_rfl) (by kernel_rfl) (by kernel_rfl) (fun _ _ _ h => h) (by kernel_rfl) (fun _ h => exec_ldO rfl (by kernel_rfl) h.o) hH0 ?_
        refine held_take (i := 1) (o := { dst := some 24, op := Op.fieldAddr 27 (Operand.tmp 2) 4, type := 0, pos := "law.go:59", after := #[], guard := none }) (v := .pointer (some ⟨w.heap.size, 6, none⟩)) (by kernel_rfl) (by kernel_rfl) (by kernel_rfl) (by kernel_rfl) (fun _ _ _ h => h) (by kernel_rfl) (fun W _ => exec_ofld (i := 4) (by omega) rfl (by kernel_rfl) W) hH0 ?_
        refine held_take (i := 2) (o := { dst := some 25, op := Op.load 25 (Operand.tmp 24), type := 25, pos := "law.go:59", after := #[{ on := 1, ground := Ground.data }], guard := none }) (v := .slice (some ad) m cs) (by kernel_rfl) (by kernel_rfl) (by kernel_rfl) (by kernel_rfl) (fun _ _ _ h => h) (by kernel_rfl) (fun _ h => exec_ldSl (q := 6) rfl (by kernel_rfl) h.o.c6) hH0 ?_
        refine held_take (i := 3) (o := { dst := some 26, op := Op.move (Operand.tmp 6), type := 3, pos := "law.go:59", after := #[], guard := none }) (v := .int .i64 (j : Int)) (by kernel_rfl) (by kernel_rfl) (by kernel_rfl) (by kernel_rfl) (fun _ _ _ h => h) (by kernel_rfl) (fun _ _ => by kernel_rfl) hH0 ?_
        refine held_take (i := 4) (o := { dst := some 27, op := Op.indexAddr 25 (Operand.tmp 25) (Operand.tmp 26), type := 0, pos := "law.go:59", after := #[{ on := 2, ground := Ground.data }, { on := 3, ground := Ground.data }], guard := none }) (v := .pointer (some (ad.add (j * 3)))) (by kernel_rfl) (by kernel_rfl) (by kernel_rfl) (by kernel_rfl) (fun _ _ _ h => h) (by kernel_rfl) (fun W _ => exec_idx (n := m) (c := cs) (k := j) rfl (by kernel_rfl) (by kernel_rfl) hlt W) hH0 ?_
        refine held_take (i := 5) (o := { dst := some 28, op := Op.load 31 (Operand.tmp 27), type := 31, pos := "law.go:59", after := #[{ on := 4, ground := Ground.data }], guard := none }) (v := uV y) (by kernel_rfl) (by kernel_rfl) (by kernel_rfl) (by kernel_rfl) (fun _ _ _ h => h) (by kernel_rfl) (fun _ h => exec_ldU rfl (by kernel_rfl) h.r) hH0 ?_
        refine held_callX (i := 6) (o := { dst := some 29, op := Op.call { callee := Callee.value (Operand.func 19), args := #[Operand.tmp 23, Operand.tmp 28], argTypes := #[27, 31] }, type := 4, pos := "law.go:59", after := #[{ on := 0, ground := Ground.data }, { on := 5, ground := Ground.data }], guard := none }) (F := 19) (vs := #[opV k pv vk vn vs n (.slice (some ad) m cs), uV y]) (by kernel_rfl) (by kernel_rfl) (by kernel_rfl) (fun _ => by kernel_rfl) (CVj _ hH0.below) ?_
        rintro e w1 ⟨rfl, hb1⟩
        have hH1 := hH0.on hb1
        refine ⟨.bool true, rfl, hH1, ?_⟩
        refine held_take (i := 7) (o := { dst := some 30, op := Op.unOp UnOp.not 4 (Operand.tmp 29), type := 4, pos := "law.go:59", after := #[{ on := 6, ground := Ground.data }], guard := none }) (v := .bool false) (by kernel_rfl) (by kernel_rfl) (by kernel_rfl) (by kernel_rfl) (fun _ _ _ h => h) (by kernel_rfl) (fun W _ => exec_un rfl (by kernel_rfl) (not_of true) W) hH1 ?_
        refine wpAnyH_done (by kernel_rfl) ?_ _
        simp only [Act.put, List.setIfInBounds_toArray, List.set_cons_zero, List.set_cons_succ]
        obtain ⟨d0, d1, d2, d3, d4, d5, d6⟩ := id hH1.o
        obtain ⟨x0, x1, x2⟩ := id hH1.x
        obtain ⟨r0, r1, r2⟩ := id hH1.r
        have hbz : Below w2.heap.size w2 w1 := bchain (HY.out.drew) hb1
        clear hH1
        go_wp2
        go_region
        all_goals
          go_wp2
          go_roundw
          case rel => exact ⟨j + 1, c, by omega, by go_num, by go_num, by omega, HS', hbz.drew⟩
          case measure => simp [intOf]; omega
    · obtain rfl : j = m := by omega
      have hcl := Os.count_le HU.out x
      have hcm := Os.count_mem HU.out x
      have hco := HS.out
      rw [HM.out, List.take_length] at hco
      rw [hco] at hcl hcm
      have CX := fun W (hb : Below w.heap.size w W) => CV x W hb
      rw [show hasR l x = decide ((c : Int) = 1) from hcm] at CX
      have h1 : (c : Int) ≤ 1 := by omega
      have HQ : c = 0 ∨ c = 1 := by omega
      clear hcm hcl hco HS HU HM CV
      obtain ⟨c0, c1, c2, c3, c4, c5, c6⟩ := id O3
      obtain ⟨x0, x1, x2⟩ := id X3
      rcases HQ with rfl | rfl
      all_goals
        simp at CX
        go_wp2_with (first
          | (go_at_call 19; refine (CX _ B3).mono ?_; rintro e w3 ⟨rfl, hb3⟩)
          | (go_at_call 8; refine (awake_any _).mono ?_; rintro e w4 ⟨rfl, hb4⟩))
        go_ret
        exact ⟨rfl, bchain (bchain B3 hb3) hb4⟩
end Go.Proofs.Ytbbehccagdibcaa.O
/- Its arguments in the order in which they come in. -/
namespace Go.Proofs.Ytbbehccagdibcaa
theorem opNames_walk (k : Int) (pv : Value) (vk vn : Int) (vs : List UInt8) (n : Int) (sv : Value) (p : List (List UInt8)) (l : List U) (x : U) (w : World) (hx : p.length ≤ 9223372036854775807) (hz : ∀ x ∈ p, x.length ≤ 9223372036854775807) (hp : U.strsAt w pv p) (hs : O.refsIn w sv l) :
    Calls Try.prog 6 #[O.opV k pv vk vn vs n sv, O.uV x] w fun e w' => e = .returned (.bool true) ∧ Go.RowKit.Below w.heap.size w w' :=
  O.opNames_walk k pv vk vn vs n sv p l x w hx hz hp hs
end Go.Proofs.Ytbbehccagdibcaa
