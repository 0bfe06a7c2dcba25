/- The walk of the statement OpBack. -/
import Derived.Test.YtbbehccagdibcaaMay
import Derived.Test.YtbbehccagdibcaaCovers
import Derived.Test.YtbbehccagdibcaaRefCheck
import Derived.Test.YtbbehccagdibcaaAwake
import Derived.Test.YtbbehccagdibcaaReadOp
namespace Go.Proofs.Ytbbehccagdibcaa.O
open Go.RowKit

/-- One that may be, or is gone, is read as it was told. -/
theorem read_may {w : World} {b : Nat} (k vk vn : Int) (vs : List UInt8) (n : Int) (p : List (List UInt8)) (l : List U) (hc : Os.check ⟨k, p, vk, vn, vs, n, l⟩ = 0 ∨ Os.gone ⟨k, p, vk, vn, vs, n, l⟩ = true) (h : Rd w b (Os.code ⟨k, p, vk, vn, vs, n, l⟩) 0) :
    Calls Try.prog 24 #[.pointer (some ⟨b, 0, none⟩)] w fun e w' => ∃ pv sv, e = .returned (opV k pv vk vn vs n sv) ∧ U.strsAt w' pv p ∧ refsIn w' sv l ∧ Rd w' b [] 0 ∧ But b w w' := by
  rcases hc with hc | hc
  · obtain ⟨h1, h2, h3, h4, h5, h6, h7, h8⟩ := Os.check_zero hc
    dsimp only at h1 h2 h3 h4 h5 h6 h7 h8
    have hk : k = 1 ∨ k = 2 ∨ k = 3 ∨ k = 4 ∨ k = 5 := by omega
    have hN : k ≠ 3 → n = 0 := fun e => by
      unfold Os.ra at h5
      rw [if_neg (by show ¬ Os.ha k = true; unfold Os.ha; simp [e])] at h5
      exact of_decide_eq_true h5
    have hV : Os.hv k = false → vk = 0 ∧ vn = 0 ∧ vs = [] := fun e => by
      unfold Os.rv at h4
      rw [if_neg (by show ¬ Os.hv k = true; rw [e]; decide)] at h4
      exact of_decide_eq_true h4
    have hL : Os.hs k = false → l = [] := fun e => by
      rcases h6 with h6 | h6
      · rw [e] at h6; cases h6
      · exact h6
    have hz : ([] : List UInt8).length ≤ 100000 := by simp
    rcases hk with rfl | rfl | rfl | rfl | rfl
    · obtain rfl := hN (by decide)
      exact read_1 vk vn vs l p [] hc hz (by rw [List.append_nil]; exact h)
    · obtain rfl := hN (by decide)
      obtain rfl := hL (by decide)
      exact read_2 vk vn vs p [] hc hz (by rw [List.append_nil]; exact h)
    · obtain ⟨rfl, rfl, rfl⟩ := hV (by decide)
      obtain rfl := hL (by decide)
      exact read_3 n p [] hc hz (by rw [List.append_nil]; exact h)
    · obtain rfl := hN (by decide)
      exact read_4 vk vn vs l p [] hc hz (by rw [List.append_nil]; exact h)
    · obtain rfl := hN (by decide)
      obtain ⟨rfl, rfl, rfl⟩ := hV (by decide)
      exact read_5 l p [] hc hz (by rw [List.append_nil]; exact h)
  · have h0 := Os.gone_is hc
    obtain ⟨rfl, rfl, rfl, rfl, rfl, rfl, rfl⟩ : k = 0 ∧ p = [] ∧ vk = 0 ∧ vn = 0 ∧ vs = [] ∧ n = 0 ∧ l = [] := by simpa using h0
    exact read_gone [] (by simp) (by rw [List.append_nil]; exact h)

theorem eqE (w : World) : (binOp .eql 35 (.int .i64 0) (.int .i64 0)).run Try.prog w = .ok (.bool true) w := by go_simp
theorem open_list (l : List UInt8) (w : World) :
    Calls Try.prog 23 #[.string ⟨l.toArray⟩] w fun e w' => ∃ b, e = .returned (.pointer (some ⟨b, 0, none⟩)) ∧ w.heap.size ≤ b ∧ Rd w' b l 0 ∧ Below w.heap.size w w' := open_rd ⟨l.toArray⟩ w
/-- An operation in its variable, while the law is walked. -/
structure BS (w : World) (k : Int) (pv : Value) (vk vn : Int) (vs : List UInt8) (n : Int) (sv : Value) (W : World) : Prop where
  o : OAt W w.heap.size k pv vk vn vs n sv
  below : Below w.heap.size w W
theorem BS.on {w : World} {k : Int} {pv : Value} {vk vn : Int} {vs : List UInt8} {n : Int} {sv : Value} {W W' : World} (h : BS w k pv vk vn vs n sv W) (hb : Below W.heap.size W W') : BS w k pv vk vn vs n sv W' := ⟨h.o.on hb, bchain h.below hb⟩
theorem BS.but {w : World} {k : Int} {pv : Value} {vk vn : Int} {vs : List UInt8} {n : Int} {sv : Value} {W W' : World} {g : Nat} (h : BS w k pv vk vn vs n sv W) (hb : But g W W') (hg : w.heap.size < g) : BS w k pv vk vn vs n sv W' :=
  ⟨h.o.but hb (by omega), h.below.trans (hb.below (by omega) h.below.size)⟩

set_option maxRecDepth 20000 in
set_option maxHeartbeats 4000000 in
theorem opBack_walk (k : Int) (pv : Value) (vk vn : Int) (vs : List UInt8) (n : Int) (sv : Value) (p : List (List UInt8)) (l : List U) (w : World)
    (hx : p.length ≤ 9223372036854775807) (hz : ∀ x ∈ p, x.length ≤ 9223372036854775807) (hp : U.strsAt w pv p) (hs : refsIn w sv l) :
    Calls Try.prog 5 #[opV k pv vk vn vs n sv] w fun e w' => e = .returned (.bool true) ∧ Below w.heap.size w w' := by
  have B0 := below_new w (opO k pv vk vn vs n sv)
  have O0 := OAt.new w k pv vk vn vs n sv
  have C7 := refShort_any k pv vk vn vs n sv p l _ hx hz (U.strsAt_below hp B0 (Nat.le_refl _)) (hs.on B0)
  cases hsh : Os.short ⟨k, p, vk, vn, vs, n, l⟩ with
  | false =>
    rw [hsh] at C7
    clear hx hz hp hs hsh
    go_enter Try.func5, Try.ntmps5
    go_wp2_with (first
      | (go_at_call 7; refine C7.mono ?_; rintro e w1 ⟨rfl, hb1⟩)
      | (go_at_call 8; refine (awake_any _).mono ?_; rintro e w2 ⟨rfl, hb2⟩))
    go_ret
    exact ⟨rfl, bchain (bchain B0 hb1) hb2⟩
  | true =>
  rw [hsh] at C7
  have hsh' : (Pt.short p = true ∧ vs.length ≤ 200) ∧ l.length ≤ 300 := by simpa [Os.short] using hsh
  have hps := Pt.short_iff hsh'.1.1
  have hll := hsh'.2
  have hvs := hsh'.1.2
  have C9 := fun W (hb : Below w.heap.size w W) => refCheck_any k pv vk vn vs n sv p l W (by omega) (fun y hy => by have := hps.2 y hy; omega) (by omega) (by omega) (U.strsAt_below hp hb (Nat.le_refl _)) (hs.on hb)
  have C18 := fun W (hb : Below w.heap.size w W) => refGone_any k pv vk vn vs n sv p l W (U.strsAt_below hp hb (Nat.le_refl _)) (hs.on hb)
  by_cases hc : Os.check ⟨k, p, vk, vn, vs, n, l⟩ ≠ 0 ∧ Os.gone ⟨k, p, vk, vn, vs, n, l⟩ = false
  · obtain ⟨hc1, hc2⟩ := hc
    rw [hc2] at C18
    generalize Os.check ⟨k, p, vk, vn, vs, n, l⟩ = q at *
    have e1 : ((q : Int) != 0) = true := by simp; omega
    clear hx hz hp hs hsh hsh' hps hll hvs hc1 hc2
    go_enter Try.func5, Try.ntmps5
    go_wp2_with (first
      | (go_at_call 7; refine C7.mono ?_; rintro e w1 ⟨rfl, hb1⟩; have B1 := bchain B0 hb1; have O1 := O0.on hb1; obtain ⟨c0, c1, c2, c3, c4, c5, c6⟩ := id O1)
      | (go_at_call 9; refine (C9 _ B1).mono ?_; rintro e w2 ⟨rfl, hb2⟩; have B2 := bchain B1 hb2; have O2 := O1.on hb2; obtain ⟨d0, d1, d2, d3, d4, d5, d6⟩ := id O2)
      | (go_at_call 18; refine (C18 _ B2).mono ?_; rintro e w3 ⟨rfl, hb3⟩; have B3 := bchain B2 hb3)
      | (go_at_call 8; refine (awake_any _).mono ?_; rintro e w4 ⟨rfl, hb4⟩))
    go_ret
    exact ⟨rfl, bchain B3 hb4⟩
  have hm : Os.check ⟨k, p, vk, vn, vs, n, l⟩ = 0 ∨ Os.gone ⟨k, p, vk, vn, vs, n, l⟩ = true := by
    by_cases e : Os.check ⟨k, p, vk, vn, vs, n, l⟩ = 0
    · exact .inl e
    · exact .inr (by cases g : Os.gone ⟨k, p, vk, vn, vs, n, l⟩ with
        | true => rfl
        | false => exact absurd ⟨e, g⟩ hc)
  have C21 := fun W (hb : Below w.heap.size w W) => code_may k pv vk vn vs n sv p l W (U.strsAt_below hp hb (Nat.le_refl _)) (hs.on hb) hm
  have C23 := open_list (Os.code ⟨k, p, vk, vn, vs, n, l⟩)
  have C24 := fun W b (h : Rd W b (Os.code ⟨k, p, vk, vn, vs, n, l⟩) 0) => read_may k vk vn vs n p l hm h
  have C16 := fun pv2 sv2 W (hb : Below w.heap.size w W) (h1 : U.strsAt W pv2 p) (h2 : refsIn W sv2 l) => refSame_any k pv2 vk vn vs n sv2 k pv vk vn vs n sv p p l l W (by omega) (by omega) h1 (U.strsAt_below hp hb (Nat.le_refl _)) h2 (hs.on hb)
  rw [Os.same_self] at C16
  generalize Os.code ⟨k, p, vk, vn, vs, n, l⟩ = cd at *
  clear hx hz hp hs hsh hsh' hps hll hvs hc
  have hm2 : (Os.check ⟨k, p, vk, vn, vs, n, l⟩ = 0) ∨ (Os.check ⟨k, p, vk, vn, vs, n, l⟩ ≠ 0 ∧ Os.gone ⟨k, p, vk, vn, vs, n, l⟩ = true) := by
    by_cases e : Os.check ⟨k, p, vk, vn, vs, n, l⟩ = 0
    · exact .inl e
    · exact .inr ⟨e, hm.resolve_left e⟩
  clear hm
  rcases hm2 with e0 | ⟨e0, e1⟩
  · rw [e0] at C9
    clear e0 C18
    go_enter Try.func5, Try.ntmps5
    go_wp2_with (first
      | (go_at_call 7; refine C7.mono ?_; rintro e w1 ⟨rfl, hb1⟩; have B1 := bchain B0 hb1; have O1 := O0.on hb1; obtain ⟨c0, c1, c2, c3, c4, c5, c6⟩ := id O1)
      | (go_at_call 9; refine (C9 _ B1).mono ?_; rintro e w2 ⟨rfl, hb2⟩; have B2 := bchain B1 hb2; have O2 := O1.on hb2; obtain ⟨d0, d1, d2, d3, d4, d5, d6⟩ := id O2)
      | (go_at_call 21; refine (C21 _ B2).mono ?_; rintro e w4 ⟨rfl, hb4⟩; have B4 := bchain B2 hb4; have O4 := O2.on hb4)
      | (go_at_call 23; refine (C23 _).mono ?_; rintro e w5 ⟨rb, rfl, hrb, hrd, hb5⟩; have B5 := bchain B4 hb5; have O5 := O4.on hb5))
    have hq : w.heap.size < rb := by have := O4.lt; omega
    have T5 : BS w k pv vk vn vs n sv w5 := ⟨O5, B5⟩
    clear c0 c1 c2 c3 c4 c5 c6 d0 d1 d2 d3 d4 d5 d6 O0 O1 O2 B0 B1 O4 B4
    refine wp_region_held_drew (S := fun W => BS w k pv vk vn vs n sv W) (by kernel_rfl) (T5.on (Below.refl _ _).drew) (fun hH0 => ?_)
    refine held_take (i := 0) (o := { dst := some 21, op := Op.move (Operand.tmp 3), type := 43, pos := "law.go:49", after := #[], guard := none }) (v := .pointer (some ⟨rb, 0, none⟩)) (by kernel_rfl) (by kernel_rfl) (by kernel_rfl) (by kernel_rfl) (fun _ _ _ h => h) (by kernel_rfl) (fun _ _ => by kernel_rfl) hH0 ?_
    refine held_take (i := 2) (o := { dst := some 23, op := Op.load 27 (Operand.tmp 1), type := 27, pos := "law.go:49", after := #[], guard := none }) (v := opV k pv vk vn vs n sv) (by kernel_rfl) (by kernel_rfl) (by kernel_rfl) (by kernel_rfl) (fun _ _ _ h => h) (by kernel_rfl) (fun _ h => exec_ldO rfl (by kernel_rfl) h.o) hH0 ?_
    refine held_callX (i := 1) (o := { dst := some 22, op := Op.call { callee := Callee.value (Operand.func 24), args := #[Operand.tmp 21], argTypes := #[43] }, type := 27, pos := "law.go:49", after := #[{ on := 0, ground := Ground.data }], guard := none }) (F := 24) (vs := #[.pointer (some ⟨rb, 0, none⟩)]) (by kernel_rfl) (by kernel_rfl) (by kernel_rfl) (fun _ => by kernel_rfl) (C24 _ rb (hrd.on (Below.refl _ _).drew)) ?_
    rintro e u1 ⟨pv2, sv2, rfl, hP1, hL1, hr1, hb1⟩
    have hH1 := hH0.but hb1 hq
    refine ⟨opV k pv2 vk vn vs n sv2, rfl, hH1, ?_⟩
    refine held_callX (i := 3) (o := { dst := some 24, op := Op.call { callee := Callee.value (Operand.func 16), args := #[Operand.tmp 22, Operand.tmp 23], argTypes := #[27, 27] }, type := 4, pos := "law.go:49", after := #[{ on := 1, ground := Ground.data }, { on := 2, ground := Ground.data }, { on := 1, ground := Ground.chain }], guard := none }) (F := 16) (vs := #[opV k pv2 vk vn vs n sv2, opV k pv vk vn vs n sv]) (by kernel_rfl) (by kernel_rfl) (by kernel_rfl) (fun _ => by kernel_rfl) (C16 pv2 sv2 _ hH1.below hP1 hL1) ?_
    rintro e u2 ⟨rfl, hb2⟩
    have hH2 := hH1.on hb2
    refine ⟨.bool true, rfl, hH2, ?_⟩
    refine held_take (i := 4) (o := { dst := some 25, op := Op.move (Operand.tmp 24), type := 4, pos := "law.go:49", after := #[{ on := 3, ground := Ground.data }, { on := 3, ground := Ground.chain }], guard := none }) (v := .bool true) (by kernel_rfl) (by kernel_rfl) (by kernel_rfl) (by kernel_rfl) (fun _ _ _ h => h) (by kernel_rfl) (fun _ _ => by kernel_rfl) hH2 ?_
    refine held_take (i := 5) (o := { dst := some 26, op := Op.move (Operand.tmp 3), type := 43, pos := "law.go:49", after := #[{ on := 4, ground := Ground.guard }], guard := some (4, true) }) (v := .pointer (some ⟨rb, 0, none⟩)) (by kernel_rfl) (by kernel_rfl) (by kernel_rfl) (by kernel_rfl) (fun _ _ _ h => h) (by kernel_rfl) (fun _ _ => by kernel_rfl) hH2 ?_
    refine held_callX (i := 6) (o := { dst := some 27, op := Op.call { callee := Callee.value (Operand.func 29), args := #[Operand.tmp 26], argTypes := #[43] }, type := 35, pos := "law.go:49", after := #[{ on := 5, ground := Ground.data }, { on := 4, ground := Ground.chain }, { on := 4, ground := Ground.guard }], guard := some (4, true) }) (F := 29) (vs := #[.pointer (some ⟨rb, 0, none⟩)]) (by kernel_rfl) (by kernel_rfl) (by kernel_rfl) (fun _ => by kernel_rfl) (end_rd (hr1.on hb2)) ?_
    rintro e u3 ⟨rfl, hr3, hb3⟩
    have hH3 := hH2.but hb3 hq
    refine ⟨.int .i64 0, rfl, hH3, ?_⟩
    refine held_take (i := 7) (o := { dst := some 28, op := Op.binOp BinOp.eql 35 (Operand.tmp 27) (Operand.const (Value.int IntKind.i64 0)) 35, type := 4, pos := "law.go:49", after := #[{ on := 6, ground := Ground.data }, { on := 4, ground := Ground.guard }], guard := some (4, true) }) (v := .bool true) (by kernel_rfl) (by kernel_rfl) (by kernel_rfl) (by kernel_rfl) (fun _ _ _ h => h) (by kernel_rfl) (fun W _ => exec_bin rfl (by kernel_rfl) (by kernel_rfl) (fun _ => by kernel_rfl) (eqE) W) hH3 ?_
    refine held_take (i := 8) (o := { dst := some 29, op := Op.pick (Operand.tmp 25) (Operand.tmp 28) (Operand.const (Value.bool false)), type := 4, pos := "law.go:49", after := #[{ on := 4, ground := Ground.data }, { on := 7, ground := Ground.data }], guard := none }) (v := .bool true) (by kernel_rfl) (by kernel_rfl) (by kernel_rfl) (by kernel_rfl) (fun _ _ _ h => h) (by kernel_rfl) (fun _ _ => by kernel_rfl) hH3 ?_
    refine held_take (i := 9) (o := { dst := some 30, op := Op.move (Operand.tmp 29), type := 4, pos := "law.go:49", after := #[{ on := 8, ground := Ground.data }, { on := 6, ground := Ground.chain }], guard := none }) (v := .bool true) (by kernel_rfl) (by kernel_rfl) (by kernel_rfl) (by kernel_rfl) (fun _ _ _ h => h) (by kernel_rfl) (fun _ _ => by kernel_rfl) hH3 ?_
    refine held_callX (i := 10) (o := { dst := some 31, op := Op.call { callee := Callee.value (Operand.func 8), args := #[], argTypes := #[] }, type := 4, pos := "law.go:49", after := #[{ on := 9, ground := Ground.chain }, { on := 9, ground := Ground.guard }], guard := some (9, true) }) (F := 8) (vs := #[]) (by kernel_rfl) (by kernel_rfl) (by kernel_rfl) (fun _ => by kernel_rfl) (awake_any _) ?_
    rintro e u4 ⟨rfl, hb4⟩
    have hH4 := hH3.on hb4
    refine ⟨.bool true, rfl, hH4, ?_⟩
    refine held_take (i := 11) (o := { dst := some 32, op := Op.pick (Operand.tmp 30) (Operand.tmp 31) (Operand.const (Value.bool false)), type := 4, pos := "law.go:49", after := #[{ on := 9, ground := Ground.data }, { on := 10, ground := Ground.data }], guard := none }) (v := .bool true) (by kernel_rfl) (by kernel_rfl) (by kernel_rfl) (by kernel_rfl) (fun _ _ _ h => h) (by kernel_rfl) (fun _ _ => by kernel_rfl) hH4 ?_
    refine held_do (i := 12) (o := { dst := some 2, op := Op.assign (Operand.tmp 32), type := 4, pos := "law.go:49", after := #[{ on := 11, ground := Ground.data }, { on := 10, ground := Ground.chain }, { on := 0, ground := Ground.phase }, { on := 1, ground := Ground.phase }, { on := 2, ground := Ground.phase }, { on := 3, ground := Ground.phase }, { on := 4, ground := Ground.phase }, { on := 5, ground := Ground.phase }, { on := 6, ground := Ground.phase }, { on := 7, ground := Ground.phase }, { on := 8, ground := Ground.phase }, { on := 9, ground := Ground.phase }, { on := 10, ground := Ground.phase }, { on := 11, ground := Ground.phase }], guard := none }) (v := .bool true) (by kernel_rfl) (by kernel_rfl) (by kernel_rfl) (by kernel_rfl) hH4 ?_
    refine wpAnyH_done (by kernel_rfl) ?_ _
    simp only [Act.put, List.setIfInBounds_toArray, List.set_cons_zero, List.set_cons_succ]
    go_wp2
    go_ret
    exact ⟨rfl, hH4.below⟩
  · rw [e1] at C18
    generalize Os.check ⟨k, p, vk, vn, vs, n, l⟩ = q at *
    have e2 : ((q : Int) != 0) = true := by simp; omega
    clear e0 e1
    go_enter Try.func5, Try.ntmps5
    go_wp2_with (first
      | (go_at_call 7; refine C7.mono ?_; rintro e w1 ⟨rfl, hb1⟩; have B1 := bchain B0 hb1; have O1 := O0.on hb1; obtain ⟨c0, c1, c2, c3, c4, c5, c6⟩ := id O1)
      | (go_at_call 9; refine (C9 _ B1).mono ?_; rintro e w2 ⟨rfl, hb2⟩; have B2 := bchain B1 hb2; have O2 := O1.on hb2; obtain ⟨d0, d1, d2, d3, d4, d5, d6⟩ := id O2)
      | (go_at_call 18; refine (C18 _ B2).mono ?_; rintro e w3 ⟨rfl, hb3⟩; have B3 := bchain B2 hb3; have O3 := O2.on hb3; obtain ⟨x0, x1, x2, x3, x4, x5, x6⟩ := id O3)
      | (go_at_call 21; refine (C21 _ B3).mono ?_; rintro e w4 ⟨rfl, hb4⟩; have B4 := bchain B3 hb4; have O4 := O3.on hb4)
      | (go_at_call 23; refine (C23 _).mono ?_; rintro e w5 ⟨rb, rfl, hrb, hrd, hb5⟩; have B5 := bchain B4 hb5; have O5 := O4.on hb5))
    have hq : w.heap.size < rb := by have := O4.lt; omega
    have T5 : BS w k pv vk vn vs n sv w5 := ⟨O5, B5⟩
    clear c0 c1 c2 c3 c4 c5 c6 d0 d1 d2 d3 d4 d5 d6 O0 O1 O2 B0 B1 O4 B4
    refine wp_region_held_drew (S := fun W => BS w k pv vk vn vs n sv W) (by kernel_rfl) (T5.on (Below.refl _ _).drew) (fun hH0 => ?_)
    refine held_take (i := 0) (o := { dst := some 21, op := Op.move (Operand.tmp 3), type := 43, pos := "law.go:49", after := #[], guard := none }) (v := .pointer (some ⟨rb, 0, none⟩)) (by kernel_rfl) (by kernel_rfl) (by kernel_rfl) (by kernel_rfl) (fun _ _ _ h => h) (by kernel_rfl) (fun _ _ => by kernel_rfl) hH0 ?_
    refine held_take (i := 2) (o := { dst := some 23, op := Op.load 27 (Operand.tmp 1), type := 27, pos := "law.go:49", after := #[], guard := none }) (v := opV k pv vk vn vs n sv) (by kernel_rfl) (by kernel_rfl) (by kernel_rfl) (by kernel_rfl) (fun _ _ _ h => h) (by kernel_rfl) (fun _ h => exec_ldO rfl (by kernel_rfl) h.o) hH0 ?_
    refine held_callX (i := 1) (o := { dst := some 22, op := Op.call { callee := Callee.value (Operand.func 24), args := #[Operand.tmp 21], argTypes := #[43] }, type := 27, pos := "law.go:49", after := #[{ on := 0, ground := Ground.data }], guard := none }) (F := 24) (vs := #[.pointer (some ⟨rb, 0, none⟩)]) (by kernel_rfl) (by kernel_rfl) (by kernel_rfl) (fun _ => by kernel_rfl) (C24 _ rb (hrd.on (Below.refl _ _).drew)) ?_
    rintro e u1 ⟨pv2, sv2, rfl, hP1, hL1, hr1, hb1⟩
    have hH1 := hH0.but hb1 hq
    refine ⟨opV k pv2 vk vn vs n sv2, rfl, hH1, ?_⟩
    refine held_callX (i := 3) (o := { dst := some 24, op := Op.call { callee := Callee.value (Operand.func 16), args := #[Operand.tmp 22, Operand.tmp 23], argTypes := #[27, 27] }, type := 4, pos := "law.go:49", after := #[{ on := 1, ground := Ground.data }, { on := 2, ground := Ground.data }, { on := 1, ground := Ground.chain }], guard := none }) (F := 16) (vs := #[opV k pv2 vk vn vs n sv2, opV k pv vk vn vs n sv]) (by kernel_rfl) (by kernel_rfl) (by kernel_rfl) (fun _ => by kernel_rfl) (C16 pv2 sv2 _ hH1.below hP1 hL1) ?_
    rintro e u2 ⟨rfl, hb2⟩
    have hH2 := hH1.on hb2
    refine ⟨.bool true, rfl, hH2, ?_⟩
    refine held_take (i := 4) (o := { dst := some 25, op := Op.move (Operand.tmp 24), type := 4, pos := "law.go:49", after := #[{ on := 3, ground := Ground.data }, { on := 3, ground := Ground.chain }], guard := none }) (v := .bool true) (by kernel_rfl) (by kernel_rfl) (by kernel_rfl) (by kernel_rfl) (fun _ _ _ h => h) (by kernel_rfl) (fun _ _ => by kernel_rfl) hH2 ?_
    refine held_take (i := 5) (o := { dst := some 26, op := Op.move (Operand.tmp 3), type := 43, pos := "law.go:49", after := #[{ on := 4, ground := Ground.guard }], guard := some (4, true) }) (v := .pointer (some ⟨rb, 0, none⟩)) (by kernel_rfl) (by kernel_rfl) (by kernel_rfl) (by kernel_rfl) (fun _ _ _ h => h) (by kernel_rfl) (fun _ _ => by kernel_rfl) hH2 ?_
    refine held_callX (i := 6) (o := { dst := some 27, op := Op.call { callee := Callee.value (Operand.func 29), args := #[Operand.tmp 26], argTypes := #[43] }, type := 35, pos := "law.go:49", after := #[{ on := 5, ground := Ground.data }, { on := 4, ground := Ground.chain }, { on := 4, ground := Ground.guard }], guard := some (4, true) }) (F := 29) (vs := #[.pointer (some ⟨rb, 0, none⟩)]) (by kernel_rfl) (by kernel_rfl) (by kernel_rfl) (fun _ => by kernel_rfl) (end_rd (hr1.on hb2)) ?_
    rintro e u3 ⟨rfl, hr3, hb3⟩
    have hH3 := hH2.but hb3 hq
    refine ⟨.int .i64 0, rfl, hH3, ?_⟩
    refine held_take (i := 7) (o := { dst := some 28, op := Op.binOp BinOp.eql 35 (Operand.tmp 27) (Operand.const (Value.int IntKind.i64 0)) 35, type := 4, pos := "law.go:49", after := #[{ on := 6, ground := Ground.data }, { on := 4, ground := Ground.guard }], guard := some (4, true) }) (v := .bool true) (by kernel_rfl) (by kernel_rfl) (by kernel_rfl) (by kernel_rfl) (fun _ _ _ h => h) (by kernel_rfl) (fun W _ => exec_bin rfl (by kernel_rfl) (by kernel_rfl) (fun _ => by kernel_rfl) (eqE) W) hH3 ?_
    refine held_take (i := 8) (o := { dst := some 29, op := Op.pick (Operand.tmp 25) (Operand.tmp 28) (Operand.const (Value.bool false)), type := 4, pos := "law.go:49", after := #[{ on := 4, ground := Ground.data }, { on := 7, ground := Ground.data }], guard := none }) (v := .bool true) (by kernel_rfl) (by kernel_rfl) (by kernel_rfl) (by kernel_rfl) (fun _ _ _ h => h) (by kernel_rfl) (fun _ _ => by kernel_rfl) hH3 ?_
    refine held_take (i := 9) (o := { dst := some 30, op := Op.move (Operand.tmp 29), type := 4, pos := "law.go:49", after := #[{ on := 8, ground := Ground.data }, { on := 6, ground := Ground.chain }], guard := none }) (v := .bool true) (by kernel_rfl) (by kernel_rfl) (by kernel_rfl) (by kernel_rfl) (fun _ _ _ h => h) (by kernel_rfl) (fun _ _ => by kernel_rfl) hH3 ?_
    refine held_callX (i := 10) (o := { dst := some 31, op := Op.call { callee := Callee.value (Operand.func 8), args := #[], argTypes := #[] }, type := 4, pos := "law.go:49", after := #[{ on := 9, ground := Ground.chain }, { on := 9, ground := Ground.guard }], guard := some (9, true) }) (F := 8) (vs := #[]) (by kernel_rfl) (by kernel_rfl) (by kernel_rfl) (fun _ => by kernel_rfl) (awake_any _) ?_
    rintro e u4 ⟨rfl, hb4⟩
    have hH4 := hH3.on hb4
    refine ⟨.bool true, rfl, hH4, ?_⟩
    refine held_take (i := 11) (o := { dst := some 32, op := Op.pick (Operand.tmp 30) (Operand.tmp 31) (Operand.const (Value.bool false)), type := 4, pos := "law.go:49", after := #[{ on := 9, ground := Ground.data }, { on := 10, ground := Ground.data }], guard := none }) (v := .bool true) (by kernel_rfl) (by kernel_rfl) (by kernel_rfl) (by kernel_rfl) (fun _ _ _ h => h) (by kernel_rfl) (fun _ _ => by kernel_rfl) hH4 ?_
    refine held_do (i := 12) (o := { dst := some 2, op := Op.assign (Operand.tmp 32), type := 4, pos := "law.go:49", after := #[{ on := 11, ground := Ground.data }, { on := 10, ground := Ground.chain }, { on := 0, ground := Ground.phase }, { on := 1, ground := Ground.phase }, { on := 2, ground := Ground.phase }, { on := 3, ground := Ground.phase }, { on := 4, ground := Ground.phase }, { on := 5, ground := Ground.phase }, { on := 6, ground := Ground.phase }, { on := 7, ground := Ground.phase }, { on := 8, ground := Ground.phase }, { on := 9, ground := Ground.phase }, { on := 10, ground := Ground.phase }, { on := 11, ground := Ground.phase }], guard := none }) (v := .bool true) (by kernel_rfl) (by kernel_rfl) (by kernel_rfl) (by kernel_rfl) hH4 ?_
    refine wpAnyH_done (by kernel_rfl) ?_ _
    simp only [Act.put, List.setIfInBounds_toArray, List.set_cons_zero, List.set_cons_succ]
    go_wp2
    go_ret
    exact ⟨rfl, hH4.below⟩
end Go.Proofs.Ytbbehccagdibcaa.O
/- Its arguments in the order in which they come in. -/
namespace Go.Proofs.Ytbbehccagdibcaa
theorem opBack_walk (k : Int) (pv : Value) (vk vn : Int) (vs : List UInt8) (n : Int) (sv : Value) (p : List (List UInt8)) (l : List U) (w : World) (hx : p.length ≤ 9223372036854775807) (hz : ∀ x ∈ p, x.length ≤ 9223372036854775807) (hp : U.strsAt w pv p) (hs : O.refsIn w sv l) :
    Calls Try.prog 5 #[O.opV k pv vk vn vs n sv] w fun e w' => e = .returned (.bool true) ∧ Go.RowKit.Below w.heap.size w w' :=
  O.opBack_walk k pv vk vn vs n sv p l w hx hz hp hs
end Go.Proofs.Ytbbehccagdibcaa
