/- The walk of DotsCode. -/
import Derived.Test.YtenfbjlmfdiniaaReadSet
namespace Go.Proofs.Ytenfbjlmfdiniaa
open Go.RowKit Go.Shelf

theorem neqs_same (x : ByteArray) (w : World) : (binOp .neq 9 (.string x) (.string x)).run Try.prog w = .ok (.bool false) w := by go_simp
theorem eqe_same (x : Int) (w : World) : (binOp .eql 48 (.int .i64 x) (.int .i64 x)).run Try.prog w = .ok (.bool true) w := by go_simp
/-- What holds while what was told is read again. -/
structure ES (w : World) (l : List Int) (va : Value) (b : Nat) (W : World) : Prop where
  set : SetAt W w.heap.size l va
  ne : w.heap.size < b
  below : Below w.heap.size w W
theorem ES.on {w : World} {l : List Int} {va : Value} {b : Nat} {W W' : World} (h : ES w l va b W) (hb : But b W W') : ES w l va b W' :=
  ⟨h.set.but hb (Nat.ne_of_lt h.ne), h.ne, h.below.trans (hb.below (Nat.le_of_lt h.ne) h.below.size)⟩

set_option maxRecDepth 20000 in
set_option maxHeartbeats 2000000 in
theorem dotsCode_walk (s : List Int × List D) (va : Value) (vb : Value) (m : List D) (w : World) (hl : s.1.length = 16) (hda : dotsIn w va s.2) (hg : Go64 s.1) (hgd : GoD s.2) (hdb : dotsIn w vb m) (hgm : GoD m) :
    Calls Try.prog 7 #[setV s.1 va, vb] w fun e w' => e = .returned (.bool true) ∧ Below w.heap.size w w' := by
  obtain ⟨W0, hW0⟩ : ∃ W0, W0 = w.alloc (.cells (setC s.1 va).toArray 26) := ⟨_, rfl⟩
  have hB0 : Below w.heap.size w W0 := by rw [hW0]; exact below_new _ _
  have hA0 : SetAt W0 w.heap.size s.1 va := by rw [hW0]; exact SetAt.new w s.1 va
  obtain ⟨n, hn0⟩ : ∃ n, n = s.2.length := ⟨_, rfl⟩
  obtain ⟨k, hk0⟩ : ∃ k, k = m.length := ⟨_, rfl⟩
  obtain ⟨ao, ca, hva, _, _⟩ := id hda
  obtain ⟨bo, cb, hvb, _, _⟩ := id hdb
  rw [← hn0] at hva
  rw [← hk0] at hvb
  have m0 := hA0.more hl
  rw [hva] at m0
  have HB : Hid (Below w.heap.size w W0) := hB0
  have HW : Hid (W0 = w.alloc (.cells (setC s.1 va).toArray 26)) := hW0
  rw [hW0] at m0
  by_cases hn : n ≤ 100
  rotate_left
  · have hn9 : (100 : Int) < (n : Int) := by omega
    clear hda hA0 hva hW0 hB0 hn0 hk0 hg hgd hgm hdb hvb
    go_enter Try.func7, Try.ntmps7
    go_wp2_with (first | (go_at_call 9; refine (awake_any _).mono ?_; rintro e w1 ⟨rfl, hb1⟩))
    go_ret
    rw [← HW.out] at hb1
    exact ⟨rfl, bchain HB.out hb1⟩
  have hn9 : ¬ (100 : Int) < (n : Int) := by omega
  by_cases hk : k ≤ 60
  rotate_left
  · have hk9 : (60 : Int) < (k : Int) := by omega
    subst hvb
    clear hda hA0 hva hW0 hB0 hn0 hk0 hg hgd hgm hdb
    go_enter Try.func7, Try.ntmps7
    go_wp2_with (first | (go_at_call 9; refine (awake_any _).mono ?_; rintro e w1 ⟨rfl, hb1⟩))
    go_ret
    rw [← HW.out] at hb1
    exact ⟨rfl, bchain HB.out hb1⟩
  have hk9 : ¬ (60 : Int) < (k : Int) := by omega
  have hs6 : s.2.length ≤ 1000000 := by omega
  have hm6 : m.length ≤ 1000000 := by omega
  have hCS : CS w s.1 va s.2 W0.drew := ⟨hA0, hda.on hB0.drew, hB0.drew⟩
  have H30 : Hid (∀ W, CS w s.1 va s.2 W → Calls Try.prog 30 #[setV s.1 va] W fun e w' => e = .returned (.string ⟨(scode s.1 s.2).toArray⟩) ∧ Below W.heap.size W w') := fun W h => codeSet_any s.1 hl hg va s.2 W h.dots hs6 hgd
  have H31 : Hid (∀ W, CS w s.1 va s.2 W → Calls Try.prog 31 #[setV s.1 va] W fun e w' => e = .returned (.string ⟨(scode s.1 s.2).toArray⟩) ∧ Below W.heap.size W w') := fun W h => refCodeSet_any s.1 hl hg va s.2 W h.dots hs6 hgd
  have H32 : Hid (∀ W, CS w s.1 va s.2 W → Calls Try.prog 32 #[vb] W fun e w' => e = .returned (.string ⟨(lcode m).toArray⟩) ∧ Below W.heap.size W w') := fun W h => list_any vb m W (hdb.on h.below) hm6 hgm
  have H33 : Hid (∀ W, CS w s.1 va s.2 W → Calls Try.prog 33 #[vb] W fun e w' => e = .returned (.string ⟨(lcode m).toArray⟩) ∧ Below W.heap.size W w') := fun W h => refList_any vb m W (hdb.on h.below) hm6 hgm
  have hRR : ∀ q : Bool, (q = true ↔ (St.Std s.1 s.2 ∧ s.2.length ≤ 4096)) → Hid (∀ W, CS w s.1 va s.2 W → Calls Try.prog 11 #[setV s.1 va] W fun e w' => e = .returned (.bool q) ∧ Below W.heap.size W w') := fun q hq W h =>
    (refRight_said s.1 hl va s.2 W h.dots hs6).mono fun e w' ⟨h1, h2⟩ => ⟨by
      cases q
      · exact h1.no fun hp => (by cases hq.2 hp)
      · exact h1.yes (hq.1 rfl), h2⟩
  have hlen := scode_len hg hgd hs6
  have hsz : (scode s.1 s.2 ++ []).length ≤ maxLen := by
    rw [List.append_nil, scode, List.length_append]
    unfold maxLen
    omega
  by_cases hS : St.Std s.1 s.2
  rotate_left
  · have HR := hRR false ⟨fun e => (by cases e), fun e => absurd e.1 hS⟩
    clear hda hA0 hva hW0 hB0 hn0 hk0 hRR hS hg hgd hgm hdb hlen hsz
    subst hvb
    go_enter Try.func7, Try.ntmps7
    go_wp2
    rw [← HW.out]
    refine wp_region_held_drew (S := CS w s.1 va s.2) (by kernel_rfl) (hCS) (fun hH0 => ?_)
    refine held_take (i := 0) (o := { dst := some 16, op := Op.load 26 (Operand.tmp 2), type := 26, pos := "law.go:84", after := #[], guard := none }) (v := setV s.1 va) (by kernel_rfl) (by kernel_rfl) (by kernel_rfl) (by kernel_rfl) (fun _ _ _ h => h) (by kernel_rfl) (fun _ h => exec_set rfl hl (by kernel_rfl) h.set) hH0 ?_
    refine held_take (i := 2) (o := { dst := some 18, op := Op.load 26 (Operand.tmp 2), type := 26, pos := "law.go:84", after := #[], guard := none }) (v := setV s.1 va) (by kernel_rfl) (by kernel_rfl) (by kernel_rfl) (by kernel_rfl) (fun _ _ _ h => h) (by kernel_rfl) (fun _ h => exec_set rfl hl (by kernel_rfl) h.set) hH0 ?_
    refine held_callX (i := 1) (o := { dst := some 17, op := Op.call { callee := Callee.value (Operand.func 30), args := #[Operand.tmp 16], argTypes := #[26] }, type := 9, pos := "law.go:84", after := #[{ on := 0, ground := Ground.data }], guard := none }) (F := 30) (vs := #[setV s.1 va]) (by kernel_rfl) (by kernel_rfl) (by kernel_rfl) (fun _ => by kernel_rfl) (H30.out _ hH0) ?_
    rintro e w1 ⟨rfl, hb1⟩
    have hH1 := hH0.on hb1
    refine ⟨.string ⟨(scode s.1 s.2).toArray⟩, rfl, hH1, ?_⟩
    refine held_callX (i := 3) (o := { dst := some 19, op := Op.call { callee := Callee.value (Operand.func 31), args := #[Operand.tmp 18], argTypes := #[26] }, type := 9, pos := "law.go:84", after := #[{ on := 2, ground := Ground.data }, { on := 1, ground := Ground.chain }], guard := none }) (F := 31) (vs := #[setV s.1 va]) (by kernel_rfl) (by kernel_rfl) (by kernel_rfl) (fun _ => by kernel_rfl) (H31.out _ hH1) ?_
    rintro e w2 ⟨rfl, hb2⟩
    have hH2 := hH1.on hb2
    refine ⟨.string ⟨(scode s.1 s.2).toArray⟩, rfl, hH2, ?_⟩
    refine held_take (i := 4) (o := { dst := some 20, op := Op.binOp BinOp.neq 9 (Operand.tmp 17) (Operand.tmp 19) 9, type := 4, pos := "law.go:84", after := #[{ on := 1, ground := Ground.data }, { on := 3, ground := Ground.data }], guard := none }) (v := .bool false) (by kernel_rfl) (by kernel_rfl) (by kernel_rfl) (by kernel_rfl) (fun _ _ _ h => h) (by kernel_rfl) (fun W _ => exec_bin rfl (by kernel_rfl) (by kernel_rfl) (fun _ => by kernel_rfl) (neqs_same ⟨(scode s.1 s.2).toArray⟩) W) hH2 ?_
    refine held_take (i := 5) (o := { dst := some 21, op := Op.move (Operand.tmp 20), type := 4, pos := "law.go:84", after := #[{ on := 4, ground := Ground.data }, { on := 3, ground := Ground.chain }], guard := none }) (v := .bool false) (by kernel_rfl) (by kernel_rfl) (by kernel_rfl) (by kernel_rfl) (fun _ _ _ h => h) (by kernel_rfl) (fun _ _ => by kernel_rfl) hH2 ?_
    refine held_take (i := 6) (o := { dst := some 22, op := Op.move (Operand.tmp 1), type := 24, pos := "law.go:84", after := #[{ on := 5, ground := Ground.guard }], guard := some (5, false) }) (v := .slice bo k cb) (by kernel_rfl) (by kernel_rfl) (by kernel_rfl) (by kernel_rfl) (fun _ _ _ h => h) (by kernel_rfl) (fun _ _ => by kernel_rfl) hH2 ?_
    refine held_take (i := 8) (o := { dst := some 24, op := Op.move (Operand.tmp 1), type := 24, pos := "law.go:84", after := #[{ on := 5, ground := Ground.guard }], guard := some (5, false) }) (v := .slice bo k cb) (by kernel_rfl) (by kernel_rfl) (by kernel_rfl) (by kernel_rfl) (fun _ _ _ h => h) (by kernel_rfl) (fun _ _ => by kernel_rfl) hH2 ?_
    refine held_callX (i := 7) (o := { dst := some 23, op := Op.call { callee := Callee.value (Operand.func 32), args := #[Operand.tmp 22], argTypes := #[24] }, type := 9, pos := "law.go:84", after := #[{ on := 6, ground := Ground.data }, { on := 5, ground := Ground.chain }, { on := 5, ground := Ground.guard }], guard := some (5, false) }) (F := 32) (vs := #[.slice bo k cb]) (by kernel_rfl) (by kernel_rfl) (by kernel_rfl) (fun _ => by kernel_rfl) (H32.out _ hH2) ?_
    rintro e w3 ⟨rfl, hb3⟩
    have hH3 := hH2.on hb3
    refine ⟨.string ⟨(lcode m).toArray⟩, rfl, hH3, ?_⟩
    refine held_callX (i := 9) (o := { dst := some 25, op := Op.call { callee := Callee.value (Operand.func 33), args := #[Operand.tmp 24], argTypes := #[24] }, type := 9, pos := "law.go:84", after := #[{ on := 8, ground := Ground.data }, { on := 7, ground := Ground.chain }, { on := 5, ground := Ground.guard }], guard := some (5, false) }) (F := 33) (vs := #[.slice bo k cb]) (by kernel_rfl) (by kernel_rfl) (by kernel_rfl) (fun _ => by kernel_rfl) (H33.out _ hH3) ?_
    rintro e w4 ⟨rfl, hb4⟩
    have hH4 := hH3.on hb4
    refine ⟨.string ⟨(lcode m).toArray⟩, rfl, hH4, ?_⟩
    refine held_take (i := 10) (o := { dst := some 26, op := Op.binOp BinOp.neq 9 (Operand.tmp 23) (Operand.tmp 25) 9, type := 4, pos := "law.go:84", after := #[{ on := 7, ground := Ground.data }, { on := 9, ground := Ground.data }, { on := 5, ground := Ground.guard }], guard := some (5, false) }) (v := .bool false) (by kernel_rfl) (by kernel_rfl) (by kernel_rfl) (by kernel_rfl) (fun _ _ _ h => h) (by kernel_rfl) (fun W _ => exec_bin rfl (by kernel_rfl) (by kernel_rfl) (fun _ => by kernel_rfl) (neqs_same ⟨(lcode m).toArray⟩) W) hH4 ?_
    refine held_take (i := 11) (o := { dst := some 27, op := Op.pick (Operand.tmp 21) (Operand.const (Value.bool true)) (Operand.tmp 26), type := 4, pos := "law.go:84", after := #[{ on := 5, ground := Ground.data }, { on := 10, ground := Ground.data }], guard := none }) (v := .bool false) (by kernel_rfl) (by kernel_rfl) (by kernel_rfl) (by kernel_rfl) (fun _ _ _ h => h) (by kernel_rfl) (fun _ _ => by kernel_rfl) hH4 ?_
    refine wpAnyH_done (by kernel_rfl) ?_ _
    simp only [Act.put, List.setIfInBounds_toArray, List.set_cons_zero, List.set_cons_succ]
    have hs9 := hH4.set
    have HR9 := HR.out _ hH4
    clear hCS m0
    go_wp2_with (first | (refine load_set rfl _ rfl w.heap.size s.1 va hl rfl hs9 ?_) | (go_at_call 11; refine HR9.mono ?_; rintro e w8 ⟨rfl, hb8⟩) | (go_at_call 9; refine (awake_any _).mono ?_; rintro e w9 ⟨rfl, hb9⟩))
    go_ret
    exact ⟨rfl, bchain hH4.below (bchain hb8 hb9)⟩
  have HR := hRR true ⟨fun _ => ⟨hS, by omega⟩, fun _ => rfl⟩
  have HRead : Hid (∀ (b : Nat) (W : World), Rd W b (scode s.1 s.2) 0 → Calls Try.prog 35 #[.pointer (some ⟨b, 0, none⟩)] W fun e w' => ∃ sl, e = .returned (setV s.1 sl) ∧ dotsIn w' sl s.2 ∧ Rd w' b [] 0 ∧ But b W w') := fun b W h => readSet_ok hS (by omega) (by rw [List.append_nil]; exact h) hsz
  have HSame : Hid (∀ (b : Nat) (r : Value) (W : World), ES w s.1 va b W → dotsIn W r s.2 → Calls Try.prog 26 #[setV s.1 r, setV s.1 va] W fun e w' => e = .returned (.bool true) ∧ Below W.heap.size W w' ∧ But b W w') := fun b r W h hr => by
    have := sameSet_any s.1 s.1 hl hl r va s.2 s.2 W hr (hda.on h.below) hs6
    simp only [decide_true, Bool.and_true] at this
    exact this.mono fun e w' ⟨h1, h2⟩ => ⟨h1, h2, But.of h2⟩
  have HEnd : Hid (∀ (b : Nat) (W : World), Rd W b [] 0 → Calls Try.prog 36 #[.pointer (some ⟨b, 0, none⟩)] W fun e w' => e = .returned (.int .i64 0) ∧ But b W w') := fun b W h => (end_rd h).mono fun e w' ⟨h1, _, h3⟩ => ⟨h1, h3⟩
  have HAw : Hid (∀ (b : Nat) (W : World), Calls Try.prog 9 #[] W fun e w' => e = .returned (.bool true) ∧ But b W w') := fun b W => (awake_any W).mono fun e w' ⟨h1, h2⟩ => ⟨h1, But.of h2⟩
  clear hda hA0 hva hW0 hB0 hn0 hk0 hRR hS hg hgd hgm hdb hlen hsz
  subst hvb
  go_enter Try.func7, Try.ntmps7
  go_wp2
  rw [← HW.out]
  refine wp_region_held_drew (S := CS w s.1 va s.2) (by kernel_rfl) (hCS) (fun hH0 => ?_)
  refine held_take (i := 0) (o := { dst := some 16, op := Op.load 26 (Operand.tmp 2), type := 26, pos := "law.go:84", after := #[], guard := none }) (v := setV s.1 va) (by kernel_rfl) (by kernel_rfl) (by kernel_rfl) (by kernel_rfl) (fun _ _ _ h => h) (by kernel_rfl) (fun _ h => exec_set rfl hl (by kernel_rfl) h.set) hH0 ?_
  refine held_take (i := 2) (o := { dst := some 18, op := Op.load 26 (Operand.tmp 2), type := 26, pos := "law.go:84", after := #[], guard := none }) (v := setV s.1 va) (by kernel_rfl) (by kernel_rfl) (by kernel_rfl) (by kernel_rfl) (fun _ _ _ h => h) (by kernel_rfl) (fun _ h => exec_set rfl hl (by kernel_rfl) h.set) hH0 ?_
  refine held_callX (i := 1) (o := { dst := some 17, op := Op.call { callee := Callee.value (Operand.func 30), args := #[Operand.tmp 16], argTypes := #[26] }, type := 9, pos := "law.go:84", after := #[{ on := 0, ground := Ground.data }], guard := none }) (F := 30) (vs := #[setV s.1 va]) (by kernel_rfl) (by kernel_rfl) (by kernel_rfl) (fun _ => by kernel_rfl) (H30.out _ hH0) ?_
  rintro e w1 ⟨rfl, hb1⟩
  have hH1 := hH0.on hb1
  refine ⟨.string ⟨(scode s.1 s.2).toArray⟩, rfl, hH1, ?_⟩
  refine held_callX (i := 3) (o := { dst := some 19, op := Op.call { callee := Callee.value (Operand.func 31), args := #[Operand.tmp 18], argTypes := #[26] }, type := 9, pos := "law.go:84", after := #[{ on := 2, ground := Ground.data }, { on := 1, ground := Ground.chain }], guard := none }) (F := 31) (vs := #[setV s.1 va]) (by kernel_rfl) (by kernel_rfl) (by kernel_rfl) (fun _ => by kernel_rfl) (H31.out _ hH1) ?_
  rintro e w2 ⟨rfl, hb2⟩
  have hH2 := hH1.on hb2
  refine ⟨.string ⟨(scode s.1 s.2).toArray⟩, rfl, hH2, ?_⟩
  refine held_take (i := 4) (o := { dst := some 20, op := Op.binOp BinOp.neq 9 (Operand.tmp 17) (Operand.tmp 19) 9, type := 4, pos := "law.go:84", after := #[{ on := 1, ground := Ground.data }, { on := 3, ground := Ground.data }], guard := none }) (v := .bool false) (by kernel_rfl) (by kernel_rfl) (by kernel_rfl) (by kernel_rfl) (fun _ _ _ h => h) (by kernel_rfl) (fun W _ => exec_bin rfl (by kernel_rfl) (by kernel_rfl) (fun _ => by kernel_rfl) (neqs_same ⟨(scode s.1 s.2).toArray⟩) W) hH2 ?_
  refine held_take (i := 5) (o := { dst := some 21, op := Op.move (Operand.tmp 20), type := 4, pos := "law.go:84", after := #[{ on := 4, ground := Ground.data }, { on := 3, ground := Ground.chain }], guard := none }) (v := .bool false) (by kernel_rfl) (by kernel_rfl) (by kernel_rfl) (by kernel_rfl) (fun _ _ _ h => h) (by kernel_rfl) (fun _ _ => by kernel_rfl) hH2 ?_
  refine held_take (i := 6) (o := { dst := some 22, op := Op.move (Operand.tmp 1), type := 24, pos := "law.go:84", after := #[{ on := 5, ground := Ground.guard }], guard := some (5, false) }) (v := .slice bo k cb) (by kernel_rfl) (by kernel_rfl) (by kernel_rfl) (by kernel_rfl) (fun _ _ _ h => h) (by kernel_rfl) (fun _ _ => by kernel_rfl) hH2 ?_
  refine held_take (i := 8) (o := { dst := some 24, op := Op.move (Operand.tmp 1), type := 24, pos := "law.go:84", after := #[{ on := 5, ground := Ground.guard }], guard := some (5, false) }) (v := .slice bo k cb) (by kernel_rfl) (by kernel_rfl) (by kernel_rfl) (by kernel_rfl) (fun _ _ _ h => h) (by kernel_rfl) (fun _ _ => by kernel_rfl) hH2 ?_
  refine held_callX (i := 7) (o := { dst := some 23, op := Op.call { callee := Callee.value (Operand.func 32), args := #[Operand.tmp 22], argTypes := #[24] }, type := 9, pos := "law.go:84", after := #[{ on := 6, ground := Ground.data }, { on := 5, ground := Ground.chain }, { on := 5, ground := Ground.guard }], guard := some (5, false) }) (F := 32) (vs := #[.slice bo k cb]) (by kernel_rfl) (by kernel_rfl) (by kernel_rfl) (fun _ => by kernel_rfl) (H32.out _ hH2) ?_
  rintro e w3 ⟨rfl, hb3⟩
  have hH3 := hH2.on hb3
  refine ⟨.string ⟨(lcode m).toArray⟩, rfl, hH3, ?_⟩
  refine held_callX (i := 9) (o := { dst := some 25, op := Op.call { callee := Callee.value (Operand.func 33), args := #[Operand.tmp 24], argTypes := #[24] }, type := 9, pos := "law.go:84", after := #[{ on := 8, ground := Ground.data }, { on := 7, ground := Ground.chain }, { on := 5, ground := Ground.guard }], guard := some (5, false) }) (F := 33) (vs := #[.slice bo k cb]) (by kernel_rfl) (by kernel_rfl) (by kernel_rfl) (fun _ => by kernel_rfl) (H33.out _ hH3) ?_
  rintro e w4 ⟨rfl, hb4⟩
  have hH4 := hH3.on hb4
  refine ⟨.string ⟨(lcode m).toArray⟩, rfl, hH4, ?_⟩
  refine held_take (i := 10) (o := { dst := some 26, op := Op.binOp BinOp.neq 9 (Operand.tmp 23) (Operand.tmp 25) 9, type := 4, pos := "law.go:84", after := #[{ on := 7, ground := Ground.data }, { on := 9, ground := Ground.data }, { on := 5, ground := Ground.guard }], guard := some (5, false) }) (v := .bool false) (by kernel_rfl) (by kernel_rfl) (by kernel_rfl) (by kernel_rfl) (fun _ _ _ h => h) (by kernel_rfl) (fun W _ => exec_bin rfl (by kernel_rfl) (by kernel_rfl) (fun _ => by kernel_rfl) (neqs_same ⟨(lcode m).toArray⟩) W) hH4 ?_
  refine held_take (i := 11) (o := { dst := some 27, op := Op.pick (Operand.tmp 21) (Operand.const (Value.bool true)) (Operand.tmp 26), type := 4, pos := "law.go:84", after := #[{ on := 5, ground := Ground.data }, { on := 10, ground := Ground.data }], guard := none }) (v := .bool false) (by kernel_rfl) (by kernel_rfl) (by kernel_rfl) (by kernel_rfl) (fun _ _ _ h => h) (by kernel_rfl) (fun _ _ => by kernel_rfl) hH4 ?_
  refine wpAnyH_done (by kernel_rfl) ?_ _
  simp only [Act.put, List.setIfInBounds_toArray, List.set_cons_zero, List.set_cons_succ]
  have hT3 := hH4
  have hs9 := hT3.set
  have HR9 := HR.out _ hT3
  clear hCS m0
  go_wp2_with (first
    | (refine load_set rfl _ rfl w.heap.size s.1 va hl rfl hs9 ?_)
    | (go_at_call 11; refine HR9.mono ?_; rintro e w8 ⟨rfl, hb8⟩; have hT8 := hT3.on hb8; have hs8 := hT8.set; have H308 := H30.out _ hT8)
    | (refine load_set rfl _ rfl w.heap.size s.1 va hl rfl hs8 ?_)
    | (go_at_call 30; refine H308.mono ?_; rintro e w9 ⟨rfl, hb9⟩; have hT9 := hT8.on hb9)
    | (go_at_call 34; refine (open_rd _ _).mono ?_; rintro e w10 ⟨b, rfl, hlb, hrd, hb10⟩))
  have hT10 := hT9.on hb10
  have hs10 := hT9.set.lt
  have hES : ES w s.1 va b w10.drew := ⟨hT10.set, Nat.lt_of_lt_of_le hs10 hlb, hT10.below.drew⟩
  have HRd : Hid _ := HRead.out b w10.drew (hrd.on (Below.refl _ _).drew)
  have H26 : Hid _ := HSame.out b
  have HE : Hid _ := HEnd.out b
  have H9 : Hid _ := HAw.out b
  clear hT3 hs9 HR9 hb8 hT8 hs8 H308 hb9 hT9 hb10 hT10 hs10 hlb hrd HRead HSame HEnd HAw
  refine wp_region_held_drew (S := ES w s.1 va b) (by kernel_rfl) (hES) (fun hH0 => ?_)
  refine held_take (i := 0) (o := { dst := some 35, op := Op.move (Operand.tmp 5), type := 45, pos := "law.go:91", after := #[], guard := none }) (v := .pointer (some ⟨b, 0, none⟩)) (by kernel_rfl) (by kernel_rfl) (by kernel_rfl) (by kernel_rfl) (fun _ _ _ h => h) (by kernel_rfl) (fun _ _ => by kernel_rfl) hH0 ?_
  refine held_take (i := 2) (o := { dst := some 37, op := Op.load 26 (Operand.tmp 2), type := 26, pos := "law.go:91", after := #[], guard := none }) (v := setV s.1 va) (by kernel_rfl) (by kernel_rfl) (by kernel_rfl) (by kernel_rfl) (fun _ _ _ h => h) (by kernel_rfl) (fun _ h => exec_set rfl hl (by kernel_rfl) h.set) hH0 ?_
  refine held_callX (i := 1) (o := { dst := some 36, op := Op.call { callee := Callee.value (Operand.func 35), args := #[Operand.tmp 35], argTypes := #[45] }, type := 26, pos := "law.go:91", after := #[{ on := 0, ground := Ground.data }], guard := none }) (F := 35) (vs := #[.pointer (some ⟨b, 0, none⟩)]) (by kernel_rfl) (by kernel_rfl) (by kernel_rfl) (fun _ => by kernel_rfl) (HRd.out) ?_
  rintro e w1 ⟨r1, rfl, hd1, hr1, hb1⟩
  have hH1 := hH0.on hb1
  refine ⟨setV s.1 r1, rfl, hH1, ?_⟩
  refine held_callX (i := 3) (o := { dst := some 38, op := Op.call { callee := Callee.value (Operand.func 26), args := #[Operand.tmp 36, Operand.tmp 37], argTypes := #[26, 26] }, type := 4, pos := "law.go:91", after := #[{ on := 1, ground := Ground.data }, { on := 2, ground := Ground.data }, { on := 1, ground := Ground.chain }], guard := none }) (F := 26) (vs := #[setV s.1 r1, setV s.1 va]) (by kernel_rfl) (by kernel_rfl) (by kernel_rfl) (fun _ => by kernel_rfl) (H26.out _ _ hH1 hd1) ?_
  rintro e w2 ⟨rfl, hq2, hb2⟩
  have hH2 := hH1.on hb2
  refine ⟨.bool true, rfl, hH2, ?_⟩
  refine held_take (i := 4) (o := { dst := some 39, op := Op.move (Operand.tmp 38), type := 4, pos := "law.go:91", after := #[{ on := 3, ground := Ground.data }, { on := 3, ground := Ground.chain }], guard := none }) (v := .bool true) (by kernel_rfl) (by kernel_rfl) (by kernel_rfl) (by kernel_rfl) (fun _ _ _ h => h) (by kernel_rfl) (fun _ _ => by kernel_rfl) hH2 ?_
  refine held_take (i := 5) (o := { dst := some 40, op := Op.move (Operand.tmp 5), type := 45, pos := "law.go:91", after := #[{ on := 4, ground := Ground.guard }], guard := some (4, true) }) (v := .pointer (some ⟨b, 0, none⟩)) (by kernel_rfl) (by kernel_rfl) (by kernel_rfl) (by kernel_rfl) (fun _ _ _ h => h) (by kernel_rfl) (fun _ _ => by kernel_rfl) hH2 ?_
  refine held_callX (i := 6) (o := { dst := some 41, op := Op.call { callee := Callee.value (Operand.func 36), args := #[Operand.tmp 40], argTypes := #[45] }, type := 48, pos := "law.go:91", after := #[{ on := 5, ground := Ground.data }, { on := 4, ground := Ground.chain }, { on := 4, ground := Ground.guard }], guard := some (4, true) }) (F := 36) (vs := #[.pointer (some ⟨b, 0, none⟩)]) (by kernel_rfl) (by kernel_rfl) (by kernel_rfl) (fun _ => by kernel_rfl) (HE.out _ (hr1.on hq2)) ?_
  rintro e w3 ⟨rfl, hb3⟩
  have hH3 := hH2.on hb3
  refine ⟨.int .i64 0, rfl, hH3, ?_⟩
  refine held_take (i := 7) (o := { dst := some 42, op := Op.binOp BinOp.eql 48 (Operand.tmp 41) (Operand.const (Value.int IntKind.i64 0)) 48, type := 4, pos := "law.go:91", after := #[{ on := 6, ground := Ground.data }, { on := 4, ground := Ground.guard }], guard := some (4, true) }) (v := .bool true) (by kernel_rfl) (by kernel_rfl) (by kernel_rfl) (by kernel_rfl) (fun _ _ _ h => h) (by kernel_rfl) (fun W _ => exec_bin rfl (by kernel_rfl) (by kernel_rfl) (fun _ => by kernel_rfl) (eqe_same 0) W) hH3 ?_
  refine held_take (i := 8) (o := { dst := some 43, op := Op.pick (Operand.tmp 39) (Operand.tmp 42) (Operand.const (Value.bool false)), type := 4, pos := "law.go:91", after := #[{ on := 4, ground := Ground.data }, { on := 7, ground := Ground.data }], guard := none }) (v := .bool true) (by kernel_rfl) (by kernel_rfl) (by kernel_rfl) (by kernel_rfl) (fun _ _ _ h => h) (by kernel_rfl) (fun _ _ => by kernel_rfl) hH3 ?_
  refine held_take (i := 9) (o := { dst := some 44, op := Op.move (Operand.tmp 43), type := 4, pos := "law.go:91", after := #[{ on := 8, ground := Ground.data }, { on := 6, ground := Ground.chain }], guard := none }) (v := .bool true) (by kernel_rfl) (by kernel_rfl) (by kernel_rfl) (by kernel_rfl) (fun _ _ _ h => h) (by kernel_rfl) (fun _ _ => by kernel_rfl) hH3 ?_
  refine held_callX (i := 10) (o := { dst := some 45, op := Op.call { callee := Callee.value (Operand.func 9), args := #[], argTypes := #[] }, type := 4, pos := "law.go:91", after := #[{ on := 9, ground := Ground.chain }, { on := 9, ground := Ground.guard }], guard := some (9, true) }) (F := 9) (vs := #[]) (by kernel_rfl) (by kernel_rfl) (by kernel_rfl) (fun _ => by kernel_rfl) (H9.out _) ?_
  rintro e w4 ⟨rfl, hb4⟩
  have hH4 := hH3.on hb4
  refine ⟨.bool true, rfl, hH4, ?_⟩
  refine held_take (i := 11) (o := { dst := some 46, op := Op.pick (Operand.tmp 44) (Operand.tmp 45) (Operand.const (Value.bool false)), type := 4, pos := "law.go:91", after := #[{ on := 9, ground := Ground.data }, { on := 10, ground := Ground.data }], guard := none }) (v := .bool true) (by kernel_rfl) (by kernel_rfl) (by kernel_rfl) (by kernel_rfl) (fun _ _ _ h => h) (by kernel_rfl) (fun _ _ => by kernel_rfl) hH4 ?_
  refine held_do (i := 12) (o := { dst := some 4, op := Op.assign (Operand.tmp 46), type := 4, pos := "law.go:91", after := #[{ on := 11, ground := Ground.data }, { on := 10, ground := Ground.chain }, { on := 0, ground := Ground.phase }, { on := 1, ground := Ground.phase }, { on := 2, ground := Ground.phase }, { on := 3, ground := Ground.phase }, { on := 4, ground := Ground.phase }, { on := 5, ground := Ground.phase }, { on := 6, ground := Ground.phase }, { on := 7, ground := Ground.phase }, { on := 8, ground := Ground.phase }, { on := 9, ground := Ground.phase }, { on := 10, ground := Ground.phase }, { on := 11, ground := Ground.phase }], guard := none }) (v := .bool true) (by kernel_rfl) (by kernel_rfl) (by kernel_rfl) (by kernel_rfl) hH4 ?_
  refine wpAnyH_done (by kernel_rfl) ?_ _
  simp only [Act.put, List.setIfInBounds_toArray, List.set_cons_zero, List.set_cons_succ]
  go_wp2
  go_ret
  exact ⟨rfl, hH4.below⟩
end Go.Proofs.Ytenfbjlmfdiniaa
