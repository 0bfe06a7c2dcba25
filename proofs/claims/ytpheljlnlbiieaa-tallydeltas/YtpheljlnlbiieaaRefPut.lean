/- The walks of the document's Put, Join and Over. -/
import Derived.Test.YtpheljlnlbiieaaRight
import Derived.Test.YtpheljlnlbiieaaAppend
namespace Go.Proofs.Ytpheljlnlbiieaa
open Go.RowKit Go.Shelf

/-- Where the laying stands. -/
def PInv (l : List U) (u : U) (k : Nat) (q : Bool) (acc : List U) : Prop :=
  acc.length ≤ k + 1 ∧ acc ++ (if q = true then l.drop k else Ct.ins u (l.drop k)) = Ct.ins u l ∧ (q = true → ∀ x ∈ l.drop k, Ct.lt u.1 x.1)
theorem PInv.start (l : List U) (u : U) : PInv l u 0 false [] := ⟨by simp, by simp, fun h => by cases h⟩
theorem PInv.on {l : List U} {u : U} {k : Nat} {acc : List U} (h : PInv l u k true acc) (hk : k < l.length) : PInv l u (k + 1) true (acc ++ [l[k]]) := by
  obtain ⟨h1, h2, h3⟩ := h
  rw [if_pos rfl] at h2
  rw [List.drop_eq_getElem_cons hk] at h2 h3
  refine ⟨by simp; omega, by rw [if_pos rfl, ← h2]; simp, fun _ x hx => h3 rfl x (List.mem_cons_of_mem _ hx)⟩
theorem PInv.ahead {l : List U} {u : U} {k : Nat} {acc : List U} (h : PInv l u k true acc) (hk : k < l.length) : Ct.lt u.1 (l[k]).1 := h.2.2 rfl _ (by rw [List.drop_eq_getElem_cons hk]; exact List.mem_cons_self)
theorem behind {l : List U} (hp : Ct.Std l) {k : Nat} (hk : k < l.length) : ∀ x ∈ l.drop (k + 1), Ct.lt (l[k]).1 x.1 := by
  have h := Ct.std_drop hp k
  rw [List.drop_eq_getElem_cons hk] at h
  exact (Ct.std_head h).2
theorem PInv.pass {l : List U} {u : U} {k : Nat} {acc : List U} (h : PInv l u k false acc) (hk : k < l.length) (hl : Ct.lt (l[k]).1 u.1) : PInv l u (k + 1) false (acc ++ [l[k]]) := by
  obtain ⟨h1, h2, h3⟩ := h
  rw [if_neg (by decide), List.drop_eq_getElem_cons hk, Ct.ins, if_pos hl] at h2
  refine ⟨by simp; omega, by rw [if_neg (by decide), ← h2]; simp, fun e => by cases e⟩
theorem PInv.meet {l : List U} {u : U} {k : Nat} {acc : List U} (hp : Ct.Std l) (h : PInv l u k false acc) (hk : k < l.length) (hl : (l[k]).1 = u.1) : PInv l u (k + 1) true (acc ++ [u]) := by
  obtain ⟨h1, h2, h3⟩ := h
  rw [if_neg (by decide), List.drop_eq_getElem_cons hk, Ct.ins, if_neg (by rw [hl]; exact Ct.lt_irrefl _), if_pos hl] at h2
  refine ⟨by simp; omega, by rw [if_pos rfl, ← h2]; simp, fun _ x hx => by rw [← hl]; exact behind hp hk x hx⟩
theorem PInv.lay {l : List U} {u : U} {k : Nat} {acc : List U} (hp : Ct.Std l) (h : PInv l u k false acc) (hka : acc.length ≤ k) (hk : k < l.length) (hl : Ct.lt u.1 (l[k]).1) : PInv l u (k + 1) true (acc ++ [u] ++ [l[k]]) := by
  obtain ⟨h1, h2, h3⟩ := h
  rw [if_neg (by decide), List.drop_eq_getElem_cons hk, Ct.ins, if_neg (Ct.lt_asymm hl), if_neg (fun e => Ct.lt_ne hl e.symm)] at h2
  refine ⟨by simp; omega, by rw [if_pos rfl, ← h2]; simp, fun _ x hx => Ct.lt_trans hl (behind hp hk x hx)⟩
/-- With what the memory holds. -/
structure PI (l : List U) (u : U) (n B : Nat) (w : World) (W0 : World) (out laid : Value) (wr : World) (k : Nat) (q : Bool) (acc : List U) : Prop where
  inv : PInv l u k q acc
  few : q = false → acc.length ≤ k
  laid : laid = .bool q
  own : wr.ownsRow B 26 3 out acc.length (ucells acc)
  below : Below B W0 wr
def PIx (l : List U) (u : U) (n B : Nat) (w : World) (W0 : World) (out laid : Value) (wr : World) (k : Nat) (acc : List U) : Prop := ∃ q, PI l u n B w W0 out laid wr k q acc
/-- A count in its variable. -/
structure GS (w : World) (u : U) (W : World) : Prop where
  var : CAt W ⟨w.heap.size, 0, none⟩ u
  below : Below w.heap.size w W
theorem GS.on {w : World} {u : U} {W W' : World} (h : GS w u W) (hb : Below W.heap.size W W') : GS w u W' := ⟨h.var.on hb, bchain h.below hb⟩

set_option maxRecDepth 20000 in
set_option maxHeartbeats 4000000 in
theorem refPut_any (v : Value) (l : List U) (u : U) (w : World) (hv : cntsIn w v l) (hn : l.length ≤ 900000) (hp : Ct.Std l) :
    Calls Try.prog 20 #[v, uV u] w fun e w' => ∃ r, e = .returned r ∧ cntsIn w' r (Ct.put l u) ∧ Below w.heap.size w w' := by
  have HO := fun W => one_any u W
  have HG := fun W (hb : Below w.heap.size w W) => refGet_any v l u.1 W (by omega) (hv.on hb)
  have hGS : GS w u (w.alloc (.cells #[.int .i64 u.1.1, .int .i64 u.1.2, .int .i64 u.2] 26)).drew := ⟨(CAt.new w u).on (Below.refl _ _).drew, (below_new _ _).drew⟩
  have HV : Hid (cntsIn w v l) := hv
  have HP : Hid (Ct.Std l) := hp
  have hput : Ct.put l u = if Ct.ok u = true ∧ Ct.get l u.1 < u.2 then Ct.ins u l else l := rfl
  rw [hput]
  clear hput hp
  obtain ⟨ao, cap, rfl, _, _, h9⟩ := hv
  clear h9
  obtain ⟨n, hn0⟩ : ∃ n, n = l.length := ⟨_, rfl⟩
  have HN : Hid (n = l.length) := hn0
  rw [← hn0] at hn HV HG ⊢
  clear hn0
  obtain ⟨v, hv⟩ : ∃ v, v = Value.slice ao n cap := ⟨_, rfl⟩
  cases hq : Ct.ok u with
  | false =>
    rw [if_neg (fun h => by cases h.1)]
    rw [hq] at HO
    clear hq
    rw [← hv] at HV HG ⊢
    clear hv
    go_enter Try.func20, Try.ntmps20
    go_wp2
    refine wp_region_held_drew (S := fun W => GS w u W) (by kernel_rfl) (hGS) (fun hH0 => ?_)
    refine held_take (i := 0) (o := { dst := some 9, op := Op.load 26 (Operand.tmp 3), type := 26, pos := "ref.go:38", after := #[], guard := none }) (v := uV u) (by kernel_rfl) (by kernel_rfl) (by kernel_rfl) (by kernel_rfl) (fun _ _ _ h => h) (by kernel_rfl) (fun _ h => exec_ldU rfl (by kernel_rfl) h.var) hH0 ?_
    refine held_callX (i := 1) (o := { dst := some 10, op := Op.call { callee := Callee.value (Operand.func 39), args := #[Operand.tmp 9], argTypes := #[26] }, type := 4, pos := "ref.go:38", after := #[{ on := 0, ground := Ground.data }], guard := none }) (F := 39) (vs := #[uV u]) (by kernel_rfl) (by kernel_rfl) (by kernel_rfl) (fun _ => by kernel_rfl) (HO _) ?_
    rintro e w1 ⟨rfl, hb1⟩
    have hH1 := hH0.on hb1
    refine ⟨.bool false, rfl, hH1, ?_⟩
    refine held_take (i := 2) (o := { dst := some 11, op := Op.unOp UnOp.not 4 (Operand.tmp 10), type := 4, pos := "ref.go:38", after := #[{ on := 1, ground := Ground.data }], guard := none }) (v := .bool true) (by kernel_rfl) (by kernel_rfl) (by kernel_rfl) (by kernel_rfl) (fun _ _ _ h => h) (by kernel_rfl) (fun W _ => exec_un rfl (by kernel_rfl) (not_of false) W) hH1 ?_
    refine held_take (i := 3) (o := { dst := some 12, op := Op.move (Operand.tmp 11), type := 4, pos := "ref.go:38", after := #[{ on := 2, ground := Ground.data }, { on := 1, ground := Ground.chain }], guard := none }) (v := .bool true) (by kernel_rfl) (by kernel_rfl) (by kernel_rfl) (by kernel_rfl) (fun _ _ _ h => h) (by kernel_rfl) (fun _ _ => by kernel_rfl) hH1 ?_
    refine held_skip (i := 4) (o := { dst := some 13, op := Op.move (Operand.tmp 0), type := 22, pos := "ref.go:38", after := #[{ on := 3, ground := Ground.guard }], guard := some (3, false) }) (by kernel_rfl) (by kernel_rfl) (by kernel_rfl) (by kernel_rfl) (fun _ _ _ h => h) (by kernel_rfl) hH1 ?_
    refine held_skip (i := 5) (o := { dst := some 14, op := Op.fieldAddr 26 (Operand.tmp 3) 0, type := 0, pos := "ref.go:38", after := #[{ on := 3, ground := Ground.guard }], guard := some (3, false) }) (by kernel_rfl) (by kernel_rfl) (by kernel_rfl) (by kernel_rfl) (fun _ _ _ h => h) (by kernel_rfl) hH1 ?_
    refine held_skip (i := 6) (o := { dst := some 15, op := Op.load 24 (Operand.tmp 14), type := 24, pos := "ref.go:38", after := #[{ on := 5, ground := Ground.data }, { on := 3, ground := Ground.guard }], guard := some (3, false) }) (by kernel_rfl) (by kernel_rfl) (by kernel_rfl) (by kernel_rfl) (fun _ _ _ h => h) (by kernel_rfl) hH1 ?_
    refine held_skip (i := 8) (o := { dst := some 17, op := Op.fieldAddr 26 (Operand.tmp 3) 1, type := 0, pos := "ref.go:38", after := #[{ on := 3, ground := Ground.guard }], guard := some (3, false) }) (by kernel_rfl) (by kernel_rfl) (by kernel_rfl) (by kernel_rfl) (fun _ _ _ h => h) (by kernel_rfl) hH1 ?_
    refine held_skip (i := 9) (o := { dst := some 18, op := Op.load 3 (Operand.tmp 17), type := 3, pos := "ref.go:38", after := #[{ on := 8, ground := Ground.data }, { on := 3, ground := Ground.guard }], guard := some (3, false) }) (by kernel_rfl) (by kernel_rfl) (by kernel_rfl) (by kernel_rfl) (fun _ _ _ h => h) (by kernel_rfl) hH1 ?_
    refine held_skip (i := 7) (o := { dst := some 16, op := Op.call { callee := Callee.value (Operand.func 15), args := #[Operand.tmp 13, Operand.tmp 15], argTypes := #[22, 24] }, type := 3, pos := "ref.go:38", after := #[{ on := 4, ground := Ground.data }, { on := 6, ground := Ground.data }, { on := 3, ground := Ground.chain }, { on := 3, ground := Ground.guard }], guard := some (3, false) }) (by kernel_rfl) (by kernel_rfl) (by kernel_rfl) (by kernel_rfl) (fun _ _ _ h => h) (by kernel_rfl) hH1 ?_
    refine held_skip (i := 10) (o := { dst := some 19, op := Op.binOp BinOp.geq 3 (Operand.tmp 16) (Operand.tmp 18) 3, type := 4, pos := "ref.go:38", after := #[{ on := 7, ground := Ground.data }, { on := 9, ground := Ground.data }, { on := 3, ground := Ground.guard }], guard := some (3, false) }) (by kernel_rfl) (by kernel_rfl) (by kernel_rfl) (by kernel_rfl) (fun _ _ _ h => h) (by kernel_rfl) hH1 ?_
    refine held_take (i := 11) (o := { dst := some 20, op := Op.pick (Operand.tmp 12) (Operand.const (Value.bool true)) (Operand.tmp 19), type := 4, pos := "ref.go:38", after := #[{ on := 3, ground := Ground.data }, { on := 10, ground := Ground.data }], guard := none }) (v := .bool true) (by kernel_rfl) (by kernel_rfl) (by kernel_rfl) (by kernel_rfl) (fun _ _ _ h => h) (by kernel_rfl) (fun _ _ => by kernel_rfl) hH1 ?_
    refine wpAnyH_done (by kernel_rfl) ?_ _
    simp only [Act.put, List.setIfInBounds_toArray, List.set_cons_zero, List.set_cons_succ]
    go_wp2
    go_ret
    exact ⟨_, rfl, HV.out.on hH1.below, hH1.below⟩
  | true =>
    rw [hq] at HO
    clear hq
    by_cases hz : u.2 ≤ Ct.get l u.1
    · rw [if_neg (fun h => by omega)]
      generalize Ct.get l u.1 = z at *
      rw [← hv] at HV HG ⊢
      clear hv
      go_enter Try.func20, Try.ntmps20
      go_wp2
      refine wp_region_held_drew (S := fun W => GS w u W) (by kernel_rfl) (hGS) (fun hH0 => ?_)
      refine held_take (i := 0) (o := { dst := some 9, op := Op.load 26 (Operand.tmp 3), type := 26, pos := "ref.go:38", after := #[], guard := none }) (v := uV u) (by kernel_rfl) (by kernel_rfl) (by kernel_rfl) (by kernel_rfl) (fun _ _ _ h => h) (by kernel_rfl) (fun _ h => exec_ldU rfl (by kernel_rfl) h.var) hH0 ?_
      refine held_callX (i := 1) (o := { dst := some 10, op := Op.call { callee := Callee.value (Operand.func 39), args := #[Operand.tmp 9], argTypes := #[26] }, type := 4, pos := "ref.go:38", after := #[{ on := 0, ground := Ground.data }], guard := none }) (F := 39) (vs := #[uV u]) (by kernel_rfl) (by kernel_rfl) (by kernel_rfl) (fun _ => by kernel_rfl) (HO _) ?_
      rintro e w1 ⟨rfl, hb1⟩
      have hH1 := hH0.on hb1
      refine ⟨.bool true, rfl, hH1, ?_⟩
      refine held_take (i := 2) (o := { dst := some 11, op := Op.unOp UnOp.not 4 (Operand.tmp 10), type := 4, pos := "ref.go:38", after := #[{ on := 1, ground := Ground.data }], guard := none }) (v := .bool false) (by kernel_rfl) (by kernel_rfl) (by kernel_rfl) (by kernel_rfl) (fun _ _ _ h => h) (by kernel_rfl) (fun W _ => exec_un rfl (by kernel_rfl) (not_of true) W) hH1 ?_
      refine held_take (i := 3) (o := { dst := some 12, op := Op.move (Operand.tmp 11), type := 4, pos := "ref.go:38", after := #[{ on := 2, ground := Ground.data }, { on := 1, ground := Ground.chain }], guard := none }) (v := .bool false) (by kernel_rfl) (by kernel_rfl) (by kernel_rfl) (by kernel_rfl) (fun _ _ _ h => h) (by kernel_rfl) (fun _ _ => by kernel_rfl) hH1 ?_
      refine held_take (i := 4) (o := { dst := some 13, op := Op.move (Operand.tmp 0), type := 22, pos := "ref.go:38", after := #[{ on := 3, ground := Ground.guard }], guard := some (3, false) }) (v := v) (by kernel_rfl) (by kernel_rfl) (by kernel_rfl) (by kernel_rfl) (fun _ _ _ h => h) (by kernel_rfl) (fun _ _ => by kernel_rfl) hH1 ?_
      refine held_take (i := 5) (o := { dst := some 14, op := Op.fieldAddr 26 (Operand.tmp 3) 0, type := 0, pos := "ref.go:38", after := #[{ on := 3, ground := Ground.guard }], guard := some (3, false) }) (v := .pointer (some ⟨w.heap.size, 0, none⟩)) (by kernel_rfl) (by kernel_rfl) (by kernel_rfl) (by kernel_rfl) (fun _ _ _ h => h) (by kernel_rfl) (fun W _ => exec_fld0 (p := ⟨w.heap.size, 0, none⟩) rfl (by kernel_rfl) W) hH1 ?_
      refine held_take (i := 6) (o := { dst := some 15, op := Op.load 24 (Operand.tmp 14), type := 24, pos := "ref.go:38", after := #[{ on := 5, ground := Ground.data }, { on := 3, ground := Ground.guard }], guard := some (3, false) }) (v := dV u.1) (by kernel_rfl) (by kernel_rfl) (by kernel_rfl) (by kernel_rfl) (fun _ _ _ h => h) (by kernel_rfl) (fun _ h => exec_ldD (p := ⟨w.heap.size, 0, none⟩) rfl (by kernel_rfl) h.var) hH1 ?_
      refine held_take (i := 8) (o := { dst := some 17, op := Op.fieldAddr 26 (Operand.tmp 3) 1, type := 0, pos := "ref.go:38", after := #[{ on := 3, ground := Ground.guard }], guard := some (3, false) }) (v := .pointer (some ⟨w.heap.size, 0 + 2, none⟩)) (by kernel_rfl) (by kernel_rfl) (by kernel_rfl) (by kernel_rfl) (fun _ _ _ h => h) (by kernel_rfl) (fun W _ => exec_fld1 (p := ⟨w.heap.size, 0, none⟩) rfl (by kernel_rfl) W) hH1 ?_
      refine held_take (i := 9) (o := { dst := some 18, op := Op.load 3 (Operand.tmp 17), type := 3, pos := "ref.go:38", after := #[{ on := 8, ground := Ground.data }, { on := 3, ground := Ground.guard }], guard := some (3, false) }) (v := .int .i64 u.2) (by kernel_rfl) (by kernel_rfl) (by kernel_rfl) (by kernel_rfl) (fun _ _ _ h => h) (by kernel_rfl) (fun _ h => exec_ldN (p := ⟨w.heap.size, 0, none⟩) rfl (by kernel_rfl) h.var) hH1 ?_
      refine held_callX (i := 7) (o := { dst := some 16, op := Op.call { callee := Callee.value (Operand.func 15), args := #[Operand.tmp 13, Operand.tmp 15], argTypes := #[22, 24] }, type := 3, pos := "ref.go:38", after := #[{ on := 4, ground := Ground.data }, { on := 6, ground := Ground.data }, { on := 3, ground := Ground.chain }, { on := 3, ground := Ground.guard }], guard := some (3, false) }) (F := 15) (vs := #[v, dV u.1]) (by kernel_rfl) (by kernel_rfl) (by kernel_rfl) (fun _ => by kernel_rfl) (HG _ hH1.below) ?_
      rintro e w2 ⟨rfl, hb2⟩
      have hH2 := hH1.on hb2
      refine ⟨.int .i64 z, rfl, hH2, ?_⟩
      refine held_take (i := 10) (o := { dst := some 19, op := Op.binOp BinOp.geq 3 (Operand.tmp 16) (Operand.tmp 18) 3, type := 4, pos := "ref.go:38", after := #[{ on := 7, ground := Ground.data }, { on := 9, ground := Ground.data }, { on := 3, ground := Ground.guard }], guard := some (3, false) }) (v := .bool true) (by kernel_rfl) (by kernel_rfl) (by kernel_rfl) (by kernel_rfl) (fun _ _ _ h => h) (by kernel_rfl) (fun W _ => exec_bin rfl (by kernel_rfl) (by kernel_rfl) (fun _ => by kernel_rfl) (geq_yes hz) W) hH2 ?_
      refine held_take (i := 11) (o := { dst := some 20, op := Op.pick (Operand.tmp 12) (Operand.const (Value.bool true)) (Operand.tmp 19), type := 4, pos := "ref.go:38", after := #[{ on := 3, ground := Ground.data }, { on := 10, ground := Ground.data }], guard := none }) (v := .bool true) (by kernel_rfl) (by kernel_rfl) (by kernel_rfl) (by kernel_rfl) (fun _ _ _ h => h) (by kernel_rfl) (fun _ _ => by kernel_rfl) hH2 ?_
      refine wpAnyH_done (by kernel_rfl) ?_ _
      simp only [Act.put, List.setIfInBounds_toArray, List.set_cons_zero, List.set_cons_succ]
      go_wp2
      go_ret
      exact ⟨_, rfl, HV.out.on hH2.below, hH2.below⟩
    · rw [if_pos ⟨rfl, by omega⟩]
      have hz : Ct.get l u.1 < u.2 := by omega
      generalize Ct.get l u.1 = z at *
      clear hv
      go_enter Try.func20, Try.ntmps20
      go_wp2
      refine wp_region_held_drew (S := fun W => GS w u W) (by kernel_rfl) (hGS) (fun hH0 => ?_)
      refine held_take (i := 0) (o := { dst := some 9, op := Op.load 26 (Operand.tmp 3), type := 26, pos := "ref.go:38", after := #[], guard := none }) (v := uV u) (by kernel_rfl) (by kernel_rfl) (by kernel_rfl) (by kernel_rfl) (fun _ _ _ h => h) (by kernel_rfl) (fun _ h => exec_ldU rfl (by kernel_rfl) h.var) hH0 ?_
      refine held_callX (i := 1) (o := { dst := some 10, op := Op.call { callee := Callee.value (Operand.func 39), args := #[Operand.tmp 9], argTypes := #[26] }, type := 4, pos := "ref.go:38", after := #[{ on := 0, ground := Ground.data }], guard := none }) (F := 39) (vs := #[uV u]) (by kernel_rfl) (by kernel_rfl) (by kernel_rfl) (fun _ => by kernel_rfl) (HO _) ?_
      rintro e w1 ⟨rfl, hb1⟩
      have hH1 := hH0.on hb1
      refine ⟨.bool true, rfl, hH1, ?_⟩
      refine held_take (i := 2) (o := { dst := some 11, op := Op.unOp UnOp.not 4 (Operand.tmp 10), type := 4, pos := "ref.go:38", after := #[{ on := 1, ground := Ground.data }], guard := none }) (v := .bool false) (by kernel_rfl) (by kernel_rfl) (by kernel_rfl) (by kernel_rfl) (fun _ _ _ h => h) (by kernel_rfl) (fun W _ => exec_un rfl (by kernel_rfl) (not_of true) W) hH1 ?_
      refine held_take (i := 3) (o := { dst := some 12, op := Op.move (Operand.tmp 11), type := 4, pos := "ref.go:38", after := #[{ on := 2, ground := Ground.data }, { on := 1, ground := Ground.chain }], guard := none }) (v := .bool false) (by kernel_rfl) (by kernel_rfl) (by kernel_rfl) (by kernel_rfl) (fun _ _ _ h => h) (by kernel_rfl) (fun _ _ => by kernel_rfl) hH1 ?_
      refine held_take (i := 4) (o := { dst := some 13, op := Op.move (Operand.tmp 0), type := 22, pos := "ref.go:38", after := #[{ on := 3, ground := Ground.guard }], guard := some (3, false) }) (v := .slice ao n cap) (by kernel_rfl) (by kernel_rfl) (by kernel_rfl) (by kernel_rfl) (fun _ _ _ h => h) (by kernel_rfl) (fun _ _ => by kernel_rfl) hH1 ?_
      refine held_take (i := 5) (o := { dst := some 14, op := Op.fieldAddr 26 (Operand.tmp 3) 0, type := 0, pos := "ref.go:38", after := #[{ on := 3, ground := Ground.guard }], guard := some (3, false) }) (v := .pointer (some ⟨w.heap.size, 0, none⟩)) (by kernel_rfl) (by kernel_rfl) (by kernel_rfl) (by kernel_rfl) (fun _ _ _ h => h) (by kernel_rfl) (fun W _ => exec_fld0 (p := ⟨w.heap.size, 0, none⟩) rfl (by kernel_rfl) W) hH1 ?_
      refine held_take (i := 6) (o := { dst := some 15, op := Op.load 24 (Operand.tmp 14), type := 24, pos := "ref.go:38", after := #[{ on := 5, ground := Ground.data }, { on := 3, ground := Ground.guard }], guard := some (3, false) }) (v := dV u.1) (by kernel_rfl) (by kernel_rfl) (by kernel_rfl) (by kernel_rfl) (fun _ _ _ h => h) (by kernel_rfl) (fun _ h => exec_ldD (p := ⟨w.heap.size, 0, none⟩) rfl (by kernel_rfl) h.var) hH1 ?_
      refine held_take (i := 8) (o := { dst := some 17, op := Op.fieldAddr 26 (Operand.tmp 3) 1, type := 0, pos := "ref.go:38", after := #[{ on := 3, ground := Ground.guard }], guard := some (3, false) }) (v := .pointer (some ⟨w.heap.size, 0 + 2, none⟩)) (by kernel_rfl) (by kernel_rfl) (by kernel_rfl) (by kernel_rfl) (fun _ _ _ h => h) (by kernel_rfl) (fun W _ => exec_fld1 (p := ⟨w.heap.size, 0, none⟩) rfl (by kernel_rfl) W) hH1 ?_
      refine held_take (i := 9) (o := { dst := some 18, op := Op.load 3 (Operand.tmp 17), type := 3, pos := "ref.go:38", after := #[{ on := 8, ground := Ground.data }, { on := 3, ground := Ground.guard }], guard := some (3, false) }) (v := .int .i64 u.2) (by kernel_rfl) (by kernel_rfl) (by kernel_rfl) (by kernel_rfl) (fun _ _ _ h => h) (by kernel_rfl) (fun _ h => exec_ldN (p := ⟨w.heap.size, 0, none⟩) rfl (by kernel_rfl) h.var) hH1 ?_
      refine held_callX (i := 7) (o := { dst := some 16, op := Op.call { callee := Callee.value (Operand.func 15), args := #[Operand.tmp 13, Operand.tmp 15], argTypes := #[22, 24] }, type := 3, pos := "ref.go:38", after := #[{ on := 4, ground := Ground.data }, { on := 6, ground := Ground.data }, { on := 3, ground := Ground.chain }, { on := 3, ground := Ground.guard }], guard := some (3, false) }) (F := 15) (vs := #[.slice ao n cap, dV u.1]) (by kernel_rfl) (by kernel_rfl) (by kernel_rfl) (fun _ => by kernel_rfl) (HG _ hH1.below) ?_
      rintro e w2 ⟨rfl, hb2⟩
      have hH2 := hH1.on hb2
      refine ⟨.int .i64 z, rfl, hH2, ?_⟩
      refine held_take (i := 10) (o := { dst := some 19, op := Op.binOp BinOp.geq 3 (Operand.tmp 16) (Operand.tmp 18) 3, type := 4, pos := "ref.go:38", after := #[{ on := 7, ground := Ground.data }, { on := 9, ground := Ground.data }, { on := 3, ground := Ground.guard }], guard := some (3, false) }) (v := .bool false) (by kernel_rfl) (by kernel_rfl) (by kernel_rfl) (by kernel_rfl) (fun _ _ _ h => h) (by kernel_rfl) (fun W _ => exec_bin rfl (by kernel_rfl) (by kernel_rfl) (fun _ => by kernel_rfl) (geq_no hz) W) hH2 ?_
      refine held_take (i := 11) (o := { dst := some 20, op := Op.pick (Operand.tmp 12) (Operand.const (Value.bool true)) (Operand.tmp 19), type := 4, pos := "ref.go:38", after := #[{ on := 3, ground := Ground.data }, { on := 10, ground := Ground.data }], guard := none }) (v := .bool false) (by kernel_rfl) (by kernel_rfl) (by kernel_rfl) (by kernel_rfl) (fun _ _ _ h => h) (by kernel_rfl) (fun _ _ => by kernel_rfl) hH2 ?_
      refine wpAnyH_done (by kernel_rfl) ?_ _
      simp only [Act.put, List.setIfInBounds_toArray, List.set_cons_zero, List.set_cons_succ]
      clear HG HO hz hGS hH0 hH1
      have HB0 := hH2.below
      have hvar := hH2.var
      clear hH2
      have hw2 := HB0.size
      go_wp2
      go_loopw [5, 6, 7, 8] (fun out laid i _ wr => ∃ (k : Nat) (acc : List U), k ≤ n ∧ i = .int .i64 k ∧ Hid (PIx l u n w2.heap.size w w2 out laid wr k acc)) (fun _ _ i _ _ => n - (intOf i).toNat)
      case atStart =>
        refine ⟨0, [], by omega, rfl, ?_⟩
        have h : PIx l u n w2.heap.size w w2 (.slice none 0 0) (.bool false) w2 0 [] := ⟨false, PInv.start l u, fun _ => by simp, rfl, World.ownsRow_nil _ _ _ _, Below.refl _ _⟩
        exact h
      case round =>
        obtain ⟨k, acc, hk, rfl, HI⟩ := hrel
        obtain ⟨q, inv, few, rfl, own, below⟩ := HI.out
        have hB := below.size
        by_cases hlt : k < n
        · have hkl : k < l.length := by have := HN.out; omega
          have hal := inv.1
          obtain ⟨ad, hao, hA⟩ : ∃ ad, ao = some ad ∧ CAt wr (ad.add (k * 3)) l[k] := by
            obtain ⟨_, _, e, _, _, hc⟩ := HV.out.on (bchain HB0 below)
            obtain ⟨ad, e2, h⟩ := hc k hkl
            cases e
            exact ⟨ad, e2, h⟩
          subst hao
          have HSRC : Hid (∀ W, Below w2.heap.size w2 W → CAt W (ad.add (k * 3)) l[k]) := by
            have h : ∀ W, Below w2.heap.size w2 W → CAt W (ad.add (k * 3)) l[k] := fun W hW => by
              obtain ⟨_, _, e, _, _, hc⟩ := HV.out.on (bchain HB0 hW)
              obtain ⟨ad', e2, h⟩ := hc k hkl
              cases e
              cases e2
              exact h
            exact h
          obtain ⟨c0, c1, c2⟩ := hA
          obtain ⟨d0, d1, d2⟩ := hvar.on below
          have HQ := fun W => refComp_any u.1.1 u.1.2 (l[k]).1.1 (l[k]).1.2 W
          have hi0 : (0 : Int) ≤ (k : Int) := by omega
          have hi1 : (k : Int) < (n : Int) := by omega
          have HI2 : Hid (PInv l u k q acc ∧ (q = false → acc.length ≤ k)) := by have h : PInv l u k q acc ∧ (q = false → acc.length ≤ k) := ⟨inv, few⟩; exact h
          have hcs := Dt.comp_cases u.1.1 u.1.2 (l[k]).1.1 (l[k]).1.2
          clear inv few HI
          cases q with
          | true =>
            have hlt2 := HI2.out.1.ahead hkl
            have HN2 : Hid (PInv l u (k + 1) true (acc ++ [l[k]])) := by have h := HI2.out.1.on hkl; exact h
            have e : Dt.comp u.1.1 u.1.2 (l[k]).1.1 (l[k]).1.2 = -1 := by
              simp only [Ct.lt] at hlt2
              rcases hcs with ⟨h, e⟩ | ⟨h1, h2, e⟩ | ⟨h, e⟩
              · exact e
              · omega
              · omega
            rw [e] at HQ
            clear e hcs hlt2 HI2
            generalize l[k] = x at *
            go_wp2
            go_region_held3 (fun W => W.cell? ⟨w.heap.size, 0, none⟩ = some (.int .i64 u.1.1) ∧ W.cell? ⟨w.heap.size, 1, none⟩ = some (.int .i64 u.1.2) ∧ W.cell? (ad.add (k * 3)) = some (.int .i64 x.1.1) ∧ W.cell? ⟨(ad.add (k * 3)).block, (ad.add (k * 3)).off + 1, none⟩ = some (.int .i64 x.1.2) ∧ Below wr.heap.size wr W)
              (first | exact ⟨d0, d1, c0, c1, (Below.refl _ _).drew⟩ | go_keep | (refine ⟨keep_cell hb ?_, keep_cell hb ?_, keep_cell hb ?_, keep_cell hb ?_, bchain ?_ hb⟩ <;> go_keep))
              (first | (go_at_call 40; refine (HQ _).mono ?_; rintro e w3 ⟨rfl, hb⟩))
            have hbx : Below wr.heap.size wr w3 := bchain (Below.refl _ _).drew hb
            have hu3 := (hvar.on below).on hbx
            have c0 := keep_cell hbx c0
            have c1 := keep_cell hbx c1
            have c2 := keep_cell hbx c2
            obtain ⟨d0, d1, d2⟩ := hu3
            have f7 : acc.length + [x].length ≤ 2000000 := by simp; omega
            have ownx := own_on (own_on own hbx) (below_new w3 (.cells #[.int .i64 x.1.1, .int .i64 x.1.2, .int .i64 x.2] 26))
            have hone := cntsIn_one w3 x
            have belowx : Below w2.heap.size w2 (w3.alloc (.cells #[.int .i64 x.1.1, .int .i64 x.1.2, .int .i64 x.2] 26)) := below.trans ((bchain hbx (below_new _ _)).mono hB)
            go_wp2_with (at_builtin; refine append_cnts rfl _ _ rfl w2.heap.size belowx.size _ acc rfl ownx _ [x] rfl hone f7 ?_; intro r3 w4 own3 below3)
            go_roundw
            case rel =>
              refine ⟨_, _, _, ⟨k + 1, by omega, ?_, acc ++ [x], ?_⟩, rfl, rfl, rfl⟩
              · go_num
              have h : PIx l u n w2.heap.size w w2 r3 (.bool true) w4 (k + 1) (acc ++ [x]) := ⟨true, HN2.out, fun e => (by cases e), rfl, own3, belowx.trans below3⟩
              exact h
            case measure => simp [intOf]; omega
          | false =>
            have hfew := HI2.out.2 rfl
            rcases hcs with ⟨h, e⟩ | ⟨h1, h2, e⟩ | ⟨h, e⟩
            · have HN2 : Hid (PInv l u (k + 1) true (acc ++ [u] ++ [l[k]])) := by have h := HI2.out.1.lay HP.out hfew hkl h; exact h
              rw [e] at HQ
              clear e h HI2
              generalize l[k] = x at *
              go_wp2
              go_region_held3 (fun W => W.cell? ⟨w.heap.size, 0, none⟩ = some (.int .i64 u.1.1) ∧ W.cell? ⟨w.heap.size, 1, none⟩ = some (.int .i64 u.1.2) ∧ W.cell? (ad.add (k * 3)) = some (.int .i64 x.1.1) ∧ W.cell? ⟨(ad.add (k * 3)).block, (ad.add (k * 3)).off + 1, none⟩ = some (.int .i64 x.1.2) ∧ Below wr.heap.size wr W)
                (first | exact ⟨d0, d1, c0, c1, (Below.refl _ _).drew⟩ | go_keep | (refine ⟨keep_cell hb ?_, keep_cell hb ?_, keep_cell hb ?_, keep_cell hb ?_, bchain ?_ hb⟩ <;> go_keep))
                (first | (go_at_call 40; refine (HQ _).mono ?_; rintro e w3 ⟨rfl, hb⟩))
              have hbx : Below wr.heap.size wr w3 := bchain (Below.refl _ _).drew hb
              have hu3 := (hvar.on below).on hbx
              have c0 := keep_cell hbx c0
              have c1 := keep_cell hbx c1
              have c2 := keep_cell hbx c2
              obtain ⟨d0, d1, d2⟩ := hu3
              have f7 : acc.length + [u].length ≤ 2000000 := by simp; omega
              have f8 : (acc ++ [u]).length + [x].length ≤ 2000000 := by simp; omega
              have ownx := own_on (own_on own hbx) (below_new w3 (.cells #[.int .i64 u.1.1, .int .i64 u.1.2, .int .i64 u.2] 26))
              have hone := cntsIn_one w3 u
              have belowx : Below w2.heap.size w2 (w3.alloc (.cells #[.int .i64 u.1.1, .int .i64 u.1.2, .int .i64 u.2] 26)) := below.trans ((bchain hbx (below_new _ _)).mono hB)
              have hsrc : ∀ W, Below w2.heap.size w2 W → CAt W (ad.add (k * 3)) x := HSRC.out
              go_wp2_with (at_builtin; first | (refine append_cnts rfl _ _ rfl w2.heap.size belowx.size _ acc rfl ownx _ [u] rfl hone f7 ?_; intro r3 w4 own3 below3; have belowz := belowx.trans below3; obtain ⟨c0, c1, c2⟩ := hsrc w4 belowz; have owny := own_on own3 (below_new w4 (.cells #[.int .i64 x.1.1, .int .i64 x.1.2, .int .i64 x.2] 26)); have honey := cntsIn_one w4 x; have belowy : Below w2.heap.size w2 (w4.alloc (.cells #[.int .i64 x.1.1, .int .i64 x.1.2, .int .i64 x.2] 26)) := belowz.trans ((below_new _ _).mono belowz.size)) | (refine append_cnts rfl _ _ rfl w2.heap.size belowy.size _ (acc ++ [u]) rfl owny _ [x] rfl honey f8 ?_; intro r5 w5 own5 below5))
              go_roundw
              case rel =>
                refine ⟨_, _, _, ⟨k + 1, by omega, ?_, acc ++ [u] ++ [x], ?_⟩, rfl, rfl, rfl⟩
                · go_num
                have h : PIx l u n w2.heap.size w w2 r5 (.bool true) w5 (k + 1) (acc ++ [u] ++ [x]) := ⟨true, HN2.out, fun e => (by cases e), rfl, own5, belowy.trans below5⟩
                exact h
              case measure => simp [intOf]; omega
            · have HN2 : Hid (PInv l u (k + 1) true (acc ++ [u])) := by have h := HI2.out.1.meet HP.out hkl (Prod.ext h1.symm h2.symm); exact h
              rw [e] at HQ
              clear e h1 h2 HI2
              generalize l[k] = x at *
              go_wp2
              go_region_held3 (fun W => W.cell? ⟨w.heap.size, 0, none⟩ = some (.int .i64 u.1.1) ∧ W.cell? ⟨w.heap.size, 1, none⟩ = some (.int .i64 u.1.2) ∧ W.cell? (ad.add (k * 3)) = some (.int .i64 x.1.1) ∧ W.cell? ⟨(ad.add (k * 3)).block, (ad.add (k * 3)).off + 1, none⟩ = some (.int .i64 x.1.2) ∧ Below wr.heap.size wr W)
                (first | exact ⟨d0, d1, c0, c1, (Below.refl _ _).drew⟩ | go_keep | (refine ⟨keep_cell hb ?_, keep_cell hb ?_, keep_cell hb ?_, keep_cell hb ?_, bchain ?_ hb⟩ <;> go_keep))
                (first | (go_at_call 40; refine (HQ _).mono ?_; rintro e w3 ⟨rfl, hb⟩))
              have hbx : Below wr.heap.size wr w3 := bchain (Below.refl _ _).drew hb
              have hu3 := (hvar.on below).on hbx
              have c0 := keep_cell hbx c0
              have c1 := keep_cell hbx c1
              have c2 := keep_cell hbx c2
              obtain ⟨d0, d1, d2⟩ := hu3
              have f7 : acc.length + [u].length ≤ 2000000 := by simp; omega
              have ownx := own_on (own_on own hbx) (below_new w3 (.cells #[.int .i64 u.1.1, .int .i64 u.1.2, .int .i64 u.2] 26))
              have hone := cntsIn_one w3 u
              have belowx : Below w2.heap.size w2 (w3.alloc (.cells #[.int .i64 u.1.1, .int .i64 u.1.2, .int .i64 u.2] 26)) := below.trans ((bchain hbx (below_new _ _)).mono hB)
              go_wp2_with (at_builtin; refine append_cnts rfl _ _ rfl w2.heap.size belowx.size _ acc rfl ownx _ [u] rfl hone f7 ?_; intro r3 w4 own3 below3)
              go_roundw
              case rel =>
                refine ⟨_, _, _, ⟨k + 1, by omega, ?_, acc ++ [u], ?_⟩, rfl, rfl, rfl⟩
                · go_num
                have h : PIx l u n w2.heap.size w w2 r3 (.bool true) w4 (k + 1) (acc ++ [u]) := ⟨true, HN2.out, fun e => (by cases e), rfl, own3, belowx.trans below3⟩
                exact h
              case measure => simp [intOf]; omega
            · have HN2 : Hid (PInv l u (k + 1) false (acc ++ [l[k]])) := by have h := HI2.out.1.pass hkl (by simp only [Ct.lt]; omega); exact h
              rw [e] at HQ
              clear e h HI2
              generalize l[k] = x at *
              go_wp2
              go_region_held3 (fun W => W.cell? ⟨w.heap.size, 0, none⟩ = some (.int .i64 u.1.1) ∧ W.cell? ⟨w.heap.size, 1, none⟩ = some (.int .i64 u.1.2) ∧ W.cell? (ad.add (k * 3)) = some (.int .i64 x.1.1) ∧ W.cell? ⟨(ad.add (k * 3)).block, (ad.add (k * 3)).off + 1, none⟩ = some (.int .i64 x.1.2) ∧ Below wr.heap.size wr W)
                (first | exact ⟨d0, d1, c0, c1, (Below.refl _ _).drew⟩ | go_keep | (refine ⟨keep_cell hb ?_, keep_cell hb ?_, keep_cell hb ?_, keep_cell hb ?_, bchain ?_ hb⟩ <;> go_keep))
                (first | (go_at_call 40; refine (HQ _).mono ?_; rintro e w3 ⟨rfl, hb⟩))
              have hbx : Below wr.heap.size wr w3 := bchain (Below.refl _ _).drew hb
              have hu3 := (hvar.on below).on hbx
              have c0 := keep_cell hbx c0
              have c1 := keep_cell hbx c1
              have c2 := keep_cell hbx c2
              obtain ⟨d0, d1, d2⟩ := hu3
              have f7 : acc.length + [x].length ≤ 2000000 := by simp; omega
              have ownx := own_on (own_on own hbx) (below_new w3 (.cells #[.int .i64 x.1.1, .int .i64 x.1.2, .int .i64 x.2] 26))
              have hone := cntsIn_one w3 x
              have belowx : Below w2.heap.size w2 (w3.alloc (.cells #[.int .i64 x.1.1, .int .i64 x.1.2, .int .i64 x.2] 26)) := below.trans ((bchain hbx (below_new _ _)).mono hB)
              go_wp2_with (at_builtin; refine append_cnts rfl _ _ rfl w2.heap.size belowx.size _ acc rfl ownx _ [x] rfl hone f7 ?_; intro r3 w4 own3 below3)
              go_roundw
              case rel =>
                refine ⟨_, _, _, ⟨k + 1, by omega, ?_, acc ++ [x], ?_⟩, rfl, rfl, rfl⟩
                · go_num
                have h : PIx l u n w2.heap.size w w2 r3 (.bool false) w4 (k + 1) (acc ++ [x]) := ⟨false, HN2.out, fun _ => by simp; omega, rfl, own3, belowx.trans below3⟩
                exact h
              case measure => simp [intOf]; omega
        · obtain rfl : k = n := by omega
          obtain ⟨h1, h2, h3⟩ := inv
          rw [HN.out, List.drop_length] at h2
          obtain ⟨d0, d1, d2⟩ := hvar.on below
          cases q with
          | true =>
            have HE : Hid (acc = Ct.ins u l) := by
              rw [if_pos rfl, List.append_nil] at h2
              exact h2
            go_wp2
            go_ret
            exact ⟨_, rfl, by rw [← HE.out]; exact cntsIn_own own, bchain HB0 below⟩
          | false =>
            have HE : Hid (acc ++ [u] = Ct.ins u l) := by
              rw [if_neg (by decide), Ct.ins] at h2
              exact h2
            have f7 : acc.length + [u].length ≤ 2000000 := by simp; omega
            have ownx := own_on own (below_new wr (.cells #[.int .i64 u.1.1, .int .i64 u.1.2, .int .i64 u.2] 26))
            have hone := cntsIn_one wr u
            have belowx : Below w2.heap.size w2 (wr.alloc (.cells #[.int .i64 u.1.1, .int .i64 u.1.2, .int .i64 u.2] 26)) := below.trans ((below_new _ _).mono hB)
            go_wp2_with (at_builtin; refine append_cnts rfl _ _ rfl w2.heap.size belowx.size _ acc rfl ownx _ [u] rfl hone f7 ?_; intro r3 w4 own3 below3)
            go_ret
            exact ⟨_, rfl, by rw [← HE.out]; exact cntsIn_own own3, bchain HB0 (belowx.trans below3)⟩
end Go.Proofs.Ytpheljlnlbiieaa
