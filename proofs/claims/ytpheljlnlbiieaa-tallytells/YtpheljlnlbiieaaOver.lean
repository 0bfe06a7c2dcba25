/- The walks of the program's Over: slices.Clone, IndexFunc, DeleteFunc, its closure. -/
import Derived.Test.YtpheljlnlbiieaaGets
import Derived.Test.YtpheljlnlbiieaaOwn
import Derived.Test.YtpheljlnlbiieaaAppend
namespace Go.Proofs.Ytpheljlnlbiieaa
open Go.RowKit Go.Shelf

/-- Where the first one stands that a closure takes; -1: nowhere. -/
def idx (p : U → Bool) (l : List U) : Int := match l.findIdx? p with
  | some k => (k : Int)
  | none => -1
/-- None of the first ones is taken. -/
def noneTo (p : U → Bool) (l : List U) (k : Nat) : Prop := ∀ j (h : j < l.length), j < k → p l[j] = false
theorem noneTo_zero (p : U → Bool) (l : List U) : noneTo p l 0 := fun _ _ h => absurd h (Nat.not_lt_zero _)
theorem noneTo_step {p : U → Bool} {l : List U} {k : Nat} (h : noneTo p l k) (hk : k < l.length) (hp : p l[k] = false) : noneTo p l (k + 1) := fun j hj h1 => by
  by_cases e : j = k
  · subst e; exact hp
  · exact h j hj (by omega)
theorem idx_hit {p : U → Bool} {l : List U} {k : Nat} (h : noneTo p l k) (hk : k < l.length) (hp : p l[k] = true) : idx p l = k := by
  have : l.findIdx? p = some k := by
    rw [List.findIdx?_eq_some_iff_getElem]
    exact ⟨hk, hp, fun j hj => by simp [h j (by omega) hj]⟩
  simp [idx, this]
theorem idx_miss {p : U → Bool} {l : List U} (h : noneTo p l l.length) : idx p l = -1 := by
  have : l.findIdx? p = none := by
    rw [List.findIdx?_eq_none_iff]
    intro x hx
    obtain ⟨j, hj, rfl⟩ := List.mem_iff_getElem.1 hx
    exact h j hj hj
  simp [idx, this]
theorem idx_cases (p : U → Bool) (l : List U) : (idx p l = -1 ∧ noneTo p l l.length) ∨ ∃ k, k < l.length ∧ idx p l = (k : Int) ∧ noneTo p l k ∧ ∃ h : k < l.length, p l[k] = true := by
  unfold idx
  cases h : l.findIdx? p with
  | none => left; exact ⟨rfl, fun j hj _ => by
      rw [List.findIdx?_eq_none_iff] at h
      exact h _ (List.getElem_mem hj)⟩
  | some k =>
    rw [List.findIdx?_eq_some_iff_getElem] at h
    obtain ⟨hk, hp, hn⟩ := h
    exact Or.inr ⟨k, hk, rfl, fun j hj h1 => by simpa using hn j h1, hk, hp⟩
/-- What the closure answers, whatever was laid since. -/
def Asks (B : Nat) (w : World) (cv : Value) (p : U → Bool) : Prop := ∀ (W : World) (x : U), Below B w W → Calls Try.prog 45 #[uV x, cv] W fun e w' => e = .returned (.bool (p x)) ∧ Below W.heap.size W w'

set_option maxRecDepth 20000 in
set_option maxHeartbeats 1000000 in
theorem indexFunc_any (v : Value) (l : List U) (w0 w : World) (B : Nat) (cv : Value) (p : U → Bool) (hb0 : Below B w0 w) (hB : B ≤ w.heap.size) (hv : cntsIn w v l) (hn : l.length ≤ 1000000) (hp : Asks B w0 cv p) :
    Calls Try.prog 63 #[v, .func (.func 45) #[] #[cv]] w fun e w' => e = .returned (.int .i64 (idx p l)) ∧ Below w.heap.size w w' := by
  obtain ⟨ao, c, rfl, _, _, hc⟩ := hv
  have HP : Hid (Asks B w0 cv p) := hp
  clear hp
  go_enter Try.func63, Try.ntmps63
  go_wp2
  go_loopw [5, 8] (fun _ i wr => ∃ k : Nat, k ≤ l.length ∧ i = .int .i64 k ∧ noneTo p l k ∧ Below w.heap.size w wr) (fun _ i _ => l.length - (intOf i).toNat)
  case atStart => exact ⟨0, by omega, rfl, noneTo_zero _ _, Below.refl _ w⟩
  case round =>
    obtain ⟨k, hk, rfl, hN, hbw⟩ := hrel
    by_cases hlt : k < l.length
    · obtain ⟨ad, rfl, hA⟩ := hc k hlt
      obtain ⟨c0, c1, c2⟩ := hA.on hbw
      have HC := HP.out wr l[k] (hb0.trans (hbw.mono hB))
      clear hc hA
      cases hq : p l[k] with
      | true =>
        have HI : Hid (idx p l = (k : Int)) := by have h := idx_hit hN hlt hq; exact h
        rw [hq] at HC
        generalize l[k] = x at *
        go_wp2_with (go_at_call 45; refine HC.mono ?_; rintro e w1 ⟨rfl, hb1⟩)
        go_ret
        exact ⟨ret_int HI.out.symm, bchain hbw hb1⟩
      | false =>
        have HN := noneTo_step hN hlt hq
        rw [hq] at HC
        generalize l[k] = x at *
        go_wp2_with (go_at_call 45; refine HC.mono ?_; rintro e w1 ⟨rfl, hb1⟩)
        go_roundw
        case rel => exact ⟨k + 1, by omega, by go_num, HN, bchain hbw hb1⟩
        case measure => simp [intOf]; omega
    · obtain rfl : k = l.length := by omega
      have HI : Hid (idx p l = -1) := by have h := idx_miss hN; exact h
      go_wp2
      go_ret
      exact ⟨ret_int HI.out.symm, hbw⟩

/-- Where the walk stands: of the first j those that stay stand ahead, what is behind is as it was. -/
def KInv (p : U → Bool) (l : List U) (i j : Nat) (cur : List U) : Prop := cur.length = l.length ∧ i < j ∧ j ≤ l.length ∧ cur.take i = (l.take j).filter p ∧ cur.drop j = l.drop j
theorem KInv.start {p : U → Bool} {l : List U} {k : Nat} (h : noneTo (fun d => !p d) l k) (hk : k < l.length) (hp : (!p l[k]) = true) : KInv p l k (k + 1) l := by
  refine ⟨rfl, by omega, by omega, ?_, rfl⟩
  rw [List.take_succ_eq_append_getElem hk, List.filter_append]
  have e1 : [l[k]].filter p = [] := by
    have : p l[k] = false := by simpa using hp
    simp [this]
  rw [e1, List.append_nil]
  symm
  rw [List.filter_eq_self]
  intro x hx
  obtain ⟨j, hj, rfl⟩ := List.mem_iff_getElem.1 hx
  simp at hj
  have := h j (by omega) (by omega)
  rw [List.getElem_take]
  simpa using this
theorem KInv.at {p : U → Bool} {l cur : List U} {i j : Nat} (h : KInv p l i j cur) (hj : j < l.length) : ∃ h' : j < cur.length, cur[j] = l[j] := by
  have h' : j < cur.length := by rw [h.1]; exact hj
  refine ⟨h', ?_⟩
  have e := h.2.2.2.2
  rw [List.drop_eq_getElem_cons h', List.drop_eq_getElem_cons hj] at e
  exact (List.cons.inj e).1
theorem KInv.keep {p : U → Bool} {l cur : List U} {i j : Nat} (h : KInv p l i j cur) (hj : j < l.length) (hp : p l[j] = true) : KInv p l (i + 1) (j + 1) (cur.set i l[j]) := by
  obtain ⟨h1, h2, h3, h4, h5⟩ := h
  refine ⟨by simpa using h1, by omega, by omega, ?_, ?_⟩
  · rw [List.take_succ_eq_append_getElem hj, List.filter_append, ← h4]
    rw [List.take_succ_eq_append_getElem (by simp; omega)]
    congr 1
    · rw [List.take_set_of_le (Nat.le_refl _)]
    · simp [hp]
  · rw [List.drop_set_of_lt (by omega)]
    have : cur.drop (j + 1) = (cur.drop j).drop 1 := by rw [List.drop_drop]
    rw [this, h5, List.drop_drop]
theorem KInv.skip {p : U → Bool} {l cur : List U} {i j : Nat} (h : KInv p l i j cur) (hj : j < l.length) (hp : p l[j] = false) : KInv p l i (j + 1) cur := by
  obtain ⟨h1, h2, h3, h4, h5⟩ := h
  refine ⟨h1, by omega, by omega, ?_, ?_⟩
  · rw [List.take_succ_eq_append_getElem hj, List.filter_append, ← h4]
    simp [hp]
  · have : cur.drop (j + 1) = (cur.drop j).drop 1 := by rw [List.drop_drop]
    rw [this, h5, List.drop_drop]
theorem KInv.len {p : U → Bool} {l cur : List U} {i j : Nat} (h : KInv p l i j cur) : i = ((l.take j).filter p).length := by
  rw [← h.2.2.2.1, List.length_take, h.1]
  have := h.2.1
  have := h.2.2.1
  omega
theorem below_set39 {B : Nat} {a w : World} (h : Below B a w) {g : Nat} (hg : B ≤ g) (i : Nat) (x : U) : Below B a (set3 w g i x) :=
  ((h.setCell (p := ⟨g, i * 3, none⟩) hg _).setCell (p := ⟨g, i * 3 + 1, none⟩) hg _).setCell (p := ⟨g, i * 3 + 2, none⟩) hg _

set_option maxRecDepth 20000 in
set_option maxHeartbeats 1000000 in
theorem deleteFunc_any (g cap : Nat) (l : List U) (B : Nat) (w0 w : World) (cv : Value) (p : U → Bool) (hb0 : Below B w0 w) (hO : Own w g l) (hn : l.length ≤ 1000000) (hc : l.length ≤ cap) (hcm : cap ≤ maxLen) (hB : B ≤ g) (hp : Asks B w0 cv fun x => !p x) :
    Calls Try.prog 43 #[.slice (some ⟨g, 0, none⟩) l.length cap, .func (.func 45) #[] #[cv]] w fun e w' => e = .returned (.slice (some ⟨g, 0, none⟩) (l.filter p).length cap) ∧ Own w' g (l.filter p) ∧ Below B w0 w' := by
  have hBw : B ≤ w.heap.size := Nat.le_trans hB (Nat.le_of_lt hO.1)
  have HI := indexFunc_any (.slice (some ⟨g, 0, none⟩) l.length cap) l w0 w B cv (fun d => !p d) hb0 hBw (hO.in hc) hn hp
  have HP : Hid (Asks B w0 cv fun x => !p x) := hp
  clear hp
  have hcap : cap ≤ 9223372036854775807 := by unfold maxLen at hcm; omega
  rcases idx_cases (fun d => !p d) l with ⟨e, hN⟩ | ⟨k, hk, e, hN, h', hp⟩
  · rw [e] at HI
    have hf : l.filter p = l := by
      rw [List.filter_eq_self]
      intro x hx
      obtain ⟨j, hj, rfl⟩ := List.mem_iff_getElem.1 hx
      have := hN j hj hj
      simpa using this
    rw [hf]
    have HO : Hid (Own w g l) := hO
    clear hN hO hf e
    go_enter Try.func43, Try.ntmps43
    go_wp2_with (go_at_call 63; refine HI.mono ?_; rintro e w1 ⟨rfl, hb1⟩)
    go_ret
    exact ⟨rfl, HO.out.on hb1, hb0.trans (hb1.mono hBw)⟩
  · rw [e] at HI
    have hne1 : ((k : Int) == -1) = false := beq_eq_false_iff_ne.2 (by omega)
    have HK : Hid (KInv p l k (k + 1) l) := by have h := KInv.start hN hk hp; exact h
    have HO : Hid (Own w g l) := hO
    clear hN hO e hp
    obtain ⟨n, hn0⟩ : ∃ n, n = l.length := ⟨_, rfl⟩
    have HN : Hid (n = l.length) := hn0
    rw [← hn0] at hn hc hk HI ⊢
    clear hn0 h'
    go_enter Try.func43, Try.ntmps43
    go_wp2_with (go_at_call 63; refine HI.mono ?_; rintro e w1 ⟨rfl, hb1⟩)
    go_loopw [5, 6, 7] (fun a b _ wr => ∃ (i j : Nat) (cur : List U), a = .int .i64 i ∧ b = .int .i64 j ∧ Hid (KInv p l i j cur) ∧ Hid (Own wr g cur) ∧ Below B w0 wr) (fun _ b _ _ => n - (intOf b).toNat)
    case atStart => exact ⟨k, k + 1, l, rfl, by go_num, HK, HO.out.on hb1, hb0.trans (hb1.mono hBw)⟩
    case round =>
      clear HK HO hb1 HI hne1
      obtain ⟨i, j, cur, rfl, rfl, HK, HO, hbw⟩ := hrel
      have hcl : cur.length = n := by rw [HN.out]; exact HK.out.1
      have hij := HK.out.2.1
      have hjn : j ≤ n := by rw [HN.out]; exact HK.out.2.2.1
      have hBr : B ≤ wr.heap.size := Nat.le_trans hB (Nat.le_of_lt HO.out.1)
      by_cases hlt : j < n
      · have hjd : j < l.length := by have := HN.out; omega
        obtain ⟨hj', hcj⟩ := HK.out.at hjd
        obtain ⟨⟨c0, c1, c2⟩, _⟩ := HO.out.2 j hj'
        simp only at c0 c1 c2
        have HC := HP.out (wr.alloc (.cells #[.int .i64 (l[j]).1.1, .int .i64 (l[j]).1.2, .int .i64 (l[j]).2] 26)) l[j] (hbw.alloc hBr _)
        dsimp only at HC
        rw [hcj] at c0 c1 c2
        cases hq : p l[j] with
        | true =>
          rw [hq] at HC
          have HK' : Hid (KInv p l (i + 1) (j + 1) (cur.set i l[j])) := by have h := HK.out.keep hjd hq; exact h
          clear HK hcj
          generalize l[j] = x at *
          go_wp2_with (go_at_call 45; refine HC.mono ?_; rintro e w2 ⟨rfl, hb2⟩; have hO2 := (HO.out.on (below_new wr (.cells #[.int .i64 x.1.1, .int .i64 x.1.2, .int .i64 x.2] 26))).on hb2; obtain ⟨⟨d0, d1, d2⟩, f0, f1, f2⟩ := hO2.2 i (by omega); simp only at d0 d1 d2; have k0 := keep_cell hb2 (a := ⟨wr.heap.size, 0, none⟩) (v := .int .i64 x.1.1) (by simp); have k1 := keep_cell hb2 (a := ⟨wr.heap.size, 1, none⟩) (v := .int .i64 x.1.2) (by simp); have k2 := keep_cell hb2 (a := ⟨wr.heap.size, 2, none⟩) (v := .int .i64 x.2) (by simp))
          go_roundw
          case rel => exact ⟨i + 1, j + 1, cur.set i x, by go_num, by go_num, HK', hO2.set i x, below_set39 ((hbw.alloc hBr _).trans (hb2.mono (by simp; omega))) hB i _⟩
          case measure => simp [intOf]; omega
        | false =>
          rw [hq] at HC
          have HK' : Hid (KInv p l i (j + 1) cur) := by have h := HK.out.skip hjd hq; exact h
          clear HK hcj
          generalize l[j] = x at *
          go_wp2_with (go_at_call 45; refine HC.mono ?_; rintro e w2 ⟨rfl, hb2⟩)
          go_roundw
          case rel => exact ⟨i, j + 1, cur, rfl, by go_num, HK', (HO.out.on (below_new _ _)).on hb2, (hbw.alloc hBr _).trans (hb2.mono (by simp; omega))⟩
          case measure => simp [intOf]; omega
      · obtain rfl : j = n := by omega
        obtain ⟨vs, hcl9⟩ := HO.out.clears i (by omega) (cap - i)
        rw [hcl] at hcl9
        have HE : Hid (i = (l.filter p).length ∧ cur.take i = l.filter p) := by
          have h1 := HK.out.len
          have h2 := HK.out.2.2.2.1
          rw [HN.out, List.take_length] at h1 h2
          exact (⟨h1, h2⟩ : i = (l.filter p).length ∧ cur.take i = l.filter p)
        have hin : i ≤ cap := by omega
        go_wp2
        go_ret
        refine ⟨by rw [← HE.out.1]; rfl, ?_, hbw.trans (setCells_frame g vs (i * 3) wr B hB).2.1⟩
        rw [← HE.out.2]
        exact HO.out.clear i vs

set_option maxRecDepth 20000 in
theorem over1_any (u : U) (bb : Nat) (vb : Value) (b : List U) (w : World) (hc : w.cell? ⟨bb, 0, none⟩ = some vb) (hv : cntsIn w vb b) (hn : b.length ≤ 1000000) (hp : Ct.Std b) :
    Calls Try.prog 45 #[uV u, .pointer (some ⟨bb, 0, none⟩)] w fun e w' => e = .returned (.bool (decide (u.2 ≤ Ct.get b u.1))) ∧ Below w.heap.size w w' := by
  have HG := fun W (hb' : Below w.heap.size w W) => get_any vb b u.1 W (hv.on hb') hn hp
  obtain ⟨bo, cb, rfl, _, _, h9⟩ := hv
  clear h9 hp
  obtain ⟨W0, hW0⟩ : ∃ W0, W0 = w.alloc (.cells #[.int .i64 u.1.1, .int .i64 u.1.2, .int .i64 u.2] 26) := ⟨_, rfl⟩
  have hB0 : Below w.heap.size w W0 := by rw [hW0]; exact below_new _ _
  obtain ⟨c0, c1, c2⟩ : CAt W0 ⟨w.heap.size, 0, none⟩ u := by rw [hW0]; exact CAt.new w u
  have hcb := keep_cell hB0 hc
  simp only [Nat.zero_add] at c1 c2
  generalize Ct.get b u.1 = z at *
  generalize b.length = n at *
  go_enter Try.func45, Try.ntmps45
  go_wp2
  rw [← hW0]
  clear hW0
  go_region_held3 (fun W => W.cell? ⟨w.heap.size, 0, none⟩ = some (.int .i64 u.1.1) ∧ W.cell? ⟨w.heap.size, 1, none⟩ = some (.int .i64 u.1.2) ∧ W.cell? ⟨w.heap.size, 2, none⟩ = some (.int .i64 u.2) ∧ W.cell? ⟨bb, 0, none⟩ = some (.slice bo n cb) ∧ Below W0.heap.size W0 W)
    (first | exact ⟨c0, c1, c2, hcb, (Below.refl _ _).drew⟩ | go_keep | (refine ⟨keep_cell hb ?_, keep_cell hb ?_, keep_cell hb ?_, keep_cell hb ?_, bchain ?_ hb⟩ <;> go_keep))
    (first | (go_at_call 14; refine (HG _ (bchain hB0 (Below.refl _ _).drew)).mono ?_; rintro e w3 ⟨rfl, hb⟩))
  have hbx : Below W0.heap.size W0 w3 := bchain (Below.refl _ _).drew hb
  go_wp2
  go_ret
  exact ⟨rfl, bchain hB0 hbx⟩

theorem own_empty (w : World) : (w.alloc (.cells #[] 26)).ownsRow w.heap.size 26 3 (.slice (some ⟨w.heap.size, 0, none⟩) 0 0) ([] : List U).length (ucells []) :=
  ⟨rfl, Or.inr ⟨w.heap.size, 0, #[], rfl, Nat.le_refl _, heap_alloc_new w _, Nat.le_refl _, by unfold maxLen; omega, rfl, rfl⟩⟩
set_option maxRecDepth 20000 in
theorem clone_any (v : Value) (l : List U) (w : World) (hv : cntsIn w v l) (hn : l.length ≤ 1000000) :
    Calls Try.prog 44 #[v] w fun e w' => ∃ r, e = .returned r ∧ w'.ownsRow w.heap.size 26 3 r l.length (ucells l) ∧ Below w.heap.size w w' := by
  obtain ⟨ao, c, rfl, hm, h0, _⟩ := id hv
  cases ao with
  | none =>
    obtain ⟨rfl, _, rfl⟩ := hv.none_nil
    have heq : ∀ w, (binOp .eql 22 (.slice none 0 0) (.slice none 0 0)).run Try.prog w = .ok (.bool true) w := fun w => by kernel_rfl
    go_enter Try.func44, Try.ntmps44
    go_wp2
    go_ret
    exact ⟨_, rfl, World.ownsRow_nil _ _ _ _, Below.refl _ _⟩
  | some ad =>
    have hv1 := hv.on (below_new w (.cells #[] 26))
    have hB : w.heap.size ≤ (w.alloc (.cells #[] 26)).heap.size := by simp
    have own := own_empty w
    have f7 : ([] : List U).length + l.length ≤ 2000000 := by simp; omega
    have HL : Hid (cntsIn (w.alloc (.cells #[] 26)) (.slice (some ad) l.length c) l) := hv1
    clear hv hv1 hm h0
    obtain ⟨n, hn0⟩ : ∃ n, n = l.length := ⟨_, rfl⟩
    have HN : Hid (n = l.length) := hn0
    rw [← hn0] at HL ⊢
    clear hn0
    have heq : ∀ w, (binOp .eql 22 (.slice (some ad) n c) (.slice none 0 0)).run Try.prog w = .ok (.bool false) w := fun w => by kernel_rfl
    go_enter Try.func44, Try.ntmps44
    go_wp2_with (at_builtin; refine append_cnts rfl _ _ rfl w.heap.size hB _ [] rfl own _ l rfl HL.out f7 ?_; intro r3 w4 own3 below3)
    go_ret
    refine ⟨_, rfl, ?_, ((below_new _ _).mono (Nat.le_refl _)).trans below3⟩
    rw [HN.out]
    exact own3

set_option maxRecDepth 20000 in
theorem over_any (va vb : Value) (a b : List U) (w : World) (ha : cntsIn w va a) (hb : cntsIn w vb b) (hn : a.length ≤ 1000000) (hn' : b.length ≤ 1000000) (hp : Ct.Std b) :
    Calls Try.prog 23 #[va, vb] w fun e w' => ∃ r, e = .returned r ∧ cntsIn w' r (Ct.over a b) ∧ Below w.heap.size w w' := by
  obtain ⟨bo, cb, rfl, _, _, h9⟩ := id hb
  clear h9
  obtain ⟨W0, hW0⟩ : ∃ W0, W0 = w.alloc (.cells #[.slice bo b.length cb] 22) := ⟨_, rfl⟩
  have hB0 : Below w.heap.size w W0 := by rw [hW0]; exact below_new _ _
  have hbox : W0.cell? ⟨w.heap.size, 0, none⟩ = some (.slice bo b.length cb) := by rw [hW0]; simp
  have HC := clone_any va a W0 (ha.on hB0) hn
  have HA : Asks W0.heap.size W0 (.pointer (some ⟨w.heap.size, 0, none⟩)) (fun x => !decide (Ct.get b x.1 < x.2)) := fun W x hW => by
    have h := over1_any x w.heap.size _ b W (keep_cell hW hbox) ((hb.on hB0).on hW) hn' hp
    have e : decide (x.2 ≤ Ct.get b x.1) = !decide (Ct.get b x.1 < x.2) := by
      by_cases q : x.2 ≤ Ct.get b x.1
      · rw [decide_eq_true q, decide_eq_false (by omega)]; rfl
      · rw [decide_eq_false q, decide_eq_true (by omega)]; rfl
    rw [e] at h
    exact h
  have HD : ∀ r w1, w1.ownsRow W0.heap.size 26 3 r a.length (ucells a) → Below W0.heap.size W0 w1 → Calls Try.prog 43 #[r, .func (.func 45) #[] #[.pointer (some ⟨w.heap.size, 0, none⟩)]] w1 fun e w' => ∃ r, e = .returned r ∧ cntsIn w' r (Ct.over a b) ∧ Below W0.heap.size W0 w' := fun r w1 own hb1 => by
    rcases id own.2 with ⟨rfl, h0⟩ | ⟨g, cap, cur, rfl, hbg, hg, r1, r2, r3, r4⟩
    · obtain rfl : a = [] := List.eq_nil_of_length_eq_zero h0
      have HI := indexFunc_any (.slice none 0 0) [] W0 w1 W0.heap.size _ _ hb1 hb1.size (cntsIn_nil _) (by simp) HA
      have e9 : idx (fun x : U => !decide (Ct.get b x.1 < x.2)) [] = -1 := rfl
      rw [e9] at HI
      clear own HA HC
      go_enter Try.func43, Try.ntmps43
      go_wp2_with (go_at_call 63; refine HI.mono ?_; rintro e w2 ⟨rfl, hb2⟩)
      go_ret
      exact ⟨_, rfl, cntsIn_nil _, bchain hb1 hb2⟩
    · obtain ⟨hO, h1, h2, h3, _⟩ := Own.of own
      refine (deleteFunc_any g cap a W0.heap.size W0 w1 _ (fun x => decide (Ct.get b x.1 < x.2)) hb1 hO hn h1 h2 h3 HA).mono ?_
      rintro e w2 ⟨rfl, hO2, hb2⟩
      exact ⟨_, rfl, hO2.in (Nat.le_trans (List.length_filter_le _ _) h1), hb2⟩
  clear HA hbox ha hb
  generalize b.length = n at *
  go_enter Try.func23, Try.ntmps23
  go_wp2_with (first | (go_at_call 44; rw [← hW0]; refine HC.mono ?_; rintro e w1 ⟨r, rfl, own, hb1⟩) | (go_at_call 43; refine (HD r w1 own hb1).mono ?_; rintro e w2 ⟨r2, rfl, hr2, hb2⟩))
  go_ret
  exact ⟨_, rfl, hr2, bchain hB0 hb2⟩
end Go.Proofs.Ytpheljlnlbiieaa
