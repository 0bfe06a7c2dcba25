/- The walks of slices.DeleteFunc (of the dots that are not right) and of slices.Compact. -/
import Derived.Test.YtenfbjlmfdiniaaOwn
namespace Go.Proofs.Ytenfbjlmfdiniaa
open Go.RowKit Go.Shelf

abbrev rightD (d : D) : Bool := Dt.right d.1 d.2
theorem notRight_any (x : D) (w : World) : Calls Try.prog 84 #[dV x] w fun e w' => e = .returned (.bool (!rightD x)) ∧ Below w.heap.size w w' := by
  obtain ⟨r, n⟩ := x
  have HC : ∀ w, Calls Try.prog 45 #[dotV r n] w fun e w' => e = .returned (.bool (Dt.right r n)) ∧ Below w.heap.size w w' := right_any r n
  show Calls Try.prog 84 #[dotV r n] w fun e w' => e = .returned (.bool (!Dt.right r n)) ∧ Below w.heap.size w w'
  generalize Dt.right r n = q at *
  go_enter Try.func84, Try.ntmps84
  go_wp2_with (go_at_call 45; refine (HC _).mono ?_; rintro e w1 ⟨rfl, hb1⟩)
  go_ret
  exact ⟨rfl, bchain (below_new _ _) hb1⟩
theorem eg84 : ∀ args w, (callFunc 84 args).run Try.prog w = .ok (.enter 84 args) w := enters_of Try.func84 (by kernel_rfl) rfl
theorem asks84 (w : World) : Asks w 84 #[] (fun d => !rightD d) := fun W x _ => notRight_any x W

/-- Where the walk stands: of the first j the right ones stand ahead, what is behind is as it was. -/
def KInv (ds : List D) (i j : Nat) (cur : List D) : Prop := cur.length = ds.length ∧ i < j ∧ j ≤ ds.length ∧ cur.take i = (ds.take j).filter rightD ∧ cur.drop j = ds.drop j
theorem KInv.start {ds : List D} {k : Nat} (h : noneTo (fun d => !rightD d) ds k) (hk : k < ds.length) (hp : (!rightD ds[k]) = true) : KInv ds k (k + 1) ds := by
  refine ⟨rfl, by omega, by omega, ?_, rfl⟩
  rw [List.take_succ_eq_append_getElem hk, List.filter_append]
  have e1 : [ds[k]].filter rightD = [] := by
    have : rightD ds[k] = false := by simpa using hp
    simp [this]
  rw [e1, List.append_nil]
  symm
  rw [List.filter_eq_self]
  intro x hx
  obtain ⟨j, hj, rfl⟩ := List.mem_iff_getElem.1 hx
  simp at hj
  have := h j (by omega) (by omega)
  rw [List.getElem_take]
  simpa using this
theorem KInv.at {ds cur : List D} {i j : Nat} (h : KInv ds i j cur) (hj : j < ds.length) : ∃ h' : j < cur.length, cur[j] = ds[j] := by
  have h' : j < cur.length := by rw [h.1]; exact hj
  refine ⟨h', ?_⟩
  have e := h.2.2.2.2
  rw [List.drop_eq_getElem_cons h', List.drop_eq_getElem_cons hj] at e
  exact (List.cons.inj e).1
theorem KInv.keep {ds cur : List D} {i j : Nat} (h : KInv ds i j cur) (hj : j < ds.length) (hp : rightD ds[j] = true) : KInv ds (i + 1) (j + 1) (cur.set i ds[j]) := by
  obtain ⟨h1, h2, h3, h4, h5⟩ := h
  refine ⟨by simpa using h1, by omega, by omega, ?_, ?_⟩
  · rw [List.take_succ_eq_append_getElem hj, List.filter_append, ← h4]
    rw [List.take_succ_eq_append_getElem (by simp; omega)]
    congr 1
    · rw [List.take_set_of_le (Nat.le_refl _)]
    · have hp' : Dt.right (ds[j]).1 (ds[j]).2 = true := hp
      simp [hp']
  · rw [List.drop_set_of_lt (by omega)]
    have : cur.drop (j + 1) = (cur.drop j).drop 1 := by rw [List.drop_drop]
    rw [this, h5, List.drop_drop]
theorem KInv.skip {ds cur : List D} {i j : Nat} (h : KInv ds i j cur) (hj : j < ds.length) (hp : rightD ds[j] = false) : KInv ds i (j + 1) cur := by
  obtain ⟨h1, h2, h3, h4, h5⟩ := h
  refine ⟨h1, by omega, by omega, ?_, ?_⟩
  · rw [List.take_succ_eq_append_getElem hj, List.filter_append, ← h4]
    have hp' : Dt.right (ds[j]).1 (ds[j]).2 = false := hp
    simp [hp']
  · have : cur.drop (j + 1) = (cur.drop j).drop 1 := by rw [List.drop_drop]
    rw [this, h5, List.drop_drop]
theorem KInv.len {ds cur : List D} {i j : Nat} (h : KInv ds i j cur) : i = ((ds.take j).filter rightD).length := by
  rw [← h.2.2.2.1, List.length_take, h.1]
  have := h.2.1
  have := h.2.2.1
  omega
theorem below_set2 {B : Nat} {a w : World} (h : Below B a w) {g : Nat} (hg : B ≤ g) (i : Nat) (x y : Value) : Below B a ((w.setCell ⟨g, i * 2, none⟩ x).setCell ⟨g, i * 2 + 1, none⟩ y) :=
  (h.setCell (p := ⟨g, i * 2, none⟩) hg x).setCell (p := ⟨g, i * 2 + 1, none⟩) hg y

set_option maxRecDepth 20000 in
set_option maxHeartbeats 400000 in
theorem deleteFunc_any (g cap : Nat) (ds : List D) (B : Nat) (w : World) (hO : Own w g ds) (hn : ds.length ≤ 1000000) (hc : ds.length ≤ cap) (hcm : cap ≤ maxLen) (hB : B ≤ g) :
    Calls Try.prog 82 #[.slice (some ⟨g, 0, none⟩) ds.length cap, .func (.func 84) #[] #[]] w fun e w' => e = .returned (.slice (some ⟨g, 0, none⟩) (ds.filter rightD).length cap) ∧ Own w' g (ds.filter rightD) ∧ Below B w w' := by
  have HI := indexFunc_any (.slice (some ⟨g, 0, none⟩) ds.length cap) ds w hO.in hn 84 #[] (fun d => !rightD d) eg84 (asks84 w)
  have hBw : B ≤ w.heap.size := Nat.le_trans hB (Nat.le_of_lt hO.1)
  have hcap : cap ≤ 9223372036854775807 := by unfold maxLen at hcm; omega
  rcases idx_cases (fun d => !rightD d) ds with ⟨e, hN⟩ | ⟨k, hk, e, hN, h', hp⟩
  · rw [e] at HI
    have hf : ds.filter rightD = ds := by
      rw [List.filter_eq_self]
      intro x hx
      obtain ⟨j, hj, rfl⟩ := List.mem_iff_getElem.1 hx
      have := hN j hj hj
      simpa using this
    rw [hf]
    have HO : Hid (Own w g ds) := hO
    clear hN hO hf e
    go_enter Try.func82, Try.ntmps82
    go_wp2_with (go_at_call 89; refine HI.mono ?_; rintro e w1 ⟨rfl, hb1⟩)
    go_ret
    exact ⟨rfl, HO.out.on hb1, hb1.mono hBw⟩
  · rw [e] at HI
    have hne1 : ((k : Int) == -1) = false := beq_eq_false_iff_ne.2 (by omega)
    have HK : Hid (KInv ds k (k + 1) ds) := by have h := KInv.start hN hk hp; exact h
    have HO : Hid (Own w g ds) := hO
    clear hN hO e hp
    obtain ⟨n, hn0⟩ : ∃ n, n = ds.length := ⟨_, rfl⟩
    have HN : Hid (n = ds.length) := hn0
    rw [← hn0] at hn hc hk HI ⊢
    clear hn0 h'
    go_enter Try.func82, Try.ntmps82
    go_wp2_with (go_at_call 89; refine HI.mono ?_; rintro e w1 ⟨rfl, hb1⟩)
    go_loopw [5, 6, 7] (fun a b _ wr => ∃ (i j : Nat) (cur : List D), a = .int .i64 i ∧ b = .int .i64 j ∧ Hid (KInv ds i j cur) ∧ Hid (Own wr g cur) ∧ Below B w wr) (fun _ b _ _ => n - (intOf b).toNat)
    case atStart => exact ⟨k, k + 1, ds, rfl, by go_num, HK, HO.out.on hb1, hb1.mono hBw⟩
    case round =>
      clear HK HO hb1 HI hne1
      obtain ⟨i, j, cur, rfl, rfl, HK, HO, hbw⟩ := hrel
      have hcl : cur.length = n := by rw [HN.out]; exact HK.out.1
      have hij := HK.out.2.1
      have hjn : j ≤ n := by rw [HN.out]; exact HK.out.2.2.1
      have hBr := Nat.le_trans hBw hbw.size
      by_cases hlt : j < n
      · have hjd : j < ds.length := by have := HN.out; omega
        obtain ⟨hj', hcj⟩ := HK.out.at hjd
        obtain ⟨c0, c1, _, _⟩ := HO.out.2 j hj'
        obtain ⟨d0, d1, f0, f1⟩ := HO.out.2 i (by omega)
        have HC := fun W => notRight_any ds[j] W
        rw [hcj] at c0 c1
        cases hq : rightD ds[j] with
        | true =>
          rw [hq] at HC
          have HK' : Hid (KInv ds (i + 1) (j + 1) (cur.set i ds[j])) := by have h := HK.out.keep hjd hq; exact h
          clear HK hcj
          generalize ds[j] = x at *
          go_wp2_with (go_at_call 84; refine (HC _).mono ?_; rintro e w2 ⟨rfl, hb2⟩; have hO2 := (HO.out.on (below_new wr (.cells #[.int .i64 x.1, .int .i64 x.2] 28))).on hb2; obtain ⟨d0, d1, f0, f1⟩ := hO2.2 i (by omega); have k0 := keep_cell hb2 (a := ⟨wr.heap.size, 0, none⟩) (v := .int .i64 x.1) (by simp); have k1 := keep_cell hb2 (a := ⟨wr.heap.size, 1, none⟩) (v := .int .i64 x.2) (by simp))
          go_roundw
          case rel => exact ⟨i + 1, j + 1, cur.set i x, by go_num, by go_num, HK', hO2.set i x, below_set2 ((hbw.alloc hBr _).trans (hb2.mono (by simp; omega))) hB i _ _⟩
          case measure => simp [intOf]; omega
        | false =>
          rw [hq] at HC
          have HK' : Hid (KInv ds i (j + 1) cur) := by have h := HK.out.skip hjd hq; exact h
          clear HK hcj
          generalize ds[j] = x at *
          go_wp2_with (go_at_call 84; refine (HC _).mono ?_; rintro e w2 ⟨rfl, hb2⟩)
          go_roundw
          case rel => exact ⟨i, j + 1, cur, rfl, by go_num, HK', (HO.out.on (below_new _ _)).on hb2, (hbw.alloc hBr _).trans (hb2.mono (by simp; omega))⟩
          case measure => simp [intOf]; omega
      · obtain rfl : j = n := by omega
        obtain ⟨vs, hcl9⟩ := HO.out.clears i (by omega) (cap - i)
        rw [hcl] at hcl9
        have HE : Hid (i = (ds.filter rightD).length ∧ cur.take i = ds.filter rightD) := by
          have h1 := HK.out.len
          have h2 := HK.out.2.2.2.1
          rw [HN.out, List.take_length] at h1 h2
          exact (⟨h1, h2⟩ : i = (ds.filter rightD).length ∧ cur.take i = ds.filter rightD)
        have hin : i ≤ cap := by omega
        go_wp2
        go_ret
        refine ⟨by rw [← HE.out.1]; rfl, ?_, hbw.trans (setCells_frame g vs (i * 2) wr B hB).2.1⟩
        rw [← HE.out.2]
        exact HO.out.clear i vs

/-! ### Compact -/
/-- Of the first j those that are not the one ahead of them. -/
def ddTo (ds : List D) : Nat → List D
  | 0 => []
  | j + 1 => if j = 0 ∨ ds[j]? ≠ ds[j - 1]? then ddTo ds j ++ (ds[j]?).toList else ddTo ds j
theorem ddTo_one {ds : List D} (h : 0 < ds.length) : ddTo ds 1 = ds.take 1 := by
  cases ds with
  | nil => simp at h
  | cons d ds => simp [ddTo]
theorem ddTo_new {ds : List D} {j : Nat} (h0 : 0 < j) (h : j < ds.length) (he : ds[j] ≠ ds[j - 1]) : ddTo ds (j + 1) = ddTo ds j ++ [ds[j]] := by
  have h1 : j - 1 < ds.length := by omega
  rw [ddTo, if_pos (Or.inr (by rw [List.getElem?_eq_getElem h, List.getElem?_eq_getElem h1]; simpa using he))]
  simp [h]
theorem ddTo_old {ds : List D} {j : Nat} (h0 : 0 < j) (h : j < ds.length) (he : ds[j] = ds[j - 1]) : ddTo ds (j + 1) = ddTo ds j := by
  have h1 : j - 1 < ds.length := by omega
  rw [ddTo, if_neg]
  rintro (e | e)
  · omega
  · rw [List.getElem?_eq_getElem h, List.getElem?_eq_getElem h1] at e
    exact e (by rw [he])
/-- So far none was twice. -/
def fresh (ds : List D) (k : Nat) : Prop := ddTo ds k = ds.take k
theorem fresh_one {ds : List D} (h : 0 < ds.length) : fresh ds 1 := ddTo_one h
theorem fresh_step {ds : List D} {k : Nat} (h : fresh ds k) (h0 : 0 < k) (hk : k < ds.length) (he : ds[k] ≠ ds[k - 1]) : fresh ds (k + 1) := by
  unfold fresh at *
  rw [ddTo_new h0 hk he, h, List.take_succ_eq_append_getElem hk]
/-- Where the second walk stands. -/
def CInv (ds : List D) (k j : Nat) (cur : List D) : Prop := cur.length = ds.length ∧ k < j ∧ 0 < j ∧ j ≤ ds.length ∧ cur.take k = ddTo ds j ∧ cur.drop (j - 1) = ds.drop (j - 1)
theorem CInv.start {ds : List D} {k : Nat} (h : fresh ds k) (h0 : 0 < k) (hk : k < ds.length) (he : ds[k] = ds[k - 1]) : CInv ds k (k + 1) ds :=
  ⟨rfl, by omega, by omega, by omega, by rw [ddTo_old h0 hk he]; exact h.symm, rfl⟩
theorem drop_get {cur ds : List D} {a j : Nat} (h : cur.drop a = ds.drop a) (hl : cur.length = ds.length) (haj : a ≤ j) (hj : j < ds.length) : ∃ h' : j < cur.length, cur[j] = ds[j] := by
  have h' : j < cur.length := by omega
  refine ⟨h', ?_⟩
  have e := congrArg (fun l => l[j - a]?) h
  simp only [List.getElem?_drop] at e
  rw [show a + (j - a) = j by omega, List.getElem?_eq_getElem h', List.getElem?_eq_getElem hj] at e
  exact Option.some.inj e
theorem CInv.at {ds cur : List D} {k j : Nat} (h : CInv ds k j cur) (hj : j < ds.length) : ∃ h' : j < cur.length, ∃ h'' : j - 1 < cur.length, ∃ h3 : j - 1 < ds.length, cur[j] = ds[j] ∧ cur[j - 1] = ds[j - 1] := by
  obtain ⟨h1, h2, h3, h4, h5, h6⟩ := h
  obtain ⟨a, b⟩ := drop_get h6 h1 (by omega) hj
  obtain ⟨c, d⟩ := drop_get h6 h1 (Nat.le_refl _) (by omega)
  exact ⟨a, c, by omega, b, d⟩
theorem CInv.keep {ds cur : List D} {k j : Nat} (h : CInv ds k j cur) (hj : j < ds.length) (hp : ds[j] ≠ ds[j - 1]) : CInv ds (k + 1) (j + 1) (cur.set k ds[j]) := by
  obtain ⟨h1, h2, h3, h4, h5, h6⟩ := h
  refine ⟨by simpa using h1, by omega, by omega, by omega, ?_, ?_⟩
  · rw [ddTo_new h3 hj hp, ← h5, List.take_succ_eq_append_getElem (by simp; omega)]
    congr 1
    · rw [List.take_set_of_le (Nat.le_refl _)]
    · simp
  · rw [List.drop_set_of_lt (by omega), show j + 1 - 1 = (j - 1) + 1 by omega]
    have : cur.drop (j - 1 + 1) = (cur.drop (j - 1)).drop 1 := by rw [List.drop_drop]
    rw [this, h6, List.drop_drop]
theorem CInv.skip {ds cur : List D} {k j : Nat} (h : CInv ds k j cur) (hj : j < ds.length) (hp : ds[j] = ds[j - 1]) : CInv ds k (j + 1) cur := by
  obtain ⟨h1, h2, h3, h4, h5, h6⟩ := h
  refine ⟨h1, by omega, by omega, by omega, by rw [ddTo_old h3 hj hp, ← h5], ?_⟩
  rw [show j + 1 - 1 = (j - 1) + 1 by omega]
  have : cur.drop (j - 1 + 1) = (cur.drop (j - 1)).drop 1 := by rw [List.drop_drop]
  rw [this, h6, List.drop_drop]
theorem CInv.len {ds cur : List D} {k j : Nat} (h : CInv ds k j cur) : k = (ddTo ds j).length := by
  rw [← h.2.2.2.2.1, List.length_take, h.1]
  have := h.2.1
  have := h.2.2.2.1
  omega
end Go.Proofs.Ytenfbjlmfdiniaa
