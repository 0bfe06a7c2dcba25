/- The walks of Has, the program's and the document's. -/
import Derived.Test.YtenfbjlmfdiniaaSearch
namespace Go.Proofs.Ytenfbjlmfdiniaa
open Go.RowKit Go.Shelf

theorem exec_setVec {o : Oper} {a : Act} {x : Operand} {b : Nat} {l : List Int} {sl : Value} {w : World} (ho : o.op = .load 23 x) (hl : l.length = 16) (hx : a.eval x = .pointer (some ⟨b, 0, none⟩)) (h : SetAt w b l sl) :
    (execOp a.eval o).run Try.prog w = .ok (.value (vecV l)) w := by
  unfold execOp
  simp only [ho, hx, Sem.run_bind, run_loadAt_mid w b 0 23 (ints l) _ h.vrange Try.underlying23 rfl (vinfo hl), Result.andThen_ok, Sem.run_pure]
theorem exec_set {o : Oper} {a : Act} {x : Operand} {b : Nat} {l : List Int} {sl : Value} {w : World} (ho : o.op = .load 26 x) (hl : l.length = 16) (hx : a.eval x = .pointer (some ⟨b, 0, none⟩)) (h : SetAt w b l sl) :
    (execOp a.eval o).run Try.prog w = .ok (.value (setV l sl)) w := by
  unfold execOp
  simp only [ho, hx, Sem.run_bind, run_loadAt_mid w b 0 26 (setC l sl) _ h.range Try.underlying26 rfl (sinfo hl), Result.andThen_ok, Sem.run_pure]
/-- Where a guard lets it: the same. -/
theorem load_setVecG {ops : Array Oper} {rest : List Oper} {o : Oper} {a : Act} {w : World} {Q : Exit → Act → World → Prop} (hw : Region.wanted o (yielded ops a.tmps) = true) (x : Operand) (ho : o.op = .load 23 x)
    (b : Nat) (l : List Int) (sl : Value) (hl : l.length = 16) (hx : a.eval x = .pointer (some ⟨b, 0, none⟩)) (h : SetAt w b l sl) (hk : wpList Try.prog ops Q rest (a.put o.dst (vecV l)) w) : wpList Try.prog ops Q (o :: rest) a w :=
  list_take hw (exec_setVec ho hl hx h) hk
theorem load_setG {ops : Array Oper} {rest : List Oper} {o : Oper} {a : Act} {w : World} {Q : Exit → Act → World → Prop} (hw : Region.wanted o (yielded ops a.tmps) = true) (x : Operand) (ho : o.op = .load 26 x)
    (b : Nat) (l : List Int) (sl : Value) (hl : l.length = 16) (hx : a.eval x = .pointer (some ⟨b, 0, none⟩)) (h : SetAt w b l sl) (hk : wpList Try.prog ops Q rest (a.put o.dst (setV l sl)) w) : wpList Try.prog ops Q (o :: rest) a w :=
  list_take hw (exec_set ho hl hx h) hk

set_option maxRecDepth 20000 in
set_option maxHeartbeats 400000 in
theorem hasSet_any (l : List Int) (hl : l.length = 16) (v : Value) (ds : List D) (d : D) (w : World) (hd : dotsIn w v ds) (hn : ds.length ≤ 1000000) (hp : ds.Pairwise St.lt) :
    Calls Try.prog 12 #[setV l v, dV d] w fun e w' => e = .returned (.bool (St.has l ds d)) ∧ Below w.heap.size w w' := by
  obtain ⟨W0, hW0⟩ : ∃ W0, W0 = (w.alloc (.cells (setC l v).toArray 26)).alloc (.cells #[.int .i64 d.1, .int .i64 d.2] 28) := ⟨_, rfl⟩
  have hB0 : Below w.heap.size w W0 := by rw [hW0]; exact below_new2 _ _ _
  have hA0 : SetAt W0 w.heap.size l v := by rw [hW0]; exact (SetAt.new w l v).alloc _
  have hD0 : DotAt W0 (w.heap.size + 1) d := by
    rw [hW0]
    have := DotAt.new (w.alloc (.cells (setC l v).toArray 26)) d
    simpa using this
  have HC := search_any v ds d W0 (hd.on hB0) hn hp
  have HV := fun W => has_vec l hl d.1 d.2 W
  have e : St.has l ds d = (decide (d ∈ ds) || Vc.has l d.1 d.2) := rfl
  rw [e]
  clear e
  obtain ⟨ao, na, ca, rfl⟩ := hd.sl
  have HA : Hid (SetAt W0 w.heap.size l (.slice ao na ca)) := hA0
  have HD : Hid (DotAt W0 (w.heap.size + 1) d) := hD0
  have HB : Hid (Below w.heap.size w W0) := hB0
  have HW : Hid (W0 = (w.alloc (.cells (setC l (.slice ao na ca)).toArray 26)).alloc (.cells #[.int .i64 d.1, .int .i64 d.2] 28)) := hW0
  rw [hW0] at hA0 hD0 HC
  clear hW0 hd hp hB0
  cases hq : decide (d ∈ ds) with
  | true =>
    rw [hq] at HC
    rw [Bool.true_or]
    go_enter Try.func12, Try.ntmps12
    go_wp2_with (first | (refine load_more rfl _ rfl w.heap.size l _ hl rfl hA0 ?_) | (refine load_dot rfl _ rfl (w.heap.size + 1) d rfl hD0 ?_) | (go_at_call 50; refine HC.mono ?_; rintro e w1 ⟨i, rfl, hb1⟩))
    go_ret
    refine ⟨rfl, bchain HB.out ?_⟩
    rw [HW.out]
    exact hb1
  | false =>
    rw [hq] at HC
    rw [Bool.false_or]
    generalize Vc.has l d.1 d.2 = q at *
    go_enter Try.func12, Try.ntmps12
    go_wp2_with (first
      | (refine load_more rfl _ rfl w.heap.size l _ hl rfl hA0 ?_)
      | (refine load_dot rfl _ rfl (w.heap.size + 1) d rfl hD0 ?_)
      | (go_at_call 50; refine HC.mono ?_; rintro e w1 ⟨i, rfl, hb1⟩
         rw [← HW.out] at hb1
         have hA1 := HA.out.on hb1
         have hD1 := HD.out.on hb1
         have hd10 := hD1.1
         have hd11 := hD1.2)
      | (refine load_setVecG (by kernel_rfl) _ rfl w.heap.size l _ hl rfl hA1 ?_)
      | (go_at_call 51; refine (HV _).mono ?_; rintro e w2 ⟨rfl, hb2⟩))
    go_ret
    exact ⟨rfl, bchain (bchain HB.out hb1) hb2⟩

/-- None of the first ones is the dot. -/
def notTo (ds : List D) (d : D) (k : Nat) : Prop := ∀ j (h : j < ds.length), j < k → ds[j] ≠ d
theorem notTo_zero (ds : List D) (d : D) : notTo ds d 0 := fun _ _ h => absurd h (Nat.not_lt_zero _)
theorem notTo_step {ds : List D} {d : D} {k : Nat} (h : notTo ds d k) (hk : k < ds.length) (hp : ds[k] ≠ d) : notTo ds d (k + 1) := fun j hj h1 => by
  by_cases e : j = k
  · subst e; exact hp
  · exact h j hj (by omega)
theorem notTo_all {ds : List D} {d : D} (h : notTo ds d ds.length) : decide (d ∈ ds) = false := by
  apply decide_eq_false
  intro hm
  obtain ⟨k, hk, e⟩ := List.mem_iff_getElem.1 hm
  exact h k hk hk e

set_option maxRecDepth 20000 in
set_option maxHeartbeats 400000 in
theorem refHasSet_any (l : List Int) (hl : l.length = 16) (v : Value) (ds : List D) (d : D) (w : World) (hd : dotsIn w v ds) (hn : ds.length ≤ 1000000) :
    Calls Try.prog 13 #[setV l v, dV d] w fun e w' => e = .returned (.bool (St.has l ds d)) ∧ Below w.heap.size w w' := by
  obtain ⟨W0, hW0⟩ : ∃ W0, W0 = (w.alloc (.cells (setC l v).toArray 26)).alloc (.cells #[.int .i64 d.1, .int .i64 d.2] 28) := ⟨_, rfl⟩
  have hB0 : Below w.heap.size w W0 := by rw [hW0]; exact below_new2 _ _ _
  have hA0 : SetAt W0 w.heap.size l v := by rw [hW0]; exact (SetAt.new w l v).alloc _
  have hD0 : DotAt W0 (w.heap.size + 1) d := by
    rw [hW0]
    have := DotAt.new (w.alloc (.cells (setC l v).toArray 26)) d
    simpa using this
  have HV := fun W => refHas_vec l hl d.1 d.2 W
  obtain ⟨ao, ca, rfl, _, hc⟩ := hd.on hB0
  have HC : Hid (∀ k (h : k < ds.length), ∃ ad, ao = some ad ∧ W0.cell? (ad.add (k * 2)) = some (.int .i64 (ds[k]).1) ∧ W0.cell? ⟨(ad.add (k * 2)).block, (ad.add (k * 2)).off + 1, none⟩ = some (.int .i64 (ds[k]).2)) := hc
  have HA : Hid (SetAt W0 w.heap.size l (.slice ao ds.length ca)) := hA0
  have HD : Hid (DotAt W0 (w.heap.size + 1) d) := hD0
  have HB : Hid (Below w.heap.size w W0) := hB0
  have HW : Hid (W0 = (w.alloc (.cells (setC l (.slice ao ds.length ca)).toArray 26)).alloc (.cells #[.int .i64 d.1, .int .i64 d.2] 28)) := hW0
  rw [hW0] at hA0 hD0
  have e : St.has l ds d = (Vc.has l d.1 d.2 || decide (d ∈ ds)) := Bool.or_comm _ _
  rw [e]
  clear hW0 hd hB0 e hc
  cases hq : Vc.has l d.1 d.2 with
  | true =>
    rw [hq] at HV
    rw [Bool.true_or]
    go_enter Try.func13, Try.ntmps13
    go_wp2_with (first | (refine load_setVec rfl _ rfl w.heap.size l _ hl rfl hA0 ?_) | (refine load_dot rfl _ rfl (w.heap.size + 1) d rfl hD0 ?_) | (go_at_call 52; refine (HV _).mono ?_; rintro e w1 ⟨rfl, hb1⟩))
    go_ret
    refine ⟨rfl, bchain HB.out ?_⟩
    rw [HW.out]
    exact hb1
  | false =>
    rw [hq] at HV
    rw [Bool.false_or]
    obtain ⟨n, hn0⟩ : ∃ n, n = ds.length := ⟨_, rfl⟩
    have HN : Hid (n = ds.length) := hn0
    rw [← hn0] at hn hA0 HA HW ⊢
    clear hn0
    go_enter Try.func13, Try.ntmps13
    go_wp2_with (first | (refine load_setVec rfl _ rfl w.heap.size l _ hl rfl hA0 ?_) | (refine load_dot rfl _ rfl (w.heap.size + 1) d rfl hD0 ?_) | (go_at_call 52; refine (HV _).mono ?_; rintro e w1 ⟨rfl, hb1⟩))
    rw [← HW.out] at hb1
    go_loopw [5] (fun i wr => ∃ k : Nat, k ≤ n ∧ i = .int .i64 k ∧ Hid (notTo ds d k) ∧ Below W0.heap.size W0 wr) (fun i _ => n - (intOf i).toNat)
    case atStart => exact ⟨0, by omega, rfl, notTo_zero _ _, hb1⟩
    case round =>
      clear hb1
      obtain ⟨k, hk, rfl, HT, hbw⟩ := hrel
      have m0 := (HA.out.on hbw).more hl
      have e0 := (HD.out.on hbw).1
      have e1 := (HD.out.on hbw).2
      by_cases hlt : k < n
      · have hkd : k < ds.length := by have := HN.out; omega
        obtain ⟨ad, rfl, c0, c1⟩ := HC.out k hkd
        have c0 := keep_cell hbw c0
        have c1 := keep_cell hbw c1
        have hE := eql_dot ds[k] d
        by_cases he : ds[k] = d
        · have HL : Hid (decide (d ∈ ds) = true) := by
            have h : decide (d ∈ ds) = true := decide_eq_true (by rw [← he]; exact List.getElem_mem hkd)
            exact h
          rw [decide_eq_true he] at hE
          clear he
          generalize ds[k] = x at *
          go_wp2
          go_region
          all_goals
            go_wp2
            go_ret
            exact ⟨ret_bool HL.out.symm, (bchain HB.out hbw).drew⟩
        · have HT' : Hid (notTo ds d (k + 1)) := by have h := notTo_step HT.out hkd he; exact h
          rw [decide_eq_false he] at hE
          clear he
          generalize ds[k] = x at *
          go_wp2
          go_region
          all_goals
            go_wp2
            go_roundw
            case rel => exact ⟨k + 1, by omega, by go_num, HT', hbw.drew⟩
            case measure => simp [intOf]; omega
      · obtain rfl : k = n := by omega
        have HL : Hid (decide (d ∈ ds) = false) := by
          have h := HT.out
          rw [HN.out] at h
          exact notTo_all h
        go_wp2
        go_ret
        exact ⟨ret_bool HL.out.symm, bchain HB.out hbw⟩
end Go.Proofs.Ytenfbjlmfdiniaa
