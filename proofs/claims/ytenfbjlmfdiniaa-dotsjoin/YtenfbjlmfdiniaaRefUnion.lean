/- The walk of the document's Union. -/
import Derived.Test.YtenfbjlmfdiniaaUnions
namespace Go.Proofs.Ytenfbjlmfdiniaa
open Go.RowKit Go.Shelf

/-- The document's union, of the first ones of the second set. -/
def runTo (s t : List Int × List D) (k : Nat) : List Int × List D := (t.2.take k).foldl (fun s d => putS s.1 s.2 d) (St.fill (Vc.join s.1 t.1) s.2)
theorem runTo_zero (s t : List Int × List D) : runTo s t 0 = St.fill (Vc.join s.1 t.1) s.2 := by simp [runTo]
theorem runTo_step (s t : List Int × List D) (k : Nat) (h : k < t.2.length) : runTo s t (k + 1) = putS (runTo s t k).1 (runTo s t k).2 t.2[k] := by
  unfold runTo
  rw [List.take_succ_eq_append_getElem h, List.foldl_append]
  rfl
theorem runTo_is {s t : List Int × List D} (hs : St.Std s.1 s.2) (ht : St.Std t.1 t.2) : ∀ k, k ≤ t.2.length → St.Is (runTo s t k) (fun d => (St.mem (Vc.join s.1 t.1) [] d ∨ d ∈ s.2) ∨ d ∈ t.2.take k) ∧ (runTo s t k).2.length ≤ s.2.length + k
  | 0, _ => by
    rw [runTo_zero]
    obtain ⟨a, b, c⟩ := St.fill_std (l := Vc.join s.1 t.1) (ds := s.2) (by rw [Vc.join_length]; exact hs.len) (join_right (hs.len.trans ht.len.symm) hs.vec ht.vec) (fun d hd => (hs.gap d hd).1) hs.row
    exact ⟨⟨a, fun d => by rw [b d]; simp⟩, by omega⟩
  | k + 1, hk => by
    obtain ⟨a, b⟩ := runTo_is hs ht k (by omega)
    rw [runTo_step s t k (by omega)]
    obtain ⟨c, e⟩ := putS_is (l := (runTo s t k).1) (ds := (runTo s t k).2) (d := t.2[k]) a
    refine ⟨⟨c.1, fun x => ?_⟩, by omega⟩
    have hr := (ht.gap t.2[k] (List.getElem_mem (by omega))).1
    rw [c.2 x, List.take_succ_eq_append_getElem (by omega)]
    simp only [List.mem_append, List.mem_cons, List.not_mem_nil, or_false, hr, and_true]
    exact or_assoc
/-- THE UNION IS THE DOCUMENT's. -/
theorem run_same {s t : List Int × List D} (hs : St.Std s.1 s.2) (ht : St.Std t.1 t.2) : runTo s t t.2.length = uni s t := by
  refine (runTo_is hs ht _ (Nat.le_refl _)).1.eq (settled_is (l := Vc.join s.1 t.1) (s.2 ++ t.2) (by rw [Vc.join_length]; exact hs.len) (join_right (hs.len.trans ht.len.symm) hs.vec ht.vec)).1 fun d => ?_
  rw [List.take_length, List.mem_append]
  constructor
  · rintro ((e | e) | e)
    · exact Or.inl e
    · exact Or.inr ⟨Or.inl e, (hs.gap d e).1⟩
    · exact Or.inr ⟨Or.inr e, (ht.gap d e).1⟩
  · rintro (e | ⟨e | e, _⟩)
    · exact Or.inl (Or.inl e)
    · exact Or.inl (Or.inr e)
    · exact Or.inr e
/-- What holds while the first statement is walked. -/
structure RU (w : World) (l : List Int) (v : Value) (m : List Int) (u : Value) (W : World) : Prop where
  fst : SetAt W w.heap.size l v
  snd : SetAt W (w.heap.size + 1) m u
  low : w.heap.size + 1 + 1 < W.heap.size
  below : Below w.heap.size w W
theorem RU.on {w : World} {l : List Int} {v : Value} {m : List Int} {u : Value} {W W' : World} (h : RU w l v m u W) (hb : Below W.heap.size W W') : RU w l v m u W' :=
  ⟨h.fst.on hb, h.snd.on hb, Nat.lt_of_lt_of_le h.low hb.size, bchain h.below hb⟩
theorem RU.put {w : World} {l : List Int} {v : Value} {m : List Int} {u : Value} {W : World} (h : RU w l v m u W) {ob : Nat} (hob : w.heap.size + 1 + 1 < ob) (sl : Value) (l0 : List Int) : RU w l v m u (W.setRow ob (setC l0 sl).toArray) :=
  ⟨(setRow_other W _ _ _ (by omega)).trans h.fst, (setRow_other W _ _ _ (by omega)).trans h.snd, by rw [setRow_size]; exact h.low, below_setRow h.below (by omega) _⟩
theorem exec_build2 {o : Oper} {a : Act} {x y : Operand} {l : List Int} {ao : Option Addr} {n c : Nat} (ho : o.op = .build 26 #[(0, x), (1, y)]) (hx : a.eval x = vecV l) (hy : a.eval y = .slice ao n c) (hl : l.length = 16) (W : World) :
    (execOp a.eval o).run Try.prog W = .ok (.value (setV l (.slice ao n c))) W := by
  unfold execOp
  simp only [ho, List.map_toArray, List.map_cons, List.map_nil, hx, hy, Sem.run_bind, build_set2 l hl, Result.andThen_ok, Sem.run_pure]
theorem exec_new {o : Oper} {a : Act} (ho : o.op = .alloc 26) (W : World) : (execOp a.eval o).run Try.prog W = .ok (.value (.pointer (some ⟨W.heap.size, 0, none⟩))) (W.alloc (.cells (setC noughts (.slice none 0 0)).toArray 26)) := by
  unfold execOp
  simp only [ho]
  kernel_rfl

set_option maxRecDepth 20000 in
set_option maxHeartbeats 2000000 in
theorem refUnion_any (s t : List Int × List D) (hs : St.Std s.1 s.2) (ht : St.Std t.1 t.2) (hn : s.2.length + t.2.length ≤ 1000) (v u : Value) (w : World) (hd : dotsIn w v s.2) (he : dotsIn w u t.2) :
    Calls Try.prog 23 #[setV s.1 v, setV t.1 u] w fun e w' => ∃ sl, e = .returned (setV (uni s t).1 sl) ∧ dotsIn w' sl (uni s t).2 ∧ Below w.heap.size w w' := by
  have hl := hs.len
  have hm := ht.len
  have hj : (Vc.join s.1 t.1).length = 16 := by rw [Vc.join_length]; exact hl
  have hjr := join_right (hl.trans hm.symm) hs.vec ht.vec
  have HJ := fun W => ref_join_vec s.1 t.1 hl hm W
  have HFI : ∀ W, dotsIn W v s.2 → Calls Try.prog 54 #[setV (Vc.join s.1 t.1) v] W fun e w' => ∃ sl, e = .returned (setV (runTo s t 0).1 sl) ∧ w'.ownsRow W.heap.size 28 2 sl (runTo s t 0).2.length (dcells (runTo s t 0).2) ∧ Below W.heap.size W w' := fun W h => by
    rw [runTo_zero]
    exact filled_any (Vc.join s.1 t.1) hj hjr v s.2 W h (by omega) (fun d hd => (hs.gap d hd).1) hs.row
  have HF : Hid (∀ k, k ≤ t.2.length → St.Std (runTo s t k).1 (runTo s t k).2 ∧ (runTo s t k).2.length ≤ 1000) := fun k hk => ⟨(runTo_is hs ht k hk).1.1, by have := (runTo_is hs ht k hk).2; omega⟩
  have hl0 := (HF.out 0 (by omega)).1.len
  have hsame := run_same hs ht
  have hlf := (uni_is hs ht).1.1.len
  obtain ⟨l0, m0, hz0⟩ : ∃ l0 m0, runTo s t 0 = (l0, m0) := ⟨_, _, rfl⟩
  have HZ : Hid (runTo s t 0 = (l0, m0)) := hz0
  rw [hz0] at HFI hl0
  simp only at HFI hl0
  generalize uni s t = SF at *
  obtain ⟨lf, mf⟩ := SF
  simp only at hlf ⊢
  have hZ := SetAt.zero ((w.alloc (.cells (setC s.1 v).toArray 26)).alloc (.cells (setC t.1 u).toArray 26))
  obtain ⟨W0, hW0⟩ : ∃ W0, W0 = ((w.alloc (.cells (setC s.1 v).toArray 26)).alloc (.cells (setC t.1 u).toArray 26)).alloc (.cells (setC noughts (.slice none 0 0)).toArray 26) := ⟨_, rfl⟩
  have hB0 : Below w.heap.size w W0 := by rw [hW0]; exact bchain (below_new2 _ _ _) (below_new _ _)
  have hR0 : SetAt W0 (w.heap.size + 1 + 1) noughts (.slice none 0 0) := by rw [hW0]; simpa using hZ
  have hUS : RU w s.1 v t.1 u W0.drew := ⟨by rw [hW0]; exact ((SetAt.new w s.1 v).alloc _).alloc _, by
    rw [hW0]
    have := (SetAt.new (w.alloc (.cells (setC s.1 v).toArray 26)) t.1 u).alloc (.cells (setC noughts (.slice none 0 0)).toArray 26)
    exact SetAt.drew (by simpa using this), by rw [hW0]; simp, hB0.drew⟩
  obtain ⟨ao, na, ca, rfl⟩ := hd.sl
  obtain ⟨bo, cb, rfl, _, _⟩ := id he
  have HCE : Hid (∀ k (hk : k < t.2.length), ∃ ad, bo = some ad ∧ ∀ W, Below w.heap.size w W → W.cell? (ad.add (k * 2)) = some (.int .i64 (t.2[k]).1) ∧ W.cell? ⟨(ad.add (k * 2)).block, (ad.add (k * 2)).off + 1, none⟩ = some (.int .i64 (t.2[k]).2)) := fun k hk => by
    obtain ⟨ao2, cap2, e2, _, hc⟩ := id he
    obtain ⟨ad, hao, _, _⟩ := hc k hk
    cases e2
    refine ⟨ad, hao, fun W hW => ?_⟩
    obtain ⟨ao3, cap3, e3, _, hc3⟩ := he.on hW
    obtain ⟨ad3, hao3, c3, c4⟩ := hc3 k hk
    cases e3
    rw [hao] at hao3
    cases hao3
    exact ⟨c3, c4⟩
  obtain ⟨n, hn0⟩ : ∃ n, n = t.2.length := ⟨_, rfl⟩
  have HN : Hid (n = t.2.length) := hn0
  have HE : Hid (runTo s t n = (lf, mf)) := by rw [← hn0] at hsame; exact hsame
  have hn9 : n ≤ 1000 := by omega
  rw [← hn0] at hUS hW0 ⊢
  clear hZ hz0 hsame hn0 he hn
  go_enter Try.func23, Try.ntmps23
  go_wp2_with fail
  change Code.wp Try.prog _ _ _ (((w.alloc (.cells (setC s.1 (.slice ao na ca)).toArray 26)).alloc (.cells (setC t.1 (.slice bo n cb)).toArray 26)).alloc (.cells (setC noughts (.slice none 0 0)).toArray 26))
  rw [← hW0]
  clear hW0
  refine wp_region_held_drew (S := RU w s.1 (.slice ao na ca) t.1 (.slice bo n cb)) (by kernel_rfl) (hUS) (fun hH0 => ?_)
  refine held_take (i := 0) (o := { dst := some 7, op := Op.fieldAddr 26 (Operand.tmp 2) 0, type := 0, pos := "ref.go:86", after := #[], guard := none }) (v := .pointer (some ⟨w.heap.size, 0, none⟩)) (by kernel_rfl) (by kernel_rfl) (by kernel_rfl) (by kernel_rfl) (fun _ _ _ h => h) (by kernel_rfl) (fun _ _ => by kernel_rfl) hH0 ?_
  refine held_take (i := 1) (o := { dst := some 8, op := Op.load 23 (Operand.tmp 7), type := 23, pos := "ref.go:86", after := #[{ on := 0, ground := Ground.data }], guard := none }) (v := vecV s.1) (by kernel_rfl) (by kernel_rfl) (by kernel_rfl) (by kernel_rfl) (fun _ _ _ h => h) (by kernel_rfl) (fun _ h => exec_setVec rfl hl (by kernel_rfl) h.fst) hH0 ?_
  refine held_take (i := 2) (o := { dst := some 9, op := Op.fieldAddr 26 (Operand.tmp 3) 0, type := 0, pos := "ref.go:86", after := #[], guard := none }) (v := .pointer (some ⟨w.heap.size + 1, 0, none⟩)) (by kernel_rfl) (by kernel_rfl) (by kernel_rfl) (by kernel_rfl) (fun _ _ _ h => h) (by kernel_rfl) (fun _ _ => by kernel_rfl) hH0 ?_
  refine held_take (i := 3) (o := { dst := some 10, op := Op.load 23 (Operand.tmp 9), type := 23, pos := "ref.go:86", after := #[{ on := 2, ground := Ground.data }], guard := none }) (v := vecV t.1) (by kernel_rfl) (by kernel_rfl) (by kernel_rfl) (by kernel_rfl) (fun _ _ _ h => h) (by kernel_rfl) (fun _ h => exec_setVec rfl hm (by kernel_rfl) h.snd) hH0 ?_
  refine held_take (i := 5) (o := { dst := some 12, op := Op.fieldAddr 26 (Operand.tmp 2) 1, type := 0, pos := "ref.go:86", after := #[], guard := none }) (v := .pointer (some ⟨w.heap.size, 16, none⟩)) (by kernel_rfl) (by kernel_rfl) (by kernel_rfl) (by kernel_rfl) (fun _ _ _ h => h) (by kernel_rfl) (fun _ _ => by kernel_rfl) hH0 ?_
  refine held_take (i := 6) (o := { dst := some 13, op := Op.load 24 (Operand.tmp 12), type := 24, pos := "ref.go:86", after := #[{ on := 5, ground := Ground.data }], guard := none }) (v := .slice ao na ca) (by kernel_rfl) (by kernel_rfl) (by kernel_rfl) (by kernel_rfl) (fun _ _ _ h => h) (by kernel_rfl) (fun _ h => exec_more rfl (by kernel_rfl) (h.fst.more hl)) hH0 ?_
  refine wpAnyH_ready (rs := [4, 9]) (by kernel_rfl) (by simp) (AllReadyH.cons (o := { dst := some 11, op := Op.call { callee := Callee.value (Operand.func 57), args := #[Operand.tmp 8, Operand.tmp 10], argTypes := #[23, 23] }, type := 23, pos := "ref.go:86", after := #[{ on := 1, ground := Ground.data }, { on := 3, ground := Ground.data }], guard := none }) (by kernel_rfl) (fun K hK => ?_) (AllReadyH.cons (o := { dst := some 5, op := Op.alloc 26, type := 0, pos := "ref.go:86", after := #[], guard := none }) (by kernel_rfl) (fun K hK => ?_) AllReadyH.nil))
  · rw [if_pos (by kernel_rfl), Oper.wp, show ∀ W, (execOp _ _).run Try.prog W = .ok (.enter 57 #[vecV s.1, vecV t.1]) W from fun W => by kernel_rfl]
    refine (HJ _).mono ?_
    rintro e w1 ⟨rfl, hb1⟩
    have hH1 := hH0.on hb1
    have hR1 : SetAt w1 (w.heap.size + 1 + 1) noughts (.slice none 0 0) := hR0.on (bchain (Below.refl _ _).drew hb1)
    refine hK.out _ _ hH1 (fun _ => ?_)
    refine held_take (i := 7) (o := { dst := some 14, op := Op.build 26 #[(0, Operand.tmp 11), (1, Operand.tmp 13)], type := 26, pos := "ref.go:86", after := #[{ on := 4, ground := Ground.data }, { on := 6, ground := Ground.data }], guard := none }) (v := setV (Vc.join s.1 t.1) (.slice ao na ca)) (by kernel_rfl) (by kernel_rfl) (by kernel_rfl) (by kernel_rfl) (fun _ _ _ h => h) (by kernel_rfl) (fun W _ => exec_build2 rfl (by kernel_rfl) (by kernel_rfl) hj W) hH1 ?_
    refine wpAnyH_ready (rs := [8, 9]) (by kernel_rfl) (by simp) (AllReadyH.cons (o := { dst := some 15, op := Op.call { callee := Callee.value (Operand.func 54), args := #[Operand.tmp 14], argTypes := #[26] }, type := 26, pos := "ref.go:86", after := #[{ on := 7, ground := Ground.data }, { on := 4, ground := Ground.chain }], guard := none }) (by kernel_rfl) (fun K hK => ?_) (AllReadyH.cons (o := { dst := some 5, op := Op.alloc 26, type := 0, pos := "ref.go:86", after := #[], guard := none }) (by kernel_rfl) (fun K hK => ?_) AllReadyH.nil))
    · rw [if_pos (by kernel_rfl), Oper.wp, show ∀ W, (execOp _ _).run Try.prog W = .ok (.enter 54 #[setV (Vc.join s.1 t.1) (.slice ao na ca)]) W from fun W => by kernel_rfl]
      refine (HFI w1 (hd.on hH1.below)).mono ?_
      rintro e w2 ⟨sl, rfl, ho2, hb2⟩
      have hH2 := hH1.on hb2
      refine hK.out _ _ hH2 (fun _ => ?_)
      refine wpAnyH_ready (rs := [9]) (by kernel_rfl) (by simp) (AllReadyH.cons (o := { dst := some 5, op := Op.alloc 26, type := 0, pos := "ref.go:86", after := #[], guard := none }) (by kernel_rfl) (fun K hK => ?_) AllReadyH.nil)
      rw [if_pos (by kernel_rfl), Oper.wp, exec_new rfl w2]
      have hH3 := hH2.on (below_new w2 (.cells (setC noughts (.slice none 0 0)).toArray 26))
      have hX3 := SetAt.zero w2
      have hR3 := (hR1.on hb2).alloc (.cells (setC noughts (.slice none 0 0)).toArray 26)
      have ho3 := own_on ho2 (below_new w2 (.cells (setC noughts (.slice none 0 0)).toArray 26))
      have hoff9 : ∀ b, sl.ownBlock = some b → b ≠ w2.heap.size ∧ b ≠ w.heap.size + 1 + 1 := fun b hb => by
        have h1 := ho2.lt b hb
        have h2 := hH1.low
        omega
      have hob : w.heap.size + 1 + 1 < w2.heap.size := hH2.low
      have hsl := own_sl ho2
      refine hK.out _ _ hH3 (fun _ => ?_)
      obtain ⟨W9, hW9⟩ : ∃ W9, W9 = w2.alloc (.cells (setC noughts (.slice none 0 0)).toArray 26) := ⟨_, rfl⟩
      rw [← hW9] at hH3 hX3 hR3 ho3 ⊢
      clear hW9
      generalize w2.heap.size = ob at *
      have hdd := dotsIn_own ho3
      have hX9 : SetAt (W9.setRow ob (setC l0 sl).toArray) ob l0 sl := hX3.row l0 sl
      have hd9 : dotsIn (W9.setRow ob (setC l0 sl).toArray) sl m0 := hdd.row (fun e => (hoff9 _ e).1 rfl) _
      have hR9 : SetAt (W9.setRow ob (setC l0 sl).toArray) (w.heap.size + 1 + 1) noughts (.slice none 0 0) := (setRow_other W9 _ _ _ (by omega)).trans hR3
      have hT9 : SetAt (W9.setRow ob (setC l0 sl).toArray) (w.heap.size + 1) t.1 (.slice bo n cb) := (setRow_other W9 _ _ _ (by omega)).trans hH3.snd
      have hlt9 : ob < (W9.setRow ob (setC l0 sl).toArray).heap.size := by rw [setRow_size]; exact hX3.lt
      have hbw9 : Below w.heap.size w (W9.setRow ob (setC l0 sl).toArray) := below_setRow hH3.below (by omega) _
      refine held_store (i := 10) (o := { dst := none, op := Op.store 26 (Operand.tmp 5) (Operand.tmp 15), type := 0, pos := "ref.go:86", after := #[{ on := 9, ground := Ground.data }, { on := 8, ground := Ground.data }, { on := 8, ground := Ground.chain }, { on := 0, ground := Ground.phase }, { on := 1, ground := Ground.phase }, { on := 2, ground := Ground.phase }, { on := 3, ground := Ground.phase }, { on := 4, ground := Ground.phase }, { on := 5, ground := Ground.phase }, { on := 6, ground := Ground.phase }, { on := 7, ground := Ground.phase }, { on := 8, ground := Ground.phase }, { on := 9, ground := Ground.phase }], guard := none }) (by kernel_rfl) (by kernel_rfl) (by kernel_rfl) _ _ rfl ob l0 noughts sl (.slice none 0 0) hl0 noughts_length hsl (by kernel_rfl) (by kernel_rfl) hX3 (hH3.put hob sl l0) ?_
      refine wpAnyH_done (by kernel_rfl) ?_ _
      simp only [Act.put, List.setIfInBounds_toArray, List.set_cons_zero, List.set_cons_succ]
      generalize W9.setRow ob (setC l0 sl).toArray = W10 at *
      go_wp2
      go_loopw [6] (fun i wr => ∃ k : Nat, k ≤ n ∧ i = .int .i64 k ∧ ∃ sl, Hid (SetAt wr ob (runTo s t k).1 sl) ∧ Hid (dotsIn wr sl (runTo s t k).2 ∧ ∀ b, sl.ownBlock = some b → b ≠ ob ∧ b ≠ w.heap.size + 1 + 1) ∧ Hid (SetAt wr (w.heap.size + 1 + 1) noughts (.slice none 0 0)) ∧ Hid (SetAt wr (w.heap.size + 1) t.1 (.slice bo n cb)) ∧ ob < wr.heap.size ∧ Below w.heap.size w wr) (fun i _ => n - (intOf i).toNat)
      case atStart => exact ⟨0, by omega, rfl, sl, by rw [HZ.out]; exact hX9, by rw [HZ.out]; exact ⟨hd9, hoff9⟩, hR9, hT9, hlt9, hbw9⟩
      case round =>
        clear hX9 hd9 hoff9 hR9 hT9 hlt9 hbw9 hsl
        obtain ⟨k, hk, rfl, sl, HA, HS, HRr, HT, hsr, hbw⟩ := hrel
        have hTr := HT.out
        have m0 := hTr.more hm
        by_cases hlt : k < n
        · have hkx : k < t.2.length := by have := HN.out; omega
          obtain ⟨hSk, hlk⟩ := HF.out k (by omega)
          have hlk' : (runTo s t (k + 1)).1.length = 16 := (HF.out (k + 1) (by omega)).1.len
          have hst := runTo_step s t k hkx
          have hA := HA.out
          obtain ⟨hDk, hoff⟩ := HS.out
          obtain ⟨ad, hao, hcell⟩ := HCE.out k hkx
          subst hao
          have HP := fun (W : World) (hW : Below wr.heap.size wr W) => refPut_any (runTo s t k).1 sl (runTo s t k).2 (t.2[k]) W hSk (hDk.on hW) (by omega)
          rw [← hst] at HP
          have hl16 : (runTo s t k).1.length = 16 := hSk.len
          have hi0 : (0 : Int) ≤ (k : Int) := by omega
          have hi1 : (k : Int) < (n : Int) := by omega
          clear hst HA HS hSk hlk
          generalize hS1 : runTo s t (k + 1) = S1 at *
          generalize runTo s t k = S0 at *
          obtain ⟨lk, mk⟩ := S0
          obtain ⟨l1, m1⟩ := S1
          have HS1 : Hid ((l1, m1) = runTo s t (k + 1)) := by have h := hS1.symm; exact h
          clear hS1
          simp only at *
          generalize t.2[k] = x at *
          go_wp2
          refine wp_region_held_drew (S := fun W => SetAt W (w.heap.size + 1) t.1 (.slice (some ad) n cb) ∧ Below w.heap.size w W) (by kernel_rfl) (⟨hTr, hbw.drew⟩) (fun hH0 => ?_)
          refine held_take (i := 1) (o := { dst := some 24, op := Op.fieldAddr 26 (Operand.tmp 3) 1, type := 0, pos := "ref.go:88", after := #[], guard := none }) (v := .pointer (some ⟨w.heap.size + 1, 16, none⟩)) (by kernel_rfl) (by kernel_rfl) (by kernel_rfl) (by kernel_rfl) (fun _ _ _ h => h) (by kernel_rfl) (fun _ _ => by kernel_rfl) hH0 ?_
          refine held_take (i := 2) (o := { dst := some 25, op := Op.load 24 (Operand.tmp 24), type := 24, pos := "ref.go:88", after := #[{ on := 1, ground := Ground.data }], guard := none }) (v := .slice (some ad) n cb) (by kernel_rfl) (by kernel_rfl) (by kernel_rfl) (by kernel_rfl) (fun _ _ _ h => h) (by kernel_rfl) (fun _ h => exec_more rfl (by kernel_rfl) (h.1.more hm)) hH0 ?_
          refine held_take (i := 3) (o := { dst := some 26, op := Op.move (Operand.tmp 6), type := 3, pos := "ref.go:88", after := #[], guard := none }) (v := .int .i64 (k : Int)) (by kernel_rfl) (by kernel_rfl) (by kernel_rfl) (by kernel_rfl) (fun _ _ _ h => h) (by kernel_rfl) (fun _ _ => by kernel_rfl) hH0 ?_
          refine held_take (i := 4) (o := { dst := some 27, op := Op.indexAddr 24 (Operand.tmp 25) (Operand.tmp 26), type := 0, pos := "ref.go:88", after := #[{ on := 2, ground := Ground.data }, { on := 3, ground := Ground.data }], guard := none }) (v := .pointer (some (ad.add (k * 2)))) (by kernel_rfl) (by kernel_rfl) (by kernel_rfl) (by kernel_rfl) (fun _ _ _ h => h) (by kernel_rfl) (fun W _ => exec_idx (n := n) (c := cb) rfl (by kernel_rfl) (by kernel_rfl) hlt W) hH0 ?_
          refine held_take (i := 5) (o := { dst := some 28, op := Op.load 28 (Operand.tmp 27), type := 28, pos := "ref.go:88", after := #[{ on := 4, ground := Ground.data }], guard := none }) (v := dV x) (by kernel_rfl) (by kernel_rfl) (by kernel_rfl) (by kernel_rfl) (fun _ _ _ h => h) (by kernel_rfl) (fun W h => exec_row rfl (by kernel_rfl) (hcell W h.2).1 (hcell W h.2).2) hH0 ?_
          refine held_do (i := 0) (o := { dst := some 23, op := Op.load 26 (Operand.tmp 5), type := 26, pos := "ref.go:88", after := #[], guard := none }) (v := setV lk sl) (by kernel_rfl) (by kernel_rfl) (by kernel_rfl) (exec_set rfl hl16 (by kernel_rfl) hA) hH0 ?_
          refine held_callX (i := 6) (o := { dst := some 29, op := Op.call { callee := Callee.value (Operand.func 16), args := #[Operand.tmp 23, Operand.tmp 28], argTypes := #[26, 28] }, type := 26, pos := "ref.go:88", after := #[{ on := 0, ground := Ground.data }, { on := 5, ground := Ground.data }], guard := none }) (F := 16) (vs := #[setV lk sl, dV x]) (by kernel_rfl) (by kernel_rfl) (by kernel_rfl) (fun _ => by kernel_rfl) (HP _ (Below.refl _ _).drew) ?_
          rintro e w5 ⟨sl5, rfl, hd5, hoff5, hb5⟩
          have hb5' : Below wr.heap.size wr w5 := bchain (Below.refl _ _).drew hb5
          have hA5 := hA.on hb5'
          have hR5 := HRr.out.on hb5'
          have hT5 := hTr.on hb5'
          have hbw5 := bchain hbw hb5'
          have hbx := below_setRow hbw5 (b := ob) (by omega) (setC l1 sl5).toArray
          have hT6 : SetAt (w5.setRow ob (setC l1 sl5).toArray) (w.heap.size + 1) t.1 (.slice (some ad) n cb) := (setRow_other w5 _ _ _ (by omega)).trans hT5
          refine ⟨_, rfl, ⟨hT5, hbw5⟩, ?_⟩
          refine held_store (i := 7) (o := { dst := none, op := Op.store 26 (Operand.tmp 5) (Operand.tmp 29), type := 0, pos := "ref.go:88", after := #[{ on := 6, ground := Ground.data }, { on := 6, ground := Ground.chain }, { on := 0, ground := Ground.phase }, { on := 1, ground := Ground.phase }, { on := 2, ground := Ground.phase }, { on := 3, ground := Ground.phase }, { on := 4, ground := Ground.phase }, { on := 5, ground := Ground.phase }, { on := 6, ground := Ground.phase }], guard := none }) (by kernel_rfl) (by kernel_rfl) (by kernel_rfl) _ _ rfl ob l1 lk sl5 sl hlk' hl16 hd5.sl (by kernel_rfl) (by kernel_rfl) hA5 ⟨hT6, hbx⟩ ?_
          refine wpAnyH_done (by kernel_rfl) ?_ _
          simp only [Act.put, List.setIfInBounds_toArray, List.set_cons_zero, List.set_cons_succ]
          have hX5 : SetAt (w5.setRow ob (setC l1 sl5).toArray) ob l1 sl5 := hA5.row l1 sl5
          have hY5 : SetAt (w5.setRow ob (setC l1 sl5).toArray) (w.heap.size + 1 + 1) noughts (.slice none 0 0) := (setRow_other w5 _ _ _ (by omega)).trans hR5
          have hoff6 : ∀ b, sl5.ownBlock = some b → b ≠ ob ∧ b ≠ w.heap.size + 1 + 1 := fun b hb => by
            rcases hoff5 b hb with e | e
            · exact hoff b e
            · have : wr.heap.size ≤ b := e
              omega
          have hZ5 : dotsIn (w5.setRow ob (setC l1 sl5).toArray) sl5 m1 := hd5.row (fun e => (hoff6 _ e).1 rfl) _
          have hs5 : ob < (w5.setRow ob (setC l1 sl5).toArray).heap.size := by rw [setRow_size]; exact Nat.lt_of_lt_of_le hsr hb5'.size
          generalize w5.setRow ob (setC l1 sl5).toArray = W6 at *
          go_wp2
          go_roundw
          case rel => exact ⟨k + 1, by omega, by go_num, sl5, by rw [← HS1.out]; exact hX5, by rw [← HS1.out]; exact ⟨hZ5, hoff6⟩, hY5, hT6, hs5, hbx⟩
          case measure => simp [intOf]; omega
        · obtain rfl : k = n := by omega
          rw [HE.out] at HA HS
          have hA := HA.out
          have hs9 := HS.out.1.sl
          have hR := HRr.out
          go_wp2_with (first | (refine load_set rfl _ rfl ob lf sl hlf rfl hA ?_) | (refine store_set rfl _ _ rfl (w.heap.size + 1 + 1) lf noughts sl (.slice none 0 0) hlf noughts_length hs9 rfl rfl hR ?_))
          refine bodyPost_ret (ret_set rfl _ hlf rfl (hR.row lf sl)) rfl ⟨sl, rfl, ?_, below_setRow hbw (by omega) _⟩
          exact HS.out.1.row (fun e => (HS.out.2 _ e).2 rfl) _

    · rw [if_pos (by kernel_rfl), Oper.wp, exec_new rfl w1]
      have hH2 := hH1.on (below_new w1 (.cells (setC noughts (.slice none 0 0)).toArray 26))
      have hX2 := SetAt.zero w1
      have hR2 := hR1.alloc (.cells (setC noughts (.slice none 0 0)).toArray 26)
      have hob : w.heap.size + 1 + 1 < w1.heap.size := hH1.low
      have hsz2 : (w1.alloc (.cells (setC noughts (.slice none 0 0)).toArray 26)).heap.size = w1.heap.size + 1 := by simp
      refine hK.out _ _ hH2 (fun _ => ?_)
      refine held_callX (i := 8) (o := { dst := some 15, op := Op.call { callee := Callee.value (Operand.func 54), args := #[Operand.tmp 14], argTypes := #[26] }, type := 26, pos := "ref.go:86", after := #[{ on := 7, ground := Ground.data }, { on := 4, ground := Ground.chain }], guard := none }) (F := 54) (vs := #[setV (Vc.join s.1 t.1) (.slice ao na ca)]) (by kernel_rfl) (by kernel_rfl) (by kernel_rfl) (fun _ => by kernel_rfl) (HFI _ (hd.on hH2.below)) ?_
      rintro e W9 ⟨sl, rfl, ho3, hb3⟩
      have hH3 := hH2.on hb3
      refine ⟨_, rfl, hH3, ?_⟩
      have hX3 := hX2.on hb3
      have hR3 := hR2.on hb3
      have hsl := own_sl ho3
      rw [hsz2] at ho3
      have hoff9 : ∀ b, sl.ownBlock = some b → b ≠ w1.heap.size ∧ b ≠ w.heap.size + 1 + 1 := fun b hb => by
        have h1 := ho3.lt b hb
        omega
      clear hsz2 hX2 hR2 hb3 hH2
      generalize w1.heap.size = ob at *
      have hdd := dotsIn_own ho3
      have hX9 : SetAt (W9.setRow ob (setC l0 sl).toArray) ob l0 sl := hX3.row l0 sl
      have hd9 : dotsIn (W9.setRow ob (setC l0 sl).toArray) sl m0 := hdd.row (fun e => (hoff9 _ e).1 rfl) _
      have hR9 : SetAt (W9.setRow ob (setC l0 sl).toArray) (w.heap.size + 1 + 1) noughts (.slice none 0 0) := (setRow_other W9 _ _ _ (by omega)).trans hR3
      have hT9 : SetAt (W9.setRow ob (setC l0 sl).toArray) (w.heap.size + 1) t.1 (.slice bo n cb) := (setRow_other W9 _ _ _ (by omega)).trans hH3.snd
      have hlt9 : ob < (W9.setRow ob (setC l0 sl).toArray).heap.size := by rw [setRow_size]; exact hX3.lt
      have hbw9 : Below w.heap.size w (W9.setRow ob (setC l0 sl).toArray) := below_setRow hH3.below (by omega) _
      refine held_store (i := 10) (o := { dst := none, op := Op.store 26 (Operand.tmp 5) (Operand.tmp 15), type := 0, pos := "ref.go:86", after := #[{ on := 9, ground := Ground.data }, { on := 8, ground := Ground.data }, { on := 8, ground := Ground.chain }, { on := 0, ground := Ground.phase }, { on := 1, ground := Ground.phase }, { on := 2, ground := Ground.phase }, { on := 3, ground := Ground.phase }, { on := 4, ground := Ground.phase }, { on := 5, ground := Ground.phase }, { on := 6, ground := Ground.phase }, { on := 7, ground := Ground.phase }, { on := 8, ground := Ground.phase }, { on := 9, ground := Ground.phase }], guard := none }) (by kernel_rfl) (by kernel_rfl) (by kernel_rfl) _ _ rfl ob l0 noughts sl (.slice none 0 0) hl0 noughts_length hsl (by kernel_rfl) (by kernel_rfl) hX3 (hH3.put hob sl l0) ?_
      refine wpAnyH_done (by kernel_rfl) ?_ _
      simp only [Act.put, List.setIfInBounds_toArray, List.set_cons_zero, List.set_cons_succ]
      generalize W9.setRow ob (setC l0 sl).toArray = W10 at *
      go_wp2
      go_loopw [6] (fun i wr => ∃ k : Nat, k ≤ n ∧ i = .int .i64 k ∧ ∃ sl, Hid (SetAt wr ob (runTo s t k).1 sl) ∧ Hid (dotsIn wr sl (runTo s t k).2 ∧ ∀ b, sl.ownBlock = some b → b ≠ ob ∧ b ≠ w.heap.size + 1 + 1) ∧ Hid (SetAt wr (w.heap.size + 1 + 1) noughts (.slice none 0 0)) ∧ Hid (SetAt wr (w.heap.size + 1) t.1 (.slice bo n cb)) ∧ ob < wr.heap.size ∧ Below w.heap.size w wr) (fun i _ => n - (intOf i).toNat)
      case atStart => exact ⟨0, by omega, rfl, sl, by rw [HZ.out]; exact hX9, by rw [HZ.out]; exact ⟨hd9, hoff9⟩, hR9, hT9, hlt9, hbw9⟩
      case round =>
        clear hX9 hd9 hoff9 hR9 hT9 hlt9 hbw9 hsl
        obtain ⟨k, hk, rfl, sl, HA, HS, HRr, HT, hsr, hbw⟩ := hrel
        have hTr := HT.out
        have m0 := hTr.more hm
        by_cases hlt : k < n
        · have hkx : k < t.2.length := by have := HN.out; omega
          obtain ⟨hSk, hlk⟩ := HF.out k (by omega)
          have hlk' : (runTo s t (k + 1)).1.length = 16 := (HF.out (k + 1) (by omega)).1.len
          have hst := runTo_step s t k hkx
          have hA := HA.out
          obtain ⟨hDk, hoff⟩ := HS.out
          obtain ⟨ad, hao, hcell⟩ := HCE.out k hkx
          subst hao
          have HP := fun (W : World) (hW : Below wr.heap.size wr W) => refPut_any (runTo s t k).1 sl (runTo s t k).2 (t.2[k]) W hSk (hDk.on hW) (by omega)
          rw [← hst] at HP
          have hl16 : (runTo s t k).1.length = 16 := hSk.len
          have hi0 : (0 : Int) ≤ (k : Int) := by omega
          have hi1 : (k : Int) < (n : Int) := by omega
          clear hst HA HS hSk hlk
          generalize hS1 : runTo s t (k + 1) = S1 at *
          generalize runTo s t k = S0 at *
          obtain ⟨lk, mk⟩ := S0
          obtain ⟨l1, m1⟩ := S1
          have HS1 : Hid ((l1, m1) = runTo s t (k + 1)) := by have h := hS1.symm; exact h
          clear hS1
          simp only at *
          generalize t.2[k] = x at *
          go_wp2
          refine wp_region_held_drew (S := fun W => SetAt W (w.heap.size + 1) t.1 (.slice (some ad) n cb) ∧ Below w.heap.size w W) (by kernel_rfl) (⟨hTr, hbw.drew⟩) (fun hH0 => ?_)
          refine held_take (i := 1) (o := { dst := some 24, op := Op.fieldAddr 26 (Operand.tmp 3) 1, type := 0, pos := "ref.go:88", after := #[], guard := none }) (v := .pointer (some ⟨w.heap.size + 1, 16, none⟩)) (by kernel_rfl) (by kernel_rfl) (by kernel_rfl) (by kernel_rfl) (fun _ _ _ h => h) (by kernel_rfl) (fun _ _ => by kernel_rfl) hH0 ?_
          refine held_take (i := 2) (o := { dst := some 25, op := Op.load 24 (Operand.tmp 24), type := 24, pos := "ref.go:88", after := #[{ on := 1, ground := Ground.data }], guard := none }) (v := .slice (some ad) n cb) (by kernel_rfl) (by kernel_rfl) (by kernel_rfl) (by kernel_rfl) (fun _ _ _ h => h) (by kernel_rfl) (fun _ h => exec_more rfl (by kernel_rfl) (h.1.more hm)) hH0 ?_
          refine held_take (i := 3) (o := { dst := some 26, op := Op.move (Operand.tmp 6), type := 3, pos := "ref.go:88", after := #[], guard := none }) (v := .int .i64 (k : Int)) (by kernel_rfl) (by kernel_rfl) (by kernel_rfl) (by kernel_rfl) (fun _ _ _ h => h) (by kernel_rfl) (fun _ _ => by kernel_rfl) hH0 ?_
          refine held_take (i := 4) (o := { dst := some 27, op := Op.indexAddr 24 (Operand.tmp 25) (Operand.tmp 26), type := 0, pos := "ref.go:88", after := #[{ on := 2, ground := Ground.data }, { on := 3, ground := Ground.data }], guard := none }) (v := .pointer (some (ad.add (k * 2)))) (by kernel_rfl) (by kernel_rfl) (by kernel_rfl) (by kernel_rfl) (fun _ _ _ h => h) (by kernel_rfl) (fun W _ => exec_idx (n := n) (c := cb) rfl (by kernel_rfl) (by kernel_rfl) hlt W) hH0 ?_
          refine held_take (i := 5) (o := { dst := some 28, op := Op.load 28 (Operand.tmp 27), type := 28, pos := "ref.go:88", after := #[{ on := 4, ground := Ground.data }], guard := none }) (v := dV x) (by kernel_rfl) (by kernel_rfl) (by kernel_rfl) (by kernel_rfl) (fun _ _ _ h => h) (by kernel_rfl) (fun W h => exec_row rfl (by kernel_rfl) (hcell W h.2).1 (hcell W h.2).2) hH0 ?_
          refine held_do (i := 0) (o := { dst := some 23, op := Op.load 26 (Operand.tmp 5), type := 26, pos := "ref.go:88", after := #[], guard := none }) (v := setV lk sl) (by kernel_rfl) (by kernel_rfl) (by kernel_rfl) (exec_set rfl hl16 (by kernel_rfl) hA) hH0 ?_
          refine held_callX (i := 6) (o := { dst := some 29, op := Op.call { callee := Callee.value (Operand.func 16), args := #[Operand.tmp 23, Operand.tmp 28], argTypes := #[26, 28] }, type := 26, pos := "ref.go:88", after := #[{ on := 0, ground := Ground.data }, { on := 5, ground := Ground.data }], guard := none }) (F := 16) (vs := #[setV lk sl, dV x]) (by kernel_rfl) (by kernel_rfl) (by kernel_rfl) (fun _ => by kernel_rfl) (HP _ (Below.refl _ _).drew) ?_
          rintro e w5 ⟨sl5, rfl, hd5, hoff5, hb5⟩
          have hb5' : Below wr.heap.size wr w5 := bchain (Below.refl _ _).drew hb5
          have hA5 := hA.on hb5'
          have hR5 := HRr.out.on hb5'
          have hT5 := hTr.on hb5'
          have hbw5 := bchain hbw hb5'
          have hbx := below_setRow hbw5 (b := ob) (by omega) (setC l1 sl5).toArray
          have hT6 : SetAt (w5.setRow ob (setC l1 sl5).toArray) (w.heap.size + 1) t.1 (.slice (some ad) n cb) := (setRow_other w5 _ _ _ (by omega)).trans hT5
          refine ⟨_, rfl, ⟨hT5, hbw5⟩, ?_⟩
          refine held_store (i := 7) (o := { dst := none, op := Op.store 26 (Operand.tmp 5) (Operand.tmp 29), type := 0, pos := "ref.go:88", after := #[{ on := 6, ground := Ground.data }, { on := 6, ground := Ground.chain }, { on := 0, ground := Ground.phase }, { on := 1, ground := Ground.phase }, { on := 2, ground := Ground.phase }, { on := 3, ground := Ground.phase }, { on := 4, ground := Ground.phase }, { on := 5, ground := Ground.phase }, { on := 6, ground := Ground.phase }], guard := none }) (by kernel_rfl) (by kernel_rfl) (by kernel_rfl) _ _ rfl ob l1 lk sl5 sl hlk' hl16 hd5.sl (by kernel_rfl) (by kernel_rfl) hA5 ⟨hT6, hbx⟩ ?_
          refine wpAnyH_done (by kernel_rfl) ?_ _
          simp only [Act.put, List.setIfInBounds_toArray, List.set_cons_zero, List.set_cons_succ]
          have hX5 : SetAt (w5.setRow ob (setC l1 sl5).toArray) ob l1 sl5 := hA5.row l1 sl5
          have hY5 : SetAt (w5.setRow ob (setC l1 sl5).toArray) (w.heap.size + 1 + 1) noughts (.slice none 0 0) := (setRow_other w5 _ _ _ (by omega)).trans hR5
          have hoff6 : ∀ b, sl5.ownBlock = some b → b ≠ ob ∧ b ≠ w.heap.size + 1 + 1 := fun b hb => by
            rcases hoff5 b hb with e | e
            · exact hoff b e
            · have : wr.heap.size ≤ b := e
              omega
          have hZ5 : dotsIn (w5.setRow ob (setC l1 sl5).toArray) sl5 m1 := hd5.row (fun e => (hoff6 _ e).1 rfl) _
          have hs5 : ob < (w5.setRow ob (setC l1 sl5).toArray).heap.size := by rw [setRow_size]; exact Nat.lt_of_lt_of_le hsr hb5'.size
          generalize w5.setRow ob (setC l1 sl5).toArray = W6 at *
          go_wp2
          go_roundw
          case rel => exact ⟨k + 1, by omega, by go_num, sl5, by rw [← HS1.out]; exact hX5, by rw [← HS1.out]; exact ⟨hZ5, hoff6⟩, hY5, hT6, hs5, hbx⟩
          case measure => simp [intOf]; omega
        · obtain rfl : k = n := by omega
          rw [HE.out] at HA HS
          have hA := HA.out
          have hs9 := HS.out.1.sl
          have hR := HRr.out
          go_wp2_with (first | (refine load_set rfl _ rfl ob lf sl hlf rfl hA ?_) | (refine store_set rfl _ _ rfl (w.heap.size + 1 + 1) lf noughts sl (.slice none 0 0) hlf noughts_length hs9 rfl rfl hR ?_))
          refine bodyPost_ret (ret_set rfl _ hlf rfl (hR.row lf sl)) rfl ⟨sl, rfl, ?_, below_setRow hbw (by omega) _⟩
          exact HS.out.1.row (fun e => (HS.out.2 _ e).2 rfl) _

  · rw [if_pos (by kernel_rfl), Oper.wp, exec_new rfl W0.drew]
    have hH1 := hH0.on (below_new W0.drew (.cells (setC noughts (.slice none 0 0)).toArray 26))
    have hX1 := SetAt.zero W0.drew
    have hR1 : SetAt (W0.drew.alloc (.cells (setC noughts (.slice none 0 0)).toArray 26)) (w.heap.size + 1 + 1) noughts (.slice none 0 0) := hR0.drew.alloc (.cells (setC noughts (.slice none 0 0)).toArray 26)
    have hob : w.heap.size + 1 + 1 < W0.drew.heap.size := hH0.low
    have hsz1 : (W0.drew.alloc (.cells (setC noughts (.slice none 0 0)).toArray 26)).heap.size = W0.drew.heap.size + 1 := by simp
    refine hK.out _ _ hH1 (fun _ => ?_)
    refine wpAnyH_ready (rs := [4]) (by kernel_rfl) (by simp) (AllReadyH.cons (o := { dst := some 11, op := Op.call { callee := Callee.value (Operand.func 57), args := #[Operand.tmp 8, Operand.tmp 10], argTypes := #[23, 23] }, type := 23, pos := "ref.go:86", after := #[{ on := 1, ground := Ground.data }, { on := 3, ground := Ground.data }], guard := none }) (by kernel_rfl) (fun K hK => ?_) AllReadyH.nil)
    rw [if_pos (by kernel_rfl), Oper.wp, show ∀ W, (execOp _ _).run Try.prog W = .ok (.enter 57 #[vecV s.1, vecV t.1]) W from fun W => by kernel_rfl]
    refine (HJ _).mono ?_
    rintro e w1 ⟨rfl, hb1⟩
    have hH2 := hH1.on hb1
    refine hK.out _ _ hH2 (fun _ => ?_)
    refine held_take (i := 7) (o := { dst := some 14, op := Op.build 26 #[(0, Operand.tmp 11), (1, Operand.tmp 13)], type := 26, pos := "ref.go:86", after := #[{ on := 4, ground := Ground.data }, { on := 6, ground := Ground.data }], guard := none }) (v := setV (Vc.join s.1 t.1) (.slice ao na ca)) (by kernel_rfl) (by kernel_rfl) (by kernel_rfl) (by kernel_rfl) (fun _ _ _ h => h) (by kernel_rfl) (fun W _ => exec_build2 rfl (by kernel_rfl) (by kernel_rfl) hj W) hH2 ?_
    refine held_callX (i := 8) (o := { dst := some 15, op := Op.call { callee := Callee.value (Operand.func 54), args := #[Operand.tmp 14], argTypes := #[26] }, type := 26, pos := "ref.go:86", after := #[{ on := 7, ground := Ground.data }, { on := 4, ground := Ground.chain }], guard := none }) (F := 54) (vs := #[setV (Vc.join s.1 t.1) (.slice ao na ca)]) (by kernel_rfl) (by kernel_rfl) (by kernel_rfl) (fun _ => by kernel_rfl) (HFI _ (hd.on hH2.below)) ?_
    rintro e W9 ⟨sl, rfl, ho3, hb3⟩
    have hH3 := hH2.on hb3
    refine ⟨_, rfl, hH3, ?_⟩
    have hX3 := (hX1.on hb1).on hb3
    have hR3 := (hR1.on hb1).on hb3
    have hsl := own_sl ho3
    have hsz2 : W0.drew.heap.size + 1 ≤ w1.heap.size := by rw [← hsz1]; exact hb1.size
    have hoff9 : ∀ b, sl.ownBlock = some b → b ≠ W0.drew.heap.size ∧ b ≠ w.heap.size + 1 + 1 := fun b hb => by
      have h1 := ho3.lt b hb
      omega
    clear hsz1 hsz2 hX1 hR1 hb3 hH2 hH1 hb1
    generalize W0.drew.heap.size = ob at *
    have hdd := dotsIn_own ho3
    have hX9 : SetAt (W9.setRow ob (setC l0 sl).toArray) ob l0 sl := hX3.row l0 sl
    have hd9 : dotsIn (W9.setRow ob (setC l0 sl).toArray) sl m0 := hdd.row (fun e => (hoff9 _ e).1 rfl) _
    have hR9 : SetAt (W9.setRow ob (setC l0 sl).toArray) (w.heap.size + 1 + 1) noughts (.slice none 0 0) := (setRow_other W9 _ _ _ (by omega)).trans hR3
    have hT9 : SetAt (W9.setRow ob (setC l0 sl).toArray) (w.heap.size + 1) t.1 (.slice bo n cb) := (setRow_other W9 _ _ _ (by omega)).trans hH3.snd
    have hlt9 : ob < (W9.setRow ob (setC l0 sl).toArray).heap.size := by rw [setRow_size]; exact hX3.lt
    have hbw9 : Below w.heap.size w (W9.setRow ob (setC l0 sl).toArray) := below_setRow hH3.below (by omega) _
    refine held_store (i := 10) (o := { dst := none, op := Op.store 26 (Operand.tmp 5) (Operand.tmp 15), type := 0, pos := "ref.go:86", after := #[{ on := 9, ground := Ground.data }, { on := 8, ground := Ground.data }, { on := 8, ground := Ground.chain }, { on := 0, ground := Ground.phase }, { on := 1, ground := Ground.phase }, { on := 2, ground := Ground.phase }, { on := 3, ground := Ground.phase }, { on := 4, ground := Ground.phase }, { on := 5, ground := Ground.phase }, { on := 6, ground := Ground.phase }, { on := 7, ground := Ground.phase }, { on := 8, ground := Ground.phase }, { on := 9, ground := Ground.phase }], guard := none }) (by kernel_rfl) (by kernel_rfl) (by kernel_rfl) _ _ rfl ob l0 noughts sl (.slice none 0 0) hl0 noughts_length hsl (by kernel_rfl) (by kernel_rfl) hX3 (hH3.put hob sl l0) ?_
    refine wpAnyH_done (by kernel_rfl) ?_ _
    simp only [Act.put, List.setIfInBounds_toArray, List.set_cons_zero, List.set_cons_succ]
    generalize W9.setRow ob (setC l0 sl).toArray = W10 at *
    go_wp2
    go_loopw [6] (fun i wr => ∃ k : Nat, k ≤ n ∧ i = .int .i64 k ∧ ∃ sl, Hid (SetAt wr ob (runTo s t k).1 sl) ∧ Hid (dotsIn wr sl (runTo s t k).2 ∧ ∀ b, sl.ownBlock = some b → b ≠ ob ∧ b ≠ w.heap.size + 1 + 1) ∧ Hid (SetAt wr (w.heap.size + 1 + 1) noughts (.slice none 0 0)) ∧ Hid (SetAt wr (w.heap.size + 1) t.1 (.slice bo n cb)) ∧ ob < wr.heap.size ∧ Below w.heap.size w wr) (fun i _ => n - (intOf i).toNat)
    case atStart => exact ⟨0, by omega, rfl, sl, by rw [HZ.out]; exact hX9, by rw [HZ.out]; exact ⟨hd9, hoff9⟩, hR9, hT9, hlt9, hbw9⟩
    case round =>
      clear hX9 hd9 hoff9 hR9 hT9 hlt9 hbw9 hsl
      obtain ⟨k, hk, rfl, sl, HA, HS, HRr, HT, hsr, hbw⟩ := hrel
      have hTr := HT.out
      have m0 := hTr.more hm
      by_cases hlt : k < n
      · have hkx : k < t.2.length := by have := HN.out; omega
        obtain ⟨hSk, hlk⟩ := HF.out k (by omega)
        have hlk' : (runTo s t (k + 1)).1.length = 16 := (HF.out (k + 1) (by omega)).1.len
        have hst := runTo_step s t k hkx
        have hA := HA.out
        obtain ⟨hDk, hoff⟩ := HS.out
        obtain ⟨ad, hao, hcell⟩ := HCE.out k hkx
        subst hao
        have HP := fun (W : World) (hW : Below wr.heap.size wr W) => refPut_any (runTo s t k).1 sl (runTo s t k).2 (t.2[k]) W hSk (hDk.on hW) (by omega)
        rw [← hst] at HP
        have hl16 : (runTo s t k).1.length = 16 := hSk.len
        have hi0 : (0 : Int) ≤ (k : Int) := by omega
        have hi1 : (k : Int) < (n : Int) := by omega
        clear hst HA HS hSk hlk
        generalize hS1 : runTo s t (k + 1) = S1 at *
        generalize runTo s t k = S0 at *
        obtain ⟨lk, mk⟩ := S0
        obtain ⟨l1, m1⟩ := S1
        have HS1 : Hid ((l1, m1) = runTo s t (k + 1)) := by have h := hS1.symm; exact h
        clear hS1
        simp only at *
        generalize t.2[k] = x at *
        go_wp2
        refine wp_region_held_drew (S := fun W => SetAt W (w.heap.size + 1) t.1 (.slice (some ad) n cb) ∧ Below w.heap.size w W) (by kernel_rfl) (⟨hTr, hbw.drew⟩) (fun hH0 => ?_)
        refine held_take (i := 1) (o := { dst := some 24, op := Op.fieldAddr 26 (Operand.tmp 3) 1, type := 0, pos := "ref.go:88", after := #[], guard := none }) (v := .pointer (some ⟨w.heap.size + 1, 16, none⟩)) (by kernel_rfl) (by kernel_rfl) (by kernel_rfl) (by kernel_rfl) (fun _ _ _ h => h) (by kernel_rfl) (fun _ _ => by kernel_rfl) hH0 ?_
        refine held_take (i := 2) (o := { dst := some 25, op := Op.load 24 (Operand.tmp 24), type := 24, pos := "ref.go:88", after := #[{ on := 1, ground := Ground.data }], guard := none }) (v := .slice (some ad) n cb) (by kernel_rfl) (by kernel_rfl) (by kernel_rfl) (by kernel_rfl) (fun _ _ _ h => h) (by kernel_rfl) (fun _ h => exec_more rfl (by kernel_rfl) (h.1.more hm)) hH0 ?_
        refine held_take (i := 3) (o := { dst := some 26, op := Op.move (Operand.tmp 6), type := 3, pos := "ref.go:88", after := #[], guard := none }) (v := .int .i64 (k : Int)) (by kernel_rfl) (by kernel_rfl) (by kernel_rfl) (by kernel_rfl) (fun _ _ _ h => h) (by kernel_rfl) (fun _ _ => by kernel_rfl) hH0 ?_
        refine held_take (i := 4) (o := { dst := some 27, op := Op.indexAddr 24 (Operand.tmp 25) (Operand.tmp 26), type := 0, pos := "ref.go:88", after := #[{ on := 2, ground := Ground.data }, { on := 3, ground := Ground.data }], guard := none }) (v := .pointer (some (ad.add (k * 2)))) (by kernel_rfl) (by kernel_rfl) (by kernel_rfl) (by kernel_rfl) (fun _ _ _ h => h) (by kernel_rfl) (fun W _ => exec_idx (n := n) (c := cb) rfl (by kernel_rfl) (by kernel_rfl) hlt W) hH0 ?_
        refine held_take (i := 5) (o := { dst := some 28, op := Op.load 28 (Operand.tmp 27), type := 28, pos := "ref.go:88", after := #[{ on := 4, ground := Ground.data }], guard := none }) (v := dV x) (by kernel_rfl) (by kernel_rfl) (by kernel_rfl) (by kernel_rfl) (fun _ _ _ h => h) (by kernel_rfl) (fun W h => exec_row rfl (by kernel_rfl) (hcell W h.2).1 (hcell W h.2).2) hH0 ?_
        refine held_do (i := 0) (o := { dst := some 23, op := Op.load 26 (Operand.tmp 5), type := 26, pos := "ref.go:88", after := #[], guard := none }) (v := setV lk sl) (by kernel_rfl) (by kernel_rfl) (by kernel_rfl) (exec_set rfl hl16 (by kernel_rfl) hA) hH0 ?_
        refine held_callX (i := 6) (o := { dst := some 29, op := Op.call { callee := Callee.value (Operand.func 16), args := #[Operand.tmp 23, Operand.tmp 28], argTypes := #[26, 28] }, type := 26, pos := "ref.go:88", after := #[{ on := 0, ground := Ground.data }, { on := 5, ground := Ground.data }], guard := none }) (F := 16) (vs := #[setV lk sl, dV x]) (by kernel_rfl) (by kernel_rfl) (by kernel_rfl) (fun _ => by kernel_rfl) (HP _ (Below.refl _ _).drew) ?_
        rintro e w5 ⟨sl5, rfl, hd5, hoff5, hb5⟩
        have hb5' : Below wr.heap.size wr w5 := bchain (Below.refl _ _).drew hb5
        have hA5 := hA.on hb5'
        have hR5 := HRr.out.on hb5'
        have hT5 := hTr.on hb5'
        have hbw5 := bchain hbw hb5'
        have hbx := below_setRow hbw5 (b := ob) (by omega) (setC l1 sl5).toArray
        have hT6 : SetAt (w5.setRow ob (setC l1 sl5).toArray) (w.heap.size + 1) t.1 (.slice (some ad) n cb) := (setRow_other w5 _ _ _ (by omega)).trans hT5
        refine ⟨_, rfl, ⟨hT5, hbw5⟩, ?_⟩
        refine held_store (i := 7) (o := { dst := none, op := Op.store 26 (Operand.tmp 5) (Operand.tmp 29), type := 0, pos := "ref.go:88", after := #[{ on := 6, ground := Ground.data }, { on := 6, ground := Ground.chain }, { on := 0, ground := Ground.phase }, { on := 1, ground := Ground.phase }, { on := 2, ground := Ground.phase }, { on := 3, ground := Ground.phase }, { on := 4, ground := Ground.phase }, { on := 5, ground := Ground.phase }, { on := 6, ground := Ground.phase }], guard := none }) (by kernel_rfl) (by kernel_rfl) (by kernel_rfl) _ _ rfl ob l1 lk sl5 sl hlk' hl16 hd5.sl (by kernel_rfl) (by kernel_rfl) hA5 ⟨hT6, hbx⟩ ?_
        refine wpAnyH_done (by kernel_rfl) ?_ _
        simp only [Act.put, List.setIfInBounds_toArray, List.set_cons_zero, List.set_cons_succ]
        have hX5 : SetAt (w5.setRow ob (setC l1 sl5).toArray) ob l1 sl5 := hA5.row l1 sl5
        have hY5 : SetAt (w5.setRow ob (setC l1 sl5).toArray) (w.heap.size + 1 + 1) noughts (.slice none 0 0) := (setRow_other w5 _ _ _ (by omega)).trans hR5
        have hoff6 : ∀ b, sl5.ownBlock = some b → b ≠ ob ∧ b ≠ w.heap.size + 1 + 1 := fun b hb => by
          rcases hoff5 b hb with e | e
          · exact hoff b e
          · have : wr.heap.size ≤ b := e
            omega
        have hZ5 : dotsIn (w5.setRow ob (setC l1 sl5).toArray) sl5 m1 := hd5.row (fun e => (hoff6 _ e).1 rfl) _
        have hs5 : ob < (w5.setRow ob (setC l1 sl5).toArray).heap.size := by rw [setRow_size]; exact Nat.lt_of_lt_of_le hsr hb5'.size
        generalize w5.setRow ob (setC l1 sl5).toArray = W6 at *
        go_wp2
        go_roundw
        case rel => exact ⟨k + 1, by omega, by go_num, sl5, by rw [← HS1.out]; exact hX5, by rw [← HS1.out]; exact ⟨hZ5, hoff6⟩, hY5, hT6, hs5, hbx⟩
        case measure => simp [intOf]; omega
      · obtain rfl : k = n := by omega
        rw [HE.out] at HA HS
        have hA := HA.out
        have hs9 := HS.out.1.sl
        have hR := HRr.out
        go_wp2_with (first | (refine load_set rfl _ rfl ob lf sl hlf rfl hA ?_) | (refine store_set rfl _ _ rfl (w.heap.size + 1 + 1) lf noughts sl (.slice none 0 0) hlf noughts_length hs9 rfl rfl hR ?_))
        refine bodyPost_ret (ret_set rfl _ hlf rfl (hR.row lf sl)) rfl ⟨sl, rfl, ?_, below_setRow hbw (by omega) _⟩
        exact HS.out.1.row (fun e => (HS.out.2 _ e).2 rfl) _

end Go.Proofs.Ytenfbjlmfdiniaa
