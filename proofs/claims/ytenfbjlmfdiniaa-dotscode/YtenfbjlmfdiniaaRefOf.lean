/- The walk of the document's Of. -/
import Derived.Test.YtenfbjlmfdiniaaAwake
namespace Go.Proofs.Ytenfbjlmfdiniaa
open Go.RowKit Go.Shelf

section
variable {P : Program} {md : Region.Mode} {ops : Array Oper} {Q : Exit → Act → World → Prop} {S : World → Prop} {i : Nat} {o : Oper} {v : Value} {fuel : Nat} {listed : Array Bool} {a : Act} {w : World}
/-- A call, whatever it hands back. -/
theorem held_callX {F : FuncId} {vs : Array Value} {R : Ending → World → Prop} (ho : ops[i]? = some o) (hr : Region.ready md ops listed = [i]) (hw : Region.wanted o (yielded ops a.tmps) = true)
    (he : ∀ w, (execOp a.eval o).run P w = .ok (.enter F vs) w) (hc : Calls P F vs w R) (h : ∀ e w', R e w' → ∃ v, e = .returned v ∧ S w' ∧ wpAnyH P md ops Q S fuel (listed.setIfInBounds i true) (a.put o.dst v) w') :
    wpAnyH P md ops Q S (fuel + 1) listed a w :=
  wpAnyH_ready hr (by simp) (AllReadyH.cons ho (fun K hK => by
    rw [if_pos hw, Oper.wp, he]
    refine hc.mono ?_
    intro e w' hR
    obtain ⟨v, rfl, hs, hk⟩ := h e w' hR
    exact hK.out _ _ hs (fun _ => hk)) AllReadyH.nil)
/-- A set is stored whole. -/
theorem held_store (ho : ops[i]? = some o) (hr : Region.ready md ops listed = [i]) (hw : Region.wanted o (yielded ops a.tmps) = true) (x y : Operand) (hop : o.op = .store 26 x y)
    (b : Nat) (l m : List Int) (sl tl : Value) (hl : l.length = 16) (hm : m.length = 16) (hs : isSl sl) (hx : a.eval x = .pointer (some ⟨b, 0, none⟩)) (hy : a.eval y = setV l sl) (h : SetAt w b m tl) (hS : S (w.setRow b (setC l sl).toArray))
    (hk : wpAnyH Try.prog md ops Q S fuel (listed.setIfInBounds i true) (a.put o.dst undef) (w.setRow b (setC l sl).toArray)) : wpAnyH Try.prog md ops Q S (fuel + 1) listed a w :=
  wpAnyH_ready hr (by simp) (AllReadyH.cons ho (fun K hK => by
    rw [if_pos hw]
    exact wp_store_row 26 x y hop b (setC l sl).toArray hx hy 26 _ h (by simpa using sinfo hl) (by simp [setC_length, hl, hm]) (setC_one hs) (hK.out _ _ hS (fun _ => hk))) AllReadyH.nil)
end

theorem take_set0 {ops : Array Oper} {rest : List Oper} {o : Oper} {a : Act} {w : World} {Q : Exit → Act → World → Prop} (hgd : o.guard = none) (ho : o.op = .build 26 #[])
    (hk : wpList Try.prog ops Q rest (a.put o.dst (setV noughts (.slice none 0 0))) w) : wpList Try.prog ops Q (o :: rest) a w :=
  wpList_plain hgd fun _ hK => by
    have hb : ∀ w, (Instr.build 26 #[]).run Try.prog w = .ok (setV noughts (.slice none 0 0)) w := fun w => by kernel_rfl
    unfold Oper.wp execOp
    simp only [ho, List.map_toArray, List.map_nil, Sem.run_bind, hb, Result.andThen_ok, Sem.run_pure]
    exact hK _ _ hk
theorem exec_idx {o : Oper} {a : Act} {x y : Operand} {ad : Addr} {n c k : Nat} (ho : o.op = .indexAddr 24 x y) (hx : a.eval x = .slice (some ad) n c) (hy : a.eval y = .int .i64 (k : Int)) (hk : k < n) (w : World) :
    (execOp a.eval o).run Try.prog w = .ok (.value (.pointer (some (ad.add (k * 2))))) w := by
  have h0 : (0 : Int) ≤ (k : Int) := by omega
  have h1 : (k : Int) < (n : Int) := by omega
  unfold execOp
  simp only [ho, hx, hy, Sem.run_bind]
  go_simp
theorem exec_row {o : Oper} {a : Act} {x : Operand} {p : Addr} {d : D} {w : World} (ho : o.op = .load 28 x) (hx : a.eval x = .pointer (some p)) (h0 : w.cell? p = some (.int .i64 d.1)) (h1 : w.cell? ⟨p.block, p.off + 1, none⟩ = some (.int .i64 d.2)) :
    (execOp a.eval o).run Try.prog w = .ok (.value (dV d)) w := by
  unfold execOp
  simp only [ho, hx, Sem.run_bind]
  go_simp
theorem add_block (a : Addr) (k : Nat) : (a.add k).block = a.block := by unfold Addr.add; split <;> rfl
/-- A store into another block. -/
theorem dotsIn.row {w : World} {v : Value} {ds : List D} (h : dotsIn w v ds) {b : Nat} (hb : v.ownBlock ≠ some b) (cs : Array Value) : dotsIn (w.setRow b cs) v ds := by
  obtain ⟨ao, c, rfl, h0, hc⟩ := h
  refine ⟨ao, c, rfl, h0, fun k hk => ?_⟩
  obtain ⟨ad, rfl, c0, c1⟩ := hc k hk
  have hne : ad.block ≠ b := fun e => hb (by rw [← e]; rfl)
  refine ⟨ad, rfl, (World.cell?_of_block (setRow_other w b _ cs ?_)).trans c0, (World.cell?_of_block (setRow_other w b _ cs ?_)).trans c1⟩
  · rw [add_block]; exact fun e => hne e
  · show (ad.add (k * 2)).block ≠ b
    rw [add_block]; exact hne
/-- What the document's Of tells of the first ones. -/
def ofS (ds : List D) (k : Nat) : List Int × List D := (ds.take k).foldl (fun s d => putS s.1 s.2 d) (noughts, [])
theorem ofS_zero (ds : List D) : ofS ds 0 = (noughts, []) := by simp [ofS]
theorem ofS_step (ds : List D) (k : Nat) (h : k < ds.length) : ofS ds (k + 1) = putS (ofS ds k).1 (ofS ds k).2 ds[k] := by
  unfold ofS
  rw [List.take_succ_eq_append_getElem h, List.foldl_append]
  rfl
theorem std_noughts : St.Std noughts [] := ⟨noughts_length, noughts_right, fun _ h => (by cases h), List.Pairwise.nil⟩
/-- A set, with a dot more. -/
theorem putS_is {l : List Int} {ds : List D} {d : D} {M : D → Prop} (h : St.Is (l, ds) M) : St.Is (putS l ds d) (fun x => M x ∨ (x = d ∧ rightD d = true)) ∧ (putS l ds d).2.length ≤ ds.length + 1 := by
  unfold putS
  have hS := h.1
  split
  · rename_i hc
    have hnm : d ∉ ds := fun hm => by
      have := hc.2
      unfold St.has at this
      rw [decide_eq_true hm] at this
      cases this
    obtain ⟨a, b, c⟩ := St.fill_std hS.len hS.vec (ds := St.put d ds) (fun x hx => by
      rcases (St.put_mem d x ds).1 hx with e | e
      · rw [e]; exact hc.1
      · exact (hS.gap x e).1) (St.put_row d ds hS.row hnm)
    refine ⟨⟨a, fun x => ?_⟩, by rw [St.put_len] at c; exact c⟩
    have hx := h.2 x
    simp only at hx
    rw [b x, St.put_mem]
    show (St.mem l [] x ∨ x = d ∨ x ∈ ds) ↔ (M x ∨ (x = d ∧ rightD d = true))
    rw [← hx]
    unfold St.mem
    constructor
    · rintro (⟨e1, e2 | e2⟩ | e | e)
      · exact Or.inl ⟨e1, Or.inl e2⟩
      · cases e2
      · exact Or.inr ⟨e, hc.1⟩
      · exact Or.inl ⟨(hS.gap x e).1, Or.inr e⟩
    · rintro (⟨e1, e2 | e2⟩ | ⟨e, _⟩)
      · exact Or.inl ⟨e1, Or.inl e2⟩
      · exact Or.inr (Or.inr e2)
      · exact Or.inr (Or.inl e)
  · rename_i hc
    refine ⟨⟨hS, fun x => ?_⟩, by simp⟩
    rw [h.2 x]
    constructor
    · exact Or.inl
    · rintro (e | ⟨rfl, e⟩)
      · exact e
      · rw [← h.2 x]
        have : St.has l ds x = true := by
          cases hh : St.has l ds x
          · exact absurd ⟨e, hh⟩ hc
          · rfl
        exact (St.has_iff hS x).1 this
theorem ofS_is (ds : List D) : ∀ k, k ≤ ds.length → St.Is (ofS ds k) (fun x => St.mem noughts [] x ∨ (x ∈ ds.take k ∧ rightD x = true)) ∧ (ofS ds k).2.length ≤ k
  | 0, _ => by
    rw [ofS_zero]
    exact ⟨⟨std_noughts, fun x => by simp⟩, by simp⟩
  | k + 1, hk => by
    obtain ⟨a, b⟩ := ofS_is ds k (by omega)
    rw [ofS_step ds k (by omega)]
    obtain ⟨c, e⟩ := putS_is (l := (ofS ds k).1) (ds := (ofS ds k).2) (d := ds[k]) a
    refine ⟨⟨c.1, fun x => ?_⟩, by omega⟩
    rw [c.2 x, List.take_succ_eq_append_getElem (by omega)]
    simp only [List.mem_append, List.mem_cons, List.not_mem_nil, or_false]
    constructor
    · rintro ((e | ⟨e1, e2⟩) | ⟨e1, e2⟩)
      · exact Or.inl e
      · exact Or.inr ⟨Or.inl e1, e2⟩
      · exact Or.inr ⟨Or.inr e1, by rw [e1]; exact e2⟩
    · rintro (e | ⟨e1 | e1, e2⟩)
      · exact Or.inl (Or.inl e)
      · exact Or.inl (Or.inr ⟨e1, e2⟩)
      · exact Or.inr ⟨e1, by rw [← e1]; exact e2⟩
/-- THE SET OF DOTS IS THE DOCUMENT's. -/
theorem of_same (ds : List D) : ofS ds ds.length = settled noughts ds := by
  refine St.Is.eq (ofS_is ds ds.length (Nat.le_refl _)).1 (settled_is ds noughts_length noughts_right).1 fun d => ?_
  rw [List.take_length]

set_option maxRecDepth 20000 in
set_option maxHeartbeats 1000000 in
theorem refOf_any (v : Value) (ds : List D) (w : World) (hv : dotsIn w v ds) (hn : ds.length ≤ 1000) :
    Calls Try.prog 29 #[v] w fun e w' => ∃ sl, e = .returned (setV (settled noughts ds).1 sl) ∧ dotsIn w' sl (settled noughts ds).2 ∧ Below w.heap.size w w' := by
  have hZ := SetAt.zero w
  obtain ⟨W0, hW0⟩ : ∃ W0, W0 = w.alloc (.cells (setC noughts (.slice none 0 0)).toArray 26) := ⟨_, rfl⟩
  have hB0 : Below w.heap.size w W0 := by rw [hW0]; exact below_new _ _
  have hR0 : SetAt W0 w.heap.size noughts (.slice none 0 0) := by rw [hW0]; exact hZ
  have hsz : W0.heap.size = w.heap.size + 1 := by rw [hW0]; simp
  have hZ1 := SetAt.zero W0
  have hK0 := kept_set W0 noughts (.slice none 0 0)
  have hKb := kept_below W0 noughts (.slice none 0 0)
  have hKs := kept_size W0 noughts (.slice none 0 0)
  obtain ⟨W1, hW1⟩ : ∃ W1, W1 = kept W0 noughts (.slice none 0 0) := ⟨_, rfl⟩
  rw [← hW1] at hK0 hKb hKs
  have HK : Hid (SetAt W1 (w.heap.size + 1) noughts (.slice none 0 0)) := by rw [hsz] at hK0; exact hK0
  have HR : Hid (SetAt W1 w.heap.size noughts (.slice none 0 0)) := hR0.on hKb
  have HB : Hid (Below w.heap.size w W1) := bchain hB0 hKb
  have HW : Hid (W1 = ((w.alloc (.cells (setC noughts (.slice none 0 0)).toArray 26)).alloc (.cells (setC noughts (.slice none 0 0)).toArray 26)).setRow (w.heap.size + 1) (setC noughts (.slice none 0 0)).toArray) := by
    have h : W1 = ((w.alloc (.cells (setC noughts (.slice none 0 0)).toArray 26)).alloc (.cells (setC noughts (.slice none 0 0)).toArray 26)).setRow (w.heap.size + 1) (setC noughts (.slice none 0 0)).toArray := by
      rw [hW1]
      unfold kept
      rw [hsz, hW0]
    exact h
  have hsz1 : W1.heap.size = w.heap.size + 1 + 1 := by rw [hKs, hsz]
  rw [hsz, hW0] at hZ1
  have HD : Hid (dotsIn w v ds) := hv
  have HF : Hid (∀ k, k ≤ ds.length → St.Std (ofS ds k).1 (ofS ds k).2 ∧ (ofS ds k).2.length ≤ k) := fun k hk => ⟨(ofS_is ds k hk).1.1, (ofS_is ds k hk).2⟩
  rw [← of_same]
  obtain ⟨ao, ca, rfl, _, _⟩ := id hv
  obtain ⟨n, hn0⟩ : ∃ n, n = ds.length := ⟨_, rfl⟩
  have HN : Hid (n = ds.length) := hn0
  rw [← hn0] at hn HD ⊢
  clear hn0 hv hK0 hKb hKs hR0 hB0 hW1 hW0 hZ hsz
  go_enter Try.func29, Try.ntmps29
  go_wp2_with (first | (refine take_set0 rfl rfl ?_) | (refine store_set rfl _ _ rfl (w.heap.size + 1) noughts noughts (.slice none 0 0) (.slice none 0 0) noughts_length noughts_length ⟨none, 0, 0, rfl⟩ rfl rfl hZ1 ?_))
  go_loopw [4] (fun i wr => ∃ k : Nat, k ≤ n ∧ i = .int .i64 k ∧ ∃ sl, Hid (SetAt wr (w.heap.size + 1) (ofS ds k).1 sl) ∧ Hid (dotsIn wr sl (ofS ds k).2 ∧ ∀ b, sl.ownBlock = some b → w.heap.size + 1 < b) ∧ Hid (SetAt wr w.heap.size noughts (.slice none 0 0)) ∧ w.heap.size + 1 + 1 ≤ wr.heap.size ∧ Below w.heap.size w wr) (fun i _ => n - (intOf i).toNat)
  case atStart =>
    have h1 := HK.out
    have h2 := HR.out
    have h3 := HB.out
    have h4 := hsz1
    rw [HW.out] at h1 h2 h3 h4
    refine ⟨0, by omega, rfl, .slice none 0 0, ?_, ?_, h2, ?_, h3⟩
    · rw [ofS_zero]; exact h1
    · rw [ofS_zero]; exact ⟨dotsIn_nil _, fun b hb => (by cases hb)⟩
    · exact Nat.le_of_eq h4.symm
  case round =>
    obtain ⟨k, hk, rfl, sl, HA, HS, HRr, hsr, hbw⟩ := hrel
    by_cases hlt : k < n
    · have hkx : k < ds.length := by have := HN.out; omega
      obtain ⟨hSk, hlk⟩ := HF.out k (by omega)
      have hlk' : (ofS ds (k + 1)).1.length = 16 := (HF.out (k + 1) (by omega)).1.len
      have hst := ofS_step ds k hkx
      have hA := HA.out
      obtain ⟨hDk, hoff⟩ := HS.out
      obtain ⟨ad, hao, _, _⟩ : ∃ ad, ao = some ad ∧ True ∧ True := by
        obtain ⟨ao2, cap2, e2, _, hc⟩ := HD.out
        obtain ⟨ad, hao, _, _⟩ := hc k hkx
        cases e2
        exact ⟨ad, hao, trivial, trivial⟩
      subst hao
      have hcell : ∀ W, Below w.heap.size w W → W.cell? (ad.add (k * 2)) = some (.int .i64 (ds[k]).1) ∧ W.cell? ⟨(ad.add (k * 2)).block, (ad.add (k * 2)).off + 1, none⟩ = some (.int .i64 (ds[k]).2) := fun W hW => by
        obtain ⟨ao3, cap3, e3, _, hc3⟩ := HD.out.on hW
        obtain ⟨ad3, hao3, c3, c4⟩ := hc3 k hkx
        have e4 : ad3 = ad := by cases e3; cases hao3; rfl
        subst e4
        exact ⟨c3, c4⟩
      have HP := fun (W : World) (hW : Below wr.heap.size wr W) => refPut_any (ofS ds k).1 sl (ofS ds k).2 ds[k] W hSk (hDk.on hW) (by omega)
      rw [← hst] at HP
      have hl16 : (ofS ds k).1.length = 16 := hSk.len
      have hi0 : (0 : Int) ≤ (k : Int) := by omega
      have hi1 : (k : Int) < (n : Int) := by omega
      clear hst HF HA HS hSk hlk
      generalize hS1 : ofS ds (k + 1) = S1 at *
      generalize ofS ds k = S0 at *
      obtain ⟨lk, mk⟩ := S0
      obtain ⟨l1, m1⟩ := S1
      have HS1 : Hid ((l1, m1) = ofS ds (k + 1)) := by have h := hS1.symm; exact h
      clear hS1
      simp only at *
      generalize ds[k] = x at *
      go_wp2
      refine wp_region_held_drew (S := fun W => Below w.heap.size w W) (by kernel_rfl) (hbw.drew) (fun hH0 => ?_)
      refine held_take (i := 1) (o := { dst := some 13, op := Op.move (Operand.tmp 0), type := 24, pos := "ref.go:79", after := #[], guard := none }) (v := .slice (some ad) n ca) (by kernel_rfl) (by kernel_rfl) (by kernel_rfl) (by kernel_rfl) (fun _ _ _ h => h) (by kernel_rfl) (fun _ _ => by kernel_rfl) hH0 ?_
      refine held_take (i := 2) (o := { dst := some 14, op := Op.move (Operand.tmp 4), type := 3, pos := "ref.go:79", after := #[], guard := none }) (v := .int .i64 (k : Int)) (by kernel_rfl) (by kernel_rfl) (by kernel_rfl) (by kernel_rfl) (fun _ _ _ h => h) (by kernel_rfl) (fun _ _ => by kernel_rfl) hH0 ?_
      refine held_take (i := 3) (o := { dst := some 15, op := Op.indexAddr 24 (Operand.tmp 13) (Operand.tmp 14), type := 0, pos := "ref.go:79", after := #[{ on := 1, ground := Ground.data }, { on := 2, ground := Ground.data }], guard := none }) (v := .pointer (some (ad.add (k * 2)))) (by kernel_rfl) (by kernel_rfl) (by kernel_rfl) (by kernel_rfl) (fun _ _ _ h => h) (by kernel_rfl) (fun W _ => exec_idx (n := n) (c := ca) rfl (by kernel_rfl) (by kernel_rfl) hlt W) hH0 ?_
      refine held_take (i := 4) (o := { dst := some 16, op := Op.load 28 (Operand.tmp 15), type := 28, pos := "ref.go:79", after := #[{ on := 3, ground := Ground.data }], guard := none }) (v := dV x) (by kernel_rfl) (by kernel_rfl) (by kernel_rfl) (by kernel_rfl) (fun _ _ _ h => h) (by kernel_rfl) (fun W h => exec_row rfl (by kernel_rfl) (hcell W h).1 (hcell W h).2) hH0 ?_
      refine held_do (i := 0) (o := { dst := some 12, op := Op.load 26 (Operand.tmp 3), type := 26, pos := "ref.go:79", after := #[], guard := none }) (v := setV lk sl) (by kernel_rfl) (by kernel_rfl) (by kernel_rfl) (exec_set rfl hl16 (by kernel_rfl) hA) hH0 ?_
      refine held_callX (i := 5) (o := { dst := some 17, op := Op.call { callee := Callee.value (Operand.func 16), args := #[Operand.tmp 12, Operand.tmp 16], argTypes := #[26, 28] }, type := 26, pos := "ref.go:79", after := #[{ on := 0, ground := Ground.data }, { on := 4, ground := Ground.data }], guard := none }) (F := 16) (vs := #[setV lk sl, dV x]) (by kernel_rfl) (by kernel_rfl) (by kernel_rfl) (fun _ => by kernel_rfl) (HP _ (Below.refl _ _).drew) ?_
      rintro e w5 ⟨sl5, rfl, hd5, hoff5, hb5⟩
      have hb5' : Below wr.heap.size wr w5 := bchain (Below.refl _ _).drew hb5
      have hA5 := hA.on hb5'
      have hR5 := HRr.out.on hb5'
      have hbw5 := bchain hbw hb5'
      have hbx := below_setRow hbw5 (b := w.heap.size + 1) (by omega) (setC l1 sl5).toArray
      refine ⟨_, rfl, hbw5, ?_⟩
      refine held_store (i := 6) (o := { dst := none, op := Op.store 26 (Operand.tmp 3) (Operand.tmp 17), type := 0, pos := "ref.go:79", after := #[{ on := 5, ground := Ground.data }, { on := 5, ground := Ground.chain }, { on := 0, ground := Ground.phase }, { on := 1, ground := Ground.phase }, { on := 2, ground := Ground.phase }, { on := 3, ground := Ground.phase }, { on := 4, ground := Ground.phase }, { on := 5, ground := Ground.phase }], guard := none }) (by kernel_rfl) (by kernel_rfl) (by kernel_rfl) _ _ rfl (w.heap.size + 1) l1 lk sl5 sl hlk' hl16 hd5.sl (by kernel_rfl) (by kernel_rfl) hA5 hbx ?_
      refine wpAnyH_done (by kernel_rfl) ?_ _
      simp only [Act.put, List.setIfInBounds_toArray, List.set_cons_zero, List.set_cons_succ]
      have hsl5 := hd5.sl
      have hX5 : SetAt (w5.setRow (w.heap.size + 1) (setC l1 sl5).toArray) (w.heap.size + 1) l1 sl5 := hA5.row l1 sl5
      have hY5 : SetAt (w5.setRow (w.heap.size + 1) (setC l1 sl5).toArray) w.heap.size noughts (.slice none 0 0) := (setRow_other w5 _ _ _ (by omega)).trans hR5
      have hoff6 : ∀ b, sl5.ownBlock = some b → w.heap.size + 1 < b := fun b hb => by
        rcases hoff5 b hb with e | e
        · exact hoff b e
        · have : wr.heap.size ≤ b := e
          omega
      have hZ5 : dotsIn (w5.setRow (w.heap.size + 1) (setC l1 sl5).toArray) sl5 m1 := hd5.row (fun e => by have := hoff6 _ e; omega) _
      have hs5 : w.heap.size + 1 + 1 ≤ (w5.setRow (w.heap.size + 1) (setC l1 sl5).toArray).heap.size := by rw [setRow_size]; exact Nat.le_trans hsr hb5'.size
      generalize w5.setRow (w.heap.size + 1) (setC l1 sl5).toArray = W6 at *
      go_wp2
      go_roundw
      case rel => exact ⟨k + 1, by omega, by go_num, sl5, by rw [← HS1.out]; exact hX5, by rw [← HS1.out]; exact ⟨hZ5, hoff6⟩, hY5, hs5, hbx⟩
      case measure => simp [intOf]; omega
    · obtain rfl : k = n := by omega
      rw [HN.out] at HA HS
      have hlf : (ofS ds ds.length).1.length = 16 := (HF.out ds.length (Nat.le_refl _)).1.len
      have HE : Hid (ofS ds ds.length = ofS ds k) := by have h : ofS ds ds.length = ofS ds k := by rw [← HN.out]
                                                        exact h
      generalize ofS ds ds.length = S at *
      obtain ⟨lf, mf⟩ := S
      simp only at HA HS hlf
      have hA := HA.out
      have hsl := HS.out.1.sl
      have hR := HRr.out
      clear HF
      go_wp2_with (first | (refine load_set rfl _ rfl (w.heap.size + 1) lf sl hlf rfl hA ?_) | (refine store_set rfl _ _ rfl w.heap.size lf noughts sl (.slice none 0 0) hlf noughts_length hsl rfl rfl hR ?_))
      refine bodyPost_ret (ret_set rfl _ hlf rfl (hR.row lf sl)) rfl ⟨sl, by rw [← HE.out], ?_, below_setRow hbw (Nat.le_refl _) _⟩
      rw [← HE.out]
      exact HS.out.1.row (fun e => by have := HS.out.2 _ e; omega) _
end Go.Proofs.Ytenfbjlmfdiniaa
