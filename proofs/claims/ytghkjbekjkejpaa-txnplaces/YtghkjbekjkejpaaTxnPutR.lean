/- The walks of the document's Find and Put of transactions, and of 'short' of the statements. -/
import Derived.Test.YtghkjbekjkejpaaTxnPut
import Derived.Test.YtghkjbekjkejpaaTxnShort
namespace Go.Proofs.Ytghkjbekjkejpaa.O
open Go.RowKit

/-- None of so many has the dot. -/
def noTo (l : List Tx.Txn) (d : D) (k : Nat) : Prop := ∀ j (h : j < l.length), j < k → l[j].d ≠ d
theorem noTo_zero (l : List Tx.Txn) (d : D) : noTo l d 0 := fun _ _ h => absurd h (Nat.not_lt_zero _)
theorem noTo_step {l : List Tx.Txn} {d : D} {k : Nat} (h : noTo l d k) (hk : k < l.length) (he : l[k].d ≠ d) : noTo l d (k + 1) := fun j hj hjk => by
  by_cases e : j = k
  · subst e; exact he
  · exact h j hj (by omega)
theorem noTo_end {l : List Tx.Txn} {d : D} {k : Nat} (h : noTo l d k) (hk : ¬ k < l.length) : Tx.find l d = -1 := Tx.find_none fun x hx => by
  obtain ⟨j, hj, rfl⟩ := List.mem_iff_getElem.1 hx
  exact h j hj (by omega)
theorem noTo_hit {l : List Tx.Txn} {d : D} {k : Nat} (h : noTo l d k) (hk : k < l.length) (he : l[k].d = d) : Tx.find l d = (k : Int) := by
  have := Tx.findFrom_at (k := 0) hk he fun j hj hjk => h j hj hjk
  rw [Nat.zero_add] at this
  exact this

set_option maxRecDepth 20000 in
set_option maxHeartbeats 2000000 in
theorem refTfind_any (v : Value) (l : List Tx.Txn) (d : D) (w : World) (hv : txsIn w v l) (hn : l.length ≤ 1000000) :
    Calls Try.prog 21 #[v, dV d] w fun e w' => e = .returned (.int .i64 (Tx.find l d)) ∧ Below w.heap.size w w' := by
  have HV : Hid (txsIn w v l) := hv
  obtain ⟨ao, cap, rfl, -⟩ := hv
  obtain ⟨m, hm⟩ : ∃ m, m = l.length := ⟨_, rfl⟩
  have HM : Hid (m = l.length) := hm
  rw [← hm] at HV hn ⊢
  clear hm
  have B0 := below_new w (.cells #[.int .i64 d.1, .int .i64 d.2] 23)
  have D0 := DAt.new w d
  obtain ⟨W0, hW0⟩ : ∃ W0, W0 = w.alloc (.cells #[.int .i64 d.1, .int .i64 d.2] 23) := ⟨_, rfl⟩
  rw [← hW0] at B0 D0
  go_enter Try.func21, Try.ntmps21
  go_wp2
  rw [← hW0]
  clear hW0
  go_loopw [5] (fun i wr => ∃ k : Nat, k ≤ m ∧ i = .int .i64 k ∧ Hid (noTo l d k) ∧ Below W0.heap.size W0 wr) (fun i _ => m - (intOf i).toNat)
  case atStart => exact ⟨0, by omega, rfl, by have h := noTo_zero l d; exact h, Below.refl _ _⟩
  case round =>
    obtain ⟨k, hk, rfl, HS, hbw⟩ := hrel
    obtain ⟨d0, d1⟩ := D0.on hbw
    by_cases hlt : k < m
    · have hkx : k < l.length := by have := HM.out; omega
      obtain ⟨ad, ov, rfl, hA, -⟩ := (HV.out.on (bchain B0 hbw)).get hkx
      obtain ⟨a0, a1, -, -, -, -⟩ := hA
      have hi0 : (0 : Int) ≤ (k : Int) := by omega
      have hi1 : (k : Int) < (m : Int) := by omega
      have hE := eql_dot l[k].d d
      by_cases he : l[k].d = d
      · have HL : Hid (Tx.find l d = (k : Int)) := by have h := noTo_hit HS.out hkx he; exact h
        simp only [he, decide_true] at hE
        rw [he] at a0 a1
        clear HS he
        go_wp2
        go_region
        all_goals
          go_wp2
          go_ret
          exact ⟨ret_int HL.out.symm, (bchain B0 hbw).drew⟩
      · have HS' : Hid (noTo l d (k + 1)) := by have h := noTo_step HS.out hkx he; exact h
        simp only [he, decide_false] at hE
        clear HS he
        generalize l[k] = x at *
        go_wp2
        go_region
        all_goals
          go_wp2
          go_roundw
          case rel => exact ⟨k + 1, by omega, by go_num, HS', hbw.drew⟩
          case measure => simp [intOf]; omega
    · have HL : Hid (Tx.find l d = -1) := by
        have h := noTo_end HS.out (by have := HM.out; omega)
        exact h
      go_wp2
      go_ret
      exact ⟨ret_int HL.out.symm, bchain B0 hbw⟩

/-! ### One put in its place, as the document goes -/
open Classical in
noncomputable def fin (T : TE) : Bool → List TE → List TE
  | b, [] => if b = true then [] else [T]
  | b, x :: r => if b = false ∧ Tx.dlt T.1.d x.1.d then T :: x :: fin T true r else x :: fin T b r
theorem fin_true (T : TE) : ∀ r, fin T true r = r
  | [] => by simp [fin]
  | x :: r => by rw [fin, if_neg (by simp), fin_true T r]
theorem fin_here {T x : TE} {r : List TE} (h : Tx.dlt T.1.d x.1.d) : fin T false (x :: r) = T :: x :: fin T true r := by rw [fin, if_pos ⟨rfl, h⟩]
theorem fin_on {T x : TE} {b : Bool} {r : List TE} (h : ¬ (b = false ∧ Tx.dlt T.1.d x.1.d)) : fin T b (x :: r) = x :: fin T b r := by rw [fin, if_neg h]
theorem fin_put (T : TE) : ∀ (r : List TE), (∀ x ∈ r, x.1.d ≠ T.1.d) → (fin T false r).map (·.1) = Tx.put (r.map (·.1)) T.1
  | [], _ => by simp [fin, Tx.put]
  | x :: r, h => by
    have h1 := h x (by simp)
    simp only [List.map_cons, Tx.put]
    rw [if_neg (fun e => h1 e.symm)]
    by_cases hd : Tx.dlt T.1.d x.1.d
    · rw [fin_here hd, fin_true, if_pos hd]
      rfl
    · rw [fin_on (fun q => hd q.2), if_neg hd, List.map_cons, fin_put T r fun y hy => h y (by simp [hy])]

set_option maxRecDepth 20000 in
set_option maxHeartbeats 4000000 in
theorem refTput_any (v : Value) (l : List Tx.Txn) (t : Tx.Txn) (ov : Value) (w : World) (hv : txsIn w v l) (ho : opsIn w ov t.ops) (hn : l.length ≤ 100000) (hp : Tx.Rises l) :
    Calls Try.prog 23 #[v, txV t ov] w fun e w' => ∃ r, e = .returned r ∧ txsIn w' r (Tx.put l t) ∧ Below w.heap.size w w' := by
  obtain ⟨xs, hx, hE⟩ := txsE_of hv
  obtain ⟨oa, oc, rfl⟩ := ho.slice
  have HO : Hid (opsIn w (.slice oa t.ops.length oc) t.ops) := ho
  have B0 := below_new w (txO t (.slice oa t.ops.length oc))
  have O0 := TAt.new w t (.slice oa t.ops.length oc)
  have C21 := refTfind_any v l t.d _ (hv.on B0) (by omega)
  have HE : Hid (txsE w v xs) := hE
  have HX : Hid (xs.map (·.1) = l) := hx
  have HP : Hid (Tx.Rises l) := hp
  have HV : Hid (txsIn w v l) := hv
  have hxl : xs.length = l.length := by rw [← hx, List.length_map]
  obtain ⟨ao, cap, rfl, hmc, -⟩ := id hE
  obtain ⟨m, hm⟩ : ∃ m, m = xs.length := ⟨_, rfl⟩
  have HM : Hid (m = xs.length) := hm
  rw [← hm] at HE HV C21 hxl hmc ⊢
  obtain ⟨om, hom⟩ : ∃ om, om = t.ops.length := ⟨_, rfl⟩
  rw [← hom] at HO B0 O0 C21 ⊢
  have hm5 : m ≤ 100000 := by omega
  clear hv ho hE hx hp hm hn hom hxl
  obtain ⟨W0, hW0⟩ : ∃ W0, W0 = w.alloc (txO t (.slice oa om oc)) := ⟨_, rfl⟩
  rw [← hW0] at B0 O0 C21
  by_cases hf : ∃ x ∈ l, x.d = t.d
  · obtain ⟨y, hy, hyd⟩ := hf
    obtain ⟨i, hi, rfl⟩ := List.mem_iff_getElem.1 hy
    have HQ : Hid (Tx.put l t = l) := by have h := Tx.put_same HP.out ⟨_, hy, hyd⟩; exact h
    rw [Tx.find_at HP.out hi hyd] at C21
    have h0 : (0 : Int) ≤ (i : Int) := by omega
    clear hy hyd hi
    go_enter Try.func23, Try.ntmps23
    go_wp2_with fail
    rw [← hW0]
    clear hW0
    refine C21.mono ?_
    rintro e w1 ⟨rfl, hb1⟩
    go_wp2
    go_ret
    exact ⟨_, rfl, by rw [HQ.out]; exact HV.out.on (bchain B0 hb1), bchain B0 hb1⟩
  have hno : ∀ x ∈ l, x.d ≠ t.d := fun x hx e => hf ⟨x, hx, e⟩
  rw [Tx.find_none hno] at C21
  have HF : Hid ((fin (t, .slice oa om oc) false xs).map (·.1) = Tx.put l t) := by
    have h : (fin (t, .slice oa om oc) false xs).map (·.1) = Tx.put l t := by
      rw [fin_put (t, .slice oa om oc) xs (fun x hx => hno x.1 (by rw [← HX.out]; exact List.mem_map_of_mem hx)), HX.out]
    exact h
  have HI : Hid (∀ W, Below w.heap.size w W → ∀ x ∈ fin (t, .slice oa om oc) false xs, opsIn W x.2 x.1.ops) := by
    have key : ∀ (r : List TE) (b : Bool) (x : TE), x ∈ fin (t, Value.slice oa om oc) b r → x = (t, .slice oa om oc) ∨ x ∈ r := by
      intro r
      induction r with
      | nil => intro b x hx; cases b <;> simp [fin] at hx; exact .inl hx
      | cons y r ih =>
        intro b x hx
        rw [fin] at hx
        split at hx
        · rcases List.mem_cons.1 hx with h | h
          · exact .inl h
          · rcases List.mem_cons.1 h with h | h
            · exact .inr (by simp [h])
            · rcases ih _ _ h with h | h
              · exact .inl h
              · exact .inr (by simp [h])
        · rcases List.mem_cons.1 hx with h | h
          · exact .inr (by simp [h])
          · rcases ih _ _ h with h | h
            · exact .inl h
            · exact .inr (by simp [h])
    have h : ∀ W, Below w.heap.size w W → ∀ x ∈ fin (t, .slice oa om oc) false xs, opsIn W x.2 x.1.ops := fun W hb x hx => by
      rcases key _ _ _ hx with rfl | hx
      · exact HO.out.on hb
      · obtain ⟨_, _, _, _, _, _, h⟩ := HE.out
        exact (h x hx).on hb
    exact h
  clear hf hno
  go_enter Try.func23, Try.ntmps23
  go_wp2_with fail
  rw [← hW0]
  clear hW0
  refine C21.mono ?_
  rintro e w1 ⟨rfl, hb1⟩
  have B1 := bchain B0 hb1
  have O1 := O0.on hb1
  clear C21 B0 O0 hb1
  go_wp2
  go_loopw [5, 6, 7] (fun out ld i wr => ∃ (k : Nat) (acc : List TE) (b : Bool), k ≤ m ∧ i = .int .i64 k ∧ ld = .bool b ∧ Hid (acc ++ fin (t, .slice oa om oc) b (xs.drop k) = fin (t, .slice oa om oc) false xs) ∧ acc.length ≤ 2 * k ∧ wr.ownsRow w1.heap.size 26 6 out acc.length (tcells acc) ∧ Below w1.heap.size w1 wr) (fun _ _ i _ => m - (intOf i).toNat)
  case atStart => exact ⟨0, [], false, by omega, rfl, rfl, by simp [Hid], by simp, World.ownsRow_nil _ _ _ _, Below.refl _ _⟩
  case round =>
    obtain ⟨k, acc, b, hk, rfl, rfl, HS, hal, hown, hbw⟩ := hrel
    have hsz := hbw.size
    have newE : ∀ (W : World) (y : Tx.Txn) (ya : Option Addr) (yn yc : Nat), opsIn W (.slice ya yn yc) y.ops → txsE (W.alloc (txO y (.slice ya yn yc))) (.slice (some ⟨W.heap.size, 0, none⟩) 1 1) [(y, .slice ya yn yc)] := fun W y ya yn yc h =>
      ⟨_, 1, rfl, Nat.le_refl _, fun e => by simp at e, fun j u hu => ⟨_, rfl, new_tx W (y, .slice ya yn yc) j u hu⟩, fun q hq => by rw [List.mem_singleton.1 hq]; exact h.on (below_new _ _)⟩
    by_cases hlt : k < m
    · have hkx : k < xs.length := by have := HM.out; omega
      obtain ⟨ad, rfl, hA⟩ : ∃ ad, ao = some ad ∧ TcAt w (ad.add (k * 6)) xs[k].1 xs[k].2 := by
        obtain ⟨ao', c', e', _, _, hc, _⟩ := HE.out
        cases e'
        have g := fun i (hi : i < 6) => hc (k * 6 + i) _ ((tcells_at xs k hkx i hi).trans (List.getElem?_eq_getElem (by simp [tcell]; omega)))
        obtain ⟨ad, e0, g0⟩ := g 0 (by omega)
        subst e0
        have g' : ∀ i (hi : i < 6), w.cell? (ad.add (k * 6 + i)) = some ((tcell xs[k])[i]'(by simp [tcell]; omega)) := fun i hi => by
          obtain ⟨ad', e1, g1⟩ := g i hi
          cases e1
          exact g1
        refine ⟨ad, rfl, by simpa [tcell] using g0, ?_, ?_, ?_, ?_, ?_⟩
        · rw [← add_plus _ _ 1 (by omega)]; exact g' 1 (by omega)
        · rw [← add_plus _ _ 2 (by omega)]; exact g' 2 (by omega)
        · rw [← add_plus _ _ 3 (by omega)]; exact g' 3 (by omega)
        · rw [← add_plus _ _ 4 (by omega)]; exact g' 4 (by omega)
        · rw [← add_plus _ _ 5 (by omega)]; exact g' 5 (by omega)
      obtain ⟨xa, xn, xc, hxs⟩ : ∃ ao n c, xs[k].2 = .slice ao n c := by
        obtain ⟨_, _, _, _, _, _, h⟩ := HE.out
        obtain ⟨a, c, e⟩ := (h _ (List.getElem_mem hkx)).slice
        exact ⟨a, _, c, e⟩
      rw [hxs] at hA
      have hix : ∀ W, Below w.heap.size w W → opsIn W (.slice xa xn xc) xs[k].1.ops := fun W hb => by
        obtain ⟨_, _, _, _, _, _, h⟩ := HE.out
        have h := (h _ (List.getElem_mem hkx)).on hb
        rw [hxs] at h
        exact h
      have hdr : xs.drop k = (xs[k].1, .slice xa xn xc) :: xs.drop (k + 1) := by
        rw [List.drop_eq_getElem_cons hkx, ← hxs]
      have hi0 : (0 : Int) ≤ (k : Int) := by omega
      have hi1 : (k : Int) < (m : Int) := by omega
      have HS0 := HS.out
      rw [hdr] at HS0
      have C34 := fun W => D.refComp_any t.d.1 t.d.2 xs[k].1.d.1 xs[k].1.d.2 W
      have hz := Tx.dcomp_lt t.d xs[k].1.d
      clear hdr hxs HS
      generalize xs[k].1 = x at *
      have hlen2 : (acc ++ [(x, Value.slice xa xn xc)]).length ≤ 2 * (k + 1) := by simp; omega
      cases b with
      | true =>
        rw [fin_on (by simp)] at HS0
        have HS' : Hid ((acc ++ [(x, Value.slice xa xn xc)]) ++ fin (t, .slice oa om oc) true (xs.drop (k + 1)) = fin (t, .slice oa om oc) false xs) := by
          have h : (acc ++ [(x, Value.slice xa xn xc)]) ++ fin (t, .slice oa om oc) true (xs.drop (k + 1)) = fin (t, .slice oa om oc) false xs := by rw [← HS0]; simp
          exact h
        have hd : Below wr.heap.size wr wr.drew := (Below.refl _ _).drew
        have hbd := bchain hbw hd
        obtain ⟨a0, a1, a2, a3, a4, a5⟩ := hA.on (bchain B1 hbd)
        have hk1 := below_new wr.drew (txO x (.slice xa xn xc))
        have own1 := own_on (own_on hown hd) hk1
        have hsz1 : w1.heap.size ≤ (wr.drew.alloc (txO x (.slice xa xn xc))).heap.size := (bchain hbd hk1).size
        have hne : txsE (wr.drew.alloc (txO x (.slice xa xn xc))) (.slice (some ⟨wr.heap.size, 0, none⟩) 1 1) [(x, .slice xa xn xc)] := newE wr.drew x xa xn xc (hix _ (bchain B1 hbd))
        have hrm : acc.length + [(x, Value.slice xa xn xc)].length ≤ 1000000 := by simp; omega
        have HB : Hid (Below w1.heap.size w1 (wr.drew.alloc (txO x (.slice xa xn xc)))) := bchain hbd hk1
        clear HS0 hA hix C34 hz hown newE hd hbd hk1 hbw
        go_wp2
        go_region
        all_goals
          go_wp2_with (at_builtin; refine append_any rfl _ _ rfl w1.heap.size hsz1 _ acc rfl own1 _ [(x, Value.slice xa xn xc)] rfl hne hrm ?_; intro r1 w3 own3 hg3)
          go_roundw
          case rel => exact ⟨k + 1, acc ++ [(x, .slice xa xn xc)], true, by omega, by go_num, rfl, HS', hlen2, own3, HB.out.trans hg3⟩
          case measure => simp [intOf]; omega
      | false =>
        have O2 := O1.on hbw
        obtain ⟨c0, c1, c2, c3, c4, c5⟩ := id O2
        obtain ⟨a0, a1, a2, a3, a4, a5⟩ := hA.on (bchain B1 hbw)
        by_cases hl : Tx.dlt t.d x.d
        · rw [fin_here hl] at HS0
          have HS' : Hid ((acc ++ [(t, Value.slice oa om oc)] ++ [(x, Value.slice xa xn xc)]) ++ fin (t, .slice oa om oc) true (xs.drop (k + 1)) = fin (t, .slice oa om oc) false xs) := by
            have h : (acc ++ [(t, Value.slice oa om oc)] ++ [(x, Value.slice xa xn xc)]) ++ fin (t, .slice oa om oc) true (xs.drop (k + 1)) = fin (t, .slice oa om oc) false xs := by rw [← HS0]; simp
            exact h
          have hz' := hz.2 hl
          clear HS0 hz hl
          generalize Dt.comp t.d.1 t.d.2 x.d.1 x.d.2 = z at *
          go_wp2
          go_region_held3 (fun W => W.cell? ⟨w.heap.size, 0, none⟩ = some (.int .i64 t.d.1) ∧ W.cell? ⟨w.heap.size, 1, none⟩ = some (.int .i64 t.d.2) ∧ W.cell? (ad.add (k * 6)) = some (.int .i64 x.d.1) ∧ W.cell? ⟨(ad.add (k * 6)).block, (ad.add (k * 6)).off + 1, none⟩ = some (.int .i64 x.d.2) ∧ Below wr.heap.size wr W)
            (first | exact ⟨c0, c1, a0, a1, (Below.refl _ _).drew⟩ | go_keep | (refine ⟨keep_cell hb ?_, keep_cell hb ?_, keep_cell hb ?_, keep_cell hb ?_, bchain ?_ hb⟩ <;> go_keep))
            (first | (go_at_call 34; refine (C34 _).mono ?_; rintro e w2 ⟨rfl, hb⟩))
          have hbx : Below wr.heap.size wr w2 := bchain (Below.refl _ _).drew hb
          have hb2 := bchain hbw hbx
          clear c0 c1 c2 c3 c4 c5 a0 a1 a2 a3 a4 a5
          obtain ⟨c0, c1, c2, c3, c4, c5⟩ := O1.on hb2
          have hk1 := below_new w2 (txO t (.slice oa om oc))
          have own1 := own_on (own_on hown hbx) hk1
          have hb3 := bchain hb2 hk1
          have hsz1 : w1.heap.size ≤ (w2.alloc (txO t (.slice oa om oc))).heap.size := hb3.size
          have hne := newE w2 t oa om oc (HO.out.on (bchain B1 hb2))
          have hrm : acc.length + [(t, Value.slice oa om oc)].length ≤ 1000000 := by simp; omega
          have hrm2 : (acc ++ [(t, Value.slice oa om oc)]).length + [(x, Value.slice xa xn xc)].length ≤ 1000000 := by simp; omega
          have hlen3 : (acc ++ [(t, Value.slice oa om oc)] ++ [(x, Value.slice xa xn xc)]).length ≤ 2 * (k + 1) := by simp; omega
          have HB3 : Hid (Below w1.heap.size w1 (w2.alloc (txO t (.slice oa om oc)))) := hb3
          have HNE : Hid (∀ (W : World) (y : Tx.Txn) (ya : Option Addr) (yn yc : Nat), opsIn W (.slice ya yn yc) y.ops → txsE (W.alloc (txO y (.slice ya yn yc))) (.slice (some ⟨W.heap.size, 0, none⟩) 1 1) [(y, .slice ya yn yc)]) := newE
          clear hown hk1 hb3 newE hb2 hbx hb C34
          go_wp2_with (at_builtin; first
            | (refine append_any rfl _ _ rfl w1.heap.size hsz1 _ acc rfl own1 _ [(t, Value.slice oa om oc)] rfl hne hrm ?_; intro r1 w3 own3 hg3; have hB3 := HB3.out.trans hg3; obtain ⟨a0, a1, a2, a3, a4, a5⟩ := hA.on (bchain B1 hB3); have hk4 := below_new w3 (txO x (.slice xa xn xc)); have own4 := own_on own3 hk4; have hb4 := bchain hB3 hk4; have hsz4 := hb4.size; have hne4 := HNE.out w3 x xa xn xc (hix _ (bchain B1 hB3)); have HB4 : Hid (Below w1.heap.size w1 (w3.alloc (txO x (.slice xa xn xc)))) := hb4; clear hB3 hk4 hb4)
            | (refine append_any rfl _ _ rfl w1.heap.size hsz4 _ (acc ++ [(t, Value.slice oa om oc)]) rfl own4 _ [(x, Value.slice xa xn xc)] rfl hne4 hrm2 ?_; intro r5 w5 own5 hg5))
          go_roundw
          case rel => exact ⟨k + 1, acc ++ [(t, .slice oa om oc)] ++ [(x, .slice xa xn xc)], true, by omega, by go_num, rfl, HS', hlen3, own5, HB4.out.trans hg5⟩
          case measure => simp [intOf]; omega
        · rw [fin_on (fun q => hl q.2)] at HS0
          have HS' : Hid ((acc ++ [(x, Value.slice xa xn xc)]) ++ fin (t, .slice oa om oc) false (xs.drop (k + 1)) = fin (t, .slice oa om oc) false xs) := by
            have h : (acc ++ [(x, Value.slice xa xn xc)]) ++ fin (t, .slice oa om oc) false (xs.drop (k + 1)) = fin (t, .slice oa om oc) false xs := by rw [← HS0]; simp
            exact h
          have hz' : ¬ Dt.comp t.d.1 t.d.2 x.d.1 x.d.2 < 0 := fun q => hl (hz.1 q)
          clear HS0 hz hl
          generalize Dt.comp t.d.1 t.d.2 x.d.1 x.d.2 = z at *
          go_wp2
          go_region_held3 (fun W => W.cell? ⟨w.heap.size, 0, none⟩ = some (.int .i64 t.d.1) ∧ W.cell? ⟨w.heap.size, 1, none⟩ = some (.int .i64 t.d.2) ∧ W.cell? (ad.add (k * 6)) = some (.int .i64 x.d.1) ∧ W.cell? ⟨(ad.add (k * 6)).block, (ad.add (k * 6)).off + 1, none⟩ = some (.int .i64 x.d.2) ∧ Below wr.heap.size wr W)
            (first | exact ⟨c0, c1, a0, a1, (Below.refl _ _).drew⟩ | go_keep | (refine ⟨keep_cell hb ?_, keep_cell hb ?_, keep_cell hb ?_, keep_cell hb ?_, bchain ?_ hb⟩ <;> go_keep))
            (first | (go_at_call 34; refine (C34 _).mono ?_; rintro e w2 ⟨rfl, hb⟩))
          have hbx : Below wr.heap.size wr w2 := bchain (Below.refl _ _).drew hb
          have hb2 := bchain hbw hbx
          clear c0 c1 c2 c3 c4 c5 a0 a1 a2 a3 a4 a5
          obtain ⟨a0, a1, a2, a3, a4, a5⟩ := hA.on (bchain B1 hb2)
          have hk1 := below_new w2 (txO x (.slice xa xn xc))
          have own1 := own_on (own_on hown hbx) hk1
          have hb3 := bchain hb2 hk1
          have hsz1 : w1.heap.size ≤ (w2.alloc (txO x (.slice xa xn xc))).heap.size := hb3.size
          have hne := newE w2 x xa xn xc (hix _ (bchain B1 hb2))
          have hrm : acc.length + [(x, Value.slice xa xn xc)].length ≤ 1000000 := by simp; omega
          have HB3 : Hid (Below w1.heap.size w1 (w2.alloc (txO x (.slice xa xn xc)))) := hb3
          clear hown hk1 hb3 newE hb2 hbx hb C34
          go_wp2_with (at_builtin; refine append_any rfl _ _ rfl w1.heap.size hsz1 _ acc rfl own1 _ [(x, Value.slice xa xn xc)] rfl hne hrm ?_; intro r1 w3 own3 hg3)
          go_roundw
          case rel => exact ⟨k + 1, acc ++ [(x, .slice xa xn xc)], false, by omega, by go_num, rfl, HS', hlen2, own3, HB3.out.trans hg3⟩
          case measure => simp [intOf]; omega
    · obtain rfl : k = m := by omega
      have HS0 := HS.out
      rw [List.drop_of_length_le (by have := HM.out; omega)] at HS0
      have HI2 := HI.out
      have HF2 := HF.out
      rw [← HS0] at HI2 HF2
      clear HS HS0 HI HF
      cases b with
      | true =>
        simp only [fin, if_true, List.append_nil] at HI2 HF2
        have HFF : Hid (List.map (·.1) acc = Tx.put l t) := HF2
        clear HF2
        go_wp2
        go_ret
        exact ⟨_, rfl, by rw [← HFF.out]; exact txsE_own hown (HI2 _ (bchain B1 hbw)), bchain B1 hbw⟩
      | false =>
        have HFF : Hid (List.map (·.1) (acc ++ [(t, Value.slice oa om oc)]) = Tx.put l t) := by
          simp only [fin, Bool.false_eq_true, if_false] at HF2
          exact HF2
        have HII : Hid (∀ W, Below w.heap.size w W → ∀ x ∈ acc ++ [(t, Value.slice oa om oc)], opsIn W x.2 x.1.ops) := by
          simp only [fin, Bool.false_eq_true, if_false] at HI2
          exact HI2
        obtain ⟨c0, c1, c2, c3, c4, c5⟩ := O1.on hbw
        have hk1 := below_new wr (txO t (.slice oa om oc))
        have own1 := own_on hown hk1
        have hb3 := bchain hbw hk1
        have hsz1 : w1.heap.size ≤ (wr.alloc (txO t (.slice oa om oc))).heap.size := hb3.size
        have hne := newE wr t oa om oc (HO.out.on (bchain B1 hbw))
        have hrm : acc.length + [(t, Value.slice oa om oc)].length ≤ 1000000 := by simp; omega
        have HB3 : Hid (Below w1.heap.size w1 (wr.alloc (txO t (.slice oa om oc)))) := hb3
        clear HF2 HI2 hk1 hb3 hown newE
        go_wp2_with (at_builtin; refine append_any rfl _ _ rfl w1.heap.size hsz1 _ acc rfl own1 _ [(t, Value.slice oa om oc)] rfl hne hrm ?_; intro r1 w3 own3 hg3)
        go_ret
        exact ⟨_, rfl, by rw [← HFF.out]; exact txsE_own own3 (HII.out _ (bchain B1 (HB3.out.trans hg3))), bchain B1 (HB3.out.trans hg3)⟩
end Go.Proofs.Ytghkjbekjkejpaa.O
