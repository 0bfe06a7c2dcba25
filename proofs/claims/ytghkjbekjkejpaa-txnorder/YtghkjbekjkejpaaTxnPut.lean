/- The walks of Put of transactions, both sides, and of the document's Find. -/
import Derived.Test.YtghkjbekjkejpaaTxnCat
import Derived.Test.YtghkjbekjkejpaaTxnComp
namespace Go.Proofs.Ytghkjbekjkejpaa.O
open Go.RowKit

/-- Three slices, of which one holds one transaction, made into one: at the world in which they were laid. -/
theorem cat_at (W : World) (t : Tx.Txn) (oa : Option Addr) (om oc : Nat) (V1 V2 : Value) (xs1 xs2 : List TE) (h1 : txsE W V1 xs1) (h2 : txsE W V2 xs2) (h3 : opsIn W (.slice oa om oc) t.ops) (hn : xs1.length + xs2.length ≤ 200000) :
    Calls Try.prog 48 #[.slice (some ⟨W.heap.size + 1, 0, none⟩) 3 3] ((W.alloc (txO t (.slice oa om oc))).alloc (.cells #[V1, .slice (some ⟨W.heap.size, 0, none⟩) 1 1, V2] 35)).drew
      fun e w' => ∃ r, e = .returned r ∧ txsIn w' r (xs1.map (·.1) ++ t :: xs2.map (·.1)) ∧ Below W.heap.size W w' := by
  have k1 := below_new W (txO t (.slice oa om oc))
  have k2 := below_new2 W (txO t (.slice oa om oc)) (.cells #[V1, .slice (some ⟨W.heap.size, 0, none⟩) 1 1, V2] 35)
  have k3 := k2.drew
  have e1 : (W.alloc (txO t (.slice oa om oc))).heap.size = W.heap.size + 1 := by simp
  have hE : txsE (W.alloc (txO t (.slice oa om oc))) (.slice (some ⟨W.heap.size, 0, none⟩) 1 1) [(t, .slice oa om oc)] :=
    ⟨_, 1, rfl, Nat.le_refl _, fun e => by simp at e, fun j u hu => ⟨_, rfl, new_tx W (t, .slice oa om oc) j u hu⟩, fun x hx => by rw [List.mem_singleton.1 hx]; exact h3.on k1⟩
  have k4 : Below (W.alloc (txO t (.slice oa om oc))).heap.size (W.alloc (txO t (.slice oa om oc))) ((W.alloc (txO t (.slice oa om oc))).alloc (.cells #[V1, .slice (some ⟨W.heap.size, 0, none⟩) 1 1, V2] 35)).drew := (below_new _ _).drew
  have hl : listsIn ((W.alloc (txO t (.slice oa om oc))).alloc (.cells #[V1, .slice (some ⟨W.heap.size, 0, none⟩) 1 1, V2] 35)).drew (.slice (some ⟨W.heap.size + 1, 0, none⟩) 3 3) [V1, .slice (some ⟨W.heap.size, 0, none⟩) 1 1, V2] := by
    refine ⟨W.heap.size + 1, 3, rfl, fun k hk => ?_⟩
    rw [← e1]
    generalize W.alloc (txO t (.slice oa om oc)) = X
    match k, hk with
    | 0, _ => simp
    | 1, _ => simp
    | 2, _ => simp
    | k + 3, h => exact absurd h (by simp)
  have hd : txsAll ((W.alloc (txO t (.slice oa om oc))).alloc (.cells #[V1, .slice (some ⟨W.heap.size, 0, none⟩) 1 1, V2] 35)).drew [V1, .slice (some ⟨W.heap.size, 0, none⟩) 1 1, V2] [xs1, [(t, .slice oa om oc)], xs2] := by
    refine ⟨rfl, fun k hk hk' => ?_⟩
    match k, hk, hk' with
    | 0, _, _ => exact h1.on k3
    | 1, _, _ => exact hE.on k4
    | 2, _, _ => exact h2.on k3
    | k + 3, h, _ => exact absurd h (by simp)
  refine (tconcat_any _ _ _ _ hl hd (by simp) (by simp; omega)).mono fun e w' ⟨r, he, hown, hb⟩ => ⟨r, he, ?_, bchain k3 hb⟩
  have h := txsE_own hown (fun x hx => ?_)
  · simpa using h
  · have hb' := bchain k3 hb
    simp only [List.flatten_cons, List.flatten_nil, List.append_nil, List.mem_append, List.mem_singleton] at hx
    rcases hx with hx | rfl | hx
    · obtain ⟨_, _, _, _, _, _, h⟩ := h1
      exact (h x hx).on hb'
    · exact h3.on hb'
    · obtain ⟨_, _, _, _, _, _, h⟩ := h2
      exact (h x hx).on hb'

set_option maxRecDepth 20000 in
set_option maxHeartbeats 4000000 in
theorem tput_any (v : Value) (l : List Tx.Txn) (t : Tx.Txn) (ov : Value) (w : World) (hv : txsIn w v l) (ho : opsIn w ov t.ops) (hn : l.length ≤ 100000) (hp : Tx.Rises l) :
    Calls Try.prog 19 #[v, txV t ov] w fun e w' => ∃ r, e = .returned r ∧ txsIn w' r (Tx.put l t) ∧ Below w.heap.size w w' := by
  obtain ⟨xs, hx, hE⟩ := txsE_of hv
  obtain ⟨oa, oc, rfl⟩ := ho.slice
  have HO : Hid (opsIn w (.slice oa t.ops.length oc) t.ops) := ho
  have B0 := below_new w (txO t (.slice oa t.ops.length oc))
  have O0 := TAt.new w t (.slice oa t.ops.length oc)
  have C46 := tplace_any v l t.d _ (hv.on B0) (by omega) hp
  have HE : Hid (txsE w v xs) := hE
  have HX : Hid (xs.map (·.1) = l) := hx
  have HP : Hid (Tx.Rises l) := hp
  have hxl : xs.length = l.length := by rw [← hx, List.length_map]
  obtain ⟨ao, cap, rfl, hmc, -⟩ := id hE
  obtain ⟨m, hm⟩ : ∃ m, m = xs.length := ⟨_, rfl⟩
  have HM : Hid (m = xs.length) := hm
  rw [← hm] at HE C46 hxl hmc ⊢
  obtain ⟨om, hom⟩ : ∃ om, om = t.ops.length := ⟨_, rfl⟩
  rw [← hom] at HO B0 O0 C46 ⊢
  have hm5 : m ≤ 100000 := by omega
  have HL : Hid (m = l.length) := hxl
  clear hv ho hE hx hp hm hn hom hxl
  obtain ⟨W0, hW0⟩ : ∃ W0, W0 = w.alloc (txO t (.slice oa om oc)) := ⟨_, rfl⟩
  rw [← hW0] at B0 O0 C46
  go_enter Try.func19, Try.ntmps19
  go_wp2_with fail
  rw [← hW0]
  clear hW0
  refine C46.mono ?_
  rintro e w1 ⟨i, b, rfl, hS, hb1⟩
  have B1 := bchain B0 hb1
  have O1 := O0.on hb1
  have hE1 := HE.out.on B1
  have ho1 := HO.out.on B1
  clear C46 O0 B0 hb1
  cases b with
  | true =>
    have HQ : Hid (Tx.put l t = xs.map (·.1)) := by have h := (hS.same HP.out).trans HX.out.symm; exact h
    have C47 := tclone_any _ xs w1 hE1 (by have := HM.out; omega)
    have hops : ∀ x ∈ xs, opsIn w1 x.2 x.1.ops := by
      obtain ⟨_, _, _, _, _, _, h⟩ := id hE1
      exact h
    clear hE1 ho1 O1 hS
    go_wp2_with (go_at_call 47; refine C47.mono ?_; rintro e w2 ⟨r, rfl, hown, hb2⟩)
    go_ret
    exact ⟨r, rfl, by rw [HQ.out]; exact txsE_own hown (fun x hx => (hops x hx).on hb2), bchain B1 hb2⟩
  | false =>
    have HQ := hS.put HP.out
    have hi := hS.1.2.1
    have him : i ≤ m := by have := HL.out; omega
    have h0 : (0 : Int) ≤ (i : Int) := by omega
    have h1 : (i : Int) ≤ (m : Int) := by omega
    have h2 : (i : Int) ≤ (cap : Int) := by omega
    have e1 := hE1.take him
    have e2 := hE1.drop him
    have HS1 : ∀ wx, (Instr.slice 35 (.slice ao m cap) none (some (.int .i64 (i : Int))) none).run Try.prog wx = .ok (.slice ao i cap) wx := fun wx => by go_simp
    have HS2 : ∀ wx, (Instr.slice 35 (.slice ao m cap) (some (.int .i64 (i : Int))) none none).run Try.prog wx = .ok (.slice (if cap = i then ao else ao.map (·.add (i * 6))) (m - i) (cap - i)) wx := fun wx => by go_simp
    obtain ⟨c0, c1, c2, c3, c4, c5⟩ := id O1
    have HPUT : Hid (Tx.put l t = (xs.take i).map (·.1) ++ t :: (xs.drop i).map (·.1)) := by
      have h : Tx.put l t = (xs.take i).map (·.1) ++ t :: (xs.drop i).map (·.1) := by rw [HQ, ← HX.out, List.map_take, List.map_drop]
      exact h
    generalize (if cap = i then ao else ao.map (·.add (i * 6))) = bo at *
    generalize hni : m - i = ni at *
    generalize hci : cap - i = ci at *
    clear hni hci
    have HC := cat_at w1 t oa om oc _ _ _ _ e1 e2 ho1 (by rw [List.length_take, List.length_drop]; have := HM.out; omega)
    clear e1 e2 hE1 ho1 HQ hS hi O1
    go_wp2
    go_region_held3 (fun W => W.cell? ⟨w.heap.size, 0, none⟩ = some (.int .i64 t.d.1) ∧ W.cell? ⟨w.heap.size, 1, none⟩ = some (.int .i64 t.d.2) ∧ W.cell? ⟨w.heap.size, 2, none⟩ = some (.int .i64 t.u) ∧ W.cell? ⟨w.heap.size, 3, none⟩ = some (.int .i64 t.t) ∧ W.cell? ⟨w.heap.size, 4, none⟩ = some (.bool t.thin) ∧ W.cell? ⟨w.heap.size, 5, none⟩ = some (.slice oa om oc))
      (first | exact ⟨c0, c1, c2, c3, c4, c5⟩ | exact ⟨keep_cell hb2 c0, keep_cell hb2 c1, keep_cell hb2 c2, keep_cell hb2 c3, keep_cell hb2 c4, keep_cell hb2 c5⟩ | go_keep)
      (first | (go_at_call 48; refine HC.mono ?_; rintro e w2 ⟨r, rfl, hr, hb2⟩))
    go_wp2
    go_ret
    exact ⟨r, rfl, by rw [HPUT.out]; exact hr, bchain B1 hb2⟩
end Go.Proofs.Ytghkjbekjkejpaa.O
