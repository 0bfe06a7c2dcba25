/- The chapter's example: two Puts that do not cover each other. -/
import Derived.Test.YtmnjeffpfmfbiaaVLatestAll
import Derived.Test.YtmnjeffpfmfbiaaGoodsAll
namespace Go.Proofs.Ytmnjeffpfmfbiaa.O
open Go.RowKit

abbrev exTs : List Tx.Txn := [gT (0, 1) 1 [[97]] (1, 2, []) [], gT (1, 1) 1 [[97]] (1, 1, []) []]
abbrev exIts : List Lv.Item := [⟨((0, 1), 0), gO [[97]] (1, 2, []) [], 1⟩, ⟨((1, 1), 0), gO [[97]] (1, 1, []) [], 1⟩]
theorem ex_all : Lv.all exTs (seenD []) = exIts := by rfl
theorem ex_few : Few13 exTs := fun t ht => by
  simp only [exTs, List.mem_cons, List.not_mem_nil, or_false] at ht
  rcases ht with rfl | rfl
  · exact ⟨by decide, fun o ho => by rw [List.mem_singleton.1 ho]; exact ⟨by decide, fun x hx => by simp at hx⟩⟩
  · exact ⟨by decide, fun o ho => by rw [List.mem_singleton.1 ho]; exact ⟨by decide, fun x hx => by simp at hx⟩⟩
theorem ex_dots : ∀ t ∈ exTs, (Lit.int .i64 t.d.1).wf = true ∧ (Lit.int .i64 t.d.2).wf = true := fun t ht => by
  simp only [exTs, List.mem_cons, List.not_mem_nil, or_false] at ht
  rcases ht with rfl | rfl <;> exact ⟨by decide, by decide⟩
theorem ex_vals : regV exIts [[97]] = [(1, 1, []), (1, 2, [])] := by decide +kernel
theorem ex_last : regL exIts [[97]] = (1, 1, []) := by decide +kernel
theorem ex_some : regB exIts [[97]] = true := by decide +kernel
theorem ex_short {xs : List IE} (h : xs.map (·.1) = exIts) : ShortI xs := fun x hx => by
  have hm : x.1 ∈ exIts := by rw [← h]; exact List.mem_map.2 ⟨x, hx, rfl⟩
  simp only [exIts, List.mem_cons, List.not_mem_nil, or_false] at hm
  rcases hm with e | e <;> rw [e] <;> decide +kernel
theorem vals_two (w : World) (a b : Rg.Va) : valsIn (w.alloc (.cells #[.int .i64 a.1, .int .i64 a.2.1, .string ⟨a.2.2.toArray⟩, .int .i64 b.1, .int .i64 b.2.1, .string ⟨b.2.2.toArray⟩] 33)) (.slice (some ⟨w.heap.size, 0, none⟩) 2 2) [a, b] := by
  refine ⟨_, 2, rfl, Nat.le_refl _, fun e => by simp at e, fun j u hu => ⟨_, rfl, ?_⟩⟩
  rw [zero_add9, cell_of_row _ w.heap.size j _ 33 (0, 0) (heap_alloc_new w _)]
  simpa [vcell] using hu
/-- What the example's items are told as, whatever was laid since. -/
structure ExC (w : World) (r vp : Value) : Prop where
  vals : ∀ W, Below w.heap.size w W → Calls Try.prog 14 #[r, vp] W fun e w' => ∃ q, e = .returned q ∧ valsIn w' q [(1, 1, []), (1, 2, [])] ∧ Below W.heap.size W w'
  last : ∀ W, Below w.heap.size w W → Calls Try.prog 10 #[r, vp] W fun e w' => e = .returned (.tuple #[.agg #[.int .i64 1, .int .i64 1, .string ⟨#[]⟩], .bool true]) ∧ Below W.heap.size W w'
  conf : ∀ W, Below w.heap.size w W → Calls Try.prog 15 #[r, vp] W fun e w' => e = .returned (.bool true) ∧ Below W.heap.size W w'

set_option maxRecDepth 20000 in
set_option maxHeartbeats 4000000 in
theorem awake_any (w : World) : Calls Try.prog 7 #[] w fun e w' => e = .returned (.bool true) ∧ Below w.heap.size w w' := by
  have hp := strs_one w [97]
  have b0 := below_new w (.cells #[.string ⟨#[97]⟩] 9)
  obtain ⟨W0, hW0⟩ : ∃ W0, W0 = w.alloc (.cells #[.string ⟨#[97]⟩] 9) := ⟨_, rfl⟩
  rw [show w.alloc (.cells #[.string ⟨[(97 : UInt8)].toArray⟩] 9) = W0 from hW0.symm] at hp
  rw [← hW0] at b0
  have HP : Hid (∀ W, Below W0.heap.size W0 W → U.strsAt W (.slice (some ⟨w.heap.size, 0, none⟩) 1 1) [[97]]) := by
    have h := fun W (hb : Below W0.heap.size W0 W) => U.strsAt_below hp hb (Nat.le_refl _)
    exact h
  have HA : ∀ v W, Below W0.heap.size W0 W → txsIn W v exTs → Calls Try.prog 8 #[v, .slice none 0 0] W fun e w' => (∃ r, e = .returned r ∧ Hid (ExC w' r (.slice (some ⟨w.heap.size, 0, none⟩) 1 1))) ∧ Below W.heap.size W w' := fun v W hW hv =>
    (all_any v (.slice none 0 0) exTs [] W hv (T.cntsIn_nil W) (by decide) ex_few ex_dots (by simp) Ct.std_nil).mono fun e w' ⟨r, xs, e1, h1, h2, h3⟩ => by
      rw [ex_all] at h2
      have hn : xs.length ≤ 1000000 := by have := congrArg List.length h2; simp at this; omega
      have hs := ex_short h2
      have hE : ExC w' r (.slice (some ⟨w.heap.size, 0, none⟩) 1 1) := by
        refine ⟨fun W' hb => ?_, fun W' hb => ?_, fun W' hb => ?_⟩
        · have h := values_its (h1.on hb) h2 (HP.out W' (bchain hW (bchain h3 hb))) hn hs
          rw [ex_vals] at h
          exact h
        · have h := latest_its (h1.on hb) h2 (HP.out W' (bchain hW (bchain h3 hb))) hn hs
          rw [ex_last, ex_some] at h
          exact h
        · have h := conflict_its (h1.on hb) h2 (HP.out W' (bchain hW (bchain h3 hb))) hn hs
          rw [ex_vals] at h
          exact h
      exact ⟨⟨r, e1, hE⟩, h3⟩
  clear hp
  have HPu := fun d x W (hb : Below W0.heap.size W0 W) => put14_any d 1 (some ⟨w.heap.size, 0, none⟩) 1 1 [[97]] x none 0 0 [] W (HP.out W hb) (refsIn_nil _)
  go_enter Try.func7, Try.ntmps7
  go_wp2_with (first
    | (go_at_call 10; refine (HX.out.last _ (Below.refl _ _)).mono ?_; rintro e w6 ⟨rfl, hb6⟩)
    | (go_at_call 8; refine (HA _ _ (bchain k4 (below_new _ _)) (txs_two w4 (gT (0, 1) 1 [[97]] (1, 2, []) []) (gT (1, 1) 1 [[97]] (1, 1, []) []) _ _ (ho2.on (bchain hb3 hb4)) ho4)).mono ?_; rintro e w5 ⟨⟨r, rfl, HX⟩, hb5⟩; have k5 := bchain k4 (bchain (below_new _ _) hb5))
    | (go_at_call 17; refine (HPu (1, 1) (1, 1, []) _ k3).mono ?_; rintro e w4 ⟨ao4, c4, rfl, ho4, hb4⟩; have k4 := bchain k3 hb4)
    | (go_at_call 21; refine (num_any _ _).mono ?_; rintro e w3 ⟨rfl, hb3⟩; have k3 := bchain k2 hb3)
    | (go_at_call 17; refine (HPu (0, 1) (1, 2, []) _ k1).mono ?_; rintro e w2 ⟨ao2, c2, rfl, ho2, hb2⟩; have k2 := bchain k1 hb2)
    | (go_at_call 21; rw [← hW0]; refine (num_any _ _).mono ?_; rintro e w1 ⟨rfl, hb1⟩; have k1 := hb1))
  have K0 : Below w5.heap.size w5 (w6.alloc (vO (1, 1, []))).drew := (bchain hb6 (below_new w6 (vO (1, 1, [])))).drew
  have kW := bchain k5 K0
  have v0 : (w6.alloc (vO (1, 1, []))).cell? ⟨w6.heap.size, 0, none⟩ = some (.int .i64 1) := by simp
  have v1 : (w6.alloc (vO (1, 1, []))).cell? ⟨w6.heap.size, 1, none⟩ = some (.int .i64 1) := by simp
  have v2 : (w6.alloc (vO (1, 1, []))).cell? ⟨w6.heap.size, 2, none⟩ = some (.string ⟨#[]⟩) := by simp
  go_region_held3 (fun w' => w'.cell? ⟨w6.heap.size, 0, none⟩ = some (.int .i64 1) ∧ w'.cell? ⟨w6.heap.size, 1, none⟩ = some (.int .i64 1) ∧ w'.cell? ⟨w6.heap.size, 2, none⟩ = some (.string ⟨#[]⟩))
    (first | go_keep | (refine ⟨keep_cell hb ?_, keep_cell hb ?_, keep_cell hb ?_⟩ <;> go_keep))
    (first
      | (go_at_call 15; refine (HX.out.conf _ KB).mono ?_; rintro e wC ⟨rfl, hb⟩; have KC := bchain KB hb)
      | (go_at_call 21; refine (num_any _ _).mono ?_; rintro e wB ⟨rfl, hb⟩; have KB := bchain KA hb)
      | (go_at_call 13; refine (sameV_any _ _ [(1, 1, []), (1, 2, [])] _ (hq.on (bchain h8 (bchain h9 (below_new _ _)))) (vals_two w9 (1, 1, []) (1, 2, [])) (by decide)).mono ?_; rintro e wA ⟨rfl, hb⟩; have KA := bchain K9 (bchain (below_new _ _) hb))
      | (go_at_call 21; refine (num_any _ _).mono ?_; rintro e w9 ⟨rfl, hb⟩; have h9 := hb; have K9 := bchain K8 hb)
      | (go_at_call 21; refine (num_any _ _).mono ?_; rintro e w8 ⟨rfl, hb⟩; have h8 := hb; have K8 := bchain K7 hb)
      | (go_at_call 14; refine (HX.out.vals _ K0).mono ?_; rintro e w7 ⟨q, rfl, hq, hb⟩; have K7 := bchain K0 hb))
  go_wp2
  go_ret
  exact ⟨rfl, bchain b0 (bchain k5 KC)⟩
end Go.Proofs.Ytmnjeffpfmfbiaa.O
