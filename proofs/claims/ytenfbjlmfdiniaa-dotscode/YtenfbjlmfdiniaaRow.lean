/- Slices of dots: how one lies in memory; the document's Same. -/
import Derived.Test.YtenfbjlmfdiniaaComp
import Derived.Test.YtenfbjlmfdiniaaCount
import Derived.Test.YtenfbjlmfdiniaaReader
import Derived.Laws.AppendOwn
namespace Go.Proofs.Ytenfbjlmfdiniaa
open Go.RowKit

/-- A dot as two numbers. -/
abbrev D := Int × Int
abbrev dV (d : D) : Value := .agg #[.int .i64 d.1, .int .i64 d.2]
/-- Two dots, held against one another whole. -/
theorem equal_dot (w : World) (x y : D) : (Op.equalIn 10000 28 (dV x) (dV y)).run Try.prog w = .ok (decide (x = y)) w := by
  obtain ⟨a, b⟩ := x
  obtain ⟨a', b'⟩ := y
  have u3 := Try.underlying3
  have a3 := Try.isAgg3
  have z3 := Try.sizeOf3
  have hS : Try.prog.underlying 28 = some (.struct (Try.prog.fieldsOf 28)) := by kernel_rfl
  have hp : Try.prog.stoodInHeld 28 = false := by kernel_rfl
  rw [show (10000 : Nat) = 9999 + 1 from rfl, run_equalIn_agg w 9999 28 _ _ hS hp]
  simp only [Program.fieldsOf, Try.underlying28]
  go_simp
  by_cases h1 : a = a' <;> by_cases h2 : b = b' <;> simp [h1, h2]
theorem eql_dot (x y : D) (w : World) : (binOp .eql 28 (dV x) (dV y)).run Try.prog w = .ok (.bool (decide (x = y))) w := by
  rw [run_eql_struct, equal_dot w x y]
  rfl
theorem neq_dot (x y : D) (w : World) : (binOp .neq 28 (dV x) (dV y)).run Try.prog w = .ok (.bool (!decide (x = y))) w := by
  rw [run_neq_struct, equal_dot w x y]
  rfl

/-- A slice reads as these dots. -/
def dotsIn (w : World) (v : Value) (ds : List D) : Prop :=
  ∃ ao cap, v = .slice ao ds.length cap ∧ (ao = none → cap = 0) ∧ ∀ k (h : k < ds.length), ∃ ad, ao = some ad ∧ w.cell? (ad.add (k * 2)) = some (.int .i64 (ds[k]).1) ∧ w.cell? ⟨(ad.add (k * 2)).block, (ad.add (k * 2)).off + 1, none⟩ = some (.int .i64 (ds[k]).2)
theorem dotsIn_nil (w : World) : dotsIn w (.slice none 0 0) [] := ⟨none, 0, rfl, fun _ => rfl, fun k h => by simp at h⟩
theorem dotsIn_none (w : World) (a : Addr) (cap : Nat) : dotsIn w (.slice (some a) 0 cap) [] := ⟨some a, cap, rfl, fun h => by simp at h, fun k h => by simp at h⟩
theorem dotsIn.below {w w' : World} {B : Nat} {v : Value} {ds : List D} (h : dotsIn w v ds) (hb : Below B w w') (hB : w.heap.size ≤ B) : dotsIn w' v ds := by
  obtain ⟨ao, cap, hv, h0, hc⟩ := h
  refine ⟨ao, cap, hv, h0, fun k hk => ?_⟩
  obtain ⟨ad, h1, h2, h3⟩ := hc k hk
  exact ⟨ad, h1, (hb.cell (Nat.lt_of_lt_of_le (World.block_lt_of_cell? _ _ h2) hB)).trans h2, (hb.cell (Nat.lt_of_lt_of_le (World.block_lt_of_cell? _ _ h3) hB)).trans h3⟩
/-- Dots as cells. -/
def dcells (ds : List D) : List Value := ds.flatMap fun d => [.int .i64 d.1, .int .i64 d.2]
theorem dcells_nil : dcells [] = [] := rfl
theorem dcells_append (a b : List D) : dcells (a ++ b) = dcells a ++ dcells b := by simp [dcells]
theorem dcells_length : ∀ ds : List D, (dcells ds).length = ds.length * 2
  | [] => rfl
  | d :: ds => by have := dcells_length ds; simp [dcells] at *; omega
theorem dcells_at : ∀ (ds : List D) (k : Nat) (h : k < ds.length), (dcells ds)[k * 2]? = some (.int .i64 (ds[k]).1) ∧ (dcells ds)[k * 2 + 1]? = some (.int .i64 (ds[k]).2)
  | d :: ds, 0, _ => by simp [dcells]
  | d :: ds, k + 1, h => by
    have := dcells_at ds k (by simpa using h)
    have e : dcells (d :: ds) = .int .i64 d.1 :: .int .i64 d.2 :: dcells ds := rfl
    rw [e, show (k + 1) * 2 = k * 2 + 1 + 1 by omega]
    simpa using this
theorem dcells_one (ds : List D) : ∀ u ∈ dcells ds, u.oneCell' = true := by
  intro u hu
  simp only [dcells, List.mem_flatMap, List.mem_cons, List.not_mem_nil, or_false] at hu
  obtain ⟨d, _, rfl | rfl⟩ := hu <;> rfl
/-- What is at place j. -/
theorem dcells_get (ds : List D) (j : Nat) (u : Value) (h : (dcells ds)[j]? = some u) : ∃ k, ∃ hk : k < ds.length, (j = k * 2 ∧ u = .int .i64 (ds[k]).1) ∨ (j = k * 2 + 1 ∧ u = .int .i64 (ds[k]).2) := by
  have hj : j < (dcells ds).length := (List.getElem?_eq_some_iff.1 h).1
  rw [dcells_length] at hj
  refine ⟨j / 2, by omega, ?_⟩
  have hd := dcells_at ds (j / 2) (by omega)
  rcases Nat.mod_two_eq_zero_or_one j with e | e
  · left
    have hj2 : j = j / 2 * 2 := by omega
    refine ⟨hj2, ?_⟩
    rw [← hj2, h] at hd
    exact Option.some.inj hd.1
  · right
    have hj2 : j = j / 2 * 2 + 1 := by omega
    refine ⟨hj2, ?_⟩
    rw [← hj2, h] at hd
    exact Option.some.inj hd.2
theorem add_two (ad : Addr) (k : Nat) : ad.add (k * 2 + 1) = ⟨(ad.add (k * 2)).block, (ad.add (k * 2)).off + 1, none⟩ := by
  unfold Addr.add
  by_cases h : k = 0
  · subst h; simp
  · have : ¬ k * 2 = 0 := by omega
    rw [if_neg (by omega), if_neg this]
    simp; omega
theorem dotsIn.cells {w : World} {ad : Addr} {n cap : Nat} {ds : List D} (h : dotsIn w (.slice (some ad) n cap) ds) : ∀ j u, (dcells ds)[j]? = some u → w.cell? (ad.add j) = some u := by
  obtain ⟨ao, c, hv, _, hc⟩ := h
  intro j u hu
  cases hv
  obtain ⟨k, hk, ⟨rfl, rfl⟩ | ⟨rfl, rfl⟩⟩ := dcells_get ds j u hu
  · obtain ⟨ad', e, h0, h1⟩ := hc k hk
    cases e
    exact h0
  · obtain ⟨ad', e, h0, h1⟩ := hc k hk
    cases e
    rw [add_two]
    exact h1
theorem dotsIn.len {w : World} {ao : Option Addr} {n cap : Nat} {ds : List D} (h : dotsIn w (.slice ao n cap) ds) : n = ds.length := by
  obtain ⟨_, _, e, _⟩ := h
  cases e
  rfl
theorem dotsIn_of {w : World} {ad : Addr} {cap : Nat} {ds : List D} (h : ∀ j u, (dcells ds)[j]? = some u → w.cell? (ad.add j) = some u) : dotsIn w (.slice (some ad) ds.length cap) ds := by
  refine ⟨some ad, cap, rfl, fun e => by simp at e, fun k hk => ⟨ad, rfl, ?_, ?_⟩⟩
  · exact h _ _ (dcells_at ds k hk).1
  · rw [← add_two]
    exact h _ _ (dcells_at ds k hk).2
theorem dotsIn_own {w : World} {B : Nat} {v : Value} {ds : List D} (h : w.ownsRow B 28 2 v ds.length (dcells ds)) : dotsIn w v ds := by
  rcases h.2 with ⟨rfl, h0⟩ | ⟨g, cap, cur, rfl, r⟩
  · obtain rfl : ds = [] := List.eq_nil_of_length_eq_zero h0
    exact dotsIn_nil w
  · exact dotsIn_of (h.cells rfl)
theorem dotsIn.on {w w' : World} {v : Value} {ds : List D} (h : dotsIn w v ds) (hb : Below w.heap.size w w') : dotsIn w' v ds := h.below hb (Nat.le_refl _)

/-- So many of the dots are the same. -/
def sameTo (xs ys : List D) (k : Nat) : Prop := xs.take k = ys.take k
theorem sameTo_zero (xs ys : List D) : sameTo xs ys 0 := by simp [sameTo]
theorem sameTo_step {xs ys : List D} {k : Nat} (h : sameTo xs ys k) (h1 : k < xs.length) (h2 : k < ys.length) (he : xs[k] = ys[k]) : sameTo xs ys (k + 1) := by
  unfold sameTo at h ⊢
  rw [List.take_succ_eq_append_getElem h1, List.take_succ_eq_append_getElem h2, h, he]
theorem same_not {xs ys : List D} {k : Nat} (h1 : k < xs.length) (h2 : k < ys.length) (he : ¬ xs[k] = ys[k]) : decide (xs = ys) = false := by
  apply decide_eq_false
  intro e
  subst e
  exact he rfl
theorem same_all {xs ys : List D} {k : Nat} (h : sameTo xs ys k) (h1 : ¬ k < xs.length) (hl : xs.length = ys.length) : decide (xs = ys) = true := by
  apply decide_eq_true
  unfold sameTo at h
  rwa [List.take_of_length_le (by omega), List.take_of_length_le (by omega)] at h
theorem ret_bool {a b : Bool} (h : a = b) : (Ending.returned (.bool a)) = .returned (.bool b) := by rw [h]

set_option maxRecDepth 20000 in
set_option maxHeartbeats 2000000 in
theorem refSame_any (va vb : Value) (xs ys : List D) (w : World) (hx : xs.length ≤ 1000000) (ha : dotsIn w va xs) (hb : dotsIn w vb ys) :
    Calls Try.prog 41 #[va, vb] w fun e w' => e = .returned (.bool (decide (xs = ys))) ∧ Below w.heap.size w w' := by
  obtain ⟨ao, ca, rfl, _, hca⟩ := ha
  obtain ⟨bo, cb, rfl, _, hcb⟩ := hb
  by_cases hl : xs.length = ys.length
  · go_enter Try.func41, Try.ntmps41
    go_wp2
    go_loopw [5] (fun i wr => ∃ k : Nat, k ≤ xs.length ∧ i = .int .i64 k ∧ sameTo xs ys k ∧ wr.heap = w.heap ∧ Below w.heap.size w wr) (fun i _ => xs.length - (intOf i).toNat)
    case atStart => exact ⟨0, by omega, rfl, sameTo_zero _ _, rfl, Below.refl _ w⟩
    case round =>
      obtain ⟨k, hk, rfl, hS, hheap, hbw⟩ := hrel
      by_cases hlt : k < xs.length
      · have hlt2 : k < ys.length := by omega
        obtain ⟨ad, rfl, hA⟩ := hca k hlt
        obtain ⟨bd, rfl, hB⟩ := hcb k hlt2
        have hA2 : wr.cell? (ad.add (k * 2)) = some (.int .i64 (xs[k]).1) := (World.cell?_of_block (by rw [hheap])).trans hA.1
        have hA3 : wr.cell? ⟨(ad.add (k * 2)).block, (ad.add (k * 2)).off + 1, none⟩ = some (.int .i64 (xs[k]).2) := (World.cell?_of_block (by rw [hheap])).trans hA.2
        have hB2 : wr.cell? (bd.add (k * 2)) = some (.int .i64 (ys[k]).1) := (World.cell?_of_block (by rw [hheap])).trans hB.1
        have hB3 : wr.cell? ⟨(bd.add (k * 2)).block, (bd.add (k * 2)).off + 1, none⟩ = some (.int .i64 (ys[k]).2) := (World.cell?_of_block (by rw [hheap])).trans hB.2
        clear hca hcb hA hB
        have hE := neq_dot xs[k] ys[k]
        by_cases he : xs[k] = ys[k]
        · have HS := sameTo_step hS hlt hlt2 he
          simp only [he, decide_true, Bool.not_true] at hE
          rw [he] at hA2 hA3
          generalize ys[k] = x at *
          go_wp2
          go_region
          all_goals
            go_wp2
            go_roundw
            case rel => exact ⟨k + 1, by omega, by go_num, HS, hheap, hbw.drew⟩
            case measure => simp [intOf]; omega
        · have HL : Hid (decide (xs = ys) = false) := by
            have h := same_not hlt hlt2 he
            exact h
          simp only [he, decide_false, Bool.not_false] at hE
          generalize xs[k] = x at *
          generalize ys[k] = y at *
          go_wp2
          go_region
          all_goals
            go_wp2
            go_ret
            exact ⟨ret_bool HL.out.symm, hbw.drew⟩
      · have HL : Hid (decide (xs = ys) = true) := by
          have h := same_all hS hlt hl
          exact h
        go_wp2
        go_ret
        exact ⟨ret_bool HL.out.symm, hbw⟩
  · have HL : Hid (decide (xs = ys) = false) := by
      have h : decide (xs = ys) = false := decide_eq_false (fun e => hl (by rw [e]))
      exact h
    clear hca hcb
    go_enter Try.func41, Try.ntmps41
    go_wp2
    go_ret
    exact ⟨ret_bool HL.out.symm, Below.refl _ w⟩
end Go.Proofs.Ytenfbjlmfdiniaa
