/- The walks of gapAhead and settle: a right set of a vector's dots and of those of lists. -/
import Derived.Test.YtenfbjlmfdiniaaMem
namespace Go.Proofs.Ytenfbjlmfdiniaa
open Go.RowKit Go.Shelf

theorem below_drewN {B : Nat} {w W : World} (h : Below B w W) (q : Nat) : Below B w (W.drewN q) := ⟨h.os, h.tape, h.output, h.size, h.block⟩
set_option maxRecDepth 20000 in
theorem gap_any (l : List Int) (hl : l.length = 16) (hv : Vc.right l = true) (d : D) (hd : rightD d = true) (w : World) :
    Calls Try.prog 46 #[vecV l, dV d] w fun e w' => e = .returned (.bool (decide (St.at' l d + 1 < d.2))) ∧ Below w.heap.size w w' := by
  obtain ⟨r, n⟩ := d
  have hr' := Dt.right_iff.1 hd
  obtain ⟨k, rfl⟩ : ∃ k : Nat, r = (k : Int) := ⟨r.toNat, by simp only at hr'; omega⟩
  have hk : k < 16 := by simp only at hr'; omega
  obtain ⟨h0, hD⟩ := newDot w l k n
  have hc := h0.cell (k := k) (by omega)
  have hb := Vc.right_iff.1 hv k (by omega)
  obtain ⟨x, hx⟩ : ∃ x, x = l.getD k 0 := ⟨_, rfl⟩
  show Calls Try.prog 46 #[vecV l, dotV k n] w fun e w' => e = .returned (.bool (decide (l.getD k 0 + 1 < n))) ∧ Below w.heap.size w w'
  rw [← hx] at hc hb ⊢
  clear hx
  have hd0 := hD.1
  have hd1 := hD.2.1
  have hB : Below w.heap.size w ((w.alloc (.cells (ints l).toArray 23)).alloc (.cells #[.int .i64 (k : Int), .int .i64 n] 28)) := hD.2.2
  have hix := indexAt_vec w.heap.size k hk
  have hk16 : (k : Int) < 16 := by omega
  clear hD h0 hd hv hr'
  go_enter Try.func46, Try.ntmps46
  go_wp2
  generalize (w.alloc (.cells (ints l).toArray 23)).alloc (.cells #[.int .i64 (k : Int), .int .i64 n] 28) = W at *
  go_quiet (fail)
  all_goals
    go_wp2
    go_ret
    exact ⟨rfl, below_drewN hB _⟩

/-- In a row, each once, those that are right. -/
def tidy (ds : List D) : List D := ddTo (sorted (ds.filter rightD)) (sorted (ds.filter rightD)).length
theorem ltOf_iff (x y : D) : ltOf cfD x y = true ↔ St.lt x y := by rw [ltD]; simp [St.lt]
theorem sorted_row (ds : List D) : (sorted ds).Pairwise St.le := by
  have h := List.pairwise_mergeSort (le := fun x y => !ltOf cfD y x) (fun a b c h1 h2 => by
    have e1 : ltOf cfD b a = false := by simpa using h1
    have e2 : ltOf cfD c b = false := by simpa using h2
    simpa using swoD.ntrans _ _ _ e2 e1) (fun a b => by
    cases h : ltOf cfD b a
    · simp
    · have : ltOf cfD a b = false := by
        cases h2 : ltOf cfD a b
        · rfl
        · have := swoD.trans _ _ _ h h2
          rw [swoD.irrefl] at this
          cases this
      simp [this]) ds
  refine h.imp fun {x y} e => ?_
  intro k
  have := (ltOf_iff y x).2 k
  simp [this] at e
theorem sorted_mem (ds : List D) (d : D) : d ∈ sorted ds ↔ d ∈ ds := (List.mergeSort_perm ds _).mem_iff
theorem tidy_row (ds : List D) : (tidy ds).Pairwise St.lt ∧ (∀ d, d ∈ tidy ds ↔ (d ∈ ds ∧ rightD d = true)) ∧ (tidy ds).length ≤ ds.length := by
  obtain ⟨a, b, c⟩ := St.dd_row (sorted (ds.filter rightD)) (sorted_row _) _ (Nat.le_refl _)
  refine ⟨a, fun d => ?_, Nat.le_trans c (by rw [sorted_length]; exact List.length_filter_le _ _)⟩
  unfold tidy
  rw [b d, List.take_length, sorted_mem, List.mem_filter]
/-- What settle tells. -/
def settled (l : List Int) (ds : List D) : List Int × List D := St.fill l (tidy ds)
theorem settled_is {l : List Int} (ds : List D) (hl : l.length = 16) (hv : Vc.right l = true) :
    St.Is (settled l ds) (fun d => St.mem l [] d ∨ (d ∈ ds ∧ rightD d = true)) ∧ (settled l ds).2.length ≤ ds.length := by
  obtain ⟨a, b, c⟩ := tidy_row ds
  obtain ⟨h1, h2, h3⟩ := St.fill_std hl hv (fun d hd => ((b d).1 hd).2) a
  exact ⟨⟨h1, fun d => by rw [show (settled l ds) = St.fill l (tidy ds) from rfl, h2 d, b d]⟩, Nat.le_trans h3 c⟩
end Go.Proofs.Ytenfbjlmfdiniaa
