/- The walks of the dot's own functions, and of the document's: is it right, how two stand · The walks of the program's Compare and Refs, and of the document's · The walks of both dot Codes, and of dot.Read over a reader whose text begins with a dot's bytes. -/
import Derived.Test.YtmnehekcealjhaaNumberAll
import Derived.Test.YtmnehekcealjhaaUtfAll
import Derived.WalkKit
import Derived.Deep.RegionWith
import Derived.Deep.Quiet
import Derived.Deep.RegionHeld3
/- The walks of the dot's own functions, and of the document's: is it right, how two stand. -/
namespace Go.Proofs.Ytmnehekcealjhaa.D
open Go.RowKit

/-- A dot, an operation, as the program holds them. -/
abbrev dotV (r n : Int) : Value := .agg #[.int .i64 r, .int .i64 n]
abbrev refV (r n i : Int) : Value := .agg #[.int .i64 r, .int .i64 n, .int .i64 i]

theorem refRight_any (r n : Int) (w : World) : Calls Try.prog 47 #[dotV r n] w fun e w' => e = .returned (.bool (Dt.right r n)) ∧ Below w.heap.size w w' := by
  by_cases h0 : 0 ≤ r
  rotate_left
  · rw [show Dt.right r n = false by rw [Bool.eq_false_iff]; intro h; rw [Dt.right_iff] at h; omega]
    have hd : decide (0 ≤ r) = false := decide_eq_false h0
    go_enter Try.func47, Try.ntmps47
    go_wp2
    go_ret
    exact ⟨rfl, below_new _ _⟩
  by_cases h1 : r ≤ 15
  rotate_left
  · rw [show Dt.right r n = false by rw [Bool.eq_false_iff]; intro h; rw [Dt.right_iff] at h; omega]
    have hd : decide (r ≤ 15) = false := decide_eq_false h1
    go_enter Try.func47, Try.ntmps47
    go_wp2
    go_ret
    exact ⟨rfl, below_new _ _⟩
  by_cases h2 : 1 ≤ n
  rotate_left
  · rw [show Dt.right r n = false by rw [Bool.eq_false_iff]; intro h; rw [Dt.right_iff] at h; omega]
    have hd : decide (1 ≤ n) = false := decide_eq_false h2
    go_enter Try.func47, Try.ntmps47
    go_wp2
    go_ret
    exact ⟨rfl, below_new _ _⟩
  by_cases h3 : n ≤ 1048576
  rotate_left
  · rw [show Dt.right r n = false by rw [Bool.eq_false_iff]; intro h; rw [Dt.right_iff] at h; omega]
    have hd : decide (n ≤ 1048576) = false := decide_eq_false h3
    go_enter Try.func47, Try.ntmps47
    go_wp2
    go_ret
    exact ⟨rfl, below_new _ _⟩
  rw [show Dt.right r n = true by rw [Dt.right_iff]; omega]
  go_enter Try.func47, Try.ntmps47
  go_wp2
  go_ret
  exact ⟨rfl, below_new _ _⟩

theorem ints_any (x y : Int) (w : World) : Calls Try.prog 73 #[.int .i64 x, .int .i64 y] w fun e w' => e = .returned (.int .i64 (Dt.compareInt x y)) ∧ w' = w := by
  rcases Dt.compareInt_cases x y with ⟨h, e⟩ | ⟨h, e⟩ | ⟨h, e⟩ <;> rw [e]
  · go_enter Try.func73, Try.ntmps73
    go_wp2
    go_ret
    exact ⟨rfl, rfl⟩
  · subst h
    go_enter Try.func73, Try.ntmps73
    go_wp2
    go_ret
    exact ⟨rfl, rfl⟩
  · have h' : ¬ x < y := by omega
    go_enter Try.func73, Try.ntmps73
    go_wp2
    go_ret
    exact ⟨rfl, rfl⟩

theorem refComp_any (r n r' n' : Int) (w : World) : Calls Try.prog 45 #[dotV r n, dotV r' n'] w fun e w' => e = .returned (.int .i64 (Dt.comp r n r' n')) ∧ Below w.heap.size w w' := by
  by_cases h : r = r'
  · subst h
    rw [show Dt.comp r n r n' = Dt.compareInt n n' by unfold Dt.comp Dt.two; rw [if_pos (Dt.compareInt_zero.2 rfl)]]
    go_enter Try.func45, Try.ntmps45
    go_wp2_with (go_at_call 73; refine (ints_any _ _ _).mono ?_; rintro e w1 ⟨rfl, rfl⟩)
    go_ret
    exact ⟨rfl, below_new2 _ _ _⟩
  · rw [show Dt.comp r n r' n' = Dt.compareInt r r' by unfold Dt.comp Dt.two; rw [if_neg (fun e => h (Dt.compareInt_zero.1 e))]]
    have hb : (r != r') = true := by simpa using h
    go_enter Try.func45, Try.ntmps45
    go_wp2_with (go_at_call 73; refine (ints_any _ _ _).mono ?_; rintro e w1 ⟨rfl, rfl⟩)
    go_ret
    exact ⟨rfl, below_new2 _ _ _⟩

end Go.Proofs.Ytmnehekcealjhaa.D
/- The walks of the program's Compare and Refs, and of the document's. -/
namespace Go.Proofs.Ytmnehekcealjhaa.D
open Go.RowKit

theorem cmp_any (x y : Int) (w : World) : Calls Try.prog 95 #[.int .i64 x, .int .i64 y] w fun e w' => e = .returned (.int .i64 (Dt.compareInt x y)) ∧ w' = w := by
  rcases Dt.compareInt_cases x y with ⟨h, e⟩ | ⟨h, e⟩ | ⟨h, e⟩ <;> rw [e] <;> clear e
  · go_enter Try.func95, Try.ntmps95
    go_wp2
    go_ret
    exact ⟨rfl, rfl⟩
  · subst h
    go_enter Try.func95, Try.ntmps95
    go_wp2
    go_ret
    exact ⟨rfl, rfl⟩
  · have h' : ¬ x < y := by omega
    go_enter Try.func95, Try.ntmps95
    go_wp2
    go_ret
    exact ⟨rfl, rfl⟩

set_option maxRecDepth 20000 in
/-- Of two numbers the first that is not 0. -/
theorem or_two (b : Nat) (x y : Int) (w : World) (h0 : w.cell? ⟨b, 0, none⟩ = some (.int .i64 x)) (h1 : w.cell? ⟨b, 1, none⟩ = some (.int .i64 y)) :
    Calls Try.prog 94 #[.slice (some ⟨b, 0, none⟩) 2 2] w fun e w' => e = .returned (.int .i64 (Dt.two x y)) ∧ w' = w := by
  by_cases hx : x = 0
  · subst hx
    rw [show Dt.two 0 y = y from rfl]
    by_cases hy : y = 0
    · subst hy
      go_enter Try.func94, Try.ntmps94
      go_wp2
      go_loop [8] (fun i => ∃ k : Nat, k ≤ 2 ∧ i = .int .i64 k) (fun i => 2 - (intOf i).toNat)
      case atStart => exact ⟨0, by omega, rfl⟩
      case round =>
        obtain ⟨k, hk, rfl⟩ := hrel
        match k, hk with
        | 0, _ =>
          go_wp2
          go_round
          case rel => exact ⟨1, by omega, rfl⟩
          case measure => simp [intOf]
        | 1, _ =>
          go_wp2
          go_round
          case rel => exact ⟨2, by omega, rfl⟩
          case measure => simp [intOf]
        | 2, _ =>
          go_wp2
          go_ret
          exact ⟨rfl, rfl⟩
    · have hyb : (y != 0) = true := by simpa using hy
      go_enter Try.func94, Try.ntmps94
      go_wp2
      go_loop [8] (fun i => ∃ k : Nat, k ≤ 1 ∧ i = .int .i64 k) (fun i => 2 - (intOf i).toNat)
      case atStart => exact ⟨0, by omega, rfl⟩
      case round =>
        obtain ⟨k, hk, rfl⟩ := hrel
        match k, hk with
        | 0, _ =>
          go_wp2
          go_round
          case rel => exact ⟨1, by omega, rfl⟩
          case measure => simp [intOf]
        | 1, _ =>
          go_wp2
          go_ret
          exact ⟨rfl, rfl⟩
  · rw [show Dt.two x y = x by unfold Dt.two; rw [if_neg hx]]
    have hxb : (x != 0) = true := by simpa using hx
    go_enter Try.func94, Try.ntmps94
    go_wp2
    go_loop [8] (fun i => i = .int .i64 0) (fun _ => 0)
    case atStart => rfl
    case round =>
      subst hrel
      go_wp2
      go_ret
      exact ⟨rfl, rfl⟩

theorem or_new (W : World) (o p : Obj) (x y : Int) : Calls Try.prog 94 #[.slice (some ⟨W.heap.size + 1 + 1, 0, none⟩) 2 2] (((W.alloc o).alloc p).alloc (.cells #[.int .i64 x, .int .i64 y] 3)).drew
    fun e w' => e = .returned (.int .i64 (Dt.two x y)) ∧ w' = (((W.alloc o).alloc p).alloc (.cells #[.int .i64 x, .int .i64 y] 3)).drew := by
  have e : ((W.alloc o).alloc p).heap.size = W.heap.size + 1 + 1 := by simp
  rw [← e]
  generalize (W.alloc o).alloc p = V at *
  exact or_two _ x y _ (by simp) (by simp)

set_option maxRecDepth 20000 in
theorem comp_exact (r n r' n' : Int) (w : World) : Calls Try.prog 80 #[dotV r n, dotV r' n'] w fun e w' => e = .returned (.int .i64 (Dt.comp r n r' n')) ∧ ∃ a b c, w' = (((w.alloc a).alloc b).alloc c).drew := by
  go_enter Try.func80, Try.ntmps80
  go_wp2_with fail
  go_region_held3 (fun w' => w'.cell? ⟨w.heap.size, 0, none⟩ = some (.int .i64 r) ∧ w'.cell? ⟨w.heap.size, 1, none⟩ = some (.int .i64 n) ∧ w'.cell? ⟨w.heap.size + 1, 0, none⟩ = some (.int .i64 r') ∧ w'.cell? ⟨w.heap.size + 1, 1, none⟩ = some (.int .i64 n')) (go_keep)
    (first | (go_at_call 95; refine (cmp_any _ _ _).mono ?_; rintro e w1 ⟨rfl, rfl⟩) | (go_at_call 94; refine (or_new _ _ _ _ _).mono ?_; rintro e w1 ⟨rfl, rfl⟩))
  go_wp2
  go_ret
  exact ⟨rfl, _, _, _, rfl⟩
theorem comp_any (r n r' n' : Int) (w : World) : Calls Try.prog 80 #[dotV r n, dotV r' n'] w fun e w' => e = .returned (.int .i64 (Dt.comp r n r' n')) ∧ Below w.heap.size w w' :=
  (comp_exact r n r' n' w).mono fun _ _ ⟨he, _, _, _, hw⟩ => ⟨he, by rw [hw]; exact (bchain (below_new2 _ _ _) (below_new _ _)).drew⟩


theorem or_new0 (W : World) (x y : Int) : Calls Try.prog 94 #[.slice (some ⟨W.heap.size, 0, none⟩) 2 2] (W.alloc (.cells #[.int .i64 x, .int .i64 y] 3))
    fun e w' => e = .returned (.int .i64 (Dt.two x y)) ∧ w' = W.alloc (.cells #[.int .i64 x, .int .i64 y] 3) :=
  or_two _ x y _ (by simp) (by simp)
set_option maxRecDepth 20000 in
theorem refRefs_any (r n i r' n' i' : Int) (w : World) : Calls Try.prog 93 #[refV r n i, refV r' n' i'] w fun e w' => e = .returned (.int .i64 (Dt.two (Dt.comp r n r' n') (Dt.compareInt i i'))) ∧ Below w.heap.size w w' := by
  have c0 : ((w.alloc (.cells #[.int .i64 r, .int .i64 n, .int .i64 i] 54)).alloc (.cells #[.int .i64 r', .int .i64 n', .int .i64 i'] 54)).cell? ⟨w.heap.size, 0, none⟩ = some (.int .i64 r) := by simp
  have c1 : ((w.alloc (.cells #[.int .i64 r, .int .i64 n, .int .i64 i] 54)).alloc (.cells #[.int .i64 r', .int .i64 n', .int .i64 i'] 54)).cell? ⟨w.heap.size, 1, none⟩ = some (.int .i64 n) := by simp
  have c2 : ((w.alloc (.cells #[.int .i64 r, .int .i64 n, .int .i64 i] 54)).alloc (.cells #[.int .i64 r', .int .i64 n', .int .i64 i'] 54)).cell? ⟨w.heap.size, 2, none⟩ = some (.int .i64 i) := by simp
  have d0 : ((w.alloc (.cells #[.int .i64 r, .int .i64 n, .int .i64 i] 54)).alloc (.cells #[.int .i64 r', .int .i64 n', .int .i64 i'] 54)).cell? ⟨w.heap.size + 1, 0, none⟩ = some (.int .i64 r') := by
    have e : (w.alloc (.cells #[.int .i64 r, .int .i64 n, .int .i64 i] 54)).heap.size = w.heap.size + 1 := by simp
    rw [← e]; generalize w.alloc (.cells #[.int .i64 r, .int .i64 n, .int .i64 i] 54) = V; simp
  have d1 : ((w.alloc (.cells #[.int .i64 r, .int .i64 n, .int .i64 i] 54)).alloc (.cells #[.int .i64 r', .int .i64 n', .int .i64 i'] 54)).cell? ⟨w.heap.size + 1, 1, none⟩ = some (.int .i64 n') := by
    have e : (w.alloc (.cells #[.int .i64 r, .int .i64 n, .int .i64 i] 54)).heap.size = w.heap.size + 1 := by simp
    rw [← e]; generalize w.alloc (.cells #[.int .i64 r, .int .i64 n, .int .i64 i] 54) = V; simp
  have d2 : ((w.alloc (.cells #[.int .i64 r, .int .i64 n, .int .i64 i] 54)).alloc (.cells #[.int .i64 r', .int .i64 n', .int .i64 i'] 54)).cell? ⟨w.heap.size + 1, 2, none⟩ = some (.int .i64 i') := by
    have e : (w.alloc (.cells #[.int .i64 r, .int .i64 n, .int .i64 i] 54)).heap.size = w.heap.size + 1 := by simp
    rw [← e]; generalize w.alloc (.cells #[.int .i64 r, .int .i64 n, .int .i64 i] 54) = V; simp
  by_cases h : Dt.comp r n r' n' = 0
  · rw [show Dt.two (Dt.comp r n r' n') (Dt.compareInt i i') = Dt.compareInt i i' by unfold Dt.two; rw [if_pos h]]
    have HC : ∀ w, Calls Try.prog 45 #[dotV r n, dotV r' n'] w fun e w' => e = .returned (.int .i64 0) ∧ Below w.heap.size w w' := fun w => by have := refComp_any r n r' n' w; rw [h] at this; exact this
    clear h
    go_enter Try.func93, Try.ntmps93
    go_wp2_with (first | (go_at_call 45; refine (HC _).mono ?_; rintro e w1 ⟨rfl, hb⟩; have k2 := keep_cell hb c2; have l2 := keep_cell hb d2) | (go_at_call 73; refine (ints_any _ _ _).mono ?_; rintro e w2 ⟨rfl, rfl⟩))
    go_ret
    exact ⟨rfl, bchain (below_new2 _ _ _) hb⟩
  · have HC : ∀ w, Calls Try.prog 45 #[dotV r n, dotV r' n'] w fun e w' => e = .returned (.int .i64 (Dt.comp r n r' n')) ∧ Below w.heap.size w w' := fun w => refComp_any r n r' n' w
    rw [show Dt.two (Dt.comp r n r' n') (Dt.compareInt i i') = Dt.comp r n r' n' by unfold Dt.two; rw [if_neg h]]
    generalize Dt.comp r n r' n' = z at *
    have hz : (z != 0) = true := by simpa using h
    go_enter Try.func93, Try.ntmps93
    go_wp2_with fail
    refine (HC _).mono ?_
    rintro e w1 ⟨rfl, hb⟩
    have k0 := keep_cell hb c0
    have k1 := keep_cell hb c1
    have l0 := keep_cell hb d0
    have l1 := keep_cell hb d1
    go_wp2_with fail
    refine (HC _).mono ?_
    rintro e w2 ⟨rfl, hb2⟩
    go_wp2
    go_ret
    exact ⟨rfl, bchain (bchain (below_new2 _ _ _) hb) hb2⟩
end Go.Proofs.Ytmnehekcealjhaa.D
/- The walks of both dot Codes, and of dot.Read over a reader whose text begins with a dot's bytes. -/
namespace Go.Proofs.Ytmnehekcealjhaa.D
open Go.RowKit

/-- A dot's bytes. -/
def codeL (r n : Int) : List UInt8 := Pk.enc r.toNat ++ Pk.enc n.toNat
theorem enc_len {n : Int} (h1 : n ≤ 9223372036854775807) : (Pk.enc n.toNat).length ≤ 9 := Pk.enc_len9 (by omega)

end Go.Proofs.Ytmnehekcealjhaa.D
