/- The walks of the dot's own functions, and of the document's: is it right, how two stand · The walks of the program's Compare and Refs, and of the document's · The walks of both dot Codes, and of dot.Read over a reader whose text begins with a dot's bytes. -/
import Derived.Test.YtghkjbekjkejpaaGreatNumberAll
import Derived.Test.YtghkjbekjkejpaaGreatUtfAll
import Derived.WalkKit
import Derived.Deep.RegionWith
import Derived.Deep.Quiet
import Derived.Deep.RegionHeld3
/- The walks of the dot's own functions, and of the document's: is it right, how two stand. -/
namespace Go.Proofs.YtghkjbekjkejpaaGreat.D
open Go.RowKit

/-- A dot, an operation, as the program holds them. -/
abbrev dotV (r n : Int) : Value := .agg #[.int .i64 r, .int .i64 n]
abbrev refV (r n i : Int) : Value := .agg #[.int .i64 r, .int .i64 n, .int .i64 i]

theorem right_any (r n : Int) (w : World) : Calls Tryz.prog 44 #[dotV r n] w fun e w' => e = .returned (.bool (Dt.right r n)) ∧ Below w.heap.size w w' := by
  by_cases h0 : 0 ≤ r
  rotate_left
  · rw [show Dt.right r n = false by rw [Bool.eq_false_iff]; intro h; rw [Dt.right_iff] at h; omega]
    have hd : decide (0 ≤ r) = false := decide_eq_false h0
    go_enter Tryz.func44, Tryz.ntmps44
    go_wp2
    go_ret
    exact ⟨rfl, below_new _ _⟩
  by_cases h1 : r < 16
  rotate_left
  · rw [show Dt.right r n = false by rw [Bool.eq_false_iff]; intro h; rw [Dt.right_iff] at h; omega]
    have hd : decide (r < 16) = false := decide_eq_false h1
    go_enter Tryz.func44, Tryz.ntmps44
    go_wp2
    go_ret
    exact ⟨rfl, below_new _ _⟩
  by_cases h2 : 1 ≤ n
  rotate_left
  · rw [show Dt.right r n = false by rw [Bool.eq_false_iff]; intro h; rw [Dt.right_iff] at h; omega]
    have hd : decide (1 ≤ n) = false := decide_eq_false h2
    go_enter Tryz.func44, Tryz.ntmps44
    go_wp2
    go_ret
    exact ⟨rfl, below_new _ _⟩
  by_cases h3 : n ≤ 1048576
  rotate_left
  · rw [show Dt.right r n = false by rw [Bool.eq_false_iff]; intro h; rw [Dt.right_iff] at h; omega]
    have hd : decide (n ≤ 1048576) = false := decide_eq_false h3
    go_enter Tryz.func44, Tryz.ntmps44
    go_wp2
    go_ret
    exact ⟨rfl, below_new _ _⟩
  rw [show Dt.right r n = true by rw [Dt.right_iff]; omega]
  go_enter Tryz.func44, Tryz.ntmps44
  go_wp2
  go_ret
  exact ⟨rfl, below_new _ _⟩

theorem refRight_any (r n : Int) (w : World) : Calls Tryz.prog 15 #[dotV r n] w fun e w' => e = .returned (.bool (Dt.right r n)) ∧ Below w.heap.size w w' := by
  by_cases h0 : 0 ≤ r
  rotate_left
  · rw [show Dt.right r n = false by rw [Bool.eq_false_iff]; intro h; rw [Dt.right_iff] at h; omega]
    have hd : decide (0 ≤ r) = false := decide_eq_false h0
    go_enter Tryz.func15, Tryz.ntmps15
    go_wp2
    go_ret
    exact ⟨rfl, below_new _ _⟩
  by_cases h1 : r ≤ 15
  rotate_left
  · rw [show Dt.right r n = false by rw [Bool.eq_false_iff]; intro h; rw [Dt.right_iff] at h; omega]
    have hd : decide (r ≤ 15) = false := decide_eq_false h1
    go_enter Tryz.func15, Tryz.ntmps15
    go_wp2
    go_ret
    exact ⟨rfl, below_new _ _⟩
  by_cases h2 : 1 ≤ n
  rotate_left
  · rw [show Dt.right r n = false by rw [Bool.eq_false_iff]; intro h; rw [Dt.right_iff] at h; omega]
    have hd : decide (1 ≤ n) = false := decide_eq_false h2
    go_enter Tryz.func15, Tryz.ntmps15
    go_wp2
    go_ret
    exact ⟨rfl, below_new _ _⟩
  by_cases h3 : n ≤ 1048576
  rotate_left
  · rw [show Dt.right r n = false by rw [Bool.eq_false_iff]; intro h; rw [Dt.right_iff] at h; omega]
    have hd : decide (n ≤ 1048576) = false := decide_eq_false h3
    go_enter Tryz.func15, Tryz.ntmps15
    go_wp2
    go_ret
    exact ⟨rfl, below_new _ _⟩
  rw [show Dt.right r n = true by rw [Dt.right_iff]; omega]
  go_enter Tryz.func15, Tryz.ntmps15
  go_wp2
  go_ret
  exact ⟨rfl, below_new _ _⟩

theorem ints_any (x y : Int) (w : World) : Calls Tryz.prog 67 #[.int .i64 x, .int .i64 y] w fun e w' => e = .returned (.int .i64 (Dt.compareInt x y)) ∧ w' = w := by
  rcases Dt.compareInt_cases x y with ⟨h, e⟩ | ⟨h, e⟩ | ⟨h, e⟩ <;> rw [e]
  · go_enter Tryz.func67, Tryz.ntmps67
    go_wp2
    go_ret
    exact ⟨rfl, rfl⟩
  · subst h
    go_enter Tryz.func67, Tryz.ntmps67
    go_wp2
    go_ret
    exact ⟨rfl, rfl⟩
  · have h' : ¬ x < y := by omega
    go_enter Tryz.func67, Tryz.ntmps67
    go_wp2
    go_ret
    exact ⟨rfl, rfl⟩

theorem refComp_any (r n r' n' : Int) (w : World) : Calls Tryz.prog 40 #[dotV r n, dotV r' n'] w fun e w' => e = .returned (.int .i64 (Dt.comp r n r' n')) ∧ Below w.heap.size w w' := by
  by_cases h : r = r'
  · subst h
    rw [show Dt.comp r n r n' = Dt.compareInt n n' by unfold Dt.comp Dt.two; rw [if_pos (Dt.compareInt_zero.2 rfl)]]
    go_enter Tryz.func40, Tryz.ntmps40
    go_wp2_with (go_at_call 67; refine (ints_any _ _ _).mono ?_; rintro e w1 ⟨rfl, rfl⟩)
    go_ret
    exact ⟨rfl, below_new2 _ _ _⟩
  · rw [show Dt.comp r n r' n' = Dt.compareInt r r' by unfold Dt.comp Dt.two; rw [if_neg (fun e => h (Dt.compareInt_zero.1 e))]]
    have hb : (r != r') = true := by simpa using h
    go_enter Tryz.func40, Tryz.ntmps40
    go_wp2_with (go_at_call 67; refine (ints_any _ _ _).mono ?_; rintro e w1 ⟨rfl, rfl⟩)
    go_ret
    exact ⟨rfl, below_new2 _ _ _⟩

end Go.Proofs.YtghkjbekjkejpaaGreat.D
/- The walks of the program's Compare and Refs, and of the document's. -/
namespace Go.Proofs.YtghkjbekjkejpaaGreat.D
open Go.RowKit

theorem cmp_any (x y : Int) (w : World) : Calls Tryz.prog 47 #[.int .i64 x, .int .i64 y] w fun e w' => e = .returned (.int .i64 (Dt.compareInt x y)) ∧ w' = w := by
  rcases Dt.compareInt_cases x y with ⟨h, e⟩ | ⟨h, e⟩ | ⟨h, e⟩ <;> rw [e] <;> clear e
  · go_enter Tryz.func47, Tryz.ntmps47
    go_wp2
    go_ret
    exact ⟨rfl, rfl⟩
  · subst h
    go_enter Tryz.func47, Tryz.ntmps47
    go_wp2
    go_ret
    exact ⟨rfl, rfl⟩
  · have h' : ¬ x < y := by omega
    go_enter Tryz.func47, Tryz.ntmps47
    go_wp2
    go_ret
    exact ⟨rfl, rfl⟩

set_option maxRecDepth 20000 in
/-- Of two numbers the first that is not 0. -/
theorem or_two (b : Nat) (x y : Int) (w : World) (h0 : w.cell? ⟨b, 0, none⟩ = some (.int .i64 x)) (h1 : w.cell? ⟨b, 1, none⟩ = some (.int .i64 y)) :
    Calls Tryz.prog 46 #[.slice (some ⟨b, 0, none⟩) 2 2] w fun e w' => e = .returned (.int .i64 (Dt.two x y)) ∧ w' = w := by
  by_cases hx : x = 0
  · subst hx
    rw [show Dt.two 0 y = y from rfl]
    by_cases hy : y = 0
    · subst hy
      go_enter Tryz.func46, Tryz.ntmps46
      go_wp2
      go_loop [8] (fun i => ∃ k : Nat, k ≤ 2 ∧ i = .int .i64 k) (fun i => 2 - (intOf i).toNat)
      case atStart => exact ⟨0, by omega, rfl⟩
      case round =>
        obtain ⟨k, hk, rfl⟩ := hrel
        match k, hk with
        | 0, _ =>
          go_wp2
          go_round
          case rel => exact ⟨1, by omega, rfl⟩
          case measure => simp [intOf]
        | 1, _ =>
          go_wp2
          go_round
          case rel => exact ⟨2, by omega, rfl⟩
          case measure => simp [intOf]
        | 2, _ =>
          go_wp2
          go_ret
          exact ⟨rfl, rfl⟩
    · have hyb : (y != 0) = true := by simpa using hy
      go_enter Tryz.func46, Tryz.ntmps46
      go_wp2
      go_loop [8] (fun i => ∃ k : Nat, k ≤ 1 ∧ i = .int .i64 k) (fun i => 2 - (intOf i).toNat)
      case atStart => exact ⟨0, by omega, rfl⟩
      case round =>
        obtain ⟨k, hk, rfl⟩ := hrel
        match k, hk with
        | 0, _ =>
          go_wp2
          go_round
          case rel => exact ⟨1, by omega, rfl⟩
          case measure => simp [intOf]
        | 1, _ =>
          go_wp2
          go_ret
          exact ⟨rfl, rfl⟩
  · rw [show Dt.two x y = x by unfold Dt.two; rw [if_neg hx]]
    have hxb : (x != 0) = true := by simpa using hx
    go_enter Tryz.func46, Tryz.ntmps46
    go_wp2
    go_loop [8] (fun i => i = .int .i64 0) (fun _ => 0)
    case atStart => rfl
    case round =>
      subst hrel
      go_wp2
      go_ret
      exact ⟨rfl, rfl⟩

theorem or_new (W : World) (o p : Obj) (x y : Int) : Calls Tryz.prog 46 #[.slice (some ⟨W.heap.size + 1 + 1, 0, none⟩) 2 2] (((W.alloc o).alloc p).alloc (.cells #[.int .i64 x, .int .i64 y] 3)).drew
    fun e w' => e = .returned (.int .i64 (Dt.two x y)) ∧ w' = (((W.alloc o).alloc p).alloc (.cells #[.int .i64 x, .int .i64 y] 3)).drew := by
  have e : ((W.alloc o).alloc p).heap.size = W.heap.size + 1 + 1 := by simp
  rw [← e]
  generalize (W.alloc o).alloc p = V at *
  exact or_two _ x y _ (by simp) (by simp)

set_option maxRecDepth 20000 in
theorem comp_exact (r n r' n' : Int) (w : World) : Calls Tryz.prog 48 #[dotV r n, dotV r' n'] w fun e w' => e = .returned (.int .i64 (Dt.comp r n r' n')) ∧ ∃ a b c, w' = (((w.alloc a).alloc b).alloc c).drew := by
  go_enter Tryz.func48, Tryz.ntmps48
  go_wp2_with fail
  go_region_held3 (fun w' => w'.cell? ⟨w.heap.size, 0, none⟩ = some (.int .i64 r) ∧ w'.cell? ⟨w.heap.size, 1, none⟩ = some (.int .i64 n) ∧ w'.cell? ⟨w.heap.size + 1, 0, none⟩ = some (.int .i64 r') ∧ w'.cell? ⟨w.heap.size + 1, 1, none⟩ = some (.int .i64 n')) (go_keep)
    (first | (go_at_call 47; refine (cmp_any _ _ _).mono ?_; rintro e w1 ⟨rfl, rfl⟩) | (go_at_call 46; refine (or_new _ _ _ _ _).mono ?_; rintro e w1 ⟨rfl, rfl⟩))
  go_wp2
  go_ret
  exact ⟨rfl, _, _, _, rfl⟩
theorem comp_any (r n r' n' : Int) (w : World) : Calls Tryz.prog 48 #[dotV r n, dotV r' n'] w fun e w' => e = .returned (.int .i64 (Dt.comp r n r' n')) ∧ Below w.heap.size w w' :=
  (comp_exact r n r' n' w).mono fun _ _ ⟨he, _, _, _, hw⟩ => ⟨he, by rw [hw]; exact (bchain (below_new2 _ _ _) (below_new _ _)).drew⟩


theorem or_new0 (W : World) (x y : Int) : Calls Tryz.prog 46 #[.slice (some ⟨W.heap.size, 0, none⟩) 2 2] (W.alloc (.cells #[.int .i64 x, .int .i64 y] 3))
    fun e w' => e = .returned (.int .i64 (Dt.two x y)) ∧ w' = W.alloc (.cells #[.int .i64 x, .int .i64 y] 3) :=
  or_two _ x y _ (by simp) (by simp)
set_option maxRecDepth 20000 in
theorem refs_any (r n i r' n' i' : Int) (w : World) : Calls Tryz.prog 110 #[refV r n i, refV r' n' i'] w fun e w' => e = .returned (.int .i64 (Dt.two (Dt.comp r n r' n') (Dt.compareInt i i'))) ∧ Below w.heap.size w w' := by
  go_enter Tryz.func110, Tryz.ntmps110
  go_wp2_with fail
  go_region_held3 (fun w' => w'.cell? ⟨w.heap.size, 0, none⟩ = some (.int .i64 r) ∧ w'.cell? ⟨w.heap.size, 1, none⟩ = some (.int .i64 n) ∧ w'.cell? ⟨w.heap.size, 2, none⟩ = some (.int .i64 i)
      ∧ w'.cell? ⟨w.heap.size + 1, 0, none⟩ = some (.int .i64 r') ∧ w'.cell? ⟨w.heap.size + 1, 1, none⟩ = some (.int .i64 n') ∧ w'.cell? ⟨w.heap.size + 1, 2, none⟩ = some (.int .i64 i'))
    (first | go_keep | (refine ⟨keep_cell hb ?_, keep_cell hb ?_, keep_cell hb ?_, keep_cell hb ?_, keep_cell hb ?_, keep_cell hb ?_⟩ <;> go_keep))
    (first | (go_at_call 47; refine (cmp_any _ _ _).mono ?_; rintro e w2 ⟨rfl, rfl⟩) | (go_at_call 48; refine (comp_any _ _ _ _ _).mono ?_; rintro e w1 ⟨rfl, hb⟩) | (go_at_call 46; refine (or_new0 _ _ _).mono ?_; rintro e w3 ⟨rfl, rfl⟩))
  go_wp2
  go_ret
  exact ⟨rfl, (bchain (bchain (below_new2 _ _ _).drew hb) (below_new _ _))⟩

set_option maxRecDepth 20000 in
theorem refRefs_any (r n i r' n' i' : Int) (w : World) : Calls Tryz.prog 94 #[refV r n i, refV r' n' i'] w fun e w' => e = .returned (.int .i64 (Dt.two (Dt.comp r n r' n') (Dt.compareInt i i'))) ∧ Below w.heap.size w w' := by
  have c0 : ((w.alloc (.cells #[.int .i64 r, .int .i64 n, .int .i64 i] 94)).alloc (.cells #[.int .i64 r', .int .i64 n', .int .i64 i'] 94)).cell? ⟨w.heap.size, 0, none⟩ = some (.int .i64 r) := by simp
  have c1 : ((w.alloc (.cells #[.int .i64 r, .int .i64 n, .int .i64 i] 94)).alloc (.cells #[.int .i64 r', .int .i64 n', .int .i64 i'] 94)).cell? ⟨w.heap.size, 1, none⟩ = some (.int .i64 n) := by simp
  have c2 : ((w.alloc (.cells #[.int .i64 r, .int .i64 n, .int .i64 i] 94)).alloc (.cells #[.int .i64 r', .int .i64 n', .int .i64 i'] 94)).cell? ⟨w.heap.size, 2, none⟩ = some (.int .i64 i) := by simp
  have d0 : ((w.alloc (.cells #[.int .i64 r, .int .i64 n, .int .i64 i] 94)).alloc (.cells #[.int .i64 r', .int .i64 n', .int .i64 i'] 94)).cell? ⟨w.heap.size + 1, 0, none⟩ = some (.int .i64 r') := by
    have e : (w.alloc (.cells #[.int .i64 r, .int .i64 n, .int .i64 i] 94)).heap.size = w.heap.size + 1 := by simp
    rw [← e]; generalize w.alloc (.cells #[.int .i64 r, .int .i64 n, .int .i64 i] 94) = V; simp
  have d1 : ((w.alloc (.cells #[.int .i64 r, .int .i64 n, .int .i64 i] 94)).alloc (.cells #[.int .i64 r', .int .i64 n', .int .i64 i'] 94)).cell? ⟨w.heap.size + 1, 1, none⟩ = some (.int .i64 n') := by
    have e : (w.alloc (.cells #[.int .i64 r, .int .i64 n, .int .i64 i] 94)).heap.size = w.heap.size + 1 := by simp
    rw [← e]; generalize w.alloc (.cells #[.int .i64 r, .int .i64 n, .int .i64 i] 94) = V; simp
  have d2 : ((w.alloc (.cells #[.int .i64 r, .int .i64 n, .int .i64 i] 94)).alloc (.cells #[.int .i64 r', .int .i64 n', .int .i64 i'] 94)).cell? ⟨w.heap.size + 1, 2, none⟩ = some (.int .i64 i') := by
    have e : (w.alloc (.cells #[.int .i64 r, .int .i64 n, .int .i64 i] 94)).heap.size = w.heap.size + 1 := by simp
    rw [← e]; generalize w.alloc (.cells #[.int .i64 r, .int .i64 n, .int .i64 i] 94) = V; simp
  by_cases h : Dt.comp r n r' n' = 0
  · rw [show Dt.two (Dt.comp r n r' n') (Dt.compareInt i i') = Dt.compareInt i i' by unfold Dt.two; rw [if_pos h]]
    have HC : ∀ w, Calls Tryz.prog 40 #[dotV r n, dotV r' n'] w fun e w' => e = .returned (.int .i64 0) ∧ Below w.heap.size w w' := fun w => by have := refComp_any r n r' n' w; rw [h] at this; exact this
    clear h
    go_enter Tryz.func94, Tryz.ntmps94
    go_wp2_with (first | (go_at_call 40; refine (HC _).mono ?_; rintro e w1 ⟨rfl, hb⟩; have k2 := keep_cell hb c2; have l2 := keep_cell hb d2) | (go_at_call 67; refine (ints_any _ _ _).mono ?_; rintro e w2 ⟨rfl, rfl⟩))
    go_ret
    exact ⟨rfl, bchain (below_new2 _ _ _) hb⟩
  · have HC : ∀ w, Calls Tryz.prog 40 #[dotV r n, dotV r' n'] w fun e w' => e = .returned (.int .i64 (Dt.comp r n r' n')) ∧ Below w.heap.size w w' := fun w => refComp_any r n r' n' w
    rw [show Dt.two (Dt.comp r n r' n') (Dt.compareInt i i') = Dt.comp r n r' n' by unfold Dt.two; rw [if_neg h]]
    generalize Dt.comp r n r' n' = z at *
    have hz : (z != 0) = true := by simpa using h
    go_enter Tryz.func94, Tryz.ntmps94
    go_wp2_with fail
    refine (HC _).mono ?_
    rintro e w1 ⟨rfl, hb⟩
    have k0 := keep_cell hb c0
    have k1 := keep_cell hb c1
    have l0 := keep_cell hb d0
    have l1 := keep_cell hb d1
    go_wp2_with fail
    refine (HC _).mono ?_
    rintro e w2 ⟨rfl, hb2⟩
    go_wp2
    go_ret
    exact ⟨rfl, bchain (bchain (below_new2 _ _ _) hb) hb2⟩
end Go.Proofs.YtghkjbekjkejpaaGreat.D
/- The walks of both dot Codes, and of dot.Read over a reader whose text begins with a dot's bytes. -/
namespace Go.Proofs.YtghkjbekjkejpaaGreat.D
open Go.RowKit

/-- A dot's bytes. -/
def codeL (r n : Int) : List UInt8 := Pk.enc r.toNat ++ Pk.enc n.toNat
theorem enc_len {n : Int} (h1 : n ≤ 9223372036854775807) : (Pk.enc n.toNat).length ≤ 9 := Pk.enc_len9 (by omega)

set_option maxRecDepth 20000 in
theorem code_any (r n : Int) (w : World) (h0 : -9223372036854775808 ≤ r) (h1 : r ≤ 9223372036854775807) (h2 : -9223372036854775808 ≤ n) (h3 : n ≤ 9223372036854775807) :
    Calls Tryz.prog 34 #[dotV r n] w fun e w' => e = .returned (.string ⟨(codeL r n).toArray⟩) ∧ Below w.heap.size w w' := by
  have lr := enc_len h1
  have ln := enc_len h3
  have hs1 : ¬ 9223372036854775807 < (Pk.enc r.toNat).length + (Pk.enc n.toNat).length := by omega
  have HR : ∀ w, Calls Tryz.prog 25 #[.int .i64 r] w fun e w' => e = .returned (.string ⟨(Pk.enc r.toNat).toArray⟩) ∧ Below w.heap.size w w' := fun w => int_any r w h0 (by omega)
  have HN : ∀ w, Calls Tryz.prog 25 #[.int .i64 n] w fun e w' => e = .returned (.string ⟨(Pk.enc n.toNat).toArray⟩) ∧ Below w.heap.size w w' := fun w => int_any n w h2 (by omega)
  clear h0 h1 h2 h3
  go_enter Tryz.func34, Tryz.ntmps34
  go_wp2_with fail
  go_region_held3 (fun w' => w'.cell? ⟨w.heap.size, 0, none⟩ = some (.int .i64 r) ∧ w'.cell? ⟨w.heap.size, 1, none⟩ = some (.int .i64 n))
    (first | go_keep | (refine ⟨keep_cell hb ?_, keep_cell hb ?_⟩ <;> go_keep))
    (first | (go_at_call_of 25 r; refine (HR _).mono ?_; rintro e w1 ⟨rfl, hb⟩; have hb1 := hb) | (go_at_call_of 25 n; refine (HN _).mono ?_; rintro e w2 ⟨rfl, hb⟩; have hb2 := hb))
  all_goals
    go_wp2
    go_ret
    exact ⟨ret_str (by rw [cat_lists, codeL]), bchain (bchain (below_new _ _).drew hb1) hb2⟩

set_option maxRecDepth 20000 in
theorem refCode_any (r n : Int) (w : World) (h0 : -9223372036854775808 ≤ r) (h1 : r ≤ 9223372036854775807) (h2 : -9223372036854775808 ≤ n) (h3 : n ≤ 9223372036854775807) :
    Calls Tryz.prog 53 #[dotV r n] w fun e w' => e = .returned (.string ⟨(codeL r n).toArray⟩) ∧ Below w.heap.size w w' := by
  have lr := enc_len h1
  have ln := enc_len h3
  have hs1 : ¬ 9223372036854775807 < (Pk.enc r.toNat).length + (Pk.enc n.toNat).length := by omega
  have HR : ∀ w, Calls Tryz.prog 27 #[.int .i64 r] w fun e w' => e = .returned (.string ⟨(Pk.enc r.toNat).toArray⟩) ∧ Below w.heap.size w w' := fun w => refInt_any r w h0 (by omega)
  have HN : ∀ w, Calls Tryz.prog 27 #[.int .i64 n] w fun e w' => e = .returned (.string ⟨(Pk.enc n.toNat).toArray⟩) ∧ Below w.heap.size w w' := fun w => refInt_any n w h2 (by omega)
  clear h0 h1 h2 h3
  go_enter Tryz.func53, Tryz.ntmps53
  go_wp2_with fail
  go_region_held3 (fun w' => w'.cell? ⟨w.heap.size, 0, none⟩ = some (.int .i64 r) ∧ w'.cell? ⟨w.heap.size, 1, none⟩ = some (.int .i64 n))
    (first | go_keep | (refine ⟨keep_cell hb ?_, keep_cell hb ?_⟩ <;> go_keep))
    (first | (go_at_call_of 27 r; refine (HR _).mono ?_; rintro e w1 ⟨rfl, hb⟩; have hb1 := hb) | (go_at_call_of 27 n; refine (HN _).mono ?_; rintro e w2 ⟨rfl, hb⟩; have hb2 := hb))
  all_goals
    go_wp2
    go_ret
    exact ⟨ret_str (by rw [cat_lists, codeL]), bchain (bchain (below_new _ _).drew hb1) hb2⟩

set_option maxRecDepth 20000 in
set_option maxHeartbeats 1000000 in
/-- A right dot is read as it was told. -/
theorem dotRead_ok {w : World} {b : Nat} {r n : Int} {rest : List UInt8} (h : Rd w b (codeL r n ++ rest) 0) (hl : (codeL r n ++ rest).length ≤ maxLen) (hd : Dt.right r n = true) :
    Calls Tryz.prog 37 #[.pointer (some ⟨b, 0, none⟩)] w fun e w' => e = .returned (dotV r n) ∧ Rd w' b rest 0 ∧ But b w w' := by
  have hlt := h.lt
  obtain ⟨i1, i2, i3, i4⟩ := Dt.right_iff.1 hd
  obtain ⟨x, rfl⟩ : ∃ x : Nat, r = (x : Int) := ⟨r.toNat, by omega⟩
  obtain ⟨y, rfl⟩ : ∃ y : Nat, n = (y : Int) := ⟨n.toNat, by omega⟩
  simp only [codeL, Int.toNat_natCast, List.append_assoc] at h hl
  have HR : ∀ w, Calls Tryz.prog 44 #[dotV (x : Int) (y : Int)] w fun e w' => e = .returned (.bool true) ∧ Below w.heap.size w w' := fun w => by have := right_any x y w; rw [hd] at this; exact this
  have H0 : Rd (w.alloc (.cells #[.int .i64 0, .int .i64 0] 34)) b (Pk.enc x ++ (Pk.enc y ++ rest)) 0 := h.new _
  have H1 := int_ok H0 hl (by omega)
  have hlm : (Pk.enc y ++ rest).length ≤ maxLen := by rw [List.length_append] at hl; omega
  have hY : ∀ W, Rd W b (Pk.enc y ++ rest) 0 → Calls Tryz.prog 38 #[.pointer (some ⟨b, 0, none⟩)] W fun e w' => e = .returned (.int .i64 (y : Int)) ∧ Rd w' b rest 0 ∧ But b W w' := fun W hW => int_ok hW hlm (by omega)
  have z0 : (w.alloc (.cells #[.int .i64 0, .int .i64 0] 34)).cell? ⟨w.heap.size, 0, none⟩ = some (.int .i64 0) := by simp
  have z1 : (w.alloc (.cells #[.int .i64 0, .int .i64 0] 34)).cell? ⟨w.heap.size, 1, none⟩ = some (.int .i64 0) := by simp
  have y0 : (w.alloc (.cells #[.int .i64 0, .int .i64 0] 34)).frozen? ⟨w.heap.size, 0, none⟩ = false := by simp
  have y1 : (w.alloc (.cells #[.int .i64 0, .int .i64 0] 34)).frozen? ⟨w.heap.size, 1, none⟩ = false := by simp
  clear h hl hlm hd i1 i2 i3 i4
  generalize Pk.enc y ++ rest = l1 at *
  go_enter Tryz.func37, Tryz.ntmps37
  go_wp2_with fail
  refine H1.mono ?_
  rintro e w1 ⟨rfl, hr1, hb1⟩
  have hlt1 := hr1.lt
  have hR1 := hr1.below (below_new w1 (.cells #[.int .i64 (x : Int), .int .i64 0] 34)) hlt1
  have d0 : (w1.alloc (.cells #[.int .i64 (x : Int), .int .i64 0] 34)).cell? ⟨w1.heap.size, 0, none⟩ = some (.int .i64 (x : Int)) := by simp
  have d1 : (w1.alloc (.cells #[.int .i64 (x : Int), .int .i64 0] 34)).cell? ⟨w1.heap.size, 1, none⟩ = some (.int .i64 0) := by simp
  have g1 : (w1.alloc (.cells #[.int .i64 (x : Int), .int .i64 0] 34)).frozen? ⟨w1.heap.size, 1, none⟩ = false := by simp
  go_wp2_with fail
  refine (hY _ hR1).mono ?_
  rintro e w2 ⟨rfl, hr2, hb2⟩
  have hne : w1.heap.size ≠ b := by omega
  have d0' := hb2.cell d0 hne
  have d1' := hb2.cell d1 hne
  have g1' := hb2.frozen d1 g1 hne
  have W0 : (w2.setCell ⟨w1.heap.size, 1, none⟩ (.int .i64 (y : Int))).cell? ⟨w1.heap.size, 0, none⟩ = some (.int .i64 (x : Int)) := (World.cell?_setCell_other _ _ _ _ (by simp)).trans d0'
  have W1 : (w2.setCell ⟨w1.heap.size, 1, none⟩ (.int .i64 (y : Int))).cell? ⟨w1.heap.size, 1, none⟩ = some (.int .i64 (y : Int)) := World.cell?_setCell_same _ _ _ d1'
  have hRW := hr2.setOther (p := ⟨w1.heap.size, 1, none⟩) hne (.int .i64 (y : Int))
  have hltW := hRW.lt
  have hsz := hb1.size
  have HB := ((hb1.trans (But.of (below_new w1 (.cells #[.int .i64 (x : Int), .int .i64 0] 34)))).trans hb2).setNew (p := ⟨w1.heap.size, 1, none⟩) hb1.size (.int .i64 (y : Int))
  go_wp2_with fail
  refine (HR _).mono ?_
  rintro e w3 ⟨rfl, hb3⟩
  have hr3 := hRW.below hb3 hltW
  have HB3 := HB.trans (But.of hb3)
  have e0 := keep_cell hb3 W0
  have e1 := keep_cell hb3 W1
  have hne' : w.heap.size ≠ b := by omega
  have z0' := HB3.cell z0 hne'
  have z1' := HB3.cell z1 hne'
  have y0' := HB3.frozen z0 y0 hne'
  have y1' := HB3.frozen z1 y1 hne'
  go_wp2
  have e01 := stored2 z0' z1' (.int .i64 (x : Int)) (.int .i64 (y : Int))
  refine bodyPost_ret (v := dotV x y) (by simp [results, Tryz.results37, go_sem, e01.1, e01.2]) rfl ⟨rfl, (hr3.setOther hne' _).setOther hne' _, ?_⟩
  exact ((((But.of (below_new w _)).trans HB3).setNew (Nat.le_refl _) _).setNew (Nat.le_refl _) _)

end Go.Proofs.YtghkjbekjkejpaaGreat.D
