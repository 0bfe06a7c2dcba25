/- The examples of the chapter; what three values that came in are while a law is walked. -/
import Derived.Test.YthphoclfoejbfaaDoorParse
namespace Go.Proofs.YthphoclfoejbfaaDoor
open Go.RowKit

def exT : List UInt8 := [97, 34, 98]
def exQ : List UInt8 := [34, 97, 92, 34, 98, 34]
theorem ex_right : Vl.Right 2 0 exT := .inr (.inl ⟨rfl, rfl, by decide +kernel, by decide⟩)
theorem ex_text : Vl.text 2 0 exT = exQ := rfl
theorem ex_pars : Vl.pars exQ = some (2, 0, exT) := Vl.pars_yes ex_right

set_option maxRecDepth 20000 in
set_option maxHeartbeats 1000000 in
theorem awake_any (w : World) (hk : Keeps w) : Calls Tryd.prog 7 #[] w fun e w' => e = .returned (.bool true) ∧ Below w.heap.size w w' := by
  have C16 : ∀ w, Keeps w → Calls Tryd.prog 16 #[.string ⟨#[34, 97, 92, 34, 98, 34]⟩] w fun e w' => e = .returned (.tuple #[valV 2 0 [97, 34, 98], .int .i64 0]) ∧ Below w.heap.size w w' := fun w hk => parse_some exQ 2 0 exT w hk (by decide) ex_pars
  have C12 : ∀ w, Keeps w → Calls Tryd.prog 12 #[valV 2 0 [97, 34, 98]] w fun e w' => e = .returned (.string ⟨#[34, 97, 92, 34, 98, 34]⟩) ∧ Below w.heap.size w w' := fun w hk => text_right 2 0 exT w hk ex_right
  have C21 : ∀ w, Calls Tryd.prog 21 #[.int .i64 (-3)] w fun e w' => e = .returned (.int .i64 5) ∧ w' = w := fun w => fold_any (-3) w (by omega) (by omega)
  have C22 : ∀ w, Calls Tryd.prog 22 #[.int .i64 5] w fun e w' => e = .returned (.int .i64 (-3)) ∧ w' = w := fun w => unfold_any 5 w (by omega) (by omega)
  go_enter Tryd.func7, Tryd.ntmps7
  go_wp2_with (first
    | (go_at_call 16; refine (C16 _ (hk.on (below_new w _))).mono ?_; rintro e w1 ⟨rfl, hb1⟩; have B1 := bchain (below_new w (valO 2 0 [97, 34, 98])) hb1; have V1 := ((VAt.new w 2 0 [97, 34, 98]).on hb1).on (below_new w1 (valO 2 0 [97, 34, 98])); have c0 := V1.c0; have c1 := V1.c1; have c2 := V1.c2)
    | (go_at_call 12; refine (C12 _ (hk.on (bchain B1 (below_new w1 _)))).mono ?_; rintro e w2 ⟨rfl, hb2⟩; have V2 := V1.on hb2; have d0 := V2.c0; have d1 := V2.c1; have d2 := V2.c2; have U2 := (VAt.new w1 2 0 [97, 34, 98]).on hb2; have u0 := U2.c0; have u1 := U2.c1; have u2 := U2.c2)
    | (go_at_call 21; refine (C21 _).mono ?_; rintro e w3 ⟨rfl, hw⟩; have hw := hw.symm; subst hw)
    | (go_at_call 22; refine (C22 _).mono ?_; rintro e w3 ⟨rfl, hw⟩; have hw := hw.symm; subst hw))
  go_ret
  exact ⟨rfl, bchain (bchain B1 (below_new w1 _)) hb2⟩

/-- Two and three values that came in. -/
theorem VAt.new2 (w : World) (k n : Int) (l : List UInt8) (k' n' : Int) (l' : List UInt8) : VAt ((w.alloc (valO k n l)).alloc (valO k' n' l')) w.heap.size k n l ∧ VAt ((w.alloc (valO k n l)).alloc (valO k' n' l')) (w.heap.size + 1) k' n' l' := by
  refine ⟨(VAt.new w k n l).on (below_new _ _), ?_⟩
  have h := VAt.new (w.alloc (valO k n l)) k' n' l'
  have e : (w.alloc (valO k n l)).heap.size = w.heap.size + 1 := by simp
  rwa [e] at h
theorem VAt.new3 (w : World) (k n : Int) (l : List UInt8) (k' n' : Int) (l' : List UInt8) (k2 n2 : Int) (l2 : List UInt8) : VAt (((w.alloc (valO k n l)).alloc (valO k' n' l')).alloc (valO k2 n2 l2)) w.heap.size k n l ∧ VAt (((w.alloc (valO k n l)).alloc (valO k' n' l')).alloc (valO k2 n2 l2)) (w.heap.size + 1) k' n' l' ∧ VAt (((w.alloc (valO k n l)).alloc (valO k' n' l')).alloc (valO k2 n2 l2)) (w.heap.size + 1 + 1) k2 n2 l2 := by
  have h2 := VAt.new2 w k n l k' n' l'
  refine ⟨h2.1.on (below_new _ _), h2.2.on (below_new _ _), ?_⟩
  have h := VAt.new ((w.alloc (valO k n l)).alloc (valO k' n' l')) k2 n2 l2
  have e : ((w.alloc (valO k n l)).alloc (valO k' n' l')).heap.size = w.heap.size + 1 + 1 := by simp
  rwa [e] at h
end Go.Proofs.YthphoclfoejbfaaDoor
