/- The walk of the program's Put. -/
import Derived.Test.YtbeinicbkbkbpaaTJoins
namespace Go.Proofs.Ytbeinicbkbkbpaa.T
open Go.Proofs.Ytbeinicbkbkbpaa.D
open Go.RowKit Go.Shelf

set_option maxRecDepth 20000 in
theorem put_any (v : Value) (l : List U) (u : U) (w : World) (hv : cntsIn w v l) (hn : l.length ≤ 900000) (hp : Ct.Std l) :
    Calls Try.prog 24 #[v, uV u] w fun e w' => ∃ r, e = .returned r ∧ w'.ownsRow w.heap.size 59 3 r (Ct.put l u).length (ucells (Ct.put l u)) ∧ Below w.heap.size w w' := by
  rw [← Ct.put_join hp u]
  obtain ⟨W0, hW0⟩ : ∃ W0, W0 = (w.alloc (.cells #[.int .i64 u.1.1, .int .i64 u.1.2, .int .i64 u.2] 59)).alloc (.cells #[.int .i64 u.1.1, .int .i64 u.1.2, .int .i64 u.2] 59) := ⟨_, rfl⟩
  have hB0 : Below w.heap.size w W0 := by rw [hW0]; exact below_new2 _ _ _
  have hone := cntsIn_one (w.alloc (.cells #[.int .i64 u.1.1, .int .i64 u.1.2, .int .i64 u.2] 59)) u
  have hsz : (w.alloc (.cells #[.int .i64 u.1.1, .int .i64 u.1.2, .int .i64 u.2] 59)).heap.size = w.heap.size + 1 := by simp
  rw [hsz, ← hW0] at hone
  have HR := right_cnts _ _ W0 hone (by simp)
  rw [Ct.std_one] at HR
  have HV : Hid (cntsIn w v l) := hv
  have HO : Hid (cntsIn W0 (.slice (some ⟨w.heap.size + 1, 0, none⟩) 1 1) [u]) := hone
  clear hone hsz hv hp
  cases hq : Ct.ok u with
  | false =>
    have h1 : Ct.one u = [] := by unfold Ct.one; rw [hq]; rfl
    rw [hq] at HR
    rw [h1]
    clear h1 hq
    go_enter Try.func24, Try.ntmps24
    go_wp2_with (first | (go_at_call 53; rw [← hW0]; refine HR.mono ?_; rintro e w1 ⟨rfl, hb1⟩) | (go_at_call 54; refine (join_any v _ l [] w1 (HV.out.on (bchain hB0 hb1)) (cntsIn_nil _) (by simp; omega)).mono ?_; rintro e w2 ⟨r, rfl, own2, hb2⟩))
    go_ret
    exact ⟨_, rfl, own_base own2 (bchain hB0 hb1).size, bchain (bchain hB0 hb1) hb2⟩
  | true =>
    have h1 : Ct.one u = [u] := by unfold Ct.one; rw [hq]; rfl
    rw [hq] at HR
    rw [h1]
    clear h1 hq
    go_enter Try.func24, Try.ntmps24
    go_wp2_with (first | (go_at_call 53; rw [← hW0]; refine HR.mono ?_; rintro e w1 ⟨rfl, hb1⟩) | (go_at_call 54; refine (join_any v _ l [u] w1 (HV.out.on (bchain hB0 hb1)) (HO.out.on hb1) (by simp; omega)).mono ?_; rintro e w2 ⟨r, rfl, own2, hb2⟩))
    go_ret
    exact ⟨_, rfl, own_base own2 (bchain hB0 hb1).size, bchain (bchain hB0 hb1) hb2⟩
end Go.Proofs.Ytbeinicbkbkbpaa.T
