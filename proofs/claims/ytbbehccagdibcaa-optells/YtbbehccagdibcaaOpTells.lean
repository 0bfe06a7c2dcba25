/- For every two operations, every reference and every number, whatever they hold and wherever they lie: OpTells returns true, and what came in reads as it did. No condition; it states the whole of the given statement. -/
import Derived.Test.YtbbehccagdibcaaBase
import Derived.Test.YtbbehccagdibcaaLTells
import Derived.OpenShut
import Derived.ShutString
import Derived.ProofKit
namespace Go.Proofs.Ytbbehccagdibcaa
open Go.ChangeShapes Go.WideShapes Go.ChangeAt Go.RowKit
open Go.ChangeMaps (open_string shut_string)
set_option linter.unusedVariables false

set_option maxRecDepth 100000 in
theorem opTells_lifted (os : Os) (started : os.Started) (H : Type) (enc : TypeId × Value → H) :
    ReturnsInHanded {} Try.checked os 3 .any (Rows.opTellsSpec.pre6 enc Try.prog Try.f3 Rows.opTellsRow.domain false) (Rows.opTellsSpec.post enc Try.prog Try.f3 false true false false) := by
  refine returnsInHanded_of_change (C := Try.checked) own started (by kernel_rfl) Try.func3
    (ChangeSpec.witness6 (enc := enc) (C := Try.checked) false ⟨#[], #[.agg #[.int .i64 0, .slice none 0 0, .int .i64 0, .int .i64 0, .string ByteArray.empty, .int .i64 0, .slice none 0 0], .agg #[.int .i64 0, .slice none 0 0, .int .i64 0, .int .i64 0, .string ByteArray.empty, .int .i64 0, .slice none 0 0], .agg #[.int .i64 0, .int .i64 0, .int .i64 0], .int .i64 0], []⟩ 8 (by kernel_rfl) (by kernel_rfl) (by kernel_rfl) (by kernel_rfl)) ?_
  intro W base args ds gs before hval0 hW hcnd _
  have hval : ∀ (j : Nat) t v, Try.f3.params[j]? = some t → args[j]? = some v → Value.okWide Try.prog W .any base t v := hval0
  have hW' := hW
  obtain ⟨p, q, hA0, hV, rfl, hfz, hnd⟩ := hW
  have hA : DataW.TrodAll enc Try.prog W 0 (fun _ => true) true Try.f3.params.toList args.toList ds p := hA0
  rw [Try.params3] at hA hval
  obtain ⟨v0, vs0, d0, ds0, p0, q0, hargs, rfl, rfl, h0, r0⟩ := trodAll_cons hA
  obtain ⟨v1, vs1, d1, ds1, p1, q1, rfl, rfl, rfl, h1, r1⟩ := trodAll_cons r0
  obtain ⟨v2, vs2, d2, ds2, p2, q2, rfl, rfl, rfl, h2, r2⟩ := trodAll_cons r1
  obtain ⟨v3, vs3, d3, ds3, p3, q3, rfl, rfl, rfl, h3, r3⟩ := trodAll_cons r2
  obtain ⟨rfl, rfl, rfl⟩ := trodAll_nil r3
  obtain rfl : args = #[v0, v1, v2, v3] := by cases args; simp_all
  obtain ⟨rfl, rfl⟩ := trodVars_none hV
  obtain ⟨ka0, kb0, kc0, kd0, ke0, kf0, kg0, kp0, kl0, rfl, y0, z0, t0, u0⟩ := op_read (hval 0 27 v0 rfl rfl) h0
  obtain ⟨ka1, kb1, kc1, kd1, ke1, kf1, kg1, kp1, kl1, rfl, y1, z1, t1, u1⟩ := op_read (hval 1 27 v1 rfl rfl) h1
  obtain ⟨a2, rfl⟩ := ref_read (hval 2 31 v2 rfl rfl) h2
  obtain ⟨a3, rfl, rfl, rfl, w3⟩ := open_int Try.underlying3 (hval 3 3 v3 rfl rfl) h3
  clear hA0 hval0
  refine (opTells_walk ka0 kb0 kc0 kd0 ke0 kf0 kg0 kp0 kl0 ka1 kb1 kc1 kd1 ke1 kf1 kg1 kp1 kl1 a2 a3 W  y0 z0 t0 u0 y1 z1 t1 u1).mono fun e W' ⟨he, bel⟩ => ?_
  subst he
  have hlt := hW'.lt
  exact ⟨_, rfl, _, _, _, [], _, [], hW', trodAll_mk1 (shut_bool Try.underlying4 _), (trodAll_cons_mk (Go.WideElems.Trod_stays laid_out reads27 rows27 h0 (fun x hx => bel.same (hlt x (by simp [hx]))) (fun x hx => decide_eq_true (hlt x (by simp [hx])))) (trodAll_cons_mk (Go.WideElems.Trod_stays laid_out reads27 rows27 h1 (fun x hx => bel.same (hlt x (by simp [hx]))) (fun x hx => decide_eq_true (hlt x (by simp [hx])))) (trodAll_cons_mk (Go.WideElems.Trod_stays laid_out reads31 rows31 h2 (fun x hx => bel.same (hlt x (by simp [hx]))) (fun x hx => decide_eq_true (hlt x (by simp [hx])))) (trodAll_cons_mk (shut_int Try.underlying3 w3) trodAll_mk0)))), rfl, bel.frame _, fun h => by cases h⟩

theorem opTells_holds : Rows.OpTellsSaid :=
  OpenClaim.holds_of_wide 3 Try.f3 rfl rfl rfl rfl rfl rfl rfl ⟨rfl, rfl, rfl, rfl, rfl⟩ rfl rfl rfl rfl rfl (by kernel_rfl) Try.func3 (by kernel_rfl)
    (of_decide_eq_true (by kernel_rfl)) (by unfold Func.isWrapper; first | (rw [if_pos (by decide +kernel)]; kernel_rfl) | (rw [if_neg (by decide +kernel)]; exact ⟨rfl, rfl⟩))
    (fun os started H enc _ => opTells_lifted os started H enc)
#print axioms opTells_holds
end Go.Proofs.Ytbbehccagdibcaa
