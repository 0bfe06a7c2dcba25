/- PathBack is proved in its second form: for every slice of texts of the bulk that the statement bounds the function of that name returns true, and the argument reads as it did. (The first form is false by size alone: the document's Runes makes a slice of eight bytes for each of a part's letters.) Conditions: none but that bound. -/
import Derived.Test.YtcmidcpogcejfaaBase
import Derived.Test.YtcmidcpogcejfaaLBack
import Derived.OpenShut
import Derived.ShutString
import Derived.ProofKit
import Derived.JoinedCond
namespace Go.Proofs.Ytcmidcpogcejfaa
open Go.ChangeShapes Go.WideShapes Go.ChangeAt Go.RowKit Go.Deep
set_option linter.unusedVariables false

/-- The parts' bulk is that of their letters, and one each. -/
theorem bulk_parts {H : Type} : ∀ (xs : List (List UInt8)), xs.length ≤ Rows.uptoBulkAll (xs.map fun x => DataW.lit (H := H) (.string x)) ∧ ∀ x ∈ xs, x.length ≤ Rows.uptoBulkAll (xs.map fun x => DataW.lit (H := H) (.string x))
  | [] => ⟨by simp, fun x hx => by cases hx⟩
  | y :: xs => by
    have h := bulk_parts (H := H) xs
    simp only [List.map_cons, Rows.uptoBulkAll, Rows.uptoBulk, List.length_cons]
    refine ⟨by omega, fun x hx => ?_⟩
    rcases List.mem_cons.1 hx with e | hx
    · rw [e]; omega
    · have := h.2 x hx; omega
theorem bulk_path {H : Type} {xs : List (List UInt8)} {sp : List (DataW H)} (h : Rows.uptoSmall H [.slice (xs.map fun x => .lit (.string x)) sp] = true) : xs.length ≤ 2000000 ∧ ∀ x ∈ xs, x.length ≤ 2000000 := by
  have h1 := of_decide_eq_true h
  simp only [Rows.uptoBulkAll, Rows.uptoBulk] at h1
  have h2 := bulk_parts (H := H) xs
  exact ⟨by omega, fun x hx => by have := h2.2 x hx; omega⟩

/-- A slice of texts that came in: what it reads as, and how it lies. -/
theorem strs_readD {H : Type} {enc : TypeId × Value → H} {W : World} {base : Nat} {v : Value} {d : DataW H} {p : List MemPlace} (hv : Value.okWide Try.prog W .any base 22 v) (h : DataW.Trod enc Try.prog W 0 (fun _ => true) true 22 v d p) :
    ∃ xs : List (List UInt8), U.strsAt W v xs ∧ (xs = [] ∨ ∃ sp, d = .slice (xs.map fun x => .lit (.string x)) sp) := by
  obtain ⟨a0, len, cap, rfl⟩ := okWide_slice Try.underlying22 hv
  obtain ⟨fuel, hf⟩ := h
  rcases open_strs Try.underlying22 Try.underlying9 cells9 hf with ⟨hcs, hx⟩ | ⟨a, len', cap', m, Sx, hcs, _, hl, hm, hmm, hx, hcell⟩
  · simp [Value.cells] at hcs
    obtain ⟨rfl, rfl, rfl⟩ := hcs
    exact ⟨[], U.strsAt_nil _, Or.inl rfl⟩
  · simp [Value.cells] at hcs
    obtain ⟨rfl, rfl, rfl⟩ := hcs
    simp only [if_true] at hmm
    subst hmm
    refine ⟨(List.range len).map fun i => (Sx i).data.toList, ⟨some a, m, by simp, by simp; omega, ?_⟩, Or.inr ⟨(List.range (m - len)).map fun j => .lit (.string (Sx (len + j)).data.toList), ?_⟩⟩
    · intro k hk
      simp at hk
      refine ⟨a, rfl, ?_⟩
      rw [(hcell k (by omega)).1]
      simp
    · rw [(Prod.mk.inj hx).1, List.map_map]
      rfl

set_option maxRecDepth 100000 in
theorem pathBack_contract (H : Type) (enc : TypeId × Value → H) (W : World) (base : Nat) (args : Array Value) (ds gs : List (DataW H)) (before : List MemPlace)
    (hval0 : ∀ (j : Nat) t v, Try.f6.params[j]? = some t → args[j]? = some v → Value.okWide Try.prog W .any base t v)
    (hW : DataW.Whole enc Try.prog Try.f6.params.toList Rows.pathBackSpec.vars false W args.toList ds gs before) (hS : Rows.uptoSmall H (ds ++ gs) = true) :
    Calls Try.prog 6 args W fun e W' => ∃ v, e = .returned v ∧ Rows.pathBackSpec.post enc Try.prog Try.f6 false true false false W args v W' := by
  have hval : ∀ (j : Nat) t v, Try.f6.params[j]? = some t → args[j]? = some v → Value.okWide Try.prog W .any base t v := hval0
  have hW' := hW
  obtain ⟨p, q, hA0, hV, rfl, hfz, hnd⟩ := hW
  have hA : DataW.TrodAll enc Try.prog W 0 (fun _ => true) true Try.f6.params.toList args.toList ds p := hA0
  rw [Try.params6] at hA hval
  obtain ⟨v0, vs0, d0, ds0, p0, q0, hargs, rfl, rfl, h0, r0⟩ := trodAll_cons hA
  obtain ⟨rfl, rfl, rfl⟩ := trodAll_nil r0
  obtain rfl : args = #[v0] := by cases args; simp_all
  obtain ⟨rfl, rfl⟩ := trodVars_none hV
  obtain ⟨xs, s0, hd⟩ := strs_readD (hval 0 22 v0 rfl rfl) h0
  have hb : xs.length ≤ 2000000 ∧ ∀ x ∈ xs, x.length ≤ 2000000 := by
    rcases hd with rfl | ⟨sp, rfl⟩
    · exact ⟨by simp, fun x hx => by cases hx⟩
    · exact bulk_path hS
  clear hA0 hval0
  refine (U.pathBack_walk v0 xs W hb.1 hb.2 s0).mono fun e W' ⟨he, bel⟩ => ?_
  subst he
  have hlt := hW'.lt
  exact ⟨_, rfl, _, _, _, [], _, [], hW', trodAll_mk1 (shut_bool Try.underlying4 _), (trodAll_cons_mk (Go.WideElems.Trod_stays laid_out reads22 rows22 h0 (fun x hx => bel.same (hlt x (by simp [hx]))) (fun x hx => decide_eq_true (hlt x (by simp [hx])))) trodAll_mk0), rfl, bel.frame _, fun h => by cases h⟩

set_option maxRecDepth 100000 in
theorem pathBack_liftedUpto (os : Os) (started : os.Started) (H : Type) (enc : TypeId × Value → H) (F : Stop.Interp) :
    ReturnsInHanded {} Try.checked os 6 .any ((Rows.OpenSpec.upto Rows.pathBackSpec).pre6 enc Try.prog Try.f6 Rows.pathBackUptoRow.domain false) (((Rows.OpenSpec.upto Rows.pathBackSpec).at F).post enc Try.prog Try.f6 false true false false) := by
  refine returnsInHanded_of_cond (C := Try.checked) (s := Rows.OpenSpec.upto Rows.pathBackSpec) (k := Rows.uptoSmall) rfl own started (by kernel_rfl) Try.func6
    (OpenSpec.witness (enc := enc) (C := Try.checked) (s := Rows.OpenSpec.upto Rows.pathBackSpec) (k := Rows.uptoSmall) rfl false ⟨#[], #[.slice none 0 0], []⟩ 8 (by kernel_rfl) (by kernel_rfl) (by kernel_rfl)
      (x := ([.nil], [], [])) (by kernel_rfl) rfl (by kernel_rfl)) ?_
  intro W base args ds gs before hval hW _ hk _
  exact pathBack_contract H enc W base args ds gs before hval hW hk

theorem pathBackUpto_holds : Rows.PathBackUptoSaid :=
  OpenClaim.holds_of_cond 6 Try.f6 rfl rfl rfl rfl rfl rfl rfl ⟨rfl, rfl, rfl, rfl, rfl⟩ rfl rfl rfl rfl rfl (by kernel_rfl) Try.func6 (by kernel_rfl)
    (of_decide_eq_true (by kernel_rfl)) (by unfold Func.isWrapper; first | (rw [if_pos (by decide +kernel)]; kernel_rfl) | (rw [if_neg (by decide +kernel)]; exact ⟨rfl, rfl⟩))
    (fun os started H enc _ F => pathBack_liftedUpto os started H enc F)
#print axioms pathBackUpto_holds
end Go.Proofs.Ytcmidcpogcejfaa
