/- What RegBoth's proof wants besides: a slice of values that came in, with what the bound gives. -/
import Derived.Test.YtmnjeffpfmfbiaaCntsAll
import Derived.Test.YtmnjeffpfmfbiaaRegsAll
namespace Go.Proofs.Ytmnjeffpfmfbiaa
open Go.ChangeShapes Go.WideShapes Go.ChangeAt Go.RowKit Go.Deep

theorem reads37 : Try.prog.readableRec 37 = true := by kernel_rfl
theorem rows37 : 37 < Try.prog.types.size := by decide +kernel
set_option maxRecDepth 100000 in
/-- Three cells of a value, and what they read as. -/
theorem cells_valD {H : Type} {enc : TypeId × Value → H} {W : World} {sp : Nat → Bool} {fuel : Nat} {c0 c1 c2 : Value} {x : DataW H} {q : List MemPlace} (h : DataW.trod enc Try.prog W 0 sp true fuel 33 [c0, c1, c2] = some (x, q)) :
    ∃ u : Rg.Va, c0 = .int .i64 u.1 ∧ c1 = .int .i64 u.2.1 ∧ c2 = .string ⟨u.2.2.toArray⟩ ∧ ∃ a b : DataW H, x = .agg [a, b, .lit (.string u.2.2)] := by
  obtain ⟨y0, y1, y2, m, hx, hd, hy0, hy1, hy2⟩ := Go.Deep.trod_struct3 Try.underlying33 h
  obtain ⟨a, e0, rfl, wa⟩ := DataW.trod_int Try.underlying3 hy0
  obtain ⟨b, e1, rfl, wb⟩ := DataW.trod_int Try.underlying3 hy1
  obtain ⟨s, e2, rfl, ws⟩ := DataW.trod_string Try.underlying9 hy2
  simp [cells3, cells9] at e0 e1 e2
  simp only [Prod.mk.injEq] at hx
  exact ⟨(a, b, s.data.toList), e0, e1, by rw [e2], _, _, hx.1⟩
set_option maxRecDepth 100000 in
/-- A slice of values that came in: what it reads as, and how it lies. -/
theorem vals_readD {H : Type} {enc : TypeId × Value → H} {W : World} {base : Nat} {v : Value} {d : DataW H} {p : List MemPlace} (hv : Value.okWide Try.prog W .any base 37 v) (h : DataW.Trod enc Try.prog W 0 (fun _ => true) true 37 v d p) :
    ∃ l : List Rg.Va, O.valsIn W v l ∧ (l = [] ∨ ∃ (Dd : Nat → DataW H) (sp : List (DataW H)), d = .slice ((List.range l.length).map Dd) sp ∧ ∀ i (h : i < l.length), ∃ a b : DataW H, Dd i = .agg [a, b, .lit (.string l[i].2.2)]) := by
  obtain ⟨a0, len0, cap0, rfl⟩ := okWide_slice Try.underlying37 hv
  obtain ⟨fuel, hf⟩ := h
  rcases Go.Deep.open_slice Try.underlying37 hf with ⟨e, _⟩ | ⟨a, len, cap, m, n, Dd, Pl, e, hb, hl, hm, hmm, hd, hx⟩
  · simp [Value.cells] at e
    obtain ⟨rfl, rfl, rfl⟩ := e
    exact ⟨[], O.valsIn_nil W, Or.inl rfl⟩
  · simp [Value.cells] at e
    obtain ⟨rfl, rfl, rfl⟩ := e
    have hlm : len0 ≤ m := by rw [hmm]; split <;> omega
    have each : ∀ i, i < len0 → ∃ u : Rg.Va, O.VcAt W (a.add (i * 3)) u ∧ ∃ x y : DataW H, Dd i = .agg [x, y, .lit (.string u.2.2)] := fun i hi => by
      obtain ⟨cs', h1, h2⟩ := hx i (by omega)
      rw [cells24] at h1
      obtain ⟨_, hlen, hcell⟩ := World.cells?_some h1
      match cs', hlen with
      | [c0, c1, c2], _ =>
        obtain ⟨u, e0, e1, e2, x, y, hD⟩ := cells_valD h2
        have g0 := hcell 0 (by omega)
        have g1 := hcell 1 (by omega)
        have g2 := hcell 2 (by omega)
        refine ⟨u, O.VcAt.of fun j w9 hw9 => ?_, x, y, hD⟩
        match j, hw9 with
        | 0, hw9 => rw [← Option.some.inj hw9, ← e0]; simpa using g0
        | 1, hw9 => rw [← Option.some.inj hw9, ← e1]; simpa using g1
        | 2, hw9 => rw [← Option.some.inj hw9, ← e2]; simpa using g2
    have hcells : ∀ i (hi : i < len0) j u, (O.vcell (each i hi).choose)[j]? = some u → W.cell? (a.add (i * 3 + j)) = some u := fun i hi j u hu => by
      obtain ⟨⟨g0, g1, g2⟩, _⟩ := (each i hi).choose_spec
      generalize (each i hi).choose = y at *
      match j, hu with
      | 0, hu => rw [← Option.some.inj hu]; exact g0
      | 1, hu => rw [← Option.some.inj hu, O.add_plus _ _ 1 (by omega)]; exact g1
      | 2, hu => rw [← Option.some.inj hu, O.add_plus _ _ 2 (by omega)]; exact g2
    refine ⟨(List.range len0).attach.map fun i => (each i.1 (List.mem_range.1 i.2)).choose, ⟨some a, cap0, by simp, by simpa using hl, fun e => by simp at e, fun j u hu => ⟨a, rfl, ?_⟩⟩, Or.inr ⟨Dd, (List.range (m - len0)).map fun j => Dd (len0 + j), by rw [(Prod.mk.inj hd).1]; simp, fun i hi => ?_⟩⟩
    · obtain ⟨k, i, hk, hi3, rfl, he⟩ := O.flat_get O.vcell_len _ j u hu
      simp only [List.getElem_map, List.getElem_attach, List.getElem_range] at he
      exact hcells k (by simpa using hk) i u he
    · simp only [List.getElem_map, List.getElem_attach, List.getElem_range]
      exact (each i (by simpa using hi)).choose_spec.2
theorem bulk_mem {H : Type} {x : DataW H} : ∀ {ds : List (DataW H)}, x ∈ ds → Rows.uptoBulk x ≤ Rows.uptoBulkAll ds
  | [], h => by simp at h
  | y :: ds, h => by
    rw [Rows.uptoBulkAll]
    rcases List.mem_cons.1 h with e | e
    · rw [e]; omega
    · have := bulk_mem e; omega
theorem bulk_len {H : Type} : ∀ {ds : List (DataW H)}, (∀ x ∈ ds, 1 ≤ Rows.uptoBulk x) → ds.length ≤ Rows.uptoBulkAll ds
  | [], _ => by simp
  | y :: ds, h => by
    have h1 := bulk_len (ds := ds) fun x hx => h x (List.mem_cons_of_mem _ hx)
    have h2 := h y (by simp)
    rw [Rows.uptoBulkAll, List.length_cons]
    omega
theorem bulk_agg {H : Type} (a b : DataW H) (s : List UInt8) : s.length + 1 ≤ Rows.uptoBulk (.agg [a, b, .lit (.string s)]) := by
  simp only [Rows.uptoBulk, Rows.uptoBulkAll]
  omega
/-- What the bound gives: how many values, and each text's length. -/
theorem bulk_vals {H : Type} {l : List Rg.Va} {Dd : Nat → DataW H} {sp : List (DataW H)} (hD : ∀ i (h : i < l.length), ∃ a b : DataW H, Dd i = .agg [a, b, .lit (.string l[i].2.2)]) (h : Rows.uptoSmall H [.slice ((List.range l.length).map Dd) sp] = true) : l.length ≤ 2000000 ∧ ∀ x ∈ l, x.2.2.length ≤ 2000000 := by
  have h1 := of_decide_eq_true h
  simp only [Rows.uptoBulkAll, Rows.uptoBulk] at h1
  have hall : ∀ x ∈ (List.range l.length).map Dd, 1 ≤ Rows.uptoBulk x := fun x hx => by
    obtain ⟨i, hi, rfl⟩ := List.mem_map.1 hx
    obtain ⟨a, b, e⟩ := hD i (List.mem_range.1 hi)
    rw [e]
    have := bulk_agg a b (l[i]'(List.mem_range.1 hi)).2.2
    omega
  have h2 := bulk_len hall
  rw [List.length_map, List.length_range] at h2
  refine ⟨by omega, fun x hx => ?_⟩
  obtain ⟨i, hi, rfl⟩ := List.mem_iff_getElem.1 hx
  have h3 := bulk_mem (List.mem_map.2 ⟨i, List.mem_range.2 hi, rfl⟩ : Dd i ∈ (List.range l.length).map Dd)
  obtain ⟨a, b, e⟩ := hD i hi
  rw [e] at h3
  have := bulk_agg a b l[i].2.2
  omega
end Go.Proofs.Ytmnjeffpfmfbiaa
