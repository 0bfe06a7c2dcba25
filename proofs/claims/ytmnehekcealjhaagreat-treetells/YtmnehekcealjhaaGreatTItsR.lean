/- What Kinds, Under and the document's answers tell, by the items alone; the statement's same. -/
import Derived.Test.YtmnehekcealjhaaGreatTItsP
import Derived.Test.YtmnehekcealjhaaGreatTRKinds
import Derived.Test.YtmnehekcealjhaaGreatTRLeaves
import Derived.Test.YtmnehekcealjhaaGreatTLike
import Derived.Test.YtmnehekcealjhaaGreatRefAll
namespace Go.Proofs.YtmnehekcealjhaaGreat.O
open Go.RowKit

theorem refAllC {v vu : Value} {ts : List Tx.Txn} {u : List U} {w : World} (hv : txsIn w v ts) (hu : T.cntsIn w vu u) (hn : ts.length ≤ 1000) (hg : ∀ t ∈ ts, okT t = true) (hun : u.length ≤ 1000000) (hp : Ct.Std u) : AllC 9 w v vu (Lv.all ts (seenD u)) := fun W hb =>
  (refAll_any v vu ts u W (hv.on hb) (hu.on hb) hn (fun t ht => ⟨(okT_few (hg t ht)).1, fun o ho => ((okT_few (hg t ht)).2 o ho).1⟩) hun hp).mono fun _ _ ⟨r, xs, h1, h2, h3, h4⟩ => ⟨r, h1, ⟨xs, h2, h3, all_short hg h3, all_len hn hg h3⟩, h4⟩
section
variable {its : List Lv.Item} {r vp : Value} {p : List (List UInt8)} {w : World}
theorem knd_its {xs : List IE} (h : xs.map (·.1) = its) (ha : ∀ i ∈ its, Lv.able i.o.k = true) (p : List (List UInt8)) : Li.vals (fun a b : Int => a - b) (knd p xs) = Tr.kinds its p := by
  rw [← Tr.kinds_vals ha p]
  congr 1
  unfold knd
  have h1 := congrArg (List.map fun i : Lv.Item => Os.leaf i.o.k) (filt_map9 (fun i => decide (i.o.p = p)) xs)
  rw [h, List.map_map] at h1
  exact h1
theorem kinds_at (h : ItsAt its w r) (hp : U.strsAt w vp p) (ha : ∀ i ∈ its, Lv.able i.o.k = true) : Calls Tryz.prog 10 #[r, vp] w fun e w' => ∃ q, e = .returned q ∧ rowsIn w' ncell q (Tr.kinds its p) ∧ Below w.heap.size w w' := by
  obtain ⟨xs, h1, h2, h3, h4⟩ := h
  have a := kinds_any r vp xs p w h1 hp h4 h3
  rw [knd_its h2 ha] at a
  exact a
theorem refKinds_at (h : ItsAt its w r) (hp : U.strsAt w vp p) (hpn : p.length ≤ 2000000) : Calls Tryz.prog 11 #[r, vp] w fun e w' => ∃ q, e = .returned q ∧ rowsIn w' ncell q (Tr.kinds its p) ∧ Below w.heap.size w w' := by
  obtain ⟨xs, h1, h2, h3, h4⟩ := h
  have a := refKinds_any r vp xs p w h1 hp h4 hpn h3
  rw [h2] at a
  exact a
theorem refKeys_at (h : ItsAt its w r) (hp : U.strsAt w vp p) : Calls Tryz.prog 17 #[r, vp] w fun e w' => ∃ q, e = .returned q ∧ U.strsAt w' q (Tr.keys its p) ∧ Below w.heap.size w w' := by
  obtain ⟨xs, h1, h2, h3, h4⟩ := h
  have a := refKeys_any r vp xs p w h1 hp h4 h3
  rw [keys_its h2] at a
  exact a
theorem refLeaves_at (h : ItsAt its w r) : Calls Tryz.prog 14 #[r] w fun e w' => ∃ q, e = .returned q ∧ LvsAt its w' q ∧ Below w.heap.size w w' := by
  obtain ⟨xs, h1, h2, h3, h4⟩ := h
  refine (refLeaves_any r xs w h1 h4 h3).mono ?_
  rintro e w' ⟨q, zs, rfl, e2, e3, e4⟩
  rw [h2] at e2
  exact ⟨q, rfl, lvs_of h2 h3 h4 e2 e3, e4⟩
theorem under_at (h : ItsAt its w r) (hp : U.strsAt w vp p) (hpn : p.length ≤ 2000000) : Calls Tryz.prog 18 #[r, vp] w fun e w' => ∃ q, e = .returned q ∧ ItsAt (its.filter fun i => Pt.under i.o.p p) w' q ∧ Below w.heap.size w w' := by
  obtain ⟨xs, h1, h2, h3, h4⟩ := h
  refine (underL_any r vp xs p w h1 hp h4 hpn h3).mono ?_
  rintro e w' ⟨q, rfl, e2, e3⟩
  refine ⟨q, rfl, ⟨_, e2, ?_, fun x hx => h3 x (List.mem_filter.1 hx).1, Nat.le_trans (List.length_filter_le _ _) h4⟩, e3⟩
  rw [← h2, ← filt_map9]
theorem same_at {va vb : Value} (ha : LvsAt its w va) (hb : LvsAt its w vb) : Calls Tryz.prog 12 #[va, vb] w fun e w' => e = .returned (.bool true) ∧ Below w.heap.size w w' := by
  obtain ⟨xs, a1, a2, a3, a4⟩ := ha
  obtain ⟨ys, b1, b2, b3, b4⟩ := hb
  exact sameT_any va vb xs ys w a1 b1 (by rw [a2, b2]) a4 a3
end
/-- A number of a row. -/
theorem num_get {w : World} {ao : Option Addr} {n cap : Nat} {l : List Int} (h : rowsIn w ncell (.slice ao n cap) l) {k : Nat} (hk : k < l.length) : ∃ ad, ao = some ad ∧ w.cell? (ad.add k) = some (.int .i64 l[k]) := by
  obtain ⟨ad, e, h1⟩ := h.get (cell1_len _) (by omega) hk
  refine ⟨ad, e, ?_⟩
  have h2 := h1 0 _ rfl
  rw [Nat.mul_one] at h2
  rwa [show (ad.add k).add 0 = ad.add k by unfold Addr.add; simp] at h2
theorem kinds_len (its : List Lv.Item) (p : List (List UInt8)) : (Tr.kinds its p).length ≤ 3 := by
  unfold Tr.kinds
  exact List.length_filter_le _ _
end Go.Proofs.YtmnehekcealjhaaGreat.O
