/- What Keys, Leaves, Deep and the example tell, by the items alone; All at any world behind the first. -/
import Derived.Test.YtmnehekcealjhaaGreatTAwake
namespace Go.Proofs.YtmnehekcealjhaaGreat.O
open Go.RowKit

/-- Items in memory that are these. -/
def ItsAt (its : List Lv.Item) (w : World) (r : Value) : Prop := ∃ xs : List IE, itsE w r xs ∧ xs.map (·.1) = its ∧ ShortI xs ∧ xs.length ≤ 1000000
theorem ItsAt.on {its : List Lv.Item} {w w' : World} {r : Value} (h : ItsAt its w r) (hb : Below w.heap.size w w') : ItsAt its w' r := by
  obtain ⟨xs, h1, h2⟩ := h
  exact ⟨xs, h1.on hb, h2⟩
theorem ItsAt.slice {its : List Lv.Item} {w : World} {r : Value} (h : ItsAt its w r) : ∃ ao cap, r = .slice ao its.length cap := by
  obtain ⟨xs, h1, h2, _⟩ := h
  obtain ⟨ao, cap, e⟩ := h1.slice
  exact ⟨ao, cap, by rw [e, ← h2, List.length_map]⟩
/-- Leaves in memory that are theirs. -/
def LvsAt (its : List Lv.Item) (w : World) (r : Value) : Prop := ∃ zs : List LE, lvsE w r zs ∧ zs.map Prod.fst = Tr.leaves its ∧ (∀ x ∈ zs, x.1.1.length ≤ 2000000) ∧ zs.length ≤ 1000000
theorem LvsAt.on {its : List Lv.Item} {w w' : World} {r : Value} (h : LvsAt its w r) (hb : Below w.heap.size w w') : LvsAt its w' r := by
  obtain ⟨zs, h1, h2⟩ := h
  exact ⟨zs, h1.on hb, h2⟩
theorem LvsAt.slice {its : List Lv.Item} {w : World} {r : Value} (h : LvsAt its w r) : ∃ ao cap, r = .slice ao (Tr.leaves its).length cap := by
  obtain ⟨zs, h1, h2, _⟩ := h
  obtain ⟨ao, cap, e⟩ := h1.slice
  exact ⟨ao, cap, by rw [e, ← h2, List.length_map]⟩
theorem leaves_fine {xs : List IE} {its : List Lv.Item} {zs : List LE} (h : xs.map (·.1) = its) (hs : ShortI xs) (hz : zs.map Prod.fst = Tr.leaves its) : ∀ x ∈ zs, x.1.1.length ≤ 2000000 := fun x hx => by
  have h1 : x.1 ∈ Tr.leaves its := by rw [← hz]; exact List.mem_map.2 ⟨x, hx, rfl⟩
  obtain ⟨i, hi, e⟩ := Tr.mem_leaves.1 h1
  rw [← h, List.mem_map] at hi
  obtain ⟨y, hy, rfl⟩ := hi
  rw [← e]
  exact (short_sizes (hs y hy)).1
theorem leaves_len (its : List Lv.Item) : (Tr.leaves its).length ≤ its.length := by
  unfold Tr.leaves
  have := Li.vals_len (comp := Tr.lcomp) (its.map Tr.leafOf)
  rw [List.length_map] at this
  exact this
theorem lvs_of {its : List Lv.Item} {xs : List IE} {zs : List LE} {w : World} {r : Value} (h2 : xs.map (·.1) = its) (hs : ShortI xs) (hn : xs.length ≤ 1000000) (hz : zs.map Prod.fst = Tr.leaves its) (hl : lvsE w r zs) : LvsAt its w r := by
  refine ⟨zs, hl, hz, leaves_fine h2 hs hz, ?_⟩
  have h1 := congrArg List.length hz
  have h3 := congrArg List.length h2
  have h4 := leaves_len its
  rw [List.length_map] at h1 h3
  omega
section
variable {its : List Lv.Item} {r vp : Value} {p : List (List UInt8)} {w : World}
theorem keys_at (h : ItsAt its w r) (hp : U.strsAt w vp p) (hpn : p.length ≤ 2000000) : Calls Tryz.prog 16 #[r, vp] w fun e w' => ∃ q, e = .returned q ∧ U.strsAt w' q (Tr.keys its p) ∧ Below w.heap.size w w' := by
  obtain ⟨xs, h1, h2, h3, h4⟩ := h
  have a := keys_any r vp xs p w h1 hp h4 hpn h3
  rw [keys_its h2] at a
  exact a
theorem leaves_at9 (h : ItsAt its w r) : Calls Tryz.prog 13 #[r] w fun e w' => ∃ q, e = .returned q ∧ LvsAt its w' q ∧ Below w.heap.size w w' := by
  obtain ⟨xs, h1, h2, h3, h4⟩ := h
  refine (leavesT_any r xs w h1 h4 h3).mono ?_
  rintro e w' ⟨q, zs, rfl, e2, e3, e4⟩
  rw [h2] at e2
  exact ⟨q, rfl, lvs_of h2 h3 h4 e2 e3, e4⟩
theorem deep_at (h : ItsAt its w r) : Calls Tryz.prog 19 #[r] w fun e w' => e = .returned (.int .i64 (Tr.deep its : Int)) ∧ Below w.heap.size w w' := by
  obtain ⟨xs, h1, h2, h3, h4⟩ := h
  have a := deep_any r xs w h1 h4
  have e : deepE xs = Tr.deep its := by unfold deepE; rw [h2]
  rw [e] at a
  exact a
end
/-- What All tells, at any world behind the first, whatever was laid since. -/
def AllC (f : FuncId) (w : World) (v vu : Value) (its : List Lv.Item) : Prop := ∀ W, Below w.heap.size w W → Calls Tryz.prog f #[v, vu] W fun e w' => ∃ r, e = .returned r ∧ ItsAt its w' r ∧ Below W.heap.size W w'
theorem allC {v vu : Value} {ts : List Tx.Txn} {u : List U} {w : World} (hv : txsIn w v ts) (hu : T.cntsIn w vu u) (hn : ts.length ≤ 1000) (hg : ∀ t ∈ ts, okT t = true) (hun : u.length ≤ 1000000) (hp : Ct.Std u) : AllC 8 w v vu (Lv.all ts (seenD u)) := fun W hb =>
  (all_any v vu ts u W (hv.on hb) (hu.on hb) hn (good_few hg) (good_dots hg) hun hp).mono fun _ _ ⟨r, xs, h1, h2, h3, h4⟩ => ⟨r, h1, ⟨xs, h2, h3, all_short hg h3, all_len hn hg h3⟩, h4⟩
/-- Their kinds are those of leaves; their paths may be. -/
theorem all_able {ts : List Tx.Txn} {sn : D → Bool} : ∀ i ∈ Lv.all ts sn, Lv.able i.o.k = true := fun i hi => by
  obtain ⟨t, ht, _, j, hj, ha, _, e⟩ := Lv.mem_all.1 hi
  rw [e]
  exact ha
theorem all_parts {ts : List Tx.Txn} (h : ∀ t ∈ ts, okT t = true) {sn : D → Bool} : ∀ i ∈ Lv.all ts sn, 1 ≤ i.o.p.length ∧ i.o.p.length ≤ 8 := fun i hi => by
  obtain ⟨t, ht, _, j, hj, ha, _, e⟩ := Lv.mem_all.1 hi
  rw [e]
  have h1 := (Tx.check_zero (okT_parts (h t ht)).2).2.2.2.2 _ (List.getElem_mem hj)
  show 1 ≤ t.ops[j].p.length ∧ t.ops[j].p.length ≤ 8
  rcases h1 with h1 | ⟨_, h1⟩
  · have h2 := Pt.check_zero (Os.check_zero h1).2.2.1
    exact ⟨h2.1, h2.2.1⟩
  · have h2 := Os.gone_is h1
    rw [h2] at ha
    exact absurd ha (by decide)
end Go.Proofs.YtmnehekcealjhaaGreat.O
