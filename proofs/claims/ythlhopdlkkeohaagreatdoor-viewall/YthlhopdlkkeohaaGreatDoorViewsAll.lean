/- Views as plain mathematics (for stage 18): what is at a leaf, all that is there, lines and texts by their steps and lengths, what 18.3 says follows, and that only parity matters · Values in memory: a slice of them, one at a place, one appended to a row that the call owns · Entries of views in memory: a slice of them, one at a place · The walks of the document's At, Under and Refs, of live's Refs, of the statement's has and the document's SameRefs · Neighbours that are the same as one, as a walk from the left has them. -/
import Derived.Test.YthlhopdlkkeohaaGreatDoorLinesAll
import Derived.Test.YthlhopdlkkeohaaGreatDoorRegs
import Derived.Test.YthlhopdlkkeohaaGreatDoorRws
import Derived.Test.YthlhopdlkkeohaaGreatDoorRunesAll
import Derived.Test.YthlhopdlkkeohaaGreatDoorLfMemAll
import Derived.Test.YthlhopdlkkeohaaGreatDoorAtP2All
import Derived.Test.YthlhopdlkkeohaaGreatDoorTxnOwnAll
/- Views as plain mathematics (for stage 18): what is at a leaf, all that is there, lines and texts by their steps and lengths, what 18.3 says follows, and that only parity matters. -/
namespace Go.Proofs.YthlhopdlkkeohaaGreatDoor
namespace Vw

/-- What is at a leaf. -/
structure Entry where
  p : List (List UInt8)
  k : Int
  l : List Rg.Va
  n : Int
/-- The values of the items at a leaf. -/
def vals (its : List Lv.Item) (p : List (List UInt8)) (k : Int) : List Rg.Va := Rg.vals ((Lv.atLeaf its p k).map Rg.valOf)
def sum (its : List Lv.Item) (p : List (List UInt8)) : Int := (Tr.nums its p).sum
def at' (its : List Lv.Item) (p : List (List UInt8)) (k : Int) : Entry := ⟨p, k, if k = 1 ∨ k = 2 then vals its p k else [], if k = 3 then sum its p else 0⟩
def of (its : List Lv.Item) : List Entry := (Tr.leaves its).map fun x => at' its x.1 x.2
theorem at_reg (its : List Lv.Item) (p : List (List UInt8)) : at' its p 1 = ⟨p, 1, vals its p 1, 0⟩ := rfl
theorem at_bag (its : List Lv.Item) (p : List (List UInt8)) : at' its p 2 = ⟨p, 2, vals its p 2, 0⟩ := rfl
theorem at_total (its : List Lv.Item) (p : List (List UInt8)) : at' its p 3 = ⟨p, 3, [], sum its p⟩ := rfl
theorem at_other {its : List Lv.Item} {p : List (List UInt8)} {k : Int} (h1 : k ≠ 1) (h2 : k ≠ 2) (h3 : k ≠ 3) : at' its p k = ⟨p, k, [], 0⟩ := by
  unfold at'
  rw [if_neg (by omega), if_neg h3]
theorem vals_len (its : List Lv.Item) (p : List (List UInt8)) (k : Int) : (vals its p k).length ≤ its.length := by
  unfold vals
  refine Nat.le_trans (Rg.vals_len _) ?_
  rw [List.length_map]
  exact List.length_filter_le _ _
theorem at_len (its : List Lv.Item) (p : List (List UInt8)) (k : Int) : (at' its p k).l.length ≤ its.length := by
  unfold at'
  dsimp only
  split
  · exact vals_len its p k
  · exact Nat.zero_le _
theorem vals_mem {its : List Lv.Item} {p : List (List UInt8)} {k : Int} {v : Rg.Va} (h : v ∈ vals its p k) : ∃ i ∈ its, Rg.valOf i = v := by
  obtain ⟨i, hi, e⟩ := List.mem_map.1 (Rg.mem_vals.1 h)
  exact ⟨i, (List.mem_filter.1 hi).1, e⟩
theorem at_mem {its : List Lv.Item} {p : List (List UInt8)} {k : Int} {v : Rg.Va} (h : v ∈ (at' its p k).l) : ∃ i ∈ its, Rg.valOf i = v := by
  unfold at' at h
  dsimp only at h
  split at h
  · exact vals_mem h
  · simp at h
theorem of_len (its : List Lv.Item) : (of its).length ≤ its.length := by
  unfold of Tr.leaves
  rw [List.length_map]
  refine Nat.le_trans (Li.vals_len _) ?_
  rw [List.length_map]
  exact Nat.le_refl _
theorem of_get (its : List Lv.Item) {k : Nat} (h : k < (of its).length) (h' : k < (Tr.leaves its).length) : (of its)[k] = at' its (Tr.leaves its)[k].1 (Tr.leaves its)[k].2 := by simp [of]
theorem mem_of {its : List Lv.Item} {e : Entry} : e ∈ of its ↔ ∃ x ∈ Tr.leaves its, at' its x.1 x.2 = e := by simp [of]
/-- Each entry is what At tells of its own leaf. -/
theorem of_at {its : List Lv.Item} {e : Entry} (h : e ∈ of its) : e = at' its e.p e.k := by
  obtain ⟨x, _, rfl⟩ := mem_of.1 h
  rfl
theorem of_leaf {its : List Lv.Item} {e : Entry} (h : e ∈ of its) : (e.p, e.k) ∈ Tr.leaves its := by
  obtain ⟨x, hx, rfl⟩ := mem_of.1 h
  exact hx
/-- Where there is no leaf there is nothing. -/
theorem at_none {its : List Lv.Item} {p : List (List UInt8)} {k : Int} (h : (p, k) ∉ Tr.leaves its) : (at' its p k).l = [] ∧ (at' its p k).n = 0 := by
  have e : Lv.atLeaf its p k = [] := by
    rw [List.eq_nil_iff_forall_not_mem]
    intro i hi
    obtain ⟨h1, h2⟩ := Tr.mem_atLeaf.1 hi
    exact h (Tr.mem_leaves.2 ⟨i, h1, h2⟩)
  have ev : vals its p k = [] := by
    unfold vals
    rw [e]
    rfl
  unfold at'
  dsimp only
  rw [ev]
  refine ⟨by split <;> rfl, ?_⟩
  by_cases h3 : k = 3
  · subst h3
    rw [if_pos rfl]
    unfold sum Tr.nums
    rw [e]
    rfl
  · rw [if_neg h3]
/-- 18.3: no entry tells it: it is empty. -/
theorem at_empty {its : List Lv.Item} {p : List (List UInt8)} {k : Int} (h : ∀ e ∈ of its, ¬ (e.k = k ∧ e.p = p)) : (at' its p k).l = [] ∧ (at' its p k).n = 0 := at_none fun hm => h (at' its p k) (mem_of.2 ⟨(p, k), hm, rfl⟩) ⟨rfl, rfl⟩

/-! ### Only parity matters -/
theorem names_agree {l : List Tx.Txn} {sn sn' : D → Bool} (h : ∀ t ∈ l, sn t.d = sn' t.d) (x : U) : Lv.covered l sn x = Lv.covered l sn' x := by
  unfold Lv.covered
  induction l with
  | nil => rfl
  | cons t r ih =>
    rw [List.any_cons, List.any_cons, h t (by simp), ih fun y hy => h y (List.mem_cons_of_mem _ hy)]
theorem allBy_agree {cov : U → Bool} {sn sn' : D → Bool} : ∀ {l : List Tx.Txn}, (∀ t ∈ l, sn t.d = sn' t.d) → Lv.allBy cov sn l = Lv.allBy cov sn' l
  | [], _ => rfl
  | t :: r, h => by
    have e : ∀ s, Lv.allBy cov s (t :: r) = Lv.itemsOf cov s t ++ Lv.allBy cov s r := fun s => by simp [Lv.allBy]
    rw [e, e, allBy_agree fun y hy => h y (List.mem_cons_of_mem _ hy)]
    unfold Lv.itemsOf
    rw [h t (by simp)]
theorem all_agree {l : List Tx.Txn} {sn sn' : D → Bool} (h : ∀ t ∈ l, sn t.d = sn' t.d) : Lv.all l sn = Lv.all l sn' := by
  unfold Lv.all
  rw [show Lv.covered l sn = Lv.covered l sn' from funext (names_agree h)]
  exact allBy_agree h

/-! ### Lines -/
section
variable (pt : List (List UInt8) → List UInt8) (vt : Rg.Va → List UInt8) (dg : Int → List UInt8)
/-- Values' texts, with a blank between. -/
def blanks : List Rg.Va → List UInt8
  | [] => []
  | [v] => vt v
  | v :: w :: r => vt v ++ 32 :: blanks (w :: r)
theorem blanks_snoc (v : Rg.Va) : ∀ l : List Rg.Va, blanks vt (l ++ [v]) = if l = [] then vt v else blanks vt l ++ 32 :: vt v
  | [] => rfl
  | [u] => rfl
  | u :: w :: r => by
    have ih := blanks_snoc v (w :: r)
    rw [if_neg (by simp)] at ih
    rw [if_neg (by simp)]
    show vt u ++ 32 :: blanks vt ((w :: r) ++ [v]) = _
    rw [ih]
    simp [blanks]
theorem blanks_first {l : List Rg.Va} (h : 0 < l.length) : blanks vt (l.take 1) = vt l[0] := by
  match l, h with
  | v :: r, _ => rfl
theorem blanks_len {B : Nat} : ∀ {l : List Rg.Va}, (∀ v ∈ l, (vt v).length ≤ B) → (blanks vt l).length ≤ l.length * (B + 1)
  | [], _ => Nat.zero_le _
  | [v], h => by
    have := h v (by simp)
    simp [blanks]
    omega
  | v :: w :: r, h => by
    have ih := blanks_len (l := w :: r) fun x hx => h x (List.mem_cons_of_mem _ hx)
    have := h v (by simp)
    rw [blanks, List.length_append, List.length_cons, List.length_cons, Nat.add_mul, Nat.one_mul]
    omega
/-- What stands between a path and what is there. -/
def sign (k : Int) : List UInt8 := if k = 1 then [32, 61, 32] else if k = 2 then [32, 58, 32] else [32, 35, 32]
def line (e : Entry) : List UInt8 := pt e.p ++ (sign e.k ++ if e.k = 1 ∨ e.k = 2 then blanks vt e.l else dg e.n)
theorem sign_len (k : Int) : (sign k).length = 3 := by
  unfold sign
  split
  · rfl
  · split <;> rfl
/-- Each entry's line, and a line feed. -/
def text (l : List Entry) : List UInt8 := l.flatMap fun e => line pt vt dg e ++ [10]
theorem text_step (l : List Entry) {k : Nat} (h : k < l.length) : text pt vt dg (l.take (k + 1)) = text pt vt dg (l.take k) ++ (line pt vt dg l[k] ++ [10]) := by
  unfold text
  rw [List.take_succ_eq_append_getElem h, List.flatMap_append, List.flatMap_singleton]
theorem text_len {M : Nat} : ∀ {l : List Entry}, (∀ e ∈ l, (line pt vt dg e).length ≤ M) → (text pt vt dg l).length ≤ l.length * (M + 1)
  | [], _ => Nat.zero_le _
  | e :: r, h => by
    have ih := text_len (l := r) fun x hx => h x (List.mem_cons_of_mem _ hx)
    have := h e (by simp)
    have eq : text pt vt dg (e :: r) = (line pt vt dg e ++ [10]) ++ text pt vt dg r := by simp [text]
    rw [eq, List.length_append, List.length_append, List.length_singleton, List.length_cons, Nat.add_mul, Nat.one_mul]
    omega
end
end Vw
end Go.Proofs.YthlhopdlkkeohaaGreatDoor
/- Values in memory: a slice of them, one at a place, one appended to a row that the call owns. -/
namespace Go.Proofs.YthlhopdlkkeohaaGreatDoor.O
open Go.RowKit

/-- A value's cells. -/
def vcell (x : Rg.Va) : List Value := [.int .i64 x.1, .int .i64 x.2.1, .string ⟨x.2.2.toArray⟩]
theorem vcell_len (x : Rg.Va) : (vcell x).length = 3 := rfl
abbrev vV (x : Rg.Va) : Value := valV x.1 x.2.1 x.2.2
abbrev vO (x : Rg.Va) : Obj := valO x.1 x.2.1 x.2.2
theorem vcell_one (x : Rg.Va) : ∀ u ∈ vcell x, u.oneCell' = true := by
  intro u hu
  simp only [vcell, List.mem_cons, List.not_mem_nil, or_false] at hu
  rcases hu with rfl | rfl | rfl <;> rfl
theorem vals_one (l : List Rg.Va) : ∀ u ∈ l.flatMap vcell, u.oneCell' = true := by
  intro u hu
  obtain ⟨x, _, hu⟩ := List.mem_flatMap.1 hu
  exact vcell_one x u hu
/-- A slice reads as these values. -/
def valsIn (w : World) (v : Value) (xs : List Rg.Va) : Prop := rowsIn w vcell v xs
theorem valsIn.on {w w' : World} {v : Value} {xs : List Rg.Va} (h : valsIn w v xs) (hb : Below w.heap.size w w') : valsIn w' v xs := rowsIn.on h hb
theorem valsIn.slice {w : World} {v : Value} {xs : List Rg.Va} (h : valsIn w v xs) : ∃ ao cap, v = .slice ao xs.length cap := by
  obtain ⟨ao, cap, e, _⟩ := h
  exact ⟨ao, cap, e⟩
theorem valsIn_nil (w : World) : valsIn w (.slice none 0 0) [] := ⟨none, 0, rfl, Nat.le_refl _, fun _ => rfl, fun j u hu => by simp at hu⟩
/-- At this place there is this value. -/
structure VcAt (w : World) (p : Addr) (x : Rg.Va) : Prop where
  c0 : w.cell? p = some (.int .i64 x.1)
  c1 : w.cell? ⟨p.block, p.off + 1, none⟩ = some (.int .i64 x.2.1)
  c2 : w.cell? ⟨p.block, p.off + 2, none⟩ = some (.string ⟨x.2.2.toArray⟩)
theorem VcAt.of {w : World} {p : Addr} {x : Rg.Va} (h : ∀ j u, (vcell x)[j]? = some u → w.cell? (p.add j) = some u) : VcAt w p x := by
  have e : ∀ i, 0 < i → p.add i = ⟨p.block, p.off + i, none⟩ := fun i hi => by unfold Addr.add; rw [if_neg (by omega)]
  have e0 : p.add 0 = p := by unfold Addr.add; simp
  refine ⟨by rw [← e0]; exact h 0 _ rfl, ?_, ?_⟩
  · rw [← e 1 (by omega)]; exact h 1 _ rfl
  · rw [← e 2 (by omega)]; exact h 2 _ rfl
theorem VcAt.on {w w' : World} {p : Addr} {x : Rg.Va} (h : VcAt w p x) (hb : Below w.heap.size w w') : VcAt w' p x := ⟨keep_cell hb h.c0, keep_cell hb h.c1, keep_cell hb h.c2⟩
theorem valsIn.get {w : World} {ao : Option Addr} {n cap : Nat} {xs : List Rg.Va} (h : valsIn w (.slice ao n cap) xs) {k : Nat} (hk : k < xs.length) : ∃ ad, ao = some ad ∧ VcAt w (ad.add (k * 3)) xs[k] := by
  obtain ⟨ad, e, h1⟩ := rowsIn.get h vcell_len (by omega) hk
  exact ⟨ad, e, VcAt.of h1⟩
theorem vsize33 {cs : List Value} (h : cs.length = 3) : (Tryz.prog.info? 61).map (·.size) = some cs.length := by rw [h]; kernel_rfl
theorem vinfo33 : ∃ i0, Tryz.prog.info? 61 = some i0 ∧ i0.zero = some (.agg #[.int .i64 0, .int .i64 0, .string ⟨#[]⟩]) ∧ i0.size = 3 ∧ i0.bytes = 32 := info_parts (by kernel_rfl)
theorem new_val (w : World) (x : Rg.Va) : ∀ j v, ([x].flatMap vcell)[j]? = some v → (w.alloc (vO x)).cell? ((⟨w.heap.size, 0, none⟩ : Addr).add j) = some v := fun j v hv => by
  rw [zero_add9, cell_of_row _ w.heap.size j _ 61 (0, 0) (heap_alloc_new w _)]
  simpa [vcell] using hv
/-- One value is appended to a row that the call owns. -/
theorem append_val {ops : Array Oper} {rest : List Oper} {o : Oper} {a : Act} {w : World} {Q : Exit → Act → World → Prop} (hgd : o.guard = none) (s x : Operand)
    (ho : o.op = .call { callee := .builtin .append, args := #[s, x], argTypes := #[36, 36] }) (B : Nat) (hB : B ≤ w.heap.size) (r : Value) (acc : List Rg.Va) (hs : a.eval s = r) (hown : w.ownsRow B 61 3 r acc.length (acc.flatMap vcell))
    (g : Nat) (y : Rg.Va) (hx : a.eval x = .slice (some ⟨g, 0, none⟩) 1 1) (hv : ∀ j v, ([y].flatMap vcell)[j]? = some v → w.cell? ((⟨g, 0, none⟩ : Addr).add j) = some v) (hn : acc.length + 1 ≤ 1000001)
    (h : ∀ r' w', w'.ownsRow B 61 3 r' (acc ++ [y]).length ((acc ++ [y]).flatMap vcell) → w.grownBy w' r.ownBlock → wpList Tryz.prog ops Q rest (a.put o.dst r') w') : wpList Tryz.prog ops Q (o :: rest) a w := by
  obtain ⟨i0, hi, hz, hz1, hz2⟩ := vinfo33
  refine wpList_append_own w hgd s x 36 ho B 61 i0 _ 3 32 Tryz.underlying36 hi hz hz1 hz2 rfl (by decide) r _ _ hs hown ⟨g, 0, none⟩ 1 1 ([y].flatMap vcell) hx (flat_length vcell_len [y]) hv (vals_one [y]) (by unfold maxLen; omega) (by omega) hB ?_
  intro v' w1 hown' hg _
  refine h v' w1 ?_ hg
  rw [List.flatMap_append, List.length_append]
  exact hown'
/-- A row that was built is one of one's own, or there is none. -/
theorem valsOwn {w : World} {B : Nat} {v : Value} {xs : List Rg.Va} (h : w.ownsRow B 61 3 v xs.length (xs.flatMap vcell)) : (v = .slice none 0 0 ∧ xs = []) ∨ ∃ g cap, v = .slice (some ⟨g, 0, none⟩) xs.length cap ∧ OwnR w g vcell 3 xs ∧ xs.length ≤ cap ∧ cap ≤ maxLen ∧ B ≤ g := by
  rcases id h.2 with ⟨e, h0⟩ | ⟨g, cap, cur, e, r⟩
  · exact .inl ⟨e, List.eq_nil_of_length_eq_zero h0⟩
  · subst e
    obtain ⟨a, b, c, d, _⟩ := OwnR.of vcell_len h
    exact .inr ⟨g, cap, rfl, a, b, c, d⟩
end Go.Proofs.YthlhopdlkkeohaaGreatDoor.O
/- Entries of views in memory: a slice of them, one at a place. -/
namespace Go.Proofs.YthlhopdlkkeohaaGreatDoor.O
open Go.RowKit

/-- An entry, its path's slice and its values' slice written out. -/
abbrev EE := Vw.Entry × Value × Value
def ecell (x : EE) : List Value := [x.2.1, .int .i64 x.1.k, x.2.2, .int .i64 x.1.n]
theorem ecell_len (x : EE) : (ecell x).length = 4 := rfl
abbrev entV (pv : Value) (k : Int) (lv : Value) (n : Int) : Value := .agg #[pv, .int .i64 k, lv, .int .i64 n]
/-- Its path and its values stand there. -/
def EOk (w : World) (x : EE) : Prop := U.strsAt w x.2.1 x.1.p ∧ valsIn w x.2.2 x.1.l
theorem EOk.on {w w' : World} {x : EE} (h : EOk w x) (hb : Below w.heap.size w w') : EOk w' x := ⟨U.strsAt_below h.1 hb (Nat.le_refl _), h.2.on hb⟩
theorem EOk.slices {w : World} {x : EE} (h : EOk w x) : (∃ ao n c, x.2.1 = .slice ao n c) ∧ ∃ ao n c, x.2.2 = .slice ao n c := by
  obtain ⟨a, b, e⟩ := h.2.slice
  exact ⟨strs_slice h.1, a, _, b, e⟩
theorem ecell_one {x : EE} (h1 : ∃ ao n c, x.2.1 = .slice ao n c) (h2 : ∃ ao n c, x.2.2 = .slice ao n c) : ∀ u ∈ ecell x, u.oneCell' = true := by
  obtain ⟨ao, n, c, e⟩ := h1
  obtain ⟨ao', n', c', e'⟩ := h2
  intro u hu
  simp only [ecell, List.mem_cons, List.not_mem_nil, or_false] at hu
  rcases hu with rfl | rfl | rfl | rfl
  · rw [e]; rfl
  · rfl
  · rw [e']; rfl
  · rfl
/-- A slice reads as these entries. -/
def entsE (w : World) (v : Value) (xs : List EE) : Prop := rowsIn w ecell v xs ∧ ∀ x ∈ xs, EOk w x
theorem entsE.on {w w' : World} {v : Value} {xs : List EE} (h : entsE w v xs) (hb : Below w.heap.size w w') : entsE w' v xs := ⟨h.1.on hb, fun x hx => (h.2 x hx).on hb⟩
theorem entsE.slice {w : World} {v : Value} {xs : List EE} (h : entsE w v xs) : ∃ ao cap, v = .slice ao xs.length cap := by
  obtain ⟨⟨ao, cap, e, _⟩, _⟩ := h
  exact ⟨ao, cap, e⟩
/-- At this place there is this entry. -/
structure EcAt (w : World) (p : Addr) (x : EE) : Prop where
  c0 : w.cell? p = some x.2.1
  c1 : w.cell? ⟨p.block, p.off + 1, none⟩ = some (.int .i64 x.1.k)
  c2 : w.cell? ⟨p.block, p.off + 2, none⟩ = some x.2.2
  c3 : w.cell? ⟨p.block, p.off + 3, none⟩ = some (.int .i64 x.1.n)
theorem EcAt.of {w : World} {p : Addr} {x : EE} (h : ∀ j u, (ecell x)[j]? = some u → w.cell? (p.add j) = some u) : EcAt w p x := by
  have e : ∀ i, 0 < i → p.add i = ⟨p.block, p.off + i, none⟩ := fun i hi => by unfold Addr.add; rw [if_neg (by omega)]
  have e0 : p.add 0 = p := by unfold Addr.add; simp
  refine ⟨by rw [← e0]; exact h 0 _ rfl, ?_, ?_, ?_⟩
  · rw [← e 1 (by omega)]; exact h 1 _ rfl
  · rw [← e 2 (by omega)]; exact h 2 _ rfl
  · rw [← e 3 (by omega)]; exact h 3 _ rfl
theorem EcAt.on {w w' : World} {p : Addr} {x : EE} (h : EcAt w p x) (hb : Below w.heap.size w w') : EcAt w' p x := ⟨keep_cell hb h.c0, keep_cell hb h.c1, keep_cell hb h.c2, keep_cell hb h.c3⟩
theorem EcAt.new (w : World) (x : EE) (T : TypeId) : EcAt (w.alloc (.cells (ecell x).toArray T)) ⟨w.heap.size, 0, none⟩ x := EcAt.of (new_cells w (ecell x) T)
theorem entsE.get {w : World} {ao : Option Addr} {n cap : Nat} {xs : List EE} (h : entsE w (.slice ao n cap) xs) {k : Nat} (hk : k < xs.length) :
    ∃ ad, ao = some ad ∧ (∀ j u, (ecell xs[k])[j]? = some u → w.cell? ((ad.add (k * 4)).add j) = some u) ∧ EcAt w (ad.add (k * 4)) xs[k] ∧ EOk w xs[k] := by
  obtain ⟨ad, e, h1⟩ := h.1.get ecell_len (by omega) hk
  exact ⟨ad, e, h1, EcAt.of h1, h.2 _ (List.getElem_mem hk)⟩
theorem esize38 {cs : List Value} (h : cs.length = 4) : (Tryz.prog.info? 38).map (·.size) = some cs.length := by rw [h]; kernel_rfl
theorem esize42 {cs : List Value} (h : cs.length = 4) : (Tryz.prog.info? 42).map (·.size) = some cs.length := by rw [h]; kernel_rfl
theorem einfo38 : ∃ i0, Tryz.prog.info? 38 = some i0 ∧ i0.zero = some (.agg #[.slice none 0 0, .int .i64 0, .slice none 0 0, .int .i64 0]) ∧ i0.size = 4 ∧ i0.bytes = 64 := info_parts (by kernel_rfl)
theorem einfo42 : ∃ i0, Tryz.prog.info? 42 = some i0 ∧ i0.zero = some (.agg #[.slice none 0 0, .int .i64 0, .slice none 0 0, .int .i64 0]) ∧ i0.size = 4 ∧ i0.bytes = 64 := info_parts (by kernel_rfl)
theorem entsE_row {w : World} {B : Nat} {v : Value} {xs : List EE} (h : rowR ecell 4 w B v xs) (ho : ∀ x ∈ xs, EOk w x) : entsE w v xs := ⟨h.rows ecell_len, ho⟩
end Go.Proofs.YthlhopdlkkeohaaGreatDoor.O
/- The walks of the document's At, Under and Refs, of live's Refs, of the statement's has and the document's SameRefs. -/
namespace Go.Proofs.YthlhopdlkkeohaaGreatDoor.O
open Go.RowKit

theorem filter_yes {P : IE → Bool} {xs : List IE} {k : Nat} (hk : k < xs.length) (h : P xs[k] = true) : (xs.take (k + 1)).filter P = (xs.take k).filter P ++ [xs[k]] := by
  rw [List.take_succ_eq_append_getElem hk, List.filter_append]
  simp [h]
theorem filter_no {P : IE → Bool} {xs : List IE} {k : Nat} (hk : k < xs.length) (h : P xs[k] = false) : (xs.take (k + 1)).filter P = (xs.take k).filter P := by
  rw [List.take_succ_eq_append_getElem hk, List.filter_append]
  simp [h]
theorem filter_len (P : IE → Bool) (xs : List IE) (k : Nat) : ((xs.take k).filter P).length ≤ k := Nat.le_trans (List.length_filter_le _ _) (by rw [List.length_take]; omega)

end Go.Proofs.YthlhopdlkkeohaaGreatDoor.O
/- Neighbours that are the same as one, as a walk from the left has them. -/
namespace Go.Proofs.YthlhopdlkkeohaaGreatDoor
namespace Rg

theorem thin_snoc (x : Va) : ∀ l : List Va, thin (l ++ [x]) = if l.getLast? = some x then thin l else thin l ++ [x]
  | [] => by simp [thin]
  | [a] => by
    by_cases h : a = x
    · subst h; simp [thin]
    · simp [thin, h]
  | a :: b :: r => by
    have ih := thin_snoc x (b :: r)
    have e1 : thin (a :: b :: r ++ [x]) = if a = b then thin (b :: r ++ [x]) else a :: thin (b :: r ++ [x]) := by
      rw [List.cons_append, List.cons_append, thin]
    have e2 : thin (a :: b :: r) = if a = b then thin (b :: r) else a :: thin (b :: r) := by rw [thin]
    rw [e1, e2, ih, List.getLast?_cons_cons]
    by_cases h : a = b
    · rw [if_pos h, if_pos h]
    · rw [if_neg h, if_neg h]
      split
      · rfl
      · rfl
/-- Of the first j those that are not the one ahead of them. -/
def dd (l : List Va) (j : Nat) : List Va := thin (l.take j)
theorem take_last {l : List Va} {j : Nat} (h0 : 0 < j) (h : j ≤ l.length) : (l.take j).getLast? = some (l[j - 1]'(by omega)) := by
  rw [List.getLast?_eq_getElem?, List.length_take, Nat.min_eq_left h, List.getElem?_take_of_lt (by omega), List.getElem?_eq_getElem (by omega)]
theorem dd_one {l : List Va} (h : 0 < l.length) : dd l 1 = l.take 1 := by
  cases l with
  | nil => simp at h
  | cons a l => simp [dd, thin]
theorem dd_new {l : List Va} {j : Nat} (h0 : 0 < j) (h : j < l.length) (he : l[j] ≠ l[j - 1]) : dd l (j + 1) = dd l j ++ [l[j]] := by
  unfold dd
  rw [List.take_succ_eq_append_getElem h, thin_snoc, take_last h0 (by omega), if_neg (by intro e; exact he (Option.some.inj e).symm)]
theorem dd_old {l : List Va} {j : Nat} (h0 : 0 < j) (h : j < l.length) (he : l[j] = l[j - 1]) : dd l (j + 1) = dd l j := by
  unfold dd
  rw [List.take_succ_eq_append_getElem h, thin_snoc, take_last h0 (by omega), if_pos (by rw [he])]
theorem dd_all {l : List Va} {n : Nat} (h : n = l.length) : dd l n = thin l := by
  unfold dd
  rw [h, List.take_length]
theorem thin_len : ∀ l : List Va, (thin l).length ≤ l.length
  | [] => by simp [thin]
  | [a] => by simp [thin]
  | a :: b :: r => by
    have ih := thin_len (b :: r)
    rw [thin]
    split
    · simp only [List.length_cons] at *; omega
    · simp only [List.length_cons] at *; omega
/-- So far none was twice. -/
def fresh (ds : List Va) (k : Nat) : Prop := dd ds k = ds.take k
theorem fresh_one {ds : List Va} (h : 0 < ds.length) : fresh ds 1 := dd_one h
theorem fresh_step {ds : List Va} {k : Nat} (h : fresh ds k) (h0 : 0 < k) (hk : k < ds.length) (he : ds[k] ≠ ds[k - 1]) : fresh ds (k + 1) := by
  unfold fresh at *
  rw [dd_new h0 hk he, h, List.take_succ_eq_append_getElem hk]
/-- Where the second walk stands. -/
def CInv (ds : List Va) (k j : Nat) (cur : List Va) : Prop := cur.length = ds.length ∧ k < j ∧ 0 < j ∧ j ≤ ds.length ∧ cur.take k = dd ds j ∧ cur.drop (j - 1) = ds.drop (j - 1)
theorem CInv.start {ds : List Va} {k : Nat} (h : fresh ds k) (h0 : 0 < k) (hk : k < ds.length) (he : ds[k] = ds[k - 1]) : CInv ds k (k + 1) ds :=
  ⟨rfl, by omega, by omega, by omega, by rw [dd_old h0 hk he]; exact h.symm, rfl⟩
theorem drop_get {cur ds : List Va} {a j : Nat} (h : cur.drop a = ds.drop a) (hl : cur.length = ds.length) (haj : a ≤ j) (hj : j < ds.length) : ∃ h' : j < cur.length, cur[j] = ds[j] := by
  have h' : j < cur.length := by omega
  refine ⟨h', ?_⟩
  have e := congrArg (fun l => l[j - a]?) h
  simp only [List.getElem?_drop] at e
  rw [show a + (j - a) = j by omega, List.getElem?_eq_getElem h', List.getElem?_eq_getElem hj] at e
  exact Option.some.inj e
theorem CInv.at {ds cur : List Va} {k j : Nat} (h : CInv ds k j cur) (hj : j < ds.length) : ∃ h' : j < cur.length, ∃ h'' : j - 1 < cur.length, ∃ h3 : j - 1 < ds.length, cur[j] = ds[j] ∧ cur[j - 1] = ds[j - 1] := by
  obtain ⟨h1, h2, h3, h4, h5, h6⟩ := h
  obtain ⟨a, b⟩ := drop_get h6 h1 (by omega) hj
  obtain ⟨c, d⟩ := drop_get h6 h1 (Nat.le_refl _) (by omega)
  exact ⟨a, c, by omega, b, d⟩
theorem CInv.keep {ds cur : List Va} {k j : Nat} (h : CInv ds k j cur) (hj : j < ds.length) (hp : ds[j] ≠ ds[j - 1]) : CInv ds (k + 1) (j + 1) (cur.set k ds[j]) := by
  obtain ⟨h1, h2, h3, h4, h5, h6⟩ := h
  refine ⟨by simpa using h1, by omega, by omega, by omega, ?_, ?_⟩
  · rw [dd_new h3 hj hp, ← h5, List.take_succ_eq_append_getElem (by simp; omega)]
    congr 1
    · rw [List.take_set_of_le (Nat.le_refl _)]
    · simp
  · rw [List.drop_set_of_lt (by omega), show j + 1 - 1 = (j - 1) + 1 by omega]
    have : cur.drop (j - 1 + 1) = (cur.drop (j - 1)).drop 1 := by rw [List.drop_drop]
    rw [this, h6, List.drop_drop]
theorem CInv.skip {ds cur : List Va} {k j : Nat} (h : CInv ds k j cur) (hj : j < ds.length) (hp : ds[j] = ds[j - 1]) : CInv ds k (j + 1) cur := by
  obtain ⟨h1, h2, h3, h4, h5, h6⟩ := h
  refine ⟨h1, by omega, by omega, by omega, by rw [dd_old h3 hj hp, ← h5], ?_⟩
  rw [show j + 1 - 1 = (j - 1) + 1 by omega]
  have : cur.drop (j - 1 + 1) = (cur.drop (j - 1)).drop 1 := by rw [List.drop_drop]
  rw [this, h6, List.drop_drop]
theorem CInv.len {ds cur : List Va} {k j : Nat} (h : CInv ds k j cur) : k = (dd ds j).length := by
  rw [← h.2.2.2.2.1, List.length_take, h.1]
  have := h.2.1
  have := h.2.2.2.1
  omega
end Rg
end Go.Proofs.YthlhopdlkkeohaaGreatDoor
