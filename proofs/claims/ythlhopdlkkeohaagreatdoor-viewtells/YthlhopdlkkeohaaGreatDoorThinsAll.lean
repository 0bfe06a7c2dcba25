/- Neighbours that are alike as one, by what is alike of them; what slices.Compact and slices.Sort tell, in these words; kinds in their row · A row that a call made, whatever its length; slices.Sort and slices.Compact of texts and of numbers over such rows; a copy of texts; one thing more in a row · Addresses and loads, operation by operation, wherever the thing lies · The walk of slices.Equal over references · The walks of slices.Equal, Same, Under and of the document's Under · The walks of Same and Gone, both sides. -/
import Derived.Test.YthlhopdlkkeohaaGreatDoorItMemAll
import Derived.Lib.SlicesCompact
import Derived.Test.YthlhopdlkkeohaaGreatDoorLaySort
import Derived.Test.YthlhopdlkkeohaaGreatDoorValAll
import Derived.Test.YthlhopdlkkeohaaGreatDoorNamesAll
import Derived.Test.YthlhopdlkkeohaaGreatDoorPlainAll
import Derived.Test.YthlhopdlkkeohaaGreatDoorOpMemAll
/- Neighbours that are alike as one, by what is alike of them; what slices.Compact and slices.Sort tell, in these words; kinds in their row. -/
namespace Go.Proofs.YthlhopdlkkeohaaGreatDoor
namespace Li

theorem drop_get {α : Type} {cur ds : List α} {a j : Nat} (h : cur.drop a = ds.drop a) (hl : cur.length = ds.length) (haj : a ≤ j) (hj : j < ds.length) : ∃ h' : j < cur.length, cur[j] = ds[j] := by
  have h' : j < cur.length := by omega
  refine ⟨h', ?_⟩
  have e := congrArg (fun l => l[j - a]?) h
  simp only [List.getElem?_drop] at e
  rw [show a + (j - a) = j by omega, List.getElem?_eq_getElem h', List.getElem?_eq_getElem hj] at e
  exact Option.some.inj e

section
variable {α β : Type} [DecidableEq β]
/-- Of the first j those that are not alike to the one ahead of them. -/
def ddK (f : α → β) (l : List α) : Nat → List α
  | 0 => []
  | j + 1 => if h : j < l.length then (if j = 0 ∨ f l[j] ≠ f (l[j - 1]'(by omega)) then ddK f l j ++ [l[j]] else ddK f l j) else ddK f l j
theorem ddK_one {f : α → β} {l : List α} (h : 0 < l.length) : ddK f l 1 = l.take 1 := by
  unfold ddK
  rw [dif_pos h, if_pos (.inl rfl), ddK]
  cases l with
  | nil => simp at h
  | cons a l => simp
theorem ddK_new {f : α → β} {l : List α} {j : Nat} (h : j < l.length) (he : f l[j] ≠ f (l[j - 1]'(by omega))) : ddK f l (j + 1) = ddK f l j ++ [l[j]] := by
  rw [ddK, dif_pos h, if_pos (.inr he)]
theorem ddK_old {f : α → β} {l : List α} {j : Nat} (h0 : 0 < j) (h : j < l.length) (he : f l[j] = f (l[j - 1]'(by omega))) : ddK f l (j + 1) = ddK f l j := by
  rw [ddK, dif_pos h, if_neg]
  rintro (e | e)
  · omega
  · exact e he
theorem ddK_mem {f : α → β} {l : List α} {x : α} : ∀ {j : Nat}, x ∈ ddK f l j → x ∈ l
  | 0, h => by simp [ddK] at h
  | j + 1, h => by
    rw [ddK] at h
    split at h
    · split at h
      · rcases List.mem_append.1 h with h | h
        · exact ddK_mem h
        · rw [List.mem_singleton.1 h]; exact List.getElem_mem _
      · exact ddK_mem h
    · exact ddK_mem h
theorem ddK_map {f : α → β} {l : List α} : ∀ {j : Nat}, j ≤ l.length → (ddK f l j).map f = dd (l.map f) j
  | 0, _ => by simp [ddK, dd, thin]
  | j + 1, h => by
    have ih := ddK_map (f := f) (l := l) (j := j) (by omega)
    have hj : j < l.length := h
    by_cases h0 : j = 0
    · subst h0
      rw [ddK_one hj, dd_one (by simpa using hj), List.map_take]
    · by_cases he : f l[j] = f (l[j - 1]'(by omega))
      · rw [ddK_old (by omega) hj he, ih, dd_old (by omega) (by simpa using hj) (by simpa using he)]
      · rw [ddK_new hj he, List.map_append, ih, dd_new (by omega) (by simpa using hj) (by simpa using he)]
        simp
theorem ddK_len {f : α → β} {l : List α} {j : Nat} (h : j ≤ l.length) : (ddK f l j).length ≤ j := by
  have := congrArg List.length (ddK_map (f := f) h)
  rw [List.length_map] at this
  rw [this]
  unfold dd
  refine Nat.le_trans (thin_len _) ?_
  rw [List.length_take]; omega
/-- So far none was twice. -/
def fresh (f : α → β) (ds : List α) (k : Nat) : Prop := ddK f ds k = ds.take k
theorem fresh_one {f : α → β} {ds : List α} (h : 0 < ds.length) : fresh f ds 1 := ddK_one h
theorem fresh_step {f : α → β} {ds : List α} {k : Nat} (h : fresh f ds k) (hk : k < ds.length) (he : f ds[k] ≠ f (ds[k - 1]'(by omega))) : fresh f ds (k + 1) := by
  unfold fresh at *
  rw [ddK_new hk he, h, List.take_succ_eq_append_getElem hk]
/-- Where the second walk stands. -/
def CInv (f : α → β) (ds : List α) (k j : Nat) (cur : List α) : Prop := cur.length = ds.length ∧ k < j ∧ 0 < j ∧ j ≤ ds.length ∧ cur.take k = ddK f ds j ∧ cur.drop (j - 1) = ds.drop (j - 1)
theorem CInv.start {f : α → β} {ds : List α} {k : Nat} (h : fresh f ds k) (h0 : 0 < k) (hk : k < ds.length) (he : f ds[k] = f (ds[k - 1]'(by omega))) : CInv f ds k (k + 1) ds :=
  ⟨rfl, by omega, by omega, by omega, by rw [ddK_old h0 hk he]; exact h.symm, rfl⟩
theorem CInv.at {f : α → β} {ds cur : List α} {k j : Nat} (h : CInv f ds k j cur) (hj : j < ds.length) : ∃ h' : j < cur.length, ∃ h'' : j - 1 < cur.length, ∃ h3 : j - 1 < ds.length, cur[j] = ds[j] ∧ cur[j - 1] = ds[j - 1] := by
  obtain ⟨h1, h2, h3, h4, h5, h6⟩ := h
  obtain ⟨a, b⟩ := drop_get h6 h1 (by omega) hj
  obtain ⟨c, d⟩ := drop_get h6 h1 (Nat.le_refl _) (by omega)
  exact ⟨a, c, by omega, b, d⟩
theorem CInv.keep {f : α → β} {ds cur : List α} {k j : Nat} (h : CInv f ds k j cur) (hj : j < ds.length) (hp : f ds[j] ≠ f (ds[j - 1]'(by omega))) : CInv f ds (k + 1) (j + 1) (cur.set k ds[j]) := by
  obtain ⟨h1, h2, h3, h4, h5, h6⟩ := h
  refine ⟨by simpa using h1, by omega, by omega, by omega, ?_, ?_⟩
  · rw [ddK_new hj hp, ← h5, List.take_succ_eq_append_getElem (by simp; omega)]
    congr 1
    · rw [List.take_set_of_le (Nat.le_refl _)]
    · simp
  · rw [List.drop_set_of_lt (by omega), show j + 1 - 1 = (j - 1) + 1 by omega]
    have : cur.drop (j - 1 + 1) = (cur.drop (j - 1)).drop 1 := by rw [List.drop_drop]
    rw [this, h6, List.drop_drop]
theorem CInv.skip {f : α → β} {ds cur : List α} {k j : Nat} (h : CInv f ds k j cur) (hj : j < ds.length) (hp : f ds[j] = f (ds[j - 1]'(by omega))) : CInv f ds k (j + 1) cur := by
  obtain ⟨h1, h2, h3, h4, h5, h6⟩ := h
  refine ⟨h1, by omega, by omega, by omega, by rw [ddK_old h3 hj hp, ← h5], ?_⟩
  rw [show j + 1 - 1 = (j - 1) + 1 by omega]
  have : cur.drop (j - 1 + 1) = (cur.drop (j - 1)).drop 1 := by rw [List.drop_drop]
  rw [this, h6, List.drop_drop]
theorem CInv.len {f : α → β} {ds cur : List α} {k j : Nat} (h : CInv f ds k j cur) : k = (ddK f ds j).length := by
  rw [← h.2.2.2.2.1, List.length_take, h.1]
  have := h.2.1
  have := h.2.2.2.1
  omega
end

/-! ### In the library's words -/
theorem compact_dd {α : Type} [Inhabited α] [DecidableEq α] (zs : List α) : ∀ j, j ≤ zs.length → Lib.compactUpTo zs.toArray j = dd zs j
  | 0, _ => by simp [Lib.compactUpTo, dd, thin]
  | j + 1, h => by
    have ih := compact_dd zs j (by omega)
    have hj : j < zs.length := h
    have e0 : zs.toArray[j]! = zs[j] := by simp [hj]
    have e1 : zs.toArray[j - 1]! = zs[j - 1]'(by omega) := by simp [show j - 1 < zs.length by omega]
    rw [Lib.compactUpTo_succ, ih]
    by_cases h0 : j = 0
    · subst h0
      rw [Lib.keeps_lt_one _ 0 (by omega), if_pos rfl, e0, dd_one hj]
      cases zs with
      | nil => simp at hj
      | cons a l => simp [dd, thin]
    · by_cases he : zs[j] = zs[j - 1]'(by omega)
      · rw [Lib.keeps_neg (by omega) (by rw [e0, e1]; exact he), dd_old (by omega) hj he]
        simp
      · rw [Lib.keeps_pos (by rw [e0, e1]; exact he), if_pos rfl, e0, dd_new (by omega) hj he]
theorem compact_thin {α : Type} [Inhabited α] [DecidableEq α] (zs : List α) : Lib.compact zs = thin zs := by
  unfold Lib.compact
  rw [compact_dd zs _ (Nat.le_refl _), dd_all rfl]

theorem iord : Ord fun a b : Int => a - b where
  zero x y := by omega
  turn x y := by omega
  trans x y z := by omega
theorem bytes_lt : ∀ x y : List UInt8, x < y ↔ Go.Lib.compareBytes x y < 0
  | [], [] => by simp [Go.Lib.compareBytes]
  | [], b :: y => by simp [Go.Lib.compareBytes]
  | a :: x, [] => by simp [Go.Lib.compareBytes]
  | a :: x, b :: y => by
    have ih := bytes_lt x y
    rw [List.cons_lt_cons_iff, ih, Go.Lib.compareBytes]
    by_cases h : a < b
    · rw [if_pos h]; simp [h]
    · rw [if_neg h]
      by_cases h2 : b < a
      · rw [if_pos h2]
        have : a ≠ b := fun e => by subst e; exact absurd h2 (UInt8.lt_irrefl a)
        simp [h, this]
      · rw [if_neg h2]
        have : a = b := by
          rw [UInt8.lt_iff_toNat_lt] at h h2
          exact UInt8.toNat_inj.1 (by omega)
        simp [this, UInt8.lt_irrefl]
theorem bytes_le (x y : List UInt8) : x ≤ y ↔ Go.Lib.compareBytes x y ≤ 0 := by
  have h : x ≤ y ↔ ¬ y < x := Iff.rfl
  rw [h, bytes_lt y x]
  have := Tr.nord.turn y x
  constructor
  · intro q; omega
  · intro q; omega
end Li

namespace Tr
theorem keys_none (p : List (List UInt8)) : keys [] p = [] := rfl
theorem leaves_none : leaves [] = [] := rfl
end Tr
end Go.Proofs.YthlhopdlkkeohaaGreatDoor
/- A row that a call made, whatever its length; slices.Sort and slices.Compact of texts and of numbers over such rows; a copy of texts; one thing more in a row. -/
namespace Go.Proofs.YthlhopdlkkeohaaGreatDoor.O
open Go.RowKit Go.Shelf

section
variable {α : Type} {f : α → List Value} {m : Nat}
def rowR (f : α → List Value) (m : Nat) (w : World) (B : Nat) (v : Value) (xs : List α) : Prop :=
  (v = .slice none 0 0 ∧ xs = []) ∨ ∃ g cap, v = .slice (some ⟨g, 0, none⟩) xs.length cap ∧ xs.length ≤ cap ∧ cap ≤ maxLen ∧ B ≤ g ∧ OwnR w g f m xs
theorem rowR.of_own (hf : ∀ x, (f x).length = m) {w : World} {B : Nat} {T : TypeId} {v : Value} {xs : List α} (h : w.ownsRow B T m v xs.length (xs.flatMap f)) : rowR f m w B v xs := by
  rcases id h.2 with ⟨rfl, h0⟩ | ⟨g, cap, cur, rfl, r⟩
  · exact .inl ⟨rfl, List.eq_nil_of_length_eq_zero h0⟩
  · obtain ⟨hO, h1, h2, h3, _⟩ := OwnR.of (f := f) (m := m) hf h
    exact .inr ⟨g, cap, rfl, h1, h2, h3, hO⟩
theorem rowR.on {w w' : World} {B : Nat} {v : Value} {xs : List α} (h : rowR f m w B v xs) (hb : Below w.heap.size w w') : rowR f m w' B v xs := by
  rcases h with h | ⟨g, cap, h1, h2, h3, h4, h5⟩
  · exact .inl h
  · exact .inr ⟨g, cap, h1, h2, h3, h4, h5.on hb⟩
theorem rowR.rows (hf : ∀ x, (f x).length = m) {w : World} {B : Nat} {v : Value} {xs : List α} (h : rowR f m w B v xs) : rowsIn w f v xs := by
  rcases h with ⟨rfl, rfl⟩ | ⟨g, cap, rfl, h2, h3, h4, h5⟩
  · exact ⟨none, 0, rfl, Nat.le_refl _, fun _ => rfl, fun j u hu => by simp at hu⟩
  · exact h5.rows hf h2
theorem rowR.slice {w : World} {B : Nat} {v : Value} {xs : List α} (h : rowR f m w B v xs) : ∃ ao cap, v = .slice ao xs.length cap := by
  rcases h with ⟨rfl, rfl⟩ | ⟨g, cap, rfl, h2, h3, h4, h5⟩
  · exact ⟨none, 0, rfl⟩
  · exact ⟨_, cap, rfl⟩

/-! ### Things of one cell -/
def cell1 (enc : α → Value) (x : α) : List Value := [enc x]
theorem cell1_len (enc : α → Value) (x : α) : (cell1 enc x).length = 1 := rfl
theorem flat_cell1 (enc : α → Value) : ∀ xs : List α, xs.flatMap (cell1 enc) = xs.map enc
  | [] => rfl
  | x :: r => by rw [List.flatMap_cons, flat_cell1 enc r]; rfl
variable [Inhabited α] {enc : α → Value}
end

abbrev scell : List UInt8 → List Value := cell1 encStr
abbrev ncell : Int → List Value := cell1 (Value.int .i64)
theorem flat_scell (xs : List (List UInt8)) : xs.flatMap scell = U.cellsS xs := flat_cell1 _ xs
/-- A row of texts reads so. -/
theorem strs_rows {w : World} {v : Value} {xs : List (List UInt8)} (h : rowsIn w scell v xs) : U.strsAt w v xs := by
  obtain ⟨ao, cap, e, h1, h2, h3⟩ := h
  refine ⟨ao, cap, e, h1, fun k hk => ?_⟩
  refine h3 k _ ?_
  rw [flat_scell]
  exact U.cellsS_at hk
theorem strs_row {w : World} {B : Nat} {v : Value} {xs : List (List UInt8)} (h : rowR scell 1 w B v xs) : U.strsAt w v xs := strs_rows (h.rows (cell1_len _))

theorem cloneS_any (v : Value) (xs : List (List UInt8)) (w : World) (hv : U.strsAt w v xs) (hn : xs.length ≤ 1000000) :
    Calls Tryz.prog 38 #[v] w fun e w' => ∃ r, e = .returned r ∧ w'.ownsRow w.heap.size 9 1 r xs.length (U.cellsS xs) ∧ Below w.heap.size w w' := by
  obtain ⟨ao, cap, rfl, h1, h2⟩ := hv
  cases ao with
  | none =>
    obtain rfl : xs = [] := by
      cases xs with
      | nil => rfl
      | cons x r =>
        obtain ⟨ad, e, _⟩ := h2 0 (by simp)
        cases e
    have k : Calls Tryz.prog 38 #[.slice none 0 cap] w fun e w' => e = .returned (.slice none 0 0) ∧ w' = w := Any.slices_Clone_string_nil lays16 0 cap w
    refine k.mono ?_
    rintro e w' ⟨rfl, rfl⟩
    exact ⟨_, rfl, World.ownsRow_nil _ _ _ _, Below.refl _ _⟩
  | some ad =>
    by_cases h0 : xs = []
    · subst h0
      have k : Calls Tryz.prog 38 #[.slice (some ad) 0 cap] w fun e w' => ∃ v', e = .returned v' ∧ w'.ownsRow w.heap.size 9 1 v' 0 [] ∧ v' ≠ .slice none 0 0 ∧ Below w.heap.size w w' := Any.slices_Clone_string_zero lays16 ad cap w
      refine k.mono ?_
      rintro e w' ⟨r, rfl, a, _, b⟩
      exact ⟨_, rfl, a, b⟩
    · have hpos : 0 < xs.length := List.length_pos_iff.2 h0
      obtain ⟨b, off, sp⟩ := ad
      have hsp : sp = none := by
        obtain ⟨ad', e, hc⟩ := h2 0 hpos
        cases e
        have e0 : (⟨b, off, sp⟩ : Addr).add 0 = ⟨b, off, sp⟩ := by unfold Addr.add; simp
        rw [e0] at hc
        cases sp with
        | none => rfl
        | some q =>
          unfold World.cell? at hc
          simp at hc
          split at hc <;> simp_all
      subst hsp
      obtain ⟨zs, hzs⟩ : ∃ zs : List ByteArray, zs = xs.map fun x => (⟨x.toArray⟩ : ByteArray) := ⟨_, rfl⟩
      have hl : zs.length = xs.length := by rw [hzs]; simp
      have hcs : ∀ j, j < zs.length → w.cell? ⟨b, off + j, none⟩ = some (.string (zs.getD j ByteArray.empty)) := fun j hj => by
        have hj' : j < xs.length := by omega
        obtain ⟨ad', e, hc⟩ := h2 j hj'
        cases e
        have e0 : (⟨b, off, none⟩ : Addr).add j = ⟨b, off + j, none⟩ := by unfold Addr.add; split <;> simp_all
        rw [e0] at hc
        rw [hc, hzs]
        simp [List.getD, List.getElem?_eq_getElem hj']
      have k : Calls Tryz.prog 38 #[.slice (some ⟨b, off, none⟩) xs.length cap] w fun e w' => ∃ v', e = .returned v' ∧ w'.ownsRow w.heap.size 9 1 v' xs.length ((zs.take xs.length).map Value.string) ∧ v' ≠ .slice none 0 0 ∧ Below w.heap.size w w' :=
        Any.slices_Clone_string lays16 b off xs.length cap zs w (by omega) (by omega) hcs
      have e : (zs.take xs.length).map Value.string = U.cellsS xs := by
        rw [List.take_of_length_le (by omega), hzs]
        simp [U.cellsS]
      rw [e] at k
      refine k.mono ?_
      rintro e w' ⟨r, rfl, a, _, b⟩
      exact ⟨_, rfl, a, b⟩

/-! ### One thing more in a row -/
theorem append_one {α : Type} {f : α → List Value} {m by_ : Nat} (hf : ∀ x, (f x).length = m) (hm : 0 < m) {ops : Array Oper} {rest : List Oper} {o : Oper} {a : Act} {w : World} {Q : Exit → Act → World → Prop} {ST T : TypeId} {i0 : TypeInfo} {z : Value} (hgd : o.guard = none)
    (hu : Tryz.prog.underlying ST = some (.slice T)) (hi : Tryz.prog.info? T = some i0) (hz : i0.zero = some z) (hz1 : i0.size = m) (hz2 : i0.bytes = by_) (hz3 : z.cells.size = m) (hb9 : by_ ≤ 1000) (s x : Operand)
    (ho : o.op = .call { callee := .builtin .append, args := #[s, x], argTypes := #[ST, ST] }) (B : Nat) (hB : B ≤ w.heap.size) (r : Value) (acc : List α) (hs : a.eval s = r) (hown : w.ownsRow B T m r acc.length (acc.flatMap f))
    (g : Nat) (y : α) (hx : a.eval x = .slice (some ⟨g, 0, none⟩) 1 1) (hv : ∀ j v, (f y)[j]? = some v → w.cell? ((⟨g, 0, none⟩ : Addr).add j) = some v) (hone : ∀ u ∈ f y, u.oneCell' = true) (hn : acc.length + 1 ≤ 1000001)
    (h : ∀ r' w', w'.ownsRow B T m r' (acc ++ [y]).length ((acc ++ [y]).flatMap f) → w.grownBy w' r.ownBlock → wpList Tryz.prog ops Q rest (a.put o.dst r') w') : wpList Tryz.prog ops Q (o :: rest) a w := by
  have hby : (acc.length + 1) * by_ ≤ 1000001 * 1000 := Nat.mul_le_mul hn hb9
  refine wpList_append_own w hgd s x ST ho B T i0 z m by_ hu hi hz hz1 hz2 hz3 hm r _ _ hs hown ⟨g, 0, none⟩ 1 1 (f y) hx (by rw [hf]; omega) hv hone (by unfold maxLen; omega) (by omega) hB ?_
  intro v' w1 hown' hg _
  refine h v' w1 ?_ hg
  rw [List.flatMap_append, List.length_append]
  simpa using hown'
end Go.Proofs.YthlhopdlkkeohaaGreatDoor.O
/- Addresses and loads, operation by operation, wherever the thing lies. -/
namespace Go.Proofs.YthlhopdlkkeohaaGreatDoor.O
open Go.RowKit
section
variable {o : Oper} {a : Act} {w : World} {x y : Operand} {p : Addr} {ad : Addr} {n c k : Nat}
theorem ex_f_dot_0 (ho : o.op = .fieldAddr 53 x 0) (hx : a.eval x = .pointer (some p)) (w : World) : (execOp a.eval o).run Tryz.prog w = .ok (.value (.pointer (some p))) w := by
  unfold execOp
  simp only [ho, hx, Sem.run_bind]
  go_simp
theorem ex_f_ref_0 (ho : o.op = .fieldAddr 70 x 0) (hx : a.eval x = .pointer (some p)) (w : World) : (execOp a.eval o).run Tryz.prog w = .ok (.value (.pointer (some p))) w := by
  unfold execOp
  simp only [ho, hx, Sem.run_bind]
  go_simp
theorem ex_f_undo_0 (ho : o.op = .fieldAddr 147 x 0) (hx : a.eval x = .pointer (some p)) (w : World) : (execOp a.eval o).run Tryz.prog w = .ok (.value (.pointer (some p))) w := by
  unfold execOp
  simp only [ho, hx, Sem.run_bind]
  go_simp
theorem ex_f_op_0 (ho : o.op = .fieldAddr 65 x 0) (hx : a.eval x = .pointer (some p)) (w : World) : (execOp a.eval o).run Tryz.prog w = .ok (.value (.pointer (some p))) w := by
  unfold execOp
  simp only [ho, hx, Sem.run_bind]
  go_simp
theorem ex_f_op_1 (ho : o.op = .fieldAddr 65 x 1) (hx : a.eval x = .pointer (some p)) (w : World) : (execOp a.eval o).run Tryz.prog w = .ok (.value (.pointer (some ⟨p.block, p.off + 1, none⟩))) w := by
  unfold execOp
  simp only [ho, hx, Sem.run_bind]
  go_simp
theorem ex_f_txn_0 (ho : o.op = .fieldAddr 56 x 0) (hx : a.eval x = .pointer (some p)) (w : World) : (execOp a.eval o).run Tryz.prog w = .ok (.value (.pointer (some p))) w := by
  unfold execOp
  simp only [ho, hx, Sem.run_bind]
  go_simp
theorem ex_f_txn_2 (ho : o.op = .fieldAddr 56 x 2) (hx : a.eval x = .pointer (some p)) (w : World) : (execOp a.eval o).run Tryz.prog w = .ok (.value (.pointer (some ⟨p.block, p.off + 3, none⟩))) w := by
  unfold execOp
  simp only [ho, hx, Sem.run_bind]
  go_simp
theorem ex_f_txn_4 (ho : o.op = .fieldAddr 56 x 4) (hx : a.eval x = .pointer (some p)) (w : World) : (execOp a.eval o).run Tryz.prog w = .ok (.value (.pointer (some ⟨p.block, p.off + 5, none⟩))) w := by
  unfold execOp
  simp only [ho, hx, Sem.run_bind]
  go_simp
theorem ex_f_item_0 (ho : o.op = .fieldAddr 76 x 0) (hx : a.eval x = .pointer (some p)) (w : World) : (execOp a.eval o).run Tryz.prog w = .ok (.value (.pointer (some p))) w := by
  unfold execOp
  simp only [ho, hx, Sem.run_bind]
  go_simp
theorem ex_f_item_1 (ho : o.op = .fieldAddr 76 x 1) (hx : a.eval x = .pointer (some p)) (w : World) : (execOp a.eval o).run Tryz.prog w = .ok (.value (.pointer (some ⟨p.block, p.off + 3, none⟩))) w := by
  unfold execOp
  simp only [ho, hx, Sem.run_bind]
  go_simp
theorem ex_f_ritem_0 (ho : o.op = .fieldAddr 78 x 0) (hx : a.eval x = .pointer (some p)) (w : World) : (execOp a.eval o).run Tryz.prog w = .ok (.value (.pointer (some p))) w := by
  unfold execOp
  simp only [ho, hx, Sem.run_bind]
  go_simp
theorem ex_i_txns (ho : o.op = .indexAddr 22 x y) (hx : a.eval x = .slice (some ad) n c) (hy : a.eval y = .int .i64 (k : Int)) (hk : k < n) (w : World) : (execOp a.eval o).run Tryz.prog w = .ok (.value (.pointer (some (ad.add (k * 6))))) w := by
  have h0 : (0 : Int) ≤ (k : Int) := by omega
  have h1 : (k : Int) < (n : Int) := by omega
  unfold execOp
  simp only [ho, hx, hy, Sem.run_bind]
  go_simp
theorem ex_i_ops (ho : o.op = .indexAddr 54 x y) (hx : a.eval x = .slice (some ad) n c) (hy : a.eval y = .int .i64 (k : Int)) (hk : k < n) (w : World) : (execOp a.eval o).run Tryz.prog w = .ok (.value (.pointer (some (ad.add (k * 7))))) w := by
  have h0 : (0 : Int) ≤ (k : Int) := by omega
  have h1 : (k : Int) < (n : Int) := by omega
  unfold execOp
  simp only [ho, hx, hy, Sem.run_bind]
  go_simp
theorem ex_i_items (ho : o.op = .indexAddr 28 x y) (hx : a.eval x = .slice (some ad) n c) (hy : a.eval y = .int .i64 (k : Int)) (hk : k < n) (w : World) : (execOp a.eval o).run Tryz.prog w = .ok (.value (.pointer (some (ad.add (k * 11))))) w := by
  have h0 : (0 : Int) ≤ (k : Int) := by omega
  have h1 : (k : Int) < (n : Int) := by omega
  unfold execOp
  simp only [ho, hx, hy, Sem.run_bind]
  go_simp
theorem ex_l1_int {v : Value} (ho : o.op = .load 3 x) (hx : a.eval x = .pointer (some p)) (h : w.cell? p = some v) : (execOp a.eval o).run Tryz.prog w = .ok (.value v) w := by
  unfold execOp
  simp only [ho, hx, Sem.run_bind]
  go_simp
theorem ex_l1_bool {v : Value} (ho : o.op = .load 4 x) (hx : a.eval x = .pointer (some p)) (h : w.cell? p = some v) : (execOp a.eval o).run Tryz.prog w = .ok (.value v) w := by
  unfold execOp
  simp only [ho, hx, Sem.run_bind]
  go_simp
theorem ex_l1_strs {v : Value} (ho : o.op = .load 24 x) (hx : a.eval x = .pointer (some p)) (h : w.cell? p = some v) : (execOp a.eval o).run Tryz.prog w = .ok (.value v) w := by
  unfold execOp
  simp only [ho, hx, Sem.run_bind]
  go_simp
theorem ex_l1_refs {v : Value} (ho : o.op = .load 63 x) (hx : a.eval x = .pointer (some p)) (h : w.cell? p = some v) : (execOp a.eval o).run Tryz.prog w = .ok (.value v) w := by
  unfold execOp
  simp only [ho, hx, Sem.run_bind]
  go_simp
theorem ex_l1_ops {v : Value} (ho : o.op = .load 54 x) (hx : a.eval x = .pointer (some p)) (h : w.cell? p = some v) : (execOp a.eval o).run Tryz.prog w = .ok (.value v) w := by
  unfold execOp
  simp only [ho, hx, Sem.run_bind]
  go_simp
theorem ex_l1_txns {v : Value} (ho : o.op = .load 22 x) (hx : a.eval x = .pointer (some p)) (h : w.cell? p = some v) : (execOp a.eval o).run Tryz.prog w = .ok (.value v) w := by
  unfold execOp
  simp only [ho, hx, Sem.run_bind]
  go_simp
theorem ex_l1_undos {v : Value} (ho : o.op = .load 23 x) (hx : a.eval x = .pointer (some p)) (h : w.cell? p = some v) : (execOp a.eval o).run Tryz.prog w = .ok (.value v) w := by
  unfold execOp
  simp only [ho, hx, Sem.run_bind]
  go_simp
theorem ex_l_dot {v0 v1 : Value} (ho : o.op = .load 53 x) (hx : a.eval x = .pointer (some p)) (h0 : w.cell? p = some v0) (h1 : w.cell? ⟨p.block, p.off + 1, none⟩ = some v1) : (execOp a.eval o).run Tryz.prog w = .ok (.value (.agg #[v0, v1])) w := by
  unfold execOp
  simp only [ho, hx, Sem.run_bind]
  go_simp
theorem ex_l_ref {v0 v1 v2 : Value} (ho : o.op = .load 70 x) (hx : a.eval x = .pointer (some p)) (h0 : w.cell? p = some v0) (h1 : w.cell? ⟨p.block, p.off + 1, none⟩ = some v1) (h2 : w.cell? ⟨p.block, p.off + 2, none⟩ = some v2) : (execOp a.eval o).run Tryz.prog w = .ok (.value (.agg #[v0, v1, v2])) w := by
  unfold execOp
  simp only [ho, hx, Sem.run_bind]
  go_simp
theorem ex_l_op {v0 v1 v2 v3 v4 v5 v6 : Value} (ho : o.op = .load 65 x) (hx : a.eval x = .pointer (some p)) (h0 : w.cell? p = some v0) (h1 : w.cell? ⟨p.block, p.off + 1, none⟩ = some v1) (h2 : w.cell? ⟨p.block, p.off + 2, none⟩ = some v2) (h3 : w.cell? ⟨p.block, p.off + 3, none⟩ = some v3) (h4 : w.cell? ⟨p.block, p.off + 4, none⟩ = some v4) (h5 : w.cell? ⟨p.block, p.off + 5, none⟩ = some v5) (h6 : w.cell? ⟨p.block, p.off + 6, none⟩ = some v6) : (execOp a.eval o).run Tryz.prog w = .ok (.value (.agg #[v0, v1, v2, v3, v4, v5, v6])) w := by
  unfold execOp
  simp only [ho, hx, Sem.run_bind]
  go_simp
end
end Go.Proofs.YthlhopdlkkeohaaGreatDoor.O
/- The walk of slices.Equal over references. -/
namespace Go.Proofs.YthlhopdlkkeohaaGreatDoor.O
open Go.RowKit

/-- So many of the counts are the same. -/
def sameTo (xs ys : List U) (k : Nat) : Prop := xs.take k = ys.take k
theorem sameTo_zero (xs ys : List U) : sameTo xs ys 0 := by simp [sameTo]
theorem sameTo_step {xs ys : List U} {k : Nat} (h : sameTo xs ys k) (h1 : k < xs.length) (h2 : k < ys.length) (he : xs[k] = ys[k]) : sameTo xs ys (k + 1) := by
  unfold sameTo at h ⊢
  rw [List.take_succ_eq_append_getElem h1, List.take_succ_eq_append_getElem h2, h, he]
theorem same_not {xs ys : List U} {k : Nat} (h1 : k < xs.length) (h2 : k < ys.length) (he : ¬ xs[k] = ys[k]) : decide (xs = ys) = false := by
  apply decide_eq_false
  intro e
  subst e
  exact he rfl
theorem same_all {xs ys : List U} {k : Nat} (h : sameTo xs ys k) (h1 : ¬ k < xs.length) (hl : xs.length = ys.length) : decide (xs = ys) = true := by
  apply decide_eq_true
  unfold sameTo at h
  rwa [List.take_of_length_le (by omega), List.take_of_length_le (by omega)] at h
theorem CAt.heap {w w' : World} {p : Addr} {u : U} (h : CAt w p u) (e : w'.heap = w.heap) : CAt w' p u := ⟨(World.cell?_of_block (by rw [e])).trans h.1, (World.cell?_of_block (by rw [e])).trans h.2.1, (World.cell?_of_block (by rw [e])).trans h.2.2⟩

end Go.Proofs.YthlhopdlkkeohaaGreatDoor.O
/- The walks of slices.Equal, Same, Under and of the document's Under. -/
namespace Go.Proofs.YthlhopdlkkeohaaGreatDoor.U
open Go.RowKit

theorem strsAt_len {w : World} {v : Value} {xs : List (List UInt8)} (h : strsAt w v xs) : ∃ ao cap, v = .slice ao xs.length cap := by
  obtain ⟨ao, cap, hv, _⟩ := h
  exact ⟨ao, cap, hv⟩
theorem bytes_ne {a b : List UInt8} (h : a ≠ b) : ¬ (⟨a.toArray⟩ : ByteArray) = ⟨b.toArray⟩ := fun e => h (by
  have := congrArg (fun b : ByteArray => b.data.toList) e
  simpa using this)

set_option maxRecDepth 20000 in
set_option maxHeartbeats 2000000 in
theorem equal_any (va vb : Value) (xs ys : List (List UInt8)) (w : World) (hx : xs.length ≤ 2000000) (ha : strsAt w va xs) (hb : strsAt w vb ys) :
    Calls Tryz.prog 119 #[va, vb] w fun e w' => e = .returned (.bool (decide (xs = ys))) ∧ Below w.heap.size w w' := by
  obtain ⟨ao, ca, rfl, _, hca⟩ := ha
  obtain ⟨bo, cb, rfl, _, hcb⟩ := hb
  by_cases hl : xs.length = ys.length
  · go_enter Tryz.func119, Tryz.ntmps119
    go_wp2
    go_loopw [13] (fun i wr => ∃ k : Nat, k ≤ xs.length ∧ i = .int .i64 k ∧ sameTo xs ys k ∧ wr.heap = w.heap ∧ Below w.heap.size w wr) (fun i _ => xs.length - (intOf i).toNat)
    case atStart => exact ⟨0, by omega, rfl, sameTo_zero _ _, rfl, Below.refl _ w⟩
    case round =>
      obtain ⟨k, hk, rfl, hS, hheap, hbw⟩ := hrel
      by_cases hlt : k < xs.length
      · have hlt2 : k < ys.length := by omega
        obtain ⟨ad, rfl, hA⟩ := hca k hlt
        obtain ⟨bd, rfl, hB⟩ := hcb k hlt2
        have hA2 : wr.cell? (ad.add k) = some (.string ⟨(xs[k]).toArray⟩) := (World.cell?_of_block (by rw [hheap])).trans hA
        have hB2 : wr.cell? (bd.add k) = some (.string ⟨(ys[k]).toArray⟩) := (World.cell?_of_block (by rw [hheap])).trans hB
        clear hca hcb hA hB
        by_cases he : xs[k] = ys[k]
        · have HS := sameTo_step hS hlt hlt2 he
          rw [← he] at hB2
          generalize xs[k] = x at *
          go_wp2
          go_region
          all_goals
            go_wp2
            go_roundw
            case rel => exact ⟨k + 1, by omega, by go_num, HS, hheap, hbw.drew⟩
            case measure => simp [intOf]; omega
        · have HL : Hid (decide (xs = ys) = false) := by
            have h := same_not hlt hlt2 he
            exact h
          have hne := bytes_ne he
          have hbe : (xs[k] == ys[k]) = false := beq_eq_false_iff_ne.2 he
          generalize xs[k] = x at *
          generalize ys[k] = y at *
          go_wp2
          go_region
          all_goals
            go_wp2
            go_ret
            exact ⟨ret_bool HL.out.symm, hbw.drew⟩
      · have HL : Hid (decide (xs = ys) = true) := by
          have h := same_all hS hlt hl
          exact h
        go_wp2
        go_ret
        exact ⟨ret_bool HL.out.symm, hbw⟩
  · have HL : Hid (decide (xs = ys) = false) := by
      have h : decide (xs = ys) = false := decide_eq_false (fun e => hl (by rw [e]))
      exact h
    clear hca hcb
    go_enter Tryz.func119, Tryz.ntmps119
    go_wp2
    go_ret
    exact ⟨ret_bool HL.out.symm, Below.refl _ w⟩

/-- The program's Same. -/
theorem psame_any (va vb : Value) (xs ys : List (List UInt8)) (w : World) (hx : xs.length ≤ 2000000) (ha : strsAt w va xs) (hb : strsAt w vb ys) :
    Calls Tryz.prog 77 #[va, vb] w fun e w' => e = .returned (.bool (decide (xs = ys))) ∧ Below w.heap.size w w' := by
  have HC := equal_any va vb xs ys w hx ha hb
  go_enter Tryz.func77, Tryz.ntmps77
  go_wp2_with (go_at_call 119; (with_reducible refine HC.mono ?_); rintro e w1 ⟨rfl, hb1⟩)
  go_ret
  exact ⟨rfl, hb1⟩

end Go.Proofs.YthlhopdlkkeohaaGreatDoor.U
/- The walks of Same and Gone, both sides. -/
namespace Go.Proofs.YthlhopdlkkeohaaGreatDoor.O
open Go.RowKit

theorem neq_val (k n : Int) (l : List UInt8) (k' n' : Int) (l' : List UInt8) (w : World) : (binOp .neq 61 (valV k n l) (valV k' n' l')).run Tryz.prog w = .ok (.bool (!decide (k = k' ∧ n = n' ∧ l = l'))) w := by
  go_simp
  by_cases h1 : k = k' <;> by_cases h2 : n = n' <;> by_cases h3 : l = l' <;> simp [h1, h2, h3]
theorem same_no {a b : Os.Op} (h : ¬ (a.k = b.k ∧ a.p = b.p ∧ (a.vk = b.vk ∧ a.vn = b.vn ∧ a.vs = b.vs) ∧ a.n = b.n)) : Os.same a b = false := by
  unfold Os.same
  exact decide_eq_false fun x => h ⟨x.1, x.2.1, x.2.2.1, x.2.2.2.1⟩

set_option maxRecDepth 20000 in
set_option maxHeartbeats 2000000 in
theorem refGone_any (k : Int) (pv : Value) (vk vn : Int) (vs : List UInt8) (n : Int) (sv : Value) (p : List (List UInt8)) (l : List U) (w : World) (hp : U.strsAt w pv p) (hs : refsIn w sv l) :
    Calls Tryz.prog 104 #[opV k pv vk vn vs n sv] w fun e w' => e = .returned (.bool (Os.gone ⟨k, p, vk, vn, vs, n, l⟩)) ∧ Below w.heap.size w w' := by
  have B0 := below_new2 w (opO k pv vk vn vs n sv) (valO 0 0 [])
  obtain ⟨ao, cp, rfl, -, -⟩ := hp
  obtain ⟨bo, cs, rfl, -, -, -⟩ := hs
  by_cases h1 : k = 0
  rotate_left
  · rw [show Os.gone ⟨k, p, vk, vn, vs, n, l⟩ = false from decide_eq_false (fun x => h1 x.1)]
    have e1 : (k == 0) = false := beq_eq_false_iff_ne.2 h1
    clear h1
    go_enter Tryz.func104, Tryz.ntmps104
    go_wp2
    go_ret
    exact ⟨rfl, B0⟩
  subst h1
  by_cases h2 : p = []
  rotate_left
  · rw [show Os.gone ⟨0, p, vk, vn, vs, n, l⟩ = false from decide_eq_false (fun x => h2 x.2.1)]
    have e2 : (((p.length : Nat) : Int) == 0) = false := beq_eq_false_iff_ne.2 (by have : p.length ≠ 0 := fun e => h2 (List.eq_nil_of_length_eq_zero e); omega)
    clear h2
    go_enter Tryz.func104, Tryz.ntmps104
    go_wp2
    go_ret
    exact ⟨rfl, B0⟩
  subst h2
  have hE := fun w => eql_val vk vn vs 0 0 [] w
  by_cases h3 : vk = 0 ∧ vn = 0 ∧ vs = []
  rotate_left
  · rw [show Os.gone ⟨0, [], vk, vn, vs, n, l⟩ = false from decide_eq_false (fun x => h3 x.2.2.1)]
    rw [decide_eq_false h3] at hE
    clear h3
    go_enter Tryz.func104, Tryz.ntmps104
    go_wp2
    go_ret
    exact ⟨rfl, B0⟩
  obtain ⟨rfl, rfl, rfl⟩ := h3
  clear hE
  by_cases h4 : n = 0
  rotate_left
  · rw [show Os.gone ⟨0, [], 0, 0, [], n, l⟩ = false from decide_eq_false (fun x => h4 x.2.2.2.1)]
    have e4 : (n == 0) = false := beq_eq_false_iff_ne.2 h4
    clear h4
    go_enter Tryz.func104, Tryz.ntmps104
    go_wp2
    go_ret
    exact ⟨rfl, B0⟩
  subst h4
  by_cases h5 : l = []
  · subst h5
    rw [show Os.gone ⟨0, [], 0, 0, [], 0, []⟩ = true from rfl]
    go_enter Tryz.func104, Tryz.ntmps104
    go_wp2
    go_ret
    exact ⟨rfl, B0⟩
  · rw [show Os.gone ⟨0, [], 0, 0, [], 0, l⟩ = false from decide_eq_false (fun x => h5 x.2.2.2.2)]
    have e5 : (((l.length : Nat) : Int) == 0) = false := beq_eq_false_iff_ne.2 (by have : l.length ≠ 0 := fun e => h5 (List.eq_nil_of_length_eq_zero e); omega)
    clear h5
    go_enter Tryz.func104, Tryz.ntmps104
    go_wp2
    go_ret
    exact ⟨rfl, B0⟩

end Go.Proofs.YthlhopdlkkeohaaGreatDoor.O
