/- A row that a call made, whatever its length; slices.Sort and slices.Compact of texts and of numbers over such rows; a copy of texts; one thing more in a row. -/
import Derived.Test.YtmnehekcealjhaaGreatLaySort
import Derived.Test.YtmnehekcealjhaaGreatRwsAll
import Derived.Test.YtmnehekcealjhaaGreatLinesAll
namespace Go.Proofs.YtmnehekcealjhaaGreat.O
open Go.RowKit Go.Shelf

section
variable {α : Type} {f : α → List Value} {m : Nat}
def rowR (f : α → List Value) (m : Nat) (w : World) (B : Nat) (v : Value) (xs : List α) : Prop :=
  (v = .slice none 0 0 ∧ xs = []) ∨ ∃ g cap, v = .slice (some ⟨g, 0, none⟩) xs.length cap ∧ xs.length ≤ cap ∧ cap ≤ maxLen ∧ B ≤ g ∧ OwnR w g f m xs
theorem rowR.of_own (hf : ∀ x, (f x).length = m) {w : World} {B : Nat} {T : TypeId} {v : Value} {xs : List α} (h : w.ownsRow B T m v xs.length (xs.flatMap f)) : rowR f m w B v xs := by
  rcases id h.2 with ⟨rfl, h0⟩ | ⟨g, cap, cur, rfl, r⟩
  · exact .inl ⟨rfl, List.eq_nil_of_length_eq_zero h0⟩
  · obtain ⟨hO, h1, h2, h3, _⟩ := OwnR.of (f := f) (m := m) hf h
    exact .inr ⟨g, cap, rfl, h1, h2, h3, hO⟩
theorem rowR.on {w w' : World} {B : Nat} {v : Value} {xs : List α} (h : rowR f m w B v xs) (hb : Below w.heap.size w w') : rowR f m w' B v xs := by
  rcases h with h | ⟨g, cap, h1, h2, h3, h4, h5⟩
  · exact .inl h
  · exact .inr ⟨g, cap, h1, h2, h3, h4, h5.on hb⟩
theorem rowR.rows (hf : ∀ x, (f x).length = m) {w : World} {B : Nat} {v : Value} {xs : List α} (h : rowR f m w B v xs) : rowsIn w f v xs := by
  rcases h with ⟨rfl, rfl⟩ | ⟨g, cap, rfl, h2, h3, h4, h5⟩
  · exact ⟨none, 0, rfl, Nat.le_refl _, fun _ => rfl, fun j u hu => by simp at hu⟩
  · exact h5.rows hf h2
theorem rowR.slice {w : World} {B : Nat} {v : Value} {xs : List α} (h : rowR f m w B v xs) : ∃ ao cap, v = .slice ao xs.length cap := by
  rcases h with ⟨rfl, rfl⟩ | ⟨g, cap, rfl, h2, h3, h4, h5⟩
  · exact ⟨none, 0, rfl⟩
  · exact ⟨_, cap, rfl⟩

/-! ### Things of one cell -/
def cell1 (enc : α → Value) (x : α) : List Value := [enc x]
theorem cell1_len (enc : α → Value) (x : α) : (cell1 enc x).length = 1 := rfl
theorem flat_cell1 (enc : α → Value) : ∀ xs : List α, xs.flatMap (cell1 enc) = xs.map enc
  | [] => rfl
  | x :: r => by rw [List.flatMap_cons, flat_cell1 enc r]; rfl
variable [Inhabited α] {enc : α → Value}
theorem holds_own1 {w : World} {g : Nat} {xs : List α} (h : OwnR w g (cell1 enc) 1 xs) : Go.Sort.Holds enc w g 0 xs.toArray := by
  intro j hj
  have hj' : j < xs.length := by simpa using hj
  obtain ⟨a, b⟩ := h.2 j hj'
  have c := a 0 (enc xs[j]) rfl
  have d := (b 0 (by omega)).2
  rw [Nat.mul_one, Nat.add_zero] at c d
  rw [Nat.zero_add]
  refine ⟨?_, d⟩
  rw [c]
  simp [hj']
theorem own_holds1 {w : World} {g : Nat} {xs : List α} (hg : g < w.heap.size) (h : Go.Sort.Holds enc w g 0 xs.toArray) : OwnR w g (cell1 enc) 1 xs := by
  refine ⟨hg, fun k hk => ?_⟩
  obtain ⟨a, b⟩ := h k (by simpa using hk)
  rw [Nat.zero_add] at a b
  have e : xs.toArray[k]! = xs[k] := by simp [hk]
  rw [e] at a
  refine ⟨fun j v hv => ?_, fun j hj => ?_⟩
  · have hj : j < 1 := by have := (List.getElem?_eq_some_iff.1 hv).1; simpa [cell1] using this
    obtain rfl : j = 0 := by omega
    have : v = enc xs[k] := by simpa [cell1] using hv.symm
    rw [this, Nat.mul_one, Nat.add_zero]
    exact a
  · obtain rfl : j = 0 := by omega
    rw [Nat.mul_one, Nat.add_zero]
    exact ⟨by rw [a]; rfl, b⟩
theorem below_put {B : Nat} (w : World) {g : Nat} (hB : B ≤ g) (hg : g < w.heap.size) (n : Nat) (d : Array α) (os : Array Obj) : Below B w (Go.Sort.grow (Go.Sort.putRow enc (Go.Sort.ahead w n) g 0 d) os) := by
  have hs : (Go.Sort.putRow enc (Go.Sort.ahead w n) g 0 d).heap.size = w.heap.size := Go.Sort.size_putRow enc _ g 0 d
  refine ⟨rfl, rfl, rfl, ?_, fun k hk => ?_⟩
  · have : (Go.Sort.grow (Go.Sort.putRow enc (Go.Sort.ahead w n) g 0 d) os).heap.size = w.heap.size + os.size := by rw [← hs]; simp [Go.Sort.grow]
    omega
  · have hk' : k < w.heap.size := by omega
    rw [Go.Sort.heap_grow_old _ _ (by rw [hs]; exact hk')]
    unfold Go.Sort.putRow Go.Sort.mapBlock
    show (w.heap.modify g _)[k]? = _
    rw [Array.getElem?_modify, if_neg (by omega)]
theorem own_put {w : World} {g : Nat} {xs ys : List α} (h : OwnR w g (cell1 enc) 1 xs) (hl : ys.length = xs.length) (n : Nat) (os : Array Obj) : OwnR (Go.Sort.grow (Go.Sort.putRow enc (Go.Sort.ahead w n) g 0 ys.toArray) os) g (cell1 enc) 1 ys := by
  have hs : (Go.Sort.putRow enc (Go.Sort.ahead w n) g 0 ys.toArray).heap.size = w.heap.size := Go.Sort.size_putRow enc _ g 0 _
  refine own_holds1 ?_ (Go.Sort.holds_grow enc _ os g 0 _ (by rw [hs]; exact h.1) (Go.Sort.holds_putRow enc _ g 0 xs.toArray _ (Go.Sort.holds_ahead enc w n g 0 _ (holds_own1 h)) (by simpa using hl)))
  have : (Go.Sort.grow (Go.Sort.putRow enc (Go.Sort.ahead w n) g 0 ys.toArray) os).heap.size = w.heap.size + os.size := by rw [← hs]; simp [Go.Sort.grow]
  have := h.1
  omega
end

abbrev scell : List UInt8 → List Value := cell1 encStr
abbrev ncell : Int → List Value := cell1 (Value.int .i64)
theorem flat_scell (xs : List (List UInt8)) : xs.flatMap scell = U.cellsS xs := flat_cell1 _ xs
/-- A row of texts reads so. -/
theorem strs_rows {w : World} {v : Value} {xs : List (List UInt8)} (h : rowsIn w scell v xs) : U.strsAt w v xs := by
  obtain ⟨ao, cap, e, h1, h2, h3⟩ := h
  refine ⟨ao, cap, e, h1, fun k hk => ?_⟩
  refine h3 k _ ?_
  rw [flat_scell]
  exact U.cellsS_at hk
theorem strs_row {w : World} {B : Nat} {v : Value} {xs : List (List UInt8)} (h : rowR scell 1 w B v xs) : U.strsAt w v xs := strs_rows (h.rows (cell1_len _))

theorem sortS_any (v : Value) (ss : List (List UInt8)) (B : Nat) (w0 w : World) (hb : Below B w0 w) (h : rowR scell 1 w B v ss) (hn : ss.length ≤ 1000000) :
    Calls Tryz.prog 40 #[v] w fun e w' => e = .returned (.tuple #[]) ∧ rowR scell 1 w' B v (ss.mergeSort fun x y => decide (x ≤ y)) ∧ Below B w0 w' := by
  rcases h with ⟨rfl, rfl⟩ | ⟨g, cap, rfl, h2, h3, h4, h5⟩
  · have k : Calls Tryz.prog 40 #[.slice none 0 0] w fun e w' => e = .returned (.tuple #[]) ∧ w' = w := Any.slices_Sort_string_none lay190 none 0 w
    refine k.mono ?_
    rintro e w' ⟨rfl, rfl⟩
    exact ⟨rfl, .inl ⟨rfl, by simp⟩, hb⟩
  · have hl : (ss.mergeSort fun x y => decide (x ≤ y)).length = ss.length := List.length_mergeSort ss
    have k : Calls Tryz.prog 40 #[.slice (some ⟨g, 0, none⟩) ss.length cap] w fun e w' => e = .returned (.tuple #[]) ∧ ∃ n os, w' = Go.Sort.grow (Go.Sort.putRow encStr (Go.Sort.ahead w n) g 0 (ss.mergeSort fun x y => decide (x ≤ y)).toArray) os := Any.slices_Sort_string lay190 g 0 cap ss w (holds_own1 h5) h5.1 (by omega)
    refine k.mono ?_
    rintro e w' ⟨rfl, n, os, rfl⟩
    exact ⟨rfl, .inr ⟨g, cap, by rw [hl], by rw [hl]; exact h2, h3, h4, own_put h5 hl n os⟩, hb.trans (below_put w h4 h5.1 n _ os)⟩
theorem sortI_any (v : Value) (ss : List Int) (B : Nat) (w0 w : World) (hb : Below B w0 w) (h : rowR ncell 1 w B v ss) (hn : ss.length ≤ 1000000) :
    Calls Tryz.prog 29 #[v] w fun e w' => e = .returned (.tuple #[]) ∧ rowR ncell 1 w' B v (ss.mergeSort fun x y => decide (x ≤ y)) ∧ Below B w0 w' := by
  rcases h with ⟨rfl, rfl⟩ | ⟨g, cap, rfl, h2, h3, h4, h5⟩
  · have k : Calls Tryz.prog 29 #[.slice none 0 0] w fun e w' => e = .returned (.tuple #[]) ∧ w' = w := Any.slices_Sort_int_none lay189 none 0 w
    refine k.mono ?_
    rintro e w' ⟨rfl, rfl⟩
    exact ⟨rfl, .inl ⟨rfl, by simp⟩, hb⟩
  · have hl : (ss.mergeSort fun x y => decide (x ≤ y)).length = ss.length := List.length_mergeSort ss
    have k : Calls Tryz.prog 29 #[.slice (some ⟨g, 0, none⟩) ss.length cap] w fun e w' => e = .returned (.tuple #[]) ∧ ∃ n os, w' = Go.Sort.grow (Go.Sort.putRow (Value.int .i64) (Go.Sort.ahead w n) g 0 (ss.mergeSort fun x y => decide (x ≤ y)).toArray) os := Any.slices_Sort_int lay189 g 0 cap ss w (holds_own1 h5) h5.1 (by omega)
    refine k.mono ?_
    rintro e w' ⟨rfl, n, os, rfl⟩
    exact ⟨rfl, .inr ⟨g, cap, by rw [hl], by rw [hl]; exact h2, h3, h4, own_put h5 hl n os⟩, hb.trans (below_put w h4 h5.1 n _ os)⟩

/-- What is left of a row that was made shorter. -/
theorem row_short {α : Type} [Inhabited α] {enc : α → Value} {w0 w : World} {B g cap q : Nat} {zs ys : List α} {x : α} (hb : Below B w0 w) (h2 : zs.length ≤ cap) (h3 : cap ≤ maxLen) (h4 : B ≤ g) (h5 : OwnR w g (cell1 enc) 1 zs) (hl : ys.length ≤ zs.length) :
    rowR (cell1 enc) 1 (Go.Sort.putRow enc (Go.Sort.ahead w q) g 0 (ys ++ List.replicate (zs.length - ys.length) x).toArray) B (.slice (some ⟨g, 0, none⟩) ys.length cap) ys ∧ Below B w0 (Go.Sort.putRow enc (Go.Sort.ahead w q) g 0 (ys ++ List.replicate (zs.length - ys.length) x).toArray) := by
  have hy : (ys ++ List.replicate (zs.length - ys.length) x).length = zs.length := by simp; omega
  have a := own_put (ys := ys ++ List.replicate (zs.length - ys.length) x) h5 hy q #[]
  have b := below_put (enc := enc) w h4 h5.1 q (ys ++ List.replicate (zs.length - ys.length) x).toArray #[]
  rw [Go.Sort.grow_empty] at a b
  have c := a.take ys.length
  rw [List.take_left] at c
  exact ⟨.inr ⟨g, cap, rfl, by omega, h3, h4, c⟩, hb.trans b⟩
theorem compactS_any (v : Value) (zs : List (List UInt8)) (B : Nat) (w0 w : World) (hb : Below B w0 w) (h : rowR scell 1 w B v zs) (hn : zs.length ≤ 1000000) :
    Calls Tryz.prog 41 #[v] w fun e w' => ∃ r, e = .returned r ∧ rowR scell 1 w' B r (Li.thin zs) ∧ Below B w0 w' := by
  rcases h with ⟨rfl, rfl⟩ | ⟨g, cap, rfl, h2, h3, h4, h5⟩
  · have k : Calls Tryz.prog 41 #[.slice none 0 0] w fun e w' => e = .returned (.slice none 0 0) ∧ w' = w := Any.slices_Compact_string_empty lay194 none 0 w
    refine k.mono ?_
    rintro e w' ⟨rfl, rfl⟩
    exact ⟨_, rfl, .inl ⟨rfl, rfl⟩, hb⟩
  · have k : Calls Tryz.prog 41 #[.slice (some ⟨g, 0, none⟩) zs.length cap] w fun e w' => e = .returned (.slice (some ⟨g, 0, none⟩) (Lib.compact zs).length cap) ∧ ∃ q, w' = Go.Sort.putRow encStr (Go.Sort.ahead w q) g 0 (Lib.compact zs ++ List.replicate (zs.length - (Lib.compact zs).length) []).toArray := Any.slices_Compact_string lay194 g 0 cap zs w (holds_own1 h5) (by omega) h2
    rw [Li.compact_thin] at k
    refine k.mono ?_
    rintro e w' ⟨rfl, q, rfl⟩
    exact ⟨_, rfl, row_short hb h2 h3 h4 h5 (Li.thin_len zs)⟩
theorem compactI_any (v : Value) (zs : List Int) (B : Nat) (w0 w : World) (hb : Below B w0 w) (h : rowR ncell 1 w B v zs) (hn : zs.length ≤ 1000000) :
    Calls Tryz.prog 30 #[v] w fun e w' => ∃ r, e = .returned r ∧ rowR ncell 1 w' B r (Li.thin zs) ∧ Below B w0 w' := by
  rcases h with ⟨rfl, rfl⟩ | ⟨g, cap, rfl, h2, h3, h4, h5⟩
  · have k : Calls Tryz.prog 30 #[.slice none 0 0] w fun e w' => e = .returned (.slice none 0 0) ∧ w' = w := Any.slices_Compact_int_empty lays20 none 0 w
    refine k.mono ?_
    rintro e w' ⟨rfl, rfl⟩
    exact ⟨_, rfl, .inl ⟨rfl, rfl⟩, hb⟩
  · have k : Calls Tryz.prog 30 #[.slice (some ⟨g, 0, none⟩) zs.length cap] w fun e w' => e = .returned (.slice (some ⟨g, 0, none⟩) (Lib.compact zs).length cap) ∧ ∃ q, w' = Go.Sort.putRow (Value.int .i64) (Go.Sort.ahead w q) g 0 (Lib.compact zs ++ List.replicate (zs.length - (Lib.compact zs).length) 0).toArray := Any.slices_Compact_int lays20 g 0 cap zs w (holds_own1 h5) (by omega) h2
    rw [Li.compact_thin] at k
    refine k.mono ?_
    rintro e w' ⟨rfl, q, rfl⟩
    exact ⟨_, rfl, row_short hb h2 h3 h4 h5 (Li.thin_len zs)⟩

theorem cloneS_any (v : Value) (xs : List (List UInt8)) (w : World) (hv : U.strsAt w v xs) (hn : xs.length ≤ 1000000) :
    Calls Tryz.prog 32 #[v] w fun e w' => ∃ r, e = .returned r ∧ w'.ownsRow w.heap.size 9 1 r xs.length (U.cellsS xs) ∧ Below w.heap.size w w' := by
  obtain ⟨ao, cap, rfl, h1, h2⟩ := hv
  cases ao with
  | none =>
    obtain rfl : xs = [] := by
      cases xs with
      | nil => rfl
      | cons x r =>
        obtain ⟨ad, e, _⟩ := h2 0 (by simp)
        cases e
    have k : Calls Tryz.prog 32 #[.slice none 0 cap] w fun e w' => e = .returned (.slice none 0 0) ∧ w' = w := Any.slices_Clone_string_nil lays16 0 cap w
    refine k.mono ?_
    rintro e w' ⟨rfl, rfl⟩
    exact ⟨_, rfl, World.ownsRow_nil _ _ _ _, Below.refl _ _⟩
  | some ad =>
    by_cases h0 : xs = []
    · subst h0
      have k : Calls Tryz.prog 32 #[.slice (some ad) 0 cap] w fun e w' => ∃ v', e = .returned v' ∧ w'.ownsRow w.heap.size 9 1 v' 0 [] ∧ v' ≠ .slice none 0 0 ∧ Below w.heap.size w w' := Any.slices_Clone_string_zero lays16 ad cap w
      refine k.mono ?_
      rintro e w' ⟨r, rfl, a, _, b⟩
      exact ⟨_, rfl, a, b⟩
    · have hpos : 0 < xs.length := List.length_pos_iff.2 h0
      obtain ⟨b, off, sp⟩ := ad
      have hsp : sp = none := by
        obtain ⟨ad', e, hc⟩ := h2 0 hpos
        cases e
        have e0 : (⟨b, off, sp⟩ : Addr).add 0 = ⟨b, off, sp⟩ := by unfold Addr.add; simp
        rw [e0] at hc
        cases sp with
        | none => rfl
        | some q =>
          unfold World.cell? at hc
          simp at hc
          split at hc <;> simp_all
      subst hsp
      obtain ⟨zs, hzs⟩ : ∃ zs : List ByteArray, zs = xs.map fun x => (⟨x.toArray⟩ : ByteArray) := ⟨_, rfl⟩
      have hl : zs.length = xs.length := by rw [hzs]; simp
      have hcs : ∀ j, j < zs.length → w.cell? ⟨b, off + j, none⟩ = some (.string (zs.getD j ByteArray.empty)) := fun j hj => by
        have hj' : j < xs.length := by omega
        obtain ⟨ad', e, hc⟩ := h2 j hj'
        cases e
        have e0 : (⟨b, off, none⟩ : Addr).add j = ⟨b, off + j, none⟩ := by unfold Addr.add; split <;> simp_all
        rw [e0] at hc
        rw [hc, hzs]
        simp [List.getD, List.getElem?_eq_getElem hj']
      have k : Calls Tryz.prog 32 #[.slice (some ⟨b, off, none⟩) xs.length cap] w fun e w' => ∃ v', e = .returned v' ∧ w'.ownsRow w.heap.size 9 1 v' xs.length ((zs.take xs.length).map Value.string) ∧ v' ≠ .slice none 0 0 ∧ Below w.heap.size w w' :=
        Any.slices_Clone_string lays16 b off xs.length cap zs w (by omega) (by omega) hcs
      have e : (zs.take xs.length).map Value.string = U.cellsS xs := by
        rw [List.take_of_length_le (by omega), hzs]
        simp [U.cellsS]
      rw [e] at k
      refine k.mono ?_
      rintro e w' ⟨r, rfl, a, _, b⟩
      exact ⟨_, rfl, a, b⟩

/-! ### One thing more in a row -/
theorem append_one {α : Type} {f : α → List Value} {m by_ : Nat} (hf : ∀ x, (f x).length = m) (hm : 0 < m) {ops : Array Oper} {rest : List Oper} {o : Oper} {a : Act} {w : World} {Q : Exit → Act → World → Prop} {ST T : TypeId} {i0 : TypeInfo} {z : Value} (hgd : o.guard = none)
    (hu : Tryz.prog.underlying ST = some (.slice T)) (hi : Tryz.prog.info? T = some i0) (hz : i0.zero = some z) (hz1 : i0.size = m) (hz2 : i0.bytes = by_) (hz3 : z.cells.size = m) (hb9 : by_ ≤ 1000) (s x : Operand)
    (ho : o.op = .call { callee := .builtin .append, args := #[s, x], argTypes := #[ST, ST] }) (B : Nat) (hB : B ≤ w.heap.size) (r : Value) (acc : List α) (hs : a.eval s = r) (hown : w.ownsRow B T m r acc.length (acc.flatMap f))
    (g : Nat) (y : α) (hx : a.eval x = .slice (some ⟨g, 0, none⟩) 1 1) (hv : ∀ j v, (f y)[j]? = some v → w.cell? ((⟨g, 0, none⟩ : Addr).add j) = some v) (hone : ∀ u ∈ f y, u.oneCell' = true) (hn : acc.length + 1 ≤ 1000001)
    (h : ∀ r' w', w'.ownsRow B T m r' (acc ++ [y]).length ((acc ++ [y]).flatMap f) → w.grownBy w' r.ownBlock → wpList Tryz.prog ops Q rest (a.put o.dst r') w') : wpList Tryz.prog ops Q (o :: rest) a w := by
  have hby : (acc.length + 1) * by_ ≤ 1000001 * 1000 := Nat.mul_le_mul hn hb9
  refine wpList_append_own w hgd s x ST ho B T i0 z m by_ hu hi hz hz1 hz2 hz3 hm r _ _ hs hown ⟨g, 0, none⟩ 1 1 (f y) hx (by rw [hf]; omega) hv hone (by unfold maxLen; omega) (by omega) hB ?_
  intro v' w1 hown' hg _
  refine h v' w1 ?_ hg
  rw [List.flatMap_append, List.length_append]
  simpa using hown'
end Go.Proofs.YtmnehekcealjhaaGreat.O
