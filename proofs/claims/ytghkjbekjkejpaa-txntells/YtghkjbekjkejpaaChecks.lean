/- The walks of Check (by a closure), of the document's Check and of its Short. -/
import Derived.Test.YtghkjbekjkejpaaNamesAll
import Derived.Test.YtghkjbekjkejpaaUtfAll
namespace Go.Proofs.Ytghkjbekjkejpaa.U
open Go.RowKit

theorem right_list (l : List UInt8) (w : World) : Calls Try.prog 93 #[.string ⟨l.toArray⟩] w fun e w' => e = .returned (.bool (Nm.right l)) ∧ Below w.heap.size w w' := right_any ⟨l.toArray⟩ w
theorem refRight_list (l : List UInt8) (w : World) (hl : l.length ≤ 2000000) : Calls Try.prog 74 #[.string ⟨l.toArray⟩] w fun e w' => e = .returned (.bool (Nm.right l)) ∧ Below w.heap.size w w' := refRight_any ⟨l.toArray⟩ w (by simp [ByteArray.size]; exact hl)

/-- Is a part no name? -/
theorem wrong_any (l : List UInt8) (w : World) : Calls Try.prog 92 #[.string ⟨l.toArray⟩] w fun e w' => e = .returned (.bool (!Nm.right l)) ∧ Below w.heap.size w w' := by
  have HC := right_list l w
  go_enter Try.func92, Try.ntmps92
  go_wp2_with (go_at_call 93; (with_reducible refine HC.mono ?_); rintro e w1 ⟨rfl, hb1⟩)
  go_ret
  exact ⟨rfl, hb1⟩

/-- So many parts are names. -/
def namesTo (xs : List (List UInt8)) (k : Nat) : Prop := ∀ x ∈ xs.take k, Nm.right x = true
theorem namesTo_zero (xs : List (List UInt8)) : namesTo xs 0 := by intro x hx; simp at hx
theorem namesTo_step {xs : List (List UInt8)} {k : Nat} (h : namesTo xs k) (hk : k < xs.length) (hx : Nm.right xs[k] = true) : namesTo xs (k + 1) := by
  intro x hm
  rw [List.take_succ_eq_append_getElem hk] at hm
  rcases List.mem_append.1 hm with hm | hm
  · exact h x hm
  · rw [List.mem_singleton.1 hm]; exact hx
theorem names_all {xs : List (List UInt8)} {k : Nat} (h : namesTo xs k) (hk : ¬ k < xs.length) : xs.all Nm.right = true := by
  unfold namesTo at h
  rw [List.take_of_length_le (by omega)] at h
  exact List.all_eq_true.2 h
theorem names_not {xs : List (List UInt8)} {k : Nat} (hk : k < xs.length) (hx : Nm.right xs[k] = false) : xs.all Nm.right = false := by
  cases e : xs.all Nm.right with
  | false => rfl
  | true =>
    have := List.all_eq_true.1 e xs[k] (List.getElem_mem hk)
    rw [this] at hx
    cases hx

/-- Where the first part stands that is no name; -1: nowhere. -/
def firstWrong (xs : List (List UInt8)) (r : Int) : Prop := (0 ≤ r ∧ xs.all Nm.right = false) ∨ (r = -1 ∧ xs.all Nm.right = true)

set_option maxRecDepth 20000 in
set_option maxHeartbeats 2000000 in
theorem indexFunc_any (v : Value) (xs : List (List UInt8)) (w : World) (hx : xs.length ≤ 2000000) (hv : strsAt w v xs) :
    Calls Try.prog 97 #[v, .func (.func 92) #[] #[]] w fun e w' => ∃ r : Int, e = .returned (.int .i64 r) ∧ firstWrong xs r ∧ Below w.heap.size w w' := by
  obtain ⟨ao, ca, rfl, _, hc⟩ := hv
  go_enter Try.func97, Try.ntmps97
  go_wp2
  go_loopw [8] (fun i wr => ∃ k : Nat, k ≤ xs.length ∧ i = .int .i64 k ∧ namesTo xs k ∧ Below w.heap.size w wr) (fun i _ => xs.length - (intOf i).toNat)
  case atStart => exact ⟨0, by omega, rfl, namesTo_zero _, Below.refl _ w⟩
  case round =>
    obtain ⟨k, hk, rfl, hS, hbw⟩ := hrel
    by_cases hlt : k < xs.length
    · obtain ⟨ad, rfl, hA⟩ := hc k hlt
      have hA2 : wr.cell? (ad.add k) = some (.string ⟨(xs[k]).toArray⟩) := (hbw.cell (World.block_lt_of_cell? _ _ hA)).trans hA
      clear hc hA
      have HC := wrong_any xs[k]
      cases hr : Nm.right xs[k] with
      | true =>
        have HS : Hid (namesTo xs (k + 1)) := namesTo_step hS hlt hr
        rw [hr] at HC
        clear hS hr
        generalize xs[k] = x at *
        go_wp2_with (go_at_call 92; (refine (HC _).mono ?_); rintro e w1 ⟨rfl, hb1⟩)
        go_roundw
        case rel => exact ⟨k + 1, by omega, by go_num, HS.out, hbw.trans (hb1.mono hbw.size)⟩
        case measure => simp [intOf]; omega
      | false =>
        have HF : Hid (firstWrong xs k) := by
          have h : firstWrong xs k := Or.inl ⟨by omega, names_not hlt hr⟩
          exact h
        rw [hr] at HC
        clear hS hr
        generalize xs[k] = x at *
        go_wp2_with (go_at_call 92; (refine (HC _).mono ?_); rintro e w1 ⟨rfl, hb1⟩)
        go_ret
        exact ⟨_, rfl, HF.out, hbw.trans (hb1.mono hbw.size)⟩
    · have HF : Hid (firstWrong xs (-1)) := by
        have h : firstWrong xs (-1) := Or.inr ⟨rfl, names_all hS hlt⟩
        exact h
      clear hc hS
      go_wp2
      go_ret
      exact ⟨_, rfl, HF.out, hbw⟩

theorem contains_any (v : Value) (xs : List (List UInt8)) (w : World) (hx : xs.length ≤ 2000000) (hv : strsAt w v xs) :
    Calls Try.prog 91 #[v, .func (.func 92) #[] #[]] w fun e w' => e = .returned (.bool (!xs.all Nm.right)) ∧ Below w.heap.size w w' := by
  have HC := indexFunc_any v xs w hx hv
  go_enter Try.func91, Try.ntmps91
  go_wp2_with (go_at_call 97; (with_reducible refine HC.mono ?_); rintro e w1 ⟨r, rfl, hr, hb1⟩)
  go_ret
  refine ⟨ret_bool ?_, hb1⟩
  rcases hr with ⟨h0, h1⟩ | ⟨rfl, h1⟩
  · rw [h1]; simp; omega
  · rw [h1]; simp

set_option maxRecDepth 20000 in
theorem check_any (v : Value) (xs : List (List UInt8)) (w : World) (hx : xs.length ≤ 9223372036854775807) (hv : strsAt w v xs) :
    Calls Try.prog 77 #[v] w fun e w' => e = .returned (.int .i64 (Pt.check xs : Nat)) ∧ Below w.heap.size w w' := by
  have hv' := hv
  obtain ⟨ao, ca, rfl, _, _⟩ := hv'
  by_cases h0 : xs.length = 0
  · have HL : Hid (Pt.check xs = 8) := Pt.check_none h0
    clear hv
    go_enter Try.func77, Try.ntmps77
    go_wp2
    go_ret
    exact ⟨by rw [HL.out]; rfl, Below.refl _ w⟩
  · by_cases h8 : 8 < xs.length
    · have HL : Hid (Pt.check xs = 9) := Pt.check_deep h8
      clear hv
      go_enter Try.func77, Try.ntmps77
      go_wp2
      go_ret
      exact ⟨by rw [HL.out]; rfl, Below.refl _ w⟩
    · have HC := contains_any _ xs w (by omega) hv
      clear hv
      cases ha : xs.all Nm.right with
      | true =>
        have HL : Hid (Pt.check xs = 0) := Pt.check_all h0 h8 ha
        rw [ha] at HC
        clear ha
        go_enter Try.func77, Try.ntmps77
        go_wp2_with (go_at_call 91; (with_reducible refine HC.mono ?_); rintro e w1 ⟨rfl, hb1⟩)
        go_ret
        exact ⟨by rw [HL.out]; rfl, hb1⟩
      | false =>
        have HL : Hid (Pt.check xs = 8) := Pt.check_not h0 h8 ha
        rw [ha] at HC
        clear ha
        go_enter Try.func77, Try.ntmps77
        go_wp2_with (go_at_call 91; (with_reducible refine HC.mono ?_); rintro e w1 ⟨rfl, hb1⟩)
        go_ret
        exact ⟨by rw [HL.out]; rfl, hb1⟩

set_option maxRecDepth 20000 in
set_option maxHeartbeats 2000000 in
theorem refCheck_any (v : Value) (xs : List (List UInt8)) (w : World) (hx : xs.length ≤ 9223372036854775807) (hz : ∀ x ∈ xs, x.length ≤ 2000000) (hv : strsAt w v xs) :
    Calls Try.prog 50 #[v] w fun e w' => e = .returned (.int .i64 (Pt.check xs : Nat)) ∧ Below w.heap.size w w' := by
  obtain ⟨ao, ca, rfl, _, hc⟩ := hv
  by_cases h0 : xs.length = 0
  · have HL : Hid (Pt.check xs = 8) := Pt.check_none h0
    clear hc
    go_enter Try.func50, Try.ntmps50
    go_wp2
    go_ret
    exact ⟨by rw [HL.out]; rfl, Below.refl _ w⟩
  · by_cases h8 : 8 < xs.length
    · have HL : Hid (Pt.check xs = 9) := Pt.check_deep h8
      clear hc
      go_enter Try.func50, Try.ntmps50
      go_wp2
      go_ret
      exact ⟨by rw [HL.out]; rfl, Below.refl _ w⟩
    · have h0' : ((xs.length : Int) == 0) = false := beq_eq_false_iff_ne.2 (by omega)
      go_enter Try.func50, Try.ntmps50
      go_wp2
      go_loopw [3] (fun i wr => ∃ k : Nat, k ≤ xs.length ∧ i = .int .i64 k ∧ namesTo xs k ∧ Below w.heap.size w wr) (fun i _ => xs.length - (intOf i).toNat)
      case atStart => exact ⟨0, by omega, rfl, namesTo_zero _, Below.refl _ w⟩
      case round =>
        obtain ⟨k, hk, rfl, hS, hbw⟩ := hrel
        by_cases hlt : k < xs.length
        · obtain ⟨ad, rfl, hA⟩ := hc k hlt
          have hA2 : wr.cell? (ad.add k) = some (.string ⟨(xs[k]).toArray⟩) := (hbw.cell (World.block_lt_of_cell? _ _ hA)).trans hA
          clear hc hA
          have HC := fun W => refRight_list xs[k] W (hz _ (List.getElem_mem hlt))
          clear hz
          cases hr : Nm.right xs[k] with
          | true =>
            have HS : Hid (namesTo xs (k + 1)) := namesTo_step hS hlt hr
            rw [hr] at HC
            clear hS hr
            generalize xs[k] = x at *
            go_wp2_with (go_at_call 74; (refine (HC _).mono ?_); rintro e w1 ⟨rfl, hb1⟩)
            go_roundw
            case rel => exact ⟨k + 1, by omega, by go_num, HS.out, hbw.trans (hb1.mono hbw.size)⟩
            case measure => simp [intOf]; omega
          | false =>
            have HL : Hid (Pt.check xs = 8) := Pt.check_not h0 h8 (names_not hlt hr)
            rw [hr] at HC
            clear hS hr
            generalize xs[k] = x at *
            go_wp2_with (go_at_call 74; (refine (HC _).mono ?_); rintro e w1 ⟨rfl, hb1⟩)
            go_ret
            exact ⟨by rw [HL.out]; rfl, hbw.trans (hb1.mono hbw.size)⟩
        · have HL : Hid (Pt.check xs = 0) := Pt.check_all h0 h8 (names_all hS hlt)
          clear hc hS hz
          go_wp2
          go_ret
          exact ⟨by rw [HL.out]; rfl, hbw⟩

/-! ### Short -/
def lensTo (xs : List (List UInt8)) (k : Nat) : Prop := ∀ x ∈ xs.take k, x.length ≤ 120
theorem lensTo_zero (xs : List (List UInt8)) : lensTo xs 0 := by intro x hx; simp at hx
theorem lensTo_step {xs : List (List UInt8)} {k : Nat} (h : lensTo xs k) (hk : k < xs.length) (hx : xs[k].length ≤ 120) : lensTo xs (k + 1) := by
  intro x hm
  rw [List.take_succ_eq_append_getElem hk] at hm
  rcases List.mem_append.1 hm with hm | hm
  · exact h x hm
  · rw [List.mem_singleton.1 hm]; exact hx
theorem short_yes {xs : List (List UInt8)} {k : Nat} (h : lensTo xs k) (hk : ¬ k < xs.length) (hl : xs.length ≤ 12) : Pt.short xs = true := by
  unfold lensTo at h
  rw [List.take_of_length_le (by omega)] at h
  unfold Pt.short
  rw [decide_eq_true hl, List.all_eq_true.2 (fun x hx => decide_eq_true (h x hx))]
  rfl
theorem short_not {xs : List (List UInt8)} {k : Nat} (hk : k < xs.length) (hx : 120 < xs[k].length) : Pt.short xs = false := by
  cases e : Pt.short xs with
  | false => rfl
  | true =>
    have := (Pt.short_iff e).2 xs[k] (List.getElem_mem hk)
    omega
theorem short_many {xs : List (List UInt8)} (h : 12 < xs.length) : Pt.short xs = false := by
  unfold Pt.short
  rw [decide_eq_false (by omega)]
  rfl

set_option maxRecDepth 20000 in
set_option maxHeartbeats 2000000 in
theorem short_any (v : Value) (xs : List (List UInt8)) (w : World) (hx : xs.length ≤ 9223372036854775807) (hz : ∀ x ∈ xs, x.length ≤ 9223372036854775807) (hv : strsAt w v xs) :
    Calls Try.prog 49 #[v] w fun e w' => e = .returned (.bool (Pt.short xs)) ∧ Below w.heap.size w w' := by
  obtain ⟨ao, ca, rfl, _, hc⟩ := hv
  by_cases h8 : 12 < xs.length
  · have HL : Hid (Pt.short xs = false) := short_many h8
    clear hc
    go_enter Try.func49, Try.ntmps49
    go_wp2
    go_ret
    exact ⟨ret_bool HL.out.symm, Below.refl _ w⟩
  · go_enter Try.func49, Try.ntmps49
    go_wp2
    go_loopw [3] (fun i wr => ∃ k : Nat, k ≤ xs.length ∧ i = .int .i64 k ∧ lensTo xs k ∧ Below w.heap.size w wr) (fun i _ => xs.length - (intOf i).toNat)
    case atStart => exact ⟨0, by omega, rfl, lensTo_zero _, Below.refl _ w⟩
    case round =>
      obtain ⟨k, hk, rfl, hS, hbw⟩ := hrel
      by_cases hlt : k < xs.length
      · obtain ⟨ad, rfl, hA⟩ := hc k hlt
        have hA2 : wr.cell? (ad.add k) = some (.string ⟨(xs[k]).toArray⟩) := (hbw.cell (World.block_lt_of_cell? _ _ hA)).trans hA
        clear hc hA
        have hsz : (⟨(xs[k]).toArray⟩ : ByteArray).size = xs[k].length := by simp [ByteArray.size]
        by_cases hr : xs[k].length ≤ 120
        · have HS : Hid (lensTo xs (k + 1)) := lensTo_step hS hlt hr
          clear hS hz
          generalize xs[k] = x at *
          go_wp2
          go_roundw
          case rel => exact ⟨k + 1, by omega, by go_num, HS.out, hbw⟩
          case measure => simp [intOf]; omega
        · have HL : Hid (Pt.short xs = false) := short_not hlt (by omega)
          have hz1 := hz _ (List.getElem_mem hlt)
          clear hS hz
          generalize xs[k] = x at *
          go_wp2
          go_ret
          exact ⟨ret_bool HL.out.symm, hbw⟩
      · have HL : Hid (Pt.short xs = true) := short_yes hS hlt (by omega)
        clear hc hS hz
        go_wp2
        go_ret
        exact ⟨ret_bool HL.out.symm, hbw⟩

end Go.Proofs.Ytghkjbekjkejpaa.U
