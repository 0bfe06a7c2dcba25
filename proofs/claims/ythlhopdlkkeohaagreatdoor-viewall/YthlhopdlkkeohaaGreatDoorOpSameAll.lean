/- The walks of Same and Gone, both sides · The walks of Check (by a closure), of the document's Check and of its Short · The walk of the document's Short of an operation · How two references stand, both sides. -/
import Derived.Test.YthlhopdlkkeohaaGreatDoorQuotesAll
import Derived.Test.YthlhopdlkkeohaaGreatDoorThinsAll
import Derived.Test.YthlhopdlkkeohaaGreatDoorPlainAll
import Derived.Test.YthlhopdlkkeohaaGreatDoorMemAll
/- The walks of Same and Gone, both sides. -/
namespace Go.Proofs.YthlhopdlkkeohaaGreatDoor.O
open Go.RowKit

theorem neq_val (k n : Int) (l : List UInt8) (k' n' : Int) (l' : List UInt8) (w : World) : (binOp .neq 61 (valV k n l) (valV k' n' l')).run Tryz.prog w = .ok (.bool (!decide (k = k' ∧ n = n' ∧ l = l'))) w := by
  go_simp
  by_cases h1 : k = k' <;> by_cases h2 : n = n' <;> by_cases h3 : l = l' <;> simp [h1, h2, h3]
theorem same_no {a b : Os.Op} (h : ¬ (a.k = b.k ∧ a.p = b.p ∧ (a.vk = b.vk ∧ a.vn = b.vn ∧ a.vs = b.vs) ∧ a.n = b.n)) : Os.same a b = false := by
  unfold Os.same
  exact decide_eq_false fun x => h ⟨x.1, x.2.1, x.2.2.1, x.2.2.2.1⟩

set_option maxRecDepth 20000 in
set_option maxHeartbeats 2000000 in
theorem refGone_any (k : Int) (pv : Value) (vk vn : Int) (vs : List UInt8) (n : Int) (sv : Value) (p : List (List UInt8)) (l : List U) (w : World) (hp : U.strsAt w pv p) (hs : refsIn w sv l) :
    Calls Tryz.prog 104 #[opV k pv vk vn vs n sv] w fun e w' => e = .returned (.bool (Os.gone ⟨k, p, vk, vn, vs, n, l⟩)) ∧ Below w.heap.size w w' := by
  have B0 := below_new2 w (opO k pv vk vn vs n sv) (valO 0 0 [])
  obtain ⟨ao, cp, rfl, -, -⟩ := hp
  obtain ⟨bo, cs, rfl, -, -, -⟩ := hs
  by_cases h1 : k = 0
  rotate_left
  · rw [show Os.gone ⟨k, p, vk, vn, vs, n, l⟩ = false from decide_eq_false (fun x => h1 x.1)]
    have e1 : (k == 0) = false := beq_eq_false_iff_ne.2 h1
    clear h1
    go_enter Tryz.func104, Tryz.ntmps104
    go_wp2
    go_ret
    exact ⟨rfl, B0⟩
  subst h1
  by_cases h2 : p = []
  rotate_left
  · rw [show Os.gone ⟨0, p, vk, vn, vs, n, l⟩ = false from decide_eq_false (fun x => h2 x.2.1)]
    have e2 : (((p.length : Nat) : Int) == 0) = false := beq_eq_false_iff_ne.2 (by have : p.length ≠ 0 := fun e => h2 (List.eq_nil_of_length_eq_zero e); omega)
    clear h2
    go_enter Tryz.func104, Tryz.ntmps104
    go_wp2
    go_ret
    exact ⟨rfl, B0⟩
  subst h2
  have hE := fun w => eql_val vk vn vs 0 0 [] w
  by_cases h3 : vk = 0 ∧ vn = 0 ∧ vs = []
  rotate_left
  · rw [show Os.gone ⟨0, [], vk, vn, vs, n, l⟩ = false from decide_eq_false (fun x => h3 x.2.2.1)]
    rw [decide_eq_false h3] at hE
    clear h3
    go_enter Tryz.func104, Tryz.ntmps104
    go_wp2
    go_ret
    exact ⟨rfl, B0⟩
  obtain ⟨rfl, rfl, rfl⟩ := h3
  clear hE
  by_cases h4 : n = 0
  rotate_left
  · rw [show Os.gone ⟨0, [], 0, 0, [], n, l⟩ = false from decide_eq_false (fun x => h4 x.2.2.2.1)]
    have e4 : (n == 0) = false := beq_eq_false_iff_ne.2 h4
    clear h4
    go_enter Tryz.func104, Tryz.ntmps104
    go_wp2
    go_ret
    exact ⟨rfl, B0⟩
  subst h4
  by_cases h5 : l = []
  · subst h5
    rw [show Os.gone ⟨0, [], 0, 0, [], 0, []⟩ = true from rfl]
    go_enter Tryz.func104, Tryz.ntmps104
    go_wp2
    go_ret
    exact ⟨rfl, B0⟩
  · rw [show Os.gone ⟨0, [], 0, 0, [], 0, l⟩ = false from decide_eq_false (fun x => h5 x.2.2.2.2)]
    have e5 : (((l.length : Nat) : Int) == 0) = false := beq_eq_false_iff_ne.2 (by have : l.length ≠ 0 := fun e => h5 (List.eq_nil_of_length_eq_zero e); omega)
    clear h5
    go_enter Tryz.func104, Tryz.ntmps104
    go_wp2
    go_ret
    exact ⟨rfl, B0⟩

end Go.Proofs.YthlhopdlkkeohaaGreatDoor.O
/- The walks of Check (by a closure), of the document's Check and of its Short. -/
namespace Go.Proofs.YthlhopdlkkeohaaGreatDoor.U
open Go.RowKit

theorem refRight_list (l : List UInt8) (w : World) (hl : l.length ≤ 2000000) : Calls Tryz.prog 171 #[.string ⟨l.toArray⟩] w fun e w' => e = .returned (.bool (Nm.right l)) ∧ Below w.heap.size w w' := refRight_any ⟨l.toArray⟩ w (by simp [ByteArray.size]; exact hl)

/-- So many parts are names. -/
def namesTo (xs : List (List UInt8)) (k : Nat) : Prop := ∀ x ∈ xs.take k, Nm.right x = true
theorem namesTo_zero (xs : List (List UInt8)) : namesTo xs 0 := by intro x hx; simp at hx
theorem namesTo_step {xs : List (List UInt8)} {k : Nat} (h : namesTo xs k) (hk : k < xs.length) (hx : Nm.right xs[k] = true) : namesTo xs (k + 1) := by
  intro x hm
  rw [List.take_succ_eq_append_getElem hk] at hm
  rcases List.mem_append.1 hm with hm | hm
  · exact h x hm
  · rw [List.mem_singleton.1 hm]; exact hx
theorem names_all {xs : List (List UInt8)} {k : Nat} (h : namesTo xs k) (hk : ¬ k < xs.length) : xs.all Nm.right = true := by
  unfold namesTo at h
  rw [List.take_of_length_le (by omega)] at h
  exact List.all_eq_true.2 h
theorem names_not {xs : List (List UInt8)} {k : Nat} (hk : k < xs.length) (hx : Nm.right xs[k] = false) : xs.all Nm.right = false := by
  cases e : xs.all Nm.right with
  | false => rfl
  | true =>
    have := List.all_eq_true.1 e xs[k] (List.getElem_mem hk)
    rw [this] at hx
    cases hx

/-- Where the first part stands that is no name; -1: nowhere. -/
def firstWrong (xs : List (List UInt8)) (r : Int) : Prop := (0 ≤ r ∧ xs.all Nm.right = false) ∨ (r = -1 ∧ xs.all Nm.right = true)

set_option maxRecDepth 20000 in
set_option maxHeartbeats 2000000 in
theorem refCheck_any (v : Value) (xs : List (List UInt8)) (w : World) (hx : xs.length ≤ 9223372036854775807) (hz : ∀ x ∈ xs, x.length ≤ 2000000) (hv : strsAt w v xs) :
    Calls Tryz.prog 135 #[v] w fun e w' => e = .returned (.int .i64 (Pt.check xs : Nat)) ∧ Below w.heap.size w w' := by
  obtain ⟨ao, ca, rfl, _, hc⟩ := hv
  by_cases h0 : xs.length = 0
  · have HL : Hid (Pt.check xs = 8) := Pt.check_none h0
    clear hc
    go_enter Tryz.func135, Tryz.ntmps135
    go_wp2
    go_ret
    exact ⟨by rw [HL.out]; rfl, Below.refl _ w⟩
  · by_cases h8 : 8 < xs.length
    · have HL : Hid (Pt.check xs = 9) := Pt.check_deep h8
      clear hc
      go_enter Tryz.func135, Tryz.ntmps135
      go_wp2
      go_ret
      exact ⟨by rw [HL.out]; rfl, Below.refl _ w⟩
    · have h0' : ((xs.length : Int) == 0) = false := beq_eq_false_iff_ne.2 (by omega)
      go_enter Tryz.func135, Tryz.ntmps135
      go_wp2
      go_loopw [3] (fun i wr => ∃ k : Nat, k ≤ xs.length ∧ i = .int .i64 k ∧ namesTo xs k ∧ Below w.heap.size w wr) (fun i _ => xs.length - (intOf i).toNat)
      case atStart => exact ⟨0, by omega, rfl, namesTo_zero _, Below.refl _ w⟩
      case round =>
        obtain ⟨k, hk, rfl, hS, hbw⟩ := hrel
        by_cases hlt : k < xs.length
        · obtain ⟨ad, rfl, hA⟩ := hc k hlt
          have hA2 : wr.cell? (ad.add k) = some (.string ⟨(xs[k]).toArray⟩) := (hbw.cell (World.block_lt_of_cell? _ _ hA)).trans hA
          clear hc hA
          have HC := fun W => refRight_list xs[k] W (hz _ (List.getElem_mem hlt))
          clear hz
          cases hr : Nm.right xs[k] with
          | true =>
            have HS : Hid (namesTo xs (k + 1)) := namesTo_step hS hlt hr
            rw [hr] at HC
            clear hS hr
            generalize xs[k] = x at *
            go_wp2_with (go_at_call 171; (refine (HC _).mono ?_); rintro e w1 ⟨rfl, hb1⟩)
            go_roundw
            case rel => exact ⟨k + 1, by omega, by go_num, HS.out, hbw.trans (hb1.mono hbw.size)⟩
            case measure => simp [intOf]; omega
          | false =>
            have HL : Hid (Pt.check xs = 8) := Pt.check_not h0 h8 (names_not hlt hr)
            rw [hr] at HC
            clear hS hr
            generalize xs[k] = x at *
            go_wp2_with (go_at_call 171; (refine (HC _).mono ?_); rintro e w1 ⟨rfl, hb1⟩)
            go_ret
            exact ⟨by rw [HL.out]; rfl, hbw.trans (hb1.mono hbw.size)⟩
        · have HL : Hid (Pt.check xs = 0) := Pt.check_all h0 h8 (names_all hS hlt)
          clear hc hS hz
          go_wp2
          go_ret
          exact ⟨by rw [HL.out]; rfl, hbw⟩

/-! ### Short -/
def lensTo (xs : List (List UInt8)) (k : Nat) : Prop := ∀ x ∈ xs.take k, x.length ≤ 120
theorem lensTo_zero (xs : List (List UInt8)) : lensTo xs 0 := by intro x hx; simp at hx
theorem lensTo_step {xs : List (List UInt8)} {k : Nat} (h : lensTo xs k) (hk : k < xs.length) (hx : xs[k].length ≤ 120) : lensTo xs (k + 1) := by
  intro x hm
  rw [List.take_succ_eq_append_getElem hk] at hm
  rcases List.mem_append.1 hm with hm | hm
  · exact h x hm
  · rw [List.mem_singleton.1 hm]; exact hx
theorem short_yes {xs : List (List UInt8)} {k : Nat} (h : lensTo xs k) (hk : ¬ k < xs.length) (hl : xs.length ≤ 12) : Pt.short xs = true := by
  unfold lensTo at h
  rw [List.take_of_length_le (by omega)] at h
  unfold Pt.short
  rw [decide_eq_true hl, List.all_eq_true.2 (fun x hx => decide_eq_true (h x hx))]
  rfl
theorem short_not {xs : List (List UInt8)} {k : Nat} (hk : k < xs.length) (hx : 120 < xs[k].length) : Pt.short xs = false := by
  cases e : Pt.short xs with
  | false => rfl
  | true =>
    have := (Pt.short_iff e).2 xs[k] (List.getElem_mem hk)
    omega
theorem short_many {xs : List (List UInt8)} (h : 12 < xs.length) : Pt.short xs = false := by
  unfold Pt.short
  rw [decide_eq_false (by omega)]
  rfl

set_option maxRecDepth 20000 in
set_option maxHeartbeats 2000000 in
theorem short_any (v : Value) (xs : List (List UInt8)) (w : World) (hx : xs.length ≤ 9223372036854775807) (hz : ∀ x ∈ xs, x.length ≤ 9223372036854775807) (hv : strsAt w v xs) :
    Calls Tryz.prog 7 #[v] w fun e w' => e = .returned (.bool (Pt.short xs)) ∧ Below w.heap.size w w' := by
  obtain ⟨ao, ca, rfl, _, hc⟩ := hv
  by_cases h8 : 12 < xs.length
  · have HL : Hid (Pt.short xs = false) := short_many h8
    clear hc
    go_enter Tryz.func7, Tryz.ntmps7
    go_wp2
    go_ret
    exact ⟨ret_bool HL.out.symm, Below.refl _ w⟩
  · go_enter Tryz.func7, Tryz.ntmps7
    go_wp2
    go_loopw [3] (fun i wr => ∃ k : Nat, k ≤ xs.length ∧ i = .int .i64 k ∧ lensTo xs k ∧ Below w.heap.size w wr) (fun i _ => xs.length - (intOf i).toNat)
    case atStart => exact ⟨0, by omega, rfl, lensTo_zero _, Below.refl _ w⟩
    case round =>
      obtain ⟨k, hk, rfl, hS, hbw⟩ := hrel
      by_cases hlt : k < xs.length
      · obtain ⟨ad, rfl, hA⟩ := hc k hlt
        have hA2 : wr.cell? (ad.add k) = some (.string ⟨(xs[k]).toArray⟩) := (hbw.cell (World.block_lt_of_cell? _ _ hA)).trans hA
        clear hc hA
        have hsz : (⟨(xs[k]).toArray⟩ : ByteArray).size = xs[k].length := by simp [ByteArray.size]
        by_cases hr : xs[k].length ≤ 120
        · have HS : Hid (lensTo xs (k + 1)) := lensTo_step hS hlt hr
          clear hS hz
          generalize xs[k] = x at *
          go_wp2
          go_roundw
          case rel => exact ⟨k + 1, by omega, by go_num, HS.out, hbw⟩
          case measure => simp [intOf]; omega
        · have HL : Hid (Pt.short xs = false) := short_not hlt (by omega)
          have hz1 := hz _ (List.getElem_mem hlt)
          clear hS hz
          generalize xs[k] = x at *
          go_wp2
          go_ret
          exact ⟨ret_bool HL.out.symm, hbw⟩
      · have HL : Hid (Pt.short xs = true) := short_yes hS hlt (by omega)
        clear hc hS hz
        go_wp2
        go_ret
        exact ⟨ret_bool HL.out.symm, hbw⟩

end Go.Proofs.YthlhopdlkkeohaaGreatDoor.U
/- The walk of the document's Short of an operation. -/
namespace Go.Proofs.YthlhopdlkkeohaaGreatDoor.O
open Go.RowKit

set_option maxRecDepth 20000 in
set_option maxHeartbeats 2000000 in
theorem refShort_any (k : Int) (pv : Value) (vk vn : Int) (vs : List UInt8) (n : Int) (sv : Value) (p : List (List UInt8)) (l : List U) (w : World)
    (hx : p.length ≤ 9223372036854775807) (hz : ∀ x ∈ p, x.length ≤ 9223372036854775807) (hp : U.strsAt w pv p) (hs : refsIn w sv l) :
    Calls Tryz.prog 101 #[opV k pv vk vn vs n sv] w fun e w' => e = .returned (.bool (Os.short ⟨k, p, vk, vn, vs, n, l⟩)) ∧ Below w.heap.size w w' := by
  obtain ⟨bo, cs, rfl, -, -, -⟩ := hs
  have B0 := below_new w (opO k pv vk vn vs n (.slice bo l.length cs))
  have O0 := OAt.new w k pv vk vn vs n (.slice bo l.length cs)
  have C30 := U.short_any pv p _ hx hz (U.strsAt_below hp B0 (Nat.le_refl _))
  clear hp hx hz
  show Calls Tryz.prog 101 #[opV k pv vk vn vs n (.slice bo l.length cs)] w fun e w' => e = .returned (.bool (Pt.short p && decide (vs.length ≤ 200) && decide (l.length ≤ 300))) ∧ Below w.heap.size w w'
  generalize l.length = m at *
  cases hq : Pt.short p with
  | false =>
    rw [hq] at C30
    simp only [Bool.false_and]
    clear hq
    go_enter Tryz.func101, Tryz.ntmps101
    go_wp2_with (go_at_call 7; refine C30.mono ?_; rintro e w1 ⟨rfl, hb1⟩)
    go_ret
    exact ⟨rfl, bchain B0 hb1⟩
  | true =>
    rw [hq] at C30
    simp only [Bool.true_and]
    clear hq
    by_cases h1 : vs.length ≤ 200
    · rw [decide_eq_true h1]
      simp only [Bool.true_and]
      have h1' : (vs.length : Int) ≤ 200 := by omega
      by_cases h2 : m ≤ 300
      · rw [decide_eq_true h2]
        have h2' : (m : Int) ≤ 300 := by omega
        go_enter Tryz.func101, Tryz.ntmps101
        go_wp2_with (go_at_call 7; refine C30.mono ?_; rintro e w1 ⟨rfl, hb1⟩; obtain ⟨c0, c1, c2, c3, c4, c5, c6⟩ := O0.on hb1)
        go_ret
        exact ⟨rfl, bchain B0 hb1⟩
      · rw [decide_eq_false h2]
        have h2' : ¬ (m : Int) ≤ 300 := by omega
        go_enter Tryz.func101, Tryz.ntmps101
        go_wp2_with (go_at_call 7; refine C30.mono ?_; rintro e w1 ⟨rfl, hb1⟩; obtain ⟨c0, c1, c2, c3, c4, c5, c6⟩ := O0.on hb1)
        go_ret
        exact ⟨ret_bool (decide_eq_false (by omega)), bchain B0 hb1⟩
    · rw [decide_eq_false h1]
      simp only [Bool.false_and]
      have h1' : ¬ (vs.length : Int) ≤ 200 := by omega
      go_enter Tryz.func101, Tryz.ntmps101
      go_wp2_with (go_at_call 7; refine C30.mono ?_; rintro e w1 ⟨rfl, hb1⟩; obtain ⟨c0, c1, c2, c3, c4, c5, c6⟩ := O0.on hb1)
      go_ret
      exact ⟨rfl, bchain B0 hb1⟩
end Go.Proofs.YthlhopdlkkeohaaGreatDoor.O
/- How two references stand, both sides. -/
namespace Go.Proofs.YthlhopdlkkeohaaGreatDoor.O
open Go.RowKit

theorem refCmpR_any (x y : U) (w : World) : Calls Tryz.prog 173 #[uV x, uV y] w fun e w' => e = .returned (.int .i64 (Os.comp x y)) ∧ Below w.heap.size w w' := D.refRefs_any x.1.1 x.1.2 x.2 y.1.1 y.1.2 y.2 w

end Go.Proofs.YthlhopdlkkeohaaGreatDoor.O
