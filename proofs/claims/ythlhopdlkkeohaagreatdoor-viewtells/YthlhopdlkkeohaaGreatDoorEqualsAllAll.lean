/- The walks of slices.Equal, Same, Under and of the document's Under · The walks of Same and Gone, both sides · The walks of Check (by a closure), of the document's Check and of its Short · The walk of the document's Short of an operation · How two references stand, both sides · The walks of Refs, both sides. -/
import Derived.Test.YthlhopdlkkeohaaGreatDoorQuotesAllAll
import Derived.Test.YthlhopdlkkeohaaGreatDoorPlainAllAll
import Derived.Test.YthlhopdlkkeohaaGreatDoorLinesAllAll
import Derived.Test.YthlhopdlkkeohaaGreatDoorRunesAllAll
/- The walks of slices.Equal, Same, Under and of the document's Under · The walks of Same and Gone, both sides · The walks of Check (by a closure), of the document's Check and of its Short · The walk of the document's Short of an operation · How two references stand, both sides. -/
/- The walks of slices.Equal, Same, Under and of the document's Under. -/
namespace Go.Proofs.YthlhopdlkkeohaaGreatDoor.U
open Go.RowKit

theorem strsAt_len {w : World} {v : Value} {xs : List (List UInt8)} (h : strsAt w v xs) : ∃ ao cap, v = .slice ao xs.length cap := by
  obtain ⟨ao, cap, hv, _⟩ := h
  exact ⟨ao, cap, hv⟩
theorem bytes_ne {a b : List UInt8} (h : a ≠ b) : ¬ (⟨a.toArray⟩ : ByteArray) = ⟨b.toArray⟩ := fun e => h (by
  have := congrArg (fun b : ByteArray => b.data.toList) e
  simpa using this)

set_option maxRecDepth 20000 in
set_option maxHeartbeats 2000000 in
theorem equal_any (va vb : Value) (xs ys : List (List UInt8)) (w : World) (hx : xs.length ≤ 2000000) (ha : strsAt w va xs) (hb : strsAt w vb ys) :
    Calls Tryz.prog 119 #[va, vb] w fun e w' => e = .returned (.bool (decide (xs = ys))) ∧ Below w.heap.size w w' := by
  obtain ⟨ao, ca, rfl, _, hca⟩ := ha
  obtain ⟨bo, cb, rfl, _, hcb⟩ := hb
  by_cases hl : xs.length = ys.length
  · go_enter Tryz.func119, Tryz.ntmps119
    go_wp2
    go_loopw [13] (fun i wr => ∃ k : Nat, k ≤ xs.length ∧ i = .int .i64 k ∧ sameTo xs ys k ∧ wr.heap = w.heap ∧ Below w.heap.size w wr) (fun i _ => xs.length - (intOf i).toNat)
    case atStart => exact ⟨0, by omega, rfl, sameTo_zero _ _, rfl, Below.refl _ w⟩
    case round =>
      obtain ⟨k, hk, rfl, hS, hheap, hbw⟩ := hrel
      by_cases hlt : k < xs.length
      · have hlt2 : k < ys.length := by omega
        obtain ⟨ad, rfl, hA⟩ := hca k hlt
        obtain ⟨bd, rfl, hB⟩ := hcb k hlt2
        have hA2 : wr.cell? (ad.add k) = some (.string ⟨(xs[k]).toArray⟩) := (World.cell?_of_block (by rw [hheap])).trans hA
        have hB2 : wr.cell? (bd.add k) = some (.string ⟨(ys[k]).toArray⟩) := (World.cell?_of_block (by rw [hheap])).trans hB
        clear hca hcb hA hB
        by_cases he : xs[k] = ys[k]
        · have HS := sameTo_step hS hlt hlt2 he
          rw [← he] at hB2
          generalize xs[k] = x at *
          go_wp2
          go_region
          all_goals
            go_wp2
            go_roundw
            case rel => exact ⟨k + 1, by omega, by go_num, HS, hheap, hbw.drew⟩
            case measure => simp [intOf]; omega
        · have HL : Hid (decide (xs = ys) = false) := by
            have h := same_not hlt hlt2 he
            exact h
          have hne := bytes_ne he
          have hbe : (xs[k] == ys[k]) = false := beq_eq_false_iff_ne.2 he
          generalize xs[k] = x at *
          generalize ys[k] = y at *
          go_wp2
          go_region
          all_goals
            go_wp2
            go_ret
            exact ⟨ret_bool HL.out.symm, hbw.drew⟩
      · have HL : Hid (decide (xs = ys) = true) := by
          have h := same_all hS hlt hl
          exact h
        go_wp2
        go_ret
        exact ⟨ret_bool HL.out.symm, hbw⟩
  · have HL : Hid (decide (xs = ys) = false) := by
      have h : decide (xs = ys) = false := decide_eq_false (fun e => hl (by rw [e]))
      exact h
    clear hca hcb
    go_enter Tryz.func119, Tryz.ntmps119
    go_wp2
    go_ret
    exact ⟨ret_bool HL.out.symm, Below.refl _ w⟩

/-- The program's Same. -/
theorem psame_any (va vb : Value) (xs ys : List (List UInt8)) (w : World) (hx : xs.length ≤ 2000000) (ha : strsAt w va xs) (hb : strsAt w vb ys) :
    Calls Tryz.prog 77 #[va, vb] w fun e w' => e = .returned (.bool (decide (xs = ys))) ∧ Below w.heap.size w w' := by
  have HC := equal_any va vb xs ys w hx ha hb
  go_enter Tryz.func77, Tryz.ntmps77
  go_wp2_with (go_at_call 119; (with_reducible refine HC.mono ?_); rintro e w1 ⟨rfl, hb1⟩)
  go_ret
  exact ⟨rfl, hb1⟩

end Go.Proofs.YthlhopdlkkeohaaGreatDoor.U
/- The walks of Same and Gone, both sides. -/
namespace Go.Proofs.YthlhopdlkkeohaaGreatDoor.O
open Go.RowKit

theorem neq_val (k n : Int) (l : List UInt8) (k' n' : Int) (l' : List UInt8) (w : World) : (binOp .neq 61 (valV k n l) (valV k' n' l')).run Tryz.prog w = .ok (.bool (!decide (k = k' ∧ n = n' ∧ l = l'))) w := by
  go_simp
  by_cases h1 : k = k' <;> by_cases h2 : n = n' <;> by_cases h3 : l = l' <;> simp [h1, h2, h3]
theorem same_no {a b : Os.Op} (h : ¬ (a.k = b.k ∧ a.p = b.p ∧ (a.vk = b.vk ∧ a.vn = b.vn ∧ a.vs = b.vs) ∧ a.n = b.n)) : Os.same a b = false := by
  unfold Os.same
  exact decide_eq_false fun x => h ⟨x.1, x.2.1, x.2.2.1, x.2.2.2.1⟩

set_option maxRecDepth 20000 in
set_option maxHeartbeats 2000000 in
theorem refGone_any (k : Int) (pv : Value) (vk vn : Int) (vs : List UInt8) (n : Int) (sv : Value) (p : List (List UInt8)) (l : List U) (w : World) (hp : U.strsAt w pv p) (hs : refsIn w sv l) :
    Calls Tryz.prog 104 #[opV k pv vk vn vs n sv] w fun e w' => e = .returned (.bool (Os.gone ⟨k, p, vk, vn, vs, n, l⟩)) ∧ Below w.heap.size w w' := by
  have B0 := below_new2 w (opO k pv vk vn vs n sv) (valO 0 0 [])
  obtain ⟨ao, cp, rfl, -, -⟩ := hp
  obtain ⟨bo, cs, rfl, -, -, -⟩ := hs
  by_cases h1 : k = 0
  rotate_left
  · rw [show Os.gone ⟨k, p, vk, vn, vs, n, l⟩ = false from decide_eq_false (fun x => h1 x.1)]
    have e1 : (k == 0) = false := beq_eq_false_iff_ne.2 h1
    clear h1
    go_enter Tryz.func104, Tryz.ntmps104
    go_wp2
    go_ret
    exact ⟨rfl, B0⟩
  subst h1
  by_cases h2 : p = []
  rotate_left
  · rw [show Os.gone ⟨0, p, vk, vn, vs, n, l⟩ = false from decide_eq_false (fun x => h2 x.2.1)]
    have e2 : (((p.length : Nat) : Int) == 0) = false := beq_eq_false_iff_ne.2 (by have : p.length ≠ 0 := fun e => h2 (List.eq_nil_of_length_eq_zero e); omega)
    clear h2
    go_enter Tryz.func104, Tryz.ntmps104
    go_wp2
    go_ret
    exact ⟨rfl, B0⟩
  subst h2
  have hE := fun w => eql_val vk vn vs 0 0 [] w
  by_cases h3 : vk = 0 ∧ vn = 0 ∧ vs = []
  rotate_left
  · rw [show Os.gone ⟨0, [], vk, vn, vs, n, l⟩ = false from decide_eq_false (fun x => h3 x.2.2.1)]
    rw [decide_eq_false h3] at hE
    clear h3
    go_enter Tryz.func104, Tryz.ntmps104
    go_wp2
    go_ret
    exact ⟨rfl, B0⟩
  obtain ⟨rfl, rfl, rfl⟩ := h3
  clear hE
  by_cases h4 : n = 0
  rotate_left
  · rw [show Os.gone ⟨0, [], 0, 0, [], n, l⟩ = false from decide_eq_false (fun x => h4 x.2.2.2.1)]
    have e4 : (n == 0) = false := beq_eq_false_iff_ne.2 h4
    clear h4
    go_enter Tryz.func104, Tryz.ntmps104
    go_wp2
    go_ret
    exact ⟨rfl, B0⟩
  subst h4
  by_cases h5 : l = []
  · subst h5
    rw [show Os.gone ⟨0, [], 0, 0, [], 0, []⟩ = true from rfl]
    go_enter Tryz.func104, Tryz.ntmps104
    go_wp2
    go_ret
    exact ⟨rfl, B0⟩
  · rw [show Os.gone ⟨0, [], 0, 0, [], 0, l⟩ = false from decide_eq_false (fun x => h5 x.2.2.2.2)]
    have e5 : (((l.length : Nat) : Int) == 0) = false := beq_eq_false_iff_ne.2 (by have : l.length ≠ 0 := fun e => h5 (List.eq_nil_of_length_eq_zero e); omega)
    clear h5
    go_enter Tryz.func104, Tryz.ntmps104
    go_wp2
    go_ret
    exact ⟨rfl, B0⟩

end Go.Proofs.YthlhopdlkkeohaaGreatDoor.O
/- The walks of Check (by a closure), of the document's Check and of its Short. -/
namespace Go.Proofs.YthlhopdlkkeohaaGreatDoor.U
open Go.RowKit

theorem refRight_list (l : List UInt8) (w : World) (hl : l.length ≤ 2000000) : Calls Tryz.prog 171 #[.string ⟨l.toArray⟩] w fun e w' => e = .returned (.bool (Nm.right l)) ∧ Below w.heap.size w w' := refRight_any ⟨l.toArray⟩ w (by simp [ByteArray.size]; exact hl)

/-- So many parts are names. -/
def namesTo (xs : List (List UInt8)) (k : Nat) : Prop := ∀ x ∈ xs.take k, Nm.right x = true
theorem namesTo_zero (xs : List (List UInt8)) : namesTo xs 0 := by intro x hx; simp at hx
theorem namesTo_step {xs : List (List UInt8)} {k : Nat} (h : namesTo xs k) (hk : k < xs.length) (hx : Nm.right xs[k] = true) : namesTo xs (k + 1) := by
  intro x hm
  rw [List.take_succ_eq_append_getElem hk] at hm
  rcases List.mem_append.1 hm with hm | hm
  · exact h x hm
  · rw [List.mem_singleton.1 hm]; exact hx
theorem names_all {xs : List (List UInt8)} {k : Nat} (h : namesTo xs k) (hk : ¬ k < xs.length) : xs.all Nm.right = true := by
  unfold namesTo at h
  rw [List.take_of_length_le (by omega)] at h
  exact List.all_eq_true.2 h
theorem names_not {xs : List (List UInt8)} {k : Nat} (hk : k < xs.length) (hx : Nm.right xs[k] = false) : xs.all Nm.right = false := by
  cases e : xs.all Nm.right with
  | false => rfl
  | true =>
    have := List.all_eq_true.1 e xs[k] (List.getElem_mem hk)
    rw [this] at hx
    cases hx

/-- Where the first part stands that is no name; -1: nowhere. -/
def firstWrong (xs : List (List UInt8)) (r : Int) : Prop := (0 ≤ r ∧ xs.all Nm.right = false) ∨ (r = -1 ∧ xs.all Nm.right = true)

set_option maxRecDepth 20000 in
set_option maxHeartbeats 2000000 in
theorem refCheck_any (v : Value) (xs : List (List UInt8)) (w : World) (hx : xs.length ≤ 9223372036854775807) (hz : ∀ x ∈ xs, x.length ≤ 2000000) (hv : strsAt w v xs) :
    Calls Tryz.prog 135 #[v] w fun e w' => e = .returned (.int .i64 (Pt.check xs : Nat)) ∧ Below w.heap.size w w' := by
  obtain ⟨ao, ca, rfl, _, hc⟩ := hv
  by_cases h0 : xs.length = 0
  · have HL : Hid (Pt.check xs = 8) := Pt.check_none h0
    clear hc
    go_enter Tryz.func135, Tryz.ntmps135
    go_wp2
    go_ret
    exact ⟨by rw [HL.out]; rfl, Below.refl _ w⟩
  · by_cases h8 : 8 < xs.length
    · have HL : Hid (Pt.check xs = 9) := Pt.check_deep h8
      clear hc
      go_enter Tryz.func135, Tryz.ntmps135
      go_wp2
      go_ret
      exact ⟨by rw [HL.out]; rfl, Below.refl _ w⟩
    · have h0' : ((xs.length : Int) == 0) = false := beq_eq_false_iff_ne.2 (by omega)
      go_enter Tryz.func135, Tryz.ntmps135
      go_wp2
      go_loopw [3] (fun i wr => ∃ k : Nat, k ≤ xs.length ∧ i = .int .i64 k ∧ namesTo xs k ∧ Below w.heap.size w wr) (fun i _ => xs.length - (intOf i).toNat)
      case atStart => exact ⟨0, by omega, rfl, namesTo_zero _, Below.refl _ w⟩
      case round =>
        obtain ⟨k, hk, rfl, hS, hbw⟩ := hrel
        by_cases hlt : k < xs.length
        · obtain ⟨ad, rfl, hA⟩ := hc k hlt
          have hA2 : wr.cell? (ad.add k) = some (.string ⟨(xs[k]).toArray⟩) := (hbw.cell (World.block_lt_of_cell? _ _ hA)).trans hA
          clear hc hA
          have HC := fun W => refRight_list xs[k] W (hz _ (List.getElem_mem hlt))
          clear hz
          cases hr : Nm.right xs[k] with
          | true =>
            have HS : Hid (namesTo xs (k + 1)) := namesTo_step hS hlt hr
            rw [hr] at HC
            clear hS hr
            generalize xs[k] = x at *
            go_wp2_with (go_at_call 171; (refine (HC _).mono ?_); rintro e w1 ⟨rfl, hb1⟩)
            go_roundw
            case rel => exact ⟨k + 1, by omega, by go_num, HS.out, hbw.trans (hb1.mono hbw.size)⟩
            case measure => simp [intOf]; omega
          | false =>
            have HL : Hid (Pt.check xs = 8) := Pt.check_not h0 h8 (names_not hlt hr)
            rw [hr] at HC
            clear hS hr
            generalize xs[k] = x at *
            go_wp2_with (go_at_call 171; (refine (HC _).mono ?_); rintro e w1 ⟨rfl, hb1⟩)
            go_ret
            exact ⟨by rw [HL.out]; rfl, hbw.trans (hb1.mono hbw.size)⟩
        · have HL : Hid (Pt.check xs = 0) := Pt.check_all h0 h8 (names_all hS hlt)
          clear hc hS hz
          go_wp2
          go_ret
          exact ⟨by rw [HL.out]; rfl, hbw⟩

/-! ### Short -/
def lensTo (xs : List (List UInt8)) (k : Nat) : Prop := ∀ x ∈ xs.take k, x.length ≤ 120
theorem lensTo_zero (xs : List (List UInt8)) : lensTo xs 0 := by intro x hx; simp at hx
theorem lensTo_step {xs : List (List UInt8)} {k : Nat} (h : lensTo xs k) (hk : k < xs.length) (hx : xs[k].length ≤ 120) : lensTo xs (k + 1) := by
  intro x hm
  rw [List.take_succ_eq_append_getElem hk] at hm
  rcases List.mem_append.1 hm with hm | hm
  · exact h x hm
  · rw [List.mem_singleton.1 hm]; exact hx
theorem short_yes {xs : List (List UInt8)} {k : Nat} (h : lensTo xs k) (hk : ¬ k < xs.length) (hl : xs.length ≤ 12) : Pt.short xs = true := by
  unfold lensTo at h
  rw [List.take_of_length_le (by omega)] at h
  unfold Pt.short
  rw [decide_eq_true hl, List.all_eq_true.2 (fun x hx => decide_eq_true (h x hx))]
  rfl
theorem short_not {xs : List (List UInt8)} {k : Nat} (hk : k < xs.length) (hx : 120 < xs[k].length) : Pt.short xs = false := by
  cases e : Pt.short xs with
  | false => rfl
  | true =>
    have := (Pt.short_iff e).2 xs[k] (List.getElem_mem hk)
    omega
theorem short_many {xs : List (List UInt8)} (h : 12 < xs.length) : Pt.short xs = false := by
  unfold Pt.short
  rw [decide_eq_false (by omega)]
  rfl

set_option maxRecDepth 20000 in
set_option maxHeartbeats 2000000 in
theorem short_any (v : Value) (xs : List (List UInt8)) (w : World) (hx : xs.length ≤ 9223372036854775807) (hz : ∀ x ∈ xs, x.length ≤ 9223372036854775807) (hv : strsAt w v xs) :
    Calls Tryz.prog 7 #[v] w fun e w' => e = .returned (.bool (Pt.short xs)) ∧ Below w.heap.size w w' := by
  obtain ⟨ao, ca, rfl, _, hc⟩ := hv
  by_cases h8 : 12 < xs.length
  · have HL : Hid (Pt.short xs = false) := short_many h8
    clear hc
    go_enter Tryz.func7, Tryz.ntmps7
    go_wp2
    go_ret
    exact ⟨ret_bool HL.out.symm, Below.refl _ w⟩
  · go_enter Tryz.func7, Tryz.ntmps7
    go_wp2
    go_loopw [3] (fun i wr => ∃ k : Nat, k ≤ xs.length ∧ i = .int .i64 k ∧ lensTo xs k ∧ Below w.heap.size w wr) (fun i _ => xs.length - (intOf i).toNat)
    case atStart => exact ⟨0, by omega, rfl, lensTo_zero _, Below.refl _ w⟩
    case round =>
      obtain ⟨k, hk, rfl, hS, hbw⟩ := hrel
      by_cases hlt : k < xs.length
      · obtain ⟨ad, rfl, hA⟩ := hc k hlt
        have hA2 : wr.cell? (ad.add k) = some (.string ⟨(xs[k]).toArray⟩) := (hbw.cell (World.block_lt_of_cell? _ _ hA)).trans hA
        clear hc hA
        have hsz : (⟨(xs[k]).toArray⟩ : ByteArray).size = xs[k].length := by simp [ByteArray.size]
        by_cases hr : xs[k].length ≤ 120
        · have HS : Hid (lensTo xs (k + 1)) := lensTo_step hS hlt hr
          clear hS hz
          generalize xs[k] = x at *
          go_wp2
          go_roundw
          case rel => exact ⟨k + 1, by omega, by go_num, HS.out, hbw⟩
          case measure => simp [intOf]; omega
        · have HL : Hid (Pt.short xs = false) := short_not hlt (by omega)
          have hz1 := hz _ (List.getElem_mem hlt)
          clear hS hz
          generalize xs[k] = x at *
          go_wp2
          go_ret
          exact ⟨ret_bool HL.out.symm, hbw⟩
      · have HL : Hid (Pt.short xs = true) := short_yes hS hlt (by omega)
        clear hc hS hz
        go_wp2
        go_ret
        exact ⟨ret_bool HL.out.symm, hbw⟩

end Go.Proofs.YthlhopdlkkeohaaGreatDoor.U
/- The walk of the document's Short of an operation. -/
namespace Go.Proofs.YthlhopdlkkeohaaGreatDoor.O
open Go.RowKit

set_option maxRecDepth 20000 in
set_option maxHeartbeats 2000000 in
theorem refShort_any (k : Int) (pv : Value) (vk vn : Int) (vs : List UInt8) (n : Int) (sv : Value) (p : List (List UInt8)) (l : List U) (w : World)
    (hx : p.length ≤ 9223372036854775807) (hz : ∀ x ∈ p, x.length ≤ 9223372036854775807) (hp : U.strsAt w pv p) (hs : refsIn w sv l) :
    Calls Tryz.prog 101 #[opV k pv vk vn vs n sv] w fun e w' => e = .returned (.bool (Os.short ⟨k, p, vk, vn, vs, n, l⟩)) ∧ Below w.heap.size w w' := by
  obtain ⟨bo, cs, rfl, -, -, -⟩ := hs
  have B0 := below_new w (opO k pv vk vn vs n (.slice bo l.length cs))
  have O0 := OAt.new w k pv vk vn vs n (.slice bo l.length cs)
  have C30 := U.short_any pv p _ hx hz (U.strsAt_below hp B0 (Nat.le_refl _))
  clear hp hx hz
  show Calls Tryz.prog 101 #[opV k pv vk vn vs n (.slice bo l.length cs)] w fun e w' => e = .returned (.bool (Pt.short p && decide (vs.length ≤ 200) && decide (l.length ≤ 300))) ∧ Below w.heap.size w w'
  generalize l.length = m at *
  cases hq : Pt.short p with
  | false =>
    rw [hq] at C30
    simp only [Bool.false_and]
    clear hq
    go_enter Tryz.func101, Tryz.ntmps101
    go_wp2_with (go_at_call 7; refine C30.mono ?_; rintro e w1 ⟨rfl, hb1⟩)
    go_ret
    exact ⟨rfl, bchain B0 hb1⟩
  | true =>
    rw [hq] at C30
    simp only [Bool.true_and]
    clear hq
    by_cases h1 : vs.length ≤ 200
    · rw [decide_eq_true h1]
      simp only [Bool.true_and]
      have h1' : (vs.length : Int) ≤ 200 := by omega
      by_cases h2 : m ≤ 300
      · rw [decide_eq_true h2]
        have h2' : (m : Int) ≤ 300 := by omega
        go_enter Tryz.func101, Tryz.ntmps101
        go_wp2_with (go_at_call 7; refine C30.mono ?_; rintro e w1 ⟨rfl, hb1⟩; obtain ⟨c0, c1, c2, c3, c4, c5, c6⟩ := O0.on hb1)
        go_ret
        exact ⟨rfl, bchain B0 hb1⟩
      · rw [decide_eq_false h2]
        have h2' : ¬ (m : Int) ≤ 300 := by omega
        go_enter Tryz.func101, Tryz.ntmps101
        go_wp2_with (go_at_call 7; refine C30.mono ?_; rintro e w1 ⟨rfl, hb1⟩; obtain ⟨c0, c1, c2, c3, c4, c5, c6⟩ := O0.on hb1)
        go_ret
        exact ⟨ret_bool (decide_eq_false (by omega)), bchain B0 hb1⟩
    · rw [decide_eq_false h1]
      simp only [Bool.false_and]
      have h1' : ¬ (vs.length : Int) ≤ 200 := by omega
      go_enter Tryz.func101, Tryz.ntmps101
      go_wp2_with (go_at_call 7; refine C30.mono ?_; rintro e w1 ⟨rfl, hb1⟩; obtain ⟨c0, c1, c2, c3, c4, c5, c6⟩ := O0.on hb1)
      go_ret
      exact ⟨rfl, bchain B0 hb1⟩
end Go.Proofs.YthlhopdlkkeohaaGreatDoor.O
/- How two references stand, both sides. -/
namespace Go.Proofs.YthlhopdlkkeohaaGreatDoor.O
open Go.RowKit

theorem refCmpR_any (x y : U) (w : World) : Calls Tryz.prog 173 #[uV x, uV y] w fun e w' => e = .returned (.int .i64 (Os.comp x y)) ∧ Below w.heap.size w w' := D.refRefs_any x.1.1 x.1.2 x.2 y.1.1 y.1.2 y.2 w

end Go.Proofs.YthlhopdlkkeohaaGreatDoor.O
/- The walks of Refs, both sides. -/
namespace Go.Proofs.YthlhopdlkkeohaaGreatDoor.O
open Go.RowKit

theorem neqi_no {z c : Int} (h : z = c) (w : World) : (binOp .neq 3 (.int .i64 z) (.int .i64 c)).run Tryz.prog w = .ok (.bool false) w := by subst h; go_simp
theorem neqi_yes {z c : Int} (h : z ≠ c) (w : World) : (binOp .neq 3 (.int .i64 z) (.int .i64 c)).run Tryz.prog w = .ok (.bool true) w := by
  have : (z != c) = true := by simpa using h
  go_simp
theorem gtr_yes {a b : Int} (h : b < a) (w : World) : (binOp .gtr 3 (.int .i64 a) (.int .i64 b)).run Tryz.prog w = .ok (.bool true) w := by go_simp
theorem gtr_no {a b : Int} (h : a ≤ b) (w : World) : (binOp .gtr 3 (.int .i64 a) (.int .i64 b)).run Tryz.prog w = .ok (.bool false) w := by
  have : ¬ b < a := by omega
  go_simp
theorem lss_yes {a b : Int} (h : a < b) (w : World) : (binOp .lss 3 (.int .i64 a) (.int .i64 b)).run Tryz.prog w = .ok (.bool true) w := by go_simp
theorem lss_no {a b : Int} (h : b ≤ a) (w : World) : (binOp .lss 3 (.int .i64 a) (.int .i64 b)).run Tryz.prog w = .ok (.bool false) w := by
  have : ¬ a < b := by omega
  go_simp
theorem geq_yes {a b : Int} (h : b ≤ a) (w : World) : (binOp .geq 3 (.int .i64 a) (.int .i64 b)).run Tryz.prog w = .ok (.bool true) w := by go_simp
theorem geq_no {a b : Int} (h : a < b) (w : World) : (binOp .geq 3 (.int .i64 a) (.int .i64 b)).run Tryz.prog w = .ok (.bool false) w := by
  have : ¬ b ≤ a := by omega
  go_simp
theorem sub_one (k : Nat) (h : k ≤ 1000000) (w : World) : (binOp .sub 3 (.int .i64 ((k + 1 : Nat) : Int)) (.int .i64 1)).run Tryz.prog w = .ok (.int .i64 (k : Int)) w := by
  have h : IntKind.i64.wrap (k : Int) = (k : Int) := by simp [IntKind.wrap, IntKind.bits, IntKind.signed]; omega
  go_simp
/-- Two references, one behind the other, while they are asked. -/
structure PS (w : World) (ad : Addr) (i k : Nat) (x y : U) (W : World) : Prop where
  fst : CAt W (ad.add (i * 3)) x
  snd : CAt W (ad.add (k * 3)) y
  below : Below w.heap.size w W
theorem PS.on {w : World} {ad : Addr} {i k : Nat} {x y : U} {W W' : World} (h : PS w ad i k x y W) (hb : Below W.heap.size W W') : PS w ad i k x y W' := ⟨h.fst.on hb, h.snd.on hb, bchain h.below hb⟩
/-- A reference in its variable, and the one ahead of it, while they are asked. -/
structure QS (w : World) (vb : Nat) (ad : Addr) (i : Nat) (x y : U) (W : World) : Prop where
  var : CAt W ⟨vb, 0, none⟩ y
  fst : CAt W (ad.add (i * 3)) x
  below : Below w.heap.size w W
theorem QS.on {w : World} {vb : Nat} {ad : Addr} {i : Nat} {x y : U} {W W' : World} (h : QS w vb ad i x y W) (hb : Below W.heap.size W W') : QS w vb ad i x y W' := ⟨h.var.on hb, h.fst.on hb, bchain h.below hb⟩
abbrev uC9 (u : U) : Array Value := #[.int .i64 u.1.1, .int .i64 u.1.2, .int .i64 u.2]

set_option maxRecDepth 20000 in
set_option maxHeartbeats 2000000 in
theorem refRefs_list (v : Value) (l : List U) (w : World) (hv : refsIn w v l) (hn : l.length ≤ 1000000) :
    Calls Tryz.prog 137 #[v] w fun e w' => e = .returned (.bool (Os.ups l)) ∧ Below w.heap.size w w' := by
  obtain ⟨ao, c, rfl, _, _, hc⟩ := hv
  have HC : Hid (∀ k (h : k < l.length), ∃ ad, ao = some ad ∧ CAt w (ad.add (k * 3)) l[k]) := hc
  clear hc
  obtain ⟨n, hn0⟩ : ∃ n, n = l.length := ⟨_, rfl⟩
  have HN : Hid (n = l.length) := hn0
  rw [← hn0] at hn ⊢
  clear hn0
  go_enter Tryz.func137, Tryz.ntmps137
  go_wp2
  go_loopw [3] (fun i wr => ∃ k : Nat, k ≤ n ∧ i = .int .i64 k ∧ Hid (Os.Ups (l.take k)) ∧ Below w.heap.size w wr) (fun i _ => n - (intOf i).toNat)
  case atStart => exact ⟨0, by omega, rfl, by have h := Os.ups_nil; exact h, Below.refl _ w⟩
  case round =>
    obtain ⟨k0, hk, rfl, HS, hbw⟩ := hrel
    by_cases hlt : k0 < n
    · have hkl : k0 < l.length := by have := HN.out; omega
      obtain ⟨ad, rfl, hA⟩ := HC.out k0 hkl
      have hA := hA.on hbw
      have hA9 := hA
      have HO := fun W => D.refRight_any (l[k0]).1.1 (l[k0]).1.2 W
      have hop := Os.ok_parts l[k0]
      have hi0 : (0 : Int) ≤ (k0 : Int) := by omega
      have hi1 : (k0 : Int) < (n : Int) := by omega
      cases hq : Dt.right (l[k0]).1.1 (l[k0]).1.2 with
      | false =>
        rw [hq] at HO hop
        have HL : Hid (Os.ups l = false) := by have h := Os.not_ok hkl hop; exact h
        clear hq hop
        generalize l[k0] = y at *
        obtain ⟨c0, c1, c2⟩ := hA9
        clear hA
        go_wp2_with (go_at_call 102; refine (HO _).mono ?_; rintro e w1 ⟨rfl, hb1⟩)
        go_ret
        exact ⟨ret_bool HL.out.symm, bchain hbw hb1⟩
      | true =>
       rw [hq] at HO hop
       by_cases hN1 : 0 ≤ (l[k0]).2
       rotate_left
       · have HL : Hid (Os.ups l = false) := by
           rw [decide_eq_false hN1] at hop
           have h := Os.not_ok hkl hop
           exact h
         clear hq hop
         have hN1 : (l[k0]).2 < 0 := by omega
         generalize l[k0] = y at *
         obtain ⟨c0, c1, c2⟩ := hA9
         go_wp2_with (go_at_call 102; refine (HO _).mono ?_; rintro e w1 ⟨rfl, hb1⟩; obtain ⟨k0', k1', k2'⟩ := hA.on hb1)
         go_ret
         exact ⟨ret_bool HL.out.symm, bchain hbw hb1⟩
       have hN1' : ¬ (l[k0]).2 < 0 := by omega
       by_cases hN2 : (l[k0]).2 ≤ 15
       rotate_left
       · have HL : Hid (Os.ups l = false) := by
           rw [decide_eq_true hN1, decide_eq_false hN2] at hop
           have h := Os.not_ok hkl hop
           exact h
         clear hq hop
         have hN2 : 15 < (l[k0]).2 := by omega
         generalize l[k0] = y at *
         obtain ⟨c0, c1, c2⟩ := hA9
         go_wp2_with (go_at_call 102; refine (HO _).mono ?_; rintro e w1 ⟨rfl, hb1⟩; obtain ⟨k0', k1', k2'⟩ := hA.on hb1)
         go_ret
         exact ⟨ret_bool HL.out.symm, bchain hbw hb1⟩
       rw [decide_eq_true hN1, decide_eq_true hN2] at hop
       have hN2' : ¬ 15 < (l[k0]).2 := by omega
       cases k0 with
       | zero =>
         have HS' : Hid (Os.Ups (l.take (0 + 1))) := by have h := Os.ups_step HS.out hkl hop (Or.inl rfl); exact h
         clear hop hq
         have hA9' : CAt wr ad l[0] := by simpa [Addr.add] using hA9
         generalize l[0] = y at *
         obtain ⟨c0, c1, c2⟩ := hA9'
         go_wp2_with (go_at_call 102; refine (HO _).mono ?_; rintro e w0 ⟨rfl, hb0⟩; obtain ⟨k0', k1', k2'⟩ := CAt.on (show CAt wr ad y from ⟨c0, c1, c2⟩) hb0; have hPS : PS w ad 0 0 y y w0.drew := ⟨(hA.on hb0).on (Below.refl _ _).drew, (hA.on hb0).on (Below.refl _ _).drew, (bchain hbw hb0).drew⟩)
         refine wp_region_held_drew (S := fun W => PS w ad 0 0 y y W) (by kernel_rfl) (hPS) (fun hH0 => ?_)
         refine held_take (i := 0) (o := { dst := some 33, op := Op.move (Operand.tmp 3), type := 3, pos := "ref.go:39", after := #[], guard := none }) (v := .int .i64 ((0 : Nat) : Int)) (by kernel_rfl) (by kernel_rfl) (by kernel_rfl) (by kernel_rfl) (fun _ _ _ h => h) (by kernel_rfl) (fun _ _ => by kernel_rfl) hH0 ?_
         refine held_take (i := 1) (o := { dst := some 34, op := Op.binOp BinOp.gtr 3 (Operand.tmp 33) (Operand.const (Value.int IntKind.i64 0)) 3, type := 4, pos := "ref.go:39", after := #[{ on := 0, ground := Ground.data }], guard := none }) (v := .bool false) (by kernel_rfl) (by kernel_rfl) (by kernel_rfl) (by kernel_rfl) (fun _ _ _ h => h) (by kernel_rfl) (fun W _ => exec_bin rfl (by kernel_rfl) (by kernel_rfl) (fun _ => by kernel_rfl) (gtr_no (a := ((0 : Nat) : Int)) (b := 0) (by omega)) W) hH0 ?_
         refine held_take (i := 2) (o := { dst := some 35, op := Op.move (Operand.tmp 34), type := 4, pos := "ref.go:39", after := #[{ on := 1, ground := Ground.data }], guard := none }) (v := .bool false) (by kernel_rfl) (by kernel_rfl) (by kernel_rfl) (by kernel_rfl) (fun _ _ _ h => h) (by kernel_rfl) (fun _ _ => by kernel_rfl) hH0 ?_
         refine held_skip (i := 3) (o := { dst := some 36, op := Op.move (Operand.tmp 0), type := 63, pos := "ref.go:39", after := #[{ on := 2, ground := Ground.guard }], guard := some (2, true) }) (by kernel_rfl) (by kernel_rfl) (by kernel_rfl) (by kernel_rfl) (fun _ _ _ h => h) (by kernel_rfl) hH0 ?_
         refine held_skip (i := 4) (o := { dst := some 37, op := Op.move (Operand.tmp 3), type := 3, pos := "ref.go:39", after := #[{ on := 2, ground := Ground.guard }], guard := some (2, true) }) (by kernel_rfl) (by kernel_rfl) (by kernel_rfl) (by kernel_rfl) (fun _ _ _ h => h) (by kernel_rfl) hH0 ?_
         refine held_skip (i := 5) (o := { dst := some 38, op := Op.binOp BinOp.sub 3 (Operand.tmp 37) (Operand.const (Value.int IntKind.i64 1)) 3, type := 3, pos := "ref.go:39", after := #[{ on := 4, ground := Ground.data }, { on := 2, ground := Ground.guard }], guard := some (2, true) }) (by kernel_rfl) (by kernel_rfl) (by kernel_rfl) (by kernel_rfl) (fun _ _ _ h => h) (by kernel_rfl) hH0 ?_
         refine held_skip (i := 6) (o := { dst := some 39, op := Op.indexAddr 63 (Operand.tmp 36) (Operand.tmp 38), type := 0, pos := "ref.go:39", after := #[{ on := 3, ground := Ground.data }, { on := 5, ground := Ground.data }, { on := 2, ground := Ground.guard }], guard := some (2, true) }) (by kernel_rfl) (by kernel_rfl) (by kernel_rfl) (by kernel_rfl) (fun _ _ _ h => h) (by kernel_rfl) hH0 ?_
         refine held_skip (i := 7) (o := { dst := some 40, op := Op.load 70 (Operand.tmp 39), type := 70, pos := "ref.go:39", after := #[{ on := 6, ground := Ground.data }, { on := 2, ground := Ground.guard }], guard := some (2, true) }) (by kernel_rfl) (by kernel_rfl) (by kernel_rfl) (by kernel_rfl) (fun _ _ _ h => h) (by kernel_rfl) hH0 ?_
         refine held_skip (i := 8) (o := { dst := some 41, op := Op.move (Operand.tmp 0), type := 63, pos := "ref.go:39", after := #[{ on := 2, ground := Ground.guard }], guard := some (2, true) }) (by kernel_rfl) (by kernel_rfl) (by kernel_rfl) (by kernel_rfl) (fun _ _ _ h => h) (by kernel_rfl) hH0 ?_
         refine held_skip (i := 9) (o := { dst := some 42, op := Op.move (Operand.tmp 3), type := 3, pos := "ref.go:39", after := #[{ on := 2, ground := Ground.guard }], guard := some (2, true) }) (by kernel_rfl) (by kernel_rfl) (by kernel_rfl) (by kernel_rfl) (fun _ _ _ h => h) (by kernel_rfl) hH0 ?_
         refine held_skip (i := 10) (o := { dst := some 43, op := Op.indexAddr 63 (Operand.tmp 41) (Operand.tmp 42), type := 0, pos := "ref.go:39", after := #[{ on := 8, ground := Ground.data }, { on := 9, ground := Ground.data }, { on := 2, ground := Ground.guard }], guard := some (2, true) }) (by kernel_rfl) (by kernel_rfl) (by kernel_rfl) (by kernel_rfl) (fun _ _ _ h => h) (by kernel_rfl) hH0 ?_
         refine held_skip (i := 11) (o := { dst := some 44, op := Op.load 70 (Operand.tmp 43), type := 70, pos := "ref.go:39", after := #[{ on := 10, ground := Ground.data }, { on := 2, ground := Ground.guard }], guard := some (2, true) }) (by kernel_rfl) (by kernel_rfl) (by kernel_rfl) (by kernel_rfl) (fun _ _ _ h => h) (by kernel_rfl) hH0 ?_
         refine held_skip (i := 12) (o := { dst := some 45, op := Op.call { callee := Callee.value (Operand.func 173), args := #[Operand.tmp 40, Operand.tmp 44], argTypes := #[70, 70] }, type := 3, pos := "ref.go:39", after := #[{ on := 7, ground := Ground.data }, { on := 11, ground := Ground.data }, { on := 2, ground := Ground.chain }, { on := 2, ground := Ground.guard }], guard := some (2, true) }) (by kernel_rfl) (by kernel_rfl) (by kernel_rfl) (by kernel_rfl) (fun _ _ _ h => h) (by kernel_rfl) hH0 ?_
         refine held_skip (i := 13) (o := { dst := some 46, op := Op.binOp BinOp.neq 3 (Operand.tmp 45) (Operand.const (Value.int IntKind.i64 (-1))) 3, type := 4, pos := "ref.go:39", after := #[{ on := 12, ground := Ground.data }, { on := 2, ground := Ground.guard }], guard := some (2, true) }) (by kernel_rfl) (by kernel_rfl) (by kernel_rfl) (by kernel_rfl) (fun _ _ _ h => h) (by kernel_rfl) hH0 ?_
         refine held_take (i := 14) (o := { dst := some 47, op := Op.pick (Operand.tmp 35) (Operand.tmp 46) (Operand.const (Value.bool false)), type := 4, pos := "ref.go:39", after := #[{ on := 2, ground := Ground.data }, { on := 13, ground := Ground.data }], guard := none }) (v := .bool false) (by kernel_rfl) (by kernel_rfl) (by kernel_rfl) (by kernel_rfl) (fun _ _ _ h => h) (by kernel_rfl) (fun _ _ => by kernel_rfl) hH0 ?_
         refine wpAnyH_done (by kernel_rfl) ?_ _
         simp only [Act.put, List.setIfInBounds_toArray, List.set_cons_zero, List.set_cons_succ]
         go_wp2
         go_roundw
         case rel => exact ⟨1, by omega, by go_num, HS', hH0.below⟩
         case measure => simp [intOf]; omega
       | succ i0 =>
         obtain ⟨ad', ha', hX⟩ := HC.out i0 (by omega)
         cases ha'
         have hX := hX.on hbw
         have HQ := fun W => refCmpR_any l[i0] l[i0 + 1] W
         have hcn := Os.comp_neg (x := l[i0]) (y := l[i0 + 1])
         have hlt0 : i0 < n := by omega
         have hk0 : (0 : Int) < ((i0 + 1 : Nat) : Int) := by omega
         have hsub := sub_one i0 (by omega)
         by_cases hl : Os.lt l[i0] l[i0 + 1]
         · have HS' : Hid (Os.Ups (l.take (i0 + 1 + 1))) := by have h := Os.ups_step HS.out hkl hop (Or.inr ⟨by omega, hl⟩); exact h
           have hz := hcn.2 hl
           clear hcn hl HS hop hq
           generalize Os.comp l[i0] l[i0 + 1] = z at *
           generalize l[i0] = x at *
           generalize l[i0 + 1] = y at *
           obtain ⟨k0, hk9⟩ : ∃ k0, k0 = i0 + 1 := ⟨_, rfl⟩
           rw [← hk9] at hsub hk0 hlt hi0 hi1 HS' hA9 hk hA ⊢
           obtain ⟨c0, c1, c2⟩ := hA9
           clear hk9
           go_wp2_with (go_at_call 102; refine (HO _).mono ?_; rintro e w0 ⟨rfl, hb0⟩; obtain ⟨k0', k1', k2'⟩ := CAt.on (show CAt wr (ad.add (k0 * 3)) y from ⟨c0, c1, c2⟩) hb0; have hPS : PS w ad i0 k0 x y w0.drew := ⟨(hX.on hb0).on (Below.refl _ _).drew, (hA.on hb0).on (Below.refl _ _).drew, (bchain hbw hb0).drew⟩)
           refine wp_region_held_drew (S := fun W => PS w ad i0 k0 x y W) (by kernel_rfl) (hPS) (fun hH0 => ?_)
           refine held_take (i := 0) (o := { dst := some 33, op := Op.move (Operand.tmp 3), type := 3, pos := "ref.go:39", after := #[], guard := none }) (v := .int .i64 (k0 : Int)) (by kernel_rfl) (by kernel_rfl) (by kernel_rfl) (by kernel_rfl) (fun _ _ _ h => h) (by kernel_rfl) (fun _ _ => by kernel_rfl) hH0 ?_
           refine held_take (i := 1) (o := { dst := some 34, op := Op.binOp BinOp.gtr 3 (Operand.tmp 33) (Operand.const (Value.int IntKind.i64 0)) 3, type := 4, pos := "ref.go:39", after := #[{ on := 0, ground := Ground.data }], guard := none }) (v := .bool true) (by kernel_rfl) (by kernel_rfl) (by kernel_rfl) (by kernel_rfl) (fun _ _ _ h => h) (by kernel_rfl) (fun W _ => exec_bin rfl (by kernel_rfl) (by kernel_rfl) (fun _ => by kernel_rfl) (gtr_yes hk0) W) hH0 ?_
           refine held_take (i := 2) (o := { dst := some 35, op := Op.move (Operand.tmp 34), type := 4, pos := "ref.go:39", after := #[{ on := 1, ground := Ground.data }], guard := none }) (v := .bool true) (by kernel_rfl) (by kernel_rfl) (by kernel_rfl) (by kernel_rfl) (fun _ _ _ h => h) (by kernel_rfl) (fun _ _ => by kernel_rfl) hH0 ?_
           refine held_take (i := 3) (o := { dst := some 36, op := Op.move (Operand.tmp 0), type := 63, pos := "ref.go:39", after := #[{ on := 2, ground := Ground.guard }], guard := some (2, true) }) (v := .slice (some ad) n c) (by kernel_rfl) (by kernel_rfl) (by kernel_rfl) (by kernel_rfl) (fun _ _ _ h => h) (by kernel_rfl) (fun _ _ => by kernel_rfl) hH0 ?_
           refine held_take (i := 4) (o := { dst := some 37, op := Op.move (Operand.tmp 3), type := 3, pos := "ref.go:39", after := #[{ on := 2, ground := Ground.guard }], guard := some (2, true) }) (v := .int .i64 (k0 : Int)) (by kernel_rfl) (by kernel_rfl) (by kernel_rfl) (by kernel_rfl) (fun _ _ _ h => h) (by kernel_rfl) (fun _ _ => by kernel_rfl) hH0 ?_
           refine held_take (i := 5) (o := { dst := some 38, op := Op.binOp BinOp.sub 3 (Operand.tmp 37) (Operand.const (Value.int IntKind.i64 1)) 3, type := 3, pos := "ref.go:39", after := #[{ on := 4, ground := Ground.data }, { on := 2, ground := Ground.guard }], guard := some (2, true) }) (v := .int .i64 (i0 : Int)) (by kernel_rfl) (by kernel_rfl) (by kernel_rfl) (by kernel_rfl) (fun _ _ _ h => h) (by kernel_rfl) (fun W _ => exec_bin rfl (by kernel_rfl) (by kernel_rfl) (fun _ => by kernel_rfl) (hsub) W) hH0 ?_
           refine held_take (i := 6) (o := { dst := some 39, op := Op.indexAddr 63 (Operand.tmp 36) (Operand.tmp 38), type := 0, pos := "ref.go:39", after := #[{ on := 3, ground := Ground.data }, { on := 5, ground := Ground.data }, { on := 2, ground := Ground.guard }], guard := some (2, true) }) (v := .pointer (some (ad.add (i0 * 3)))) (by kernel_rfl) (by kernel_rfl) (by kernel_rfl) (by kernel_rfl) (fun _ _ _ h => h) (by kernel_rfl) (fun W _ => exec_idx (n := n) (c := c) (k := i0) rfl (by kernel_rfl) (by kernel_rfl) hlt0 W) hH0 ?_
           refine held_take (i := 7) (o := { dst := some 40, op := Op.load 70 (Operand.tmp 39), type := 70, pos := "ref.go:39", after := #[{ on := 6, ground := Ground.data }, { on := 2, ground := Ground.guard }], guard := some (2, true) }) (v := uV x) (by kernel_rfl) (by kernel_rfl) (by kernel_rfl) (by kernel_rfl) (fun _ _ _ h => h) (by kernel_rfl) (fun _ h => exec_ldU rfl (by kernel_rfl) h.fst) hH0 ?_
           refine held_take (i := 8) (o := { dst := some 41, op := Op.move (Operand.tmp 0), type := 63, pos := "ref.go:39", after := #[{ on := 2, ground := Ground.guard }], guard := some (2, true) }) (v := .slice (some ad) n c) (by kernel_rfl) (by kernel_rfl) (by kernel_rfl) (by kernel_rfl) (fun _ _ _ h => h) (by kernel_rfl) (fun _ _ => by kernel_rfl) hH0 ?_
           refine held_take (i := 9) (o := { dst := some 42, op := Op.move (Operand.tmp 3), type := 3, pos := "ref.go:39", after := #[{ on := 2, ground := Ground.guard }], guard := some (2, true) }) (v := .int .i64 (k0 : Int)) (by kernel_rfl) (by kernel_rfl) (by kernel_rfl) (by kernel_rfl) (fun _ _ _ h => h) (by kernel_rfl) (fun _ _ => by kernel_rfl) hH0 ?_
           refine held_take (i := 10) (o := { dst := some 43, op := Op.indexAddr 63 (Operand.tmp 41) (Operand.tmp 42), type := 0, pos := "ref.go:39", after := #[{ on := 8, ground := Ground.data }, { on := 9, ground := Ground.data }, { on := 2, ground := Ground.guard }], guard := some (2, true) }) (v := .pointer (some (ad.add (k0 * 3)))) (by kernel_rfl) (by kernel_rfl) (by kernel_rfl) (by kernel_rfl) (fun _ _ _ h => h) (by kernel_rfl) (fun W _ => exec_idx (n := n) (c := c) (k := k0) rfl (by kernel_rfl) (by kernel_rfl) hlt W) hH0 ?_
           refine held_take (i := 11) (o := { dst := some 44, op := Op.load 70 (Operand.tmp 43), type := 70, pos := "ref.go:39", after := #[{ on := 10, ground := Ground.data }, { on := 2, ground := Ground.guard }], guard := some (2, true) }) (v := uV y) (by kernel_rfl) (by kernel_rfl) (by kernel_rfl) (by kernel_rfl) (fun _ _ _ h => h) (by kernel_rfl) (fun _ h => exec_ldU rfl (by kernel_rfl) h.snd) hH0 ?_
           refine held_callX (i := 12) (o := { dst := some 45, op := Op.call { callee := Callee.value (Operand.func 173), args := #[Operand.tmp 40, Operand.tmp 44], argTypes := #[70, 70] }, type := 3, pos := "ref.go:39", after := #[{ on := 7, ground := Ground.data }, { on := 11, ground := Ground.data }, { on := 2, ground := Ground.chain }, { on := 2, ground := Ground.guard }], guard := some (2, true) }) (F := 173) (vs := #[uV x, uV y]) (by kernel_rfl) (by kernel_rfl) (by kernel_rfl) (fun _ => by kernel_rfl) (HQ _) ?_
           rintro e w1 ⟨rfl, hb1⟩
           have hH1 := hH0.on hb1
           refine ⟨.int .i64 z, rfl, hH1, ?_⟩
           refine held_take (i := 13) (o := { dst := some 46, op := Op.binOp BinOp.neq 3 (Operand.tmp 45) (Operand.const (Value.int IntKind.i64 (-1))) 3, type := 4, pos := "ref.go:39", after := #[{ on := 12, ground := Ground.data }, { on := 2, ground := Ground.guard }], guard := some (2, true) }) (v := .bool false) (by kernel_rfl) (by kernel_rfl) (by kernel_rfl) (by kernel_rfl) (fun _ _ _ h => h) (by kernel_rfl) (fun W _ => exec_bin rfl (by kernel_rfl) (by kernel_rfl) (fun _ => by kernel_rfl) (neqi_no hz) W) hH1 ?_
           refine held_take (i := 14) (o := { dst := some 47, op := Op.pick (Operand.tmp 35) (Operand.tmp 46) (Operand.const (Value.bool false)), type := 4, pos := "ref.go:39", after := #[{ on := 2, ground := Ground.data }, { on := 13, ground := Ground.data }], guard := none }) (v := .bool false) (by kernel_rfl) (by kernel_rfl) (by kernel_rfl) (by kernel_rfl) (fun _ _ _ h => h) (by kernel_rfl) (fun _ _ => by kernel_rfl) hH1 ?_
           refine wpAnyH_done (by kernel_rfl) ?_ _
           simp only [Act.put, List.setIfInBounds_toArray, List.set_cons_zero, List.set_cons_succ]
           go_wp2
           go_roundw
           case rel => exact ⟨k0 + 1, by omega, by go_num, HS', hH1.below⟩
           case measure => simp [intOf]; omega
         · have HL : Hid (Os.ups l = false) := by have h := Os.not_lt hkl hl; exact h
           have hz : Os.comp l[i0] l[i0 + 1] ≠ -1 := fun e => hl (hcn.1 e)
           clear hcn hl HS hop hq
           generalize Os.comp l[i0] l[i0 + 1] = z at *
           generalize l[i0] = x at *
           generalize l[i0 + 1] = y at *
           obtain ⟨k0, hk9⟩ : ∃ k0, k0 = i0 + 1 := ⟨_, rfl⟩
           rw [← hk9] at hsub hk0 hlt hi0 hi1  hA9 hk hA ⊢
           obtain ⟨c0, c1, c2⟩ := hA9
           clear hk9
           go_wp2_with (go_at_call 102; refine (HO _).mono ?_; rintro e w0 ⟨rfl, hb0⟩; obtain ⟨k0', k1', k2'⟩ := CAt.on (show CAt wr (ad.add (k0 * 3)) y from ⟨c0, c1, c2⟩) hb0; have hPS : PS w ad i0 k0 x y w0.drew := ⟨(hX.on hb0).on (Below.refl _ _).drew, (hA.on hb0).on (Below.refl _ _).drew, (bchain hbw hb0).drew⟩)
           refine wp_region_held_drew (S := fun W => PS w ad i0 k0 x y W) (by kernel_rfl) (hPS) (fun hH0 => ?_)
           refine held_take (i := 0) (o := { dst := some 33, op := Op.move (Operand.tmp 3), type := 3, pos := "ref.go:39", after := #[], guard := none }) (v := .int .i64 (k0 : Int)) (by kernel_rfl) (by kernel_rfl) (by kernel_rfl) (by kernel_rfl) (fun _ _ _ h => h) (by kernel_rfl) (fun _ _ => by kernel_rfl) hH0 ?_
           refine held_take (i := 1) (o := { dst := some 34, op := Op.binOp BinOp.gtr 3 (Operand.tmp 33) (Operand.const (Value.int IntKind.i64 0)) 3, type := 4, pos := "ref.go:39", after := #[{ on := 0, ground := Ground.data }], guard := none }) (v := .bool true) (by kernel_rfl) (by kernel_rfl) (by kernel_rfl) (by kernel_rfl) (fun _ _ _ h => h) (by kernel_rfl) (fun W _ => exec_bin rfl (by kernel_rfl) (by kernel_rfl) (fun _ => by kernel_rfl) (gtr_yes hk0) W) hH0 ?_
           refine held_take (i := 2) (o := { dst := some 35, op := Op.move (Operand.tmp 34), type := 4, pos := "ref.go:39", after := #[{ on := 1, ground := Ground.data }], guard := none }) (v := .bool true) (by kernel_rfl) (by kernel_rfl) (by kernel_rfl) (by kernel_rfl) (fun _ _ _ h => h) (by kernel_rfl) (fun _ _ => by kernel_rfl) hH0 ?_
           refine held_take (i := 3) (o := { dst := some 36, op := Op.move (Operand.tmp 0), type := 63, pos := "ref.go:39", after := #[{ on := 2, ground := Ground.guard }], guard := some (2, true) }) (v := .slice (some ad) n c) (by kernel_rfl) (by kernel_rfl) (by kernel_rfl) (by kernel_rfl) (fun _ _ _ h => h) (by kernel_rfl) (fun _ _ => by kernel_rfl) hH0 ?_
           refine held_take (i := 4) (o := { dst := some 37, op := Op.move (Operand.tmp 3), type := 3, pos := "ref.go:39", after := #[{ on := 2, ground := Ground.guard }], guard := some (2, true) }) (v := .int .i64 (k0 : Int)) (by kernel_rfl) (by kernel_rfl) (by kernel_rfl) (by kernel_rfl) (fun _ _ _ h => h) (by kernel_rfl) (fun _ _ => by kernel_rfl) hH0 ?_
           refine held_take (i := 5) (o := { dst := some 38, op := Op.binOp BinOp.sub 3 (Operand.tmp 37) (Operand.const (Value.int IntKind.i64 1)) 3, type := 3, pos := "ref.go:39", after := #[{ on := 4, ground := Ground.data }, { on := 2, ground := Ground.guard }], guard := some (2, true) }) (v := .int .i64 (i0 : Int)) (by kernel_rfl) (by kernel_rfl) (by kernel_rfl) (by kernel_rfl) (fun _ _ _ h => h) (by kernel_rfl) (fun W _ => exec_bin rfl (by kernel_rfl) (by kernel_rfl) (fun _ => by kernel_rfl) (hsub) W) hH0 ?_
           refine held_take (i := 6) (o := { dst := some 39, op := Op.indexAddr 63 (Operand.tmp 36) (Operand.tmp 38), type := 0, pos := "ref.go:39", after := #[{ on := 3, ground := Ground.data }, { on := 5, ground := Ground.data }, { on := 2, ground := Ground.guard }], guard := some (2, true) }) (v := .pointer (some (ad.add (i0 * 3)))) (by kernel_rfl) (by kernel_rfl) (by kernel_rfl) (by kernel_rfl) (fun _ _ _ h => h) (by kernel_rfl) (fun W _ => exec_idx (n := n) (c := c) (k := i0) rfl (by kernel_rfl) (by kernel_rfl) hlt0 W) hH0 ?_
           refine held_take (i := 7) (o := { dst := some 40, op := Op.load 70 (Operand.tmp 39), type := 70, pos := "ref.go:39", after := #[{ on := 6, ground := Ground.data }, { on := 2, ground := Ground.guard }], guard := some (2, true) }) (v := uV x) (by kernel_rfl) (by kernel_rfl) (by kernel_rfl) (by kernel_rfl) (fun _ _ _ h => h) (by kernel_rfl) (fun _ h => exec_ldU rfl (by kernel_rfl) h.fst) hH0 ?_
           refine held_take (i := 8) (o := { dst := some 41, op := Op.move (Operand.tmp 0), type := 63, pos := "ref.go:39", after := #[{ on := 2, ground := Ground.guard }], guard := some (2, true) }) (v := .slice (some ad) n c) (by kernel_rfl) (by kernel_rfl) (by kernel_rfl) (by kernel_rfl) (fun _ _ _ h => h) (by kernel_rfl) (fun _ _ => by kernel_rfl) hH0 ?_
           refine held_take (i := 9) (o := { dst := some 42, op := Op.move (Operand.tmp 3), type := 3, pos := "ref.go:39", after := #[{ on := 2, ground := Ground.guard }], guard := some (2, true) }) (v := .int .i64 (k0 : Int)) (by kernel_rfl) (by kernel_rfl) (by kernel_rfl) (by kernel_rfl) (fun _ _ _ h => h) (by kernel_rfl) (fun _ _ => by kernel_rfl) hH0 ?_
           refine held_take (i := 10) (o := { dst := some 43, op := Op.indexAddr 63 (Operand.tmp 41) (Operand.tmp 42), type := 0, pos := "ref.go:39", after := #[{ on := 8, ground := Ground.data }, { on := 9, ground := Ground.data }, { on := 2, ground := Ground.guard }], guard := some (2, true) }) (v := .pointer (some (ad.add (k0 * 3)))) (by kernel_rfl) (by kernel_rfl) (by kernel_rfl) (by kernel_rfl) (fun _ _ _ h => h) (by kernel_rfl) (fun W _ => exec_idx (n := n) (c := c) (k := k0) rfl (by kernel_rfl) (by kernel_rfl) hlt W) hH0 ?_
           refine held_take (i := 11) (o := { dst := some 44, op := Op.load 70 (Operand.tmp 43), type := 70, pos := "ref.go:39", after := #[{ on := 10, ground := Ground.data }, { on := 2, ground := Ground.guard }], guard := some (2, true) }) (v := uV y) (by kernel_rfl) (by kernel_rfl) (by kernel_rfl) (by kernel_rfl) (fun _ _ _ h => h) (by kernel_rfl) (fun _ h => exec_ldU rfl (by kernel_rfl) h.snd) hH0 ?_
           refine held_callX (i := 12) (o := { dst := some 45, op := Op.call { callee := Callee.value (Operand.func 173), args := #[Operand.tmp 40, Operand.tmp 44], argTypes := #[70, 70] }, type := 3, pos := "ref.go:39", after := #[{ on := 7, ground := Ground.data }, { on := 11, ground := Ground.data }, { on := 2, ground := Ground.chain }, { on := 2, ground := Ground.guard }], guard := some (2, true) }) (F := 173) (vs := #[uV x, uV y]) (by kernel_rfl) (by kernel_rfl) (by kernel_rfl) (fun _ => by kernel_rfl) (HQ _) ?_
           rintro e w1 ⟨rfl, hb1⟩
           have hH1 := hH0.on hb1
           refine ⟨.int .i64 z, rfl, hH1, ?_⟩
           refine held_take (i := 13) (o := { dst := some 46, op := Op.binOp BinOp.neq 3 (Operand.tmp 45) (Operand.const (Value.int IntKind.i64 (-1))) 3, type := 4, pos := "ref.go:39", after := #[{ on := 12, ground := Ground.data }, { on := 2, ground := Ground.guard }], guard := some (2, true) }) (v := .bool true) (by kernel_rfl) (by kernel_rfl) (by kernel_rfl) (by kernel_rfl) (fun _ _ _ h => h) (by kernel_rfl) (fun W _ => exec_bin rfl (by kernel_rfl) (by kernel_rfl) (fun _ => by kernel_rfl) (neqi_yes hz) W) hH1 ?_
           refine held_take (i := 14) (o := { dst := some 47, op := Op.pick (Operand.tmp 35) (Operand.tmp 46) (Operand.const (Value.bool false)), type := 4, pos := "ref.go:39", after := #[{ on := 2, ground := Ground.data }, { on := 13, ground := Ground.data }], guard := none }) (v := .bool true) (by kernel_rfl) (by kernel_rfl) (by kernel_rfl) (by kernel_rfl) (fun _ _ _ h => h) (by kernel_rfl) (fun _ _ => by kernel_rfl) hH1 ?_
           refine wpAnyH_done (by kernel_rfl) ?_ _
           simp only [Act.put, List.setIfInBounds_toArray, List.set_cons_zero, List.set_cons_succ]
           go_wp2
           go_ret
           exact ⟨ret_bool HL.out.symm, hH1.below⟩
    · obtain rfl : k0 = n := by omega
      have HL : Hid (Os.ups l = true) := by
        have h := HS.out
        rw [HN.out, List.take_length] at h
        have h2 := Os.ups_iff.2 h
        exact h2
      go_wp2
      go_ret
      exact ⟨ret_bool HL.out.symm, hbw⟩
end Go.Proofs.YthlhopdlkkeohaaGreatDoor.O
