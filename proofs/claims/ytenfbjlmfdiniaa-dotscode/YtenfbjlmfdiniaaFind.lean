/- The walks of slices.IndexFunc, ContainsFunc (of whatever closure) and Equal, at dots. -/
import Derived.Test.YtenfbjlmfdiniaaRow
import Derived.Shelf.Abstract
namespace Go.Proofs.Ytenfbjlmfdiniaa
open Go.RowKit Go.Shelf

/-- Where the first one stands that a closure takes; -1: nowhere. -/
def idx (p : D → Bool) (ds : List D) : Int := match ds.findIdx? p with
  | some k => (k : Int)
  | none => -1
/-- None of the first ones is taken. -/
def noneTo (p : D → Bool) (ds : List D) (k : Nat) : Prop := ∀ j (h : j < ds.length), j < k → p ds[j] = false
theorem noneTo_zero (p : D → Bool) (ds : List D) : noneTo p ds 0 := fun _ _ h => absurd h (Nat.not_lt_zero _)
theorem noneTo_step {p : D → Bool} {ds : List D} {k : Nat} (h : noneTo p ds k) (hk : k < ds.length) (hp : p ds[k] = false) : noneTo p ds (k + 1) := fun j hj h1 => by
  by_cases e : j = k
  · subst e; exact hp
  · exact h j hj (by omega)
theorem idx_hit {p : D → Bool} {ds : List D} {k : Nat} (h : noneTo p ds k) (hk : k < ds.length) (hp : p ds[k] = true) : idx p ds = k := by
  have : ds.findIdx? p = some k := by
    rw [List.findIdx?_eq_some_iff_getElem]
    exact ⟨hk, hp, fun j hj => by simp [h j (by omega) hj]⟩
  simp [idx, this]
theorem idx_miss {p : D → Bool} {ds : List D} (h : noneTo p ds ds.length) : idx p ds = -1 := by
  have : ds.findIdx? p = none := by
    rw [List.findIdx?_eq_none_iff]
    intro x hx
    obtain ⟨j, hj, rfl⟩ := List.mem_iff_getElem.1 hx
    exact h j hj hj
  simp [idx, this]
theorem idx_cases (p : D → Bool) (ds : List D) : (idx p ds = -1 ∧ noneTo p ds ds.length) ∨ ∃ k, k < ds.length ∧ idx p ds = (k : Int) ∧ noneTo p ds k ∧ ∃ h : k < ds.length, p ds[k] = true := by
  unfold idx
  cases h : ds.findIdx? p with
  | none => left; exact ⟨rfl, fun j hj _ => by
      rw [List.findIdx?_eq_none_iff] at h
      exact h _ (List.getElem_mem hj)⟩
  | some k =>
    rw [List.findIdx?_eq_some_iff_getElem] at h
    obtain ⟨hk, hp, hn⟩ := h
    exact Or.inr ⟨k, hk, rfl, fun j hj h1 => by simpa using hn j h1, hk, hp⟩
/-- What a closure answers, whatever was laid since. -/
def Asks (w : World) (g : Nat) (lb : Array Value) (p : D → Bool) : Prop := ∀ (W : World) (x : D), Below w.heap.size w W → Calls Try.prog g (#[dV x] ++ lb) W fun e w' => e = .returned (.bool (p x)) ∧ Below W.heap.size W w'
theorem Asks.on {w w' : World} {g : Nat} {lb : Array Value} {p : D → Bool} (h : Asks w g lb p) (hb : Below w.heap.size w w') : Asks w' g lb p := fun W x h1 => h W x (bchain hb h1)

set_option maxRecDepth 20000 in
set_option maxHeartbeats 1000000 in
theorem indexFunc_any (v : Value) (ds : List D) (w : World) (hv : dotsIn w v ds) (hn : ds.length ≤ 1000000) (g : Nat) (lb : Array Value) (p : D → Bool) (eg : ∀ args w, (callFunc g args).run Try.prog w = .ok (.enter g args) w) (hp : Asks w g lb p) :
    Calls Try.prog 89 #[v, .func (.func g) #[] lb] w fun e w' => e = .returned (.int .i64 (idx p ds)) ∧ Below w.heap.size w w' := by
  obtain ⟨ao, c, rfl, _, hc⟩ := hv
  go_enter Try.func89, Try.ntmps89
  go_wp2
  go_loopw [5, 8] (fun _ i wr => ∃ k : Nat, k ≤ ds.length ∧ i = .int .i64 k ∧ noneTo p ds k ∧ Below w.heap.size w wr) (fun _ i _ => ds.length - (intOf i).toNat)
  case atStart => exact ⟨0, by omega, rfl, noneTo_zero _ _, Below.refl _ w⟩
  case round =>
    obtain ⟨k, hk, rfl, hN, hbw⟩ := hrel
    by_cases hlt : k < ds.length
    · obtain ⟨ad, rfl, h0, h1⟩ := hc k hlt
      have h0 := keep_cell hbw h0
      have h1 := keep_cell hbw h1
      have HC := hp wr ds[k] hbw
      clear hc hp
      cases hq : p ds[k] with
      | true =>
        have HI : Hid (idx p ds = (k : Int)) := by have h := idx_hit hN hlt hq; exact h
        rw [hq] at HC
        generalize ds[k] = x at *
        go_wp2_with (go_at_fn g; refine HC.mono ?_; rintro e w1 ⟨rfl, hb1⟩)
        go_ret
        exact ⟨ret_int HI.out.symm, bchain hbw hb1⟩
      | false =>
        have HN := noneTo_step hN hlt hq
        rw [hq] at HC
        generalize ds[k] = x at *
        go_wp2_with (go_at_fn g; refine HC.mono ?_; rintro e w1 ⟨rfl, hb1⟩)
        go_roundw
        case rel => exact ⟨k + 1, by omega, by go_num, HN, bchain hbw hb1⟩
        case measure => simp [intOf]; omega
    · obtain rfl : k = ds.length := by omega
      have HI : Hid (idx p ds = -1) := by have h := idx_miss hN; exact h
      go_wp2
      go_ret
      exact ⟨ret_int HI.out.symm, hbw⟩

theorem idx_any (p : D → Bool) (ds : List D) : decide (0 ≤ idx p ds) = ds.any p := by
  rcases idx_cases p ds with ⟨e, h⟩ | ⟨k, hk, e, _, h', hp⟩
  · rw [e]
    symm
    rw [show decide ((0 : Int) ≤ -1) = false from rfl, List.any_eq_false]
    intro x hx
    obtain ⟨j, hj, rfl⟩ := List.mem_iff_getElem.1 hx
    simp [h j hj hj]
  · rw [e, decide_eq_true (by omega)]
    symm
    rw [List.any_eq_true]
    exact ⟨ds[k], List.getElem_mem h', hp⟩

theorem containsFunc_any (v : Value) (ds : List D) (w : World) (hv : dotsIn w v ds) (hn : ds.length ≤ 1000000) (g : Nat) (lb : Array Value) (p : D → Bool) (eg : ∀ args w, (callFunc g args).run Try.prog w = .ok (.enter g args) w) (hp : Asks w g lb p) :
    Calls Try.prog 59 #[v, .func (.func g) #[] lb] w fun e w' => e = .returned (.bool (ds.any p)) ∧ Below w.heap.size w w' := by
  have HC := indexFunc_any v ds w hv hn g lb p eg hp
  rw [← idx_any]
  generalize idx p ds = z at *
  clear hv hp
  go_enter Try.func59, Try.ntmps59
  go_wp2_with (go_at_call 89; refine HC.mono ?_; rintro e w1 ⟨rfl, hb1⟩)
  go_ret
  exact ⟨rfl, hb1⟩

set_option maxRecDepth 20000 in
set_option maxHeartbeats 2000000 in
theorem equal_any (va vb : Value) (xs ys : List D) (w : World) (hx : xs.length ≤ 1000000) (ha : dotsIn w va xs) (hb : dotsIn w vb ys) :
    Calls Try.prog 61 #[va, vb] w fun e w' => e = .returned (.bool (decide (xs = ys))) ∧ Below w.heap.size w w' := by
  obtain ⟨ao, ca, rfl, _, hca⟩ := ha
  obtain ⟨bo, cb, rfl, _, hcb⟩ := hb
  by_cases hl : xs.length = ys.length
  · go_enter Try.func61, Try.ntmps61
    go_wp2
    go_loopw [5, 13] (fun _ i wr => ∃ k : Nat, k ≤ xs.length ∧ i = .int .i64 k ∧ sameTo xs ys k ∧ wr.heap = w.heap ∧ Below w.heap.size w wr) (fun _ i _ => xs.length - (intOf i).toNat)
    case atStart => exact ⟨0, by omega, rfl, sameTo_zero _ _, rfl, Below.refl _ w⟩
    case round =>
      obtain ⟨k, hk, rfl, hS, hheap, hbw⟩ := hrel
      by_cases hlt : k < xs.length
      · have hlt2 : k < ys.length := by omega
        obtain ⟨ad, rfl, hA⟩ := hca k hlt
        obtain ⟨bd, rfl, hB⟩ := hcb k hlt2
        have hA2 : wr.cell? (ad.add (k * 2)) = some (.int .i64 (xs[k]).1) := (World.cell?_of_block (by rw [hheap])).trans hA.1
        have hA3 : wr.cell? ⟨(ad.add (k * 2)).block, (ad.add (k * 2)).off + 1, none⟩ = some (.int .i64 (xs[k]).2) := (World.cell?_of_block (by rw [hheap])).trans hA.2
        have hB2 : wr.cell? (bd.add (k * 2)) = some (.int .i64 (ys[k]).1) := (World.cell?_of_block (by rw [hheap])).trans hB.1
        have hB3 : wr.cell? ⟨(bd.add (k * 2)).block, (bd.add (k * 2)).off + 1, none⟩ = some (.int .i64 (ys[k]).2) := (World.cell?_of_block (by rw [hheap])).trans hB.2
        clear hca hcb hA hB
        have hE := neq_dot xs[k] ys[k]
        by_cases he : xs[k] = ys[k]
        · have HS := sameTo_step hS hlt hlt2 he
          simp only [he, decide_true, Bool.not_true] at hE
          rw [he] at hA2 hA3
          generalize ys[k] = x at *
          go_wp2
          go_region
          all_goals
            go_wp2
            go_roundw
            case rel => exact ⟨k + 1, by omega, by go_num, HS, hheap, hbw.drew⟩
            case measure => simp [intOf]; omega
        · have HL : Hid (decide (xs = ys) = false) := by
            have h := same_not hlt hlt2 he
            exact h
          simp only [he, decide_false, Bool.not_false] at hE
          generalize xs[k] = x at *
          generalize ys[k] = y at *
          go_wp2
          go_region
          all_goals
            go_wp2
            go_ret
            exact ⟨ret_bool HL.out.symm, hbw.drew⟩
      · have HL : Hid (decide (xs = ys) = true) := by
          have h := same_all hS hlt hl
          exact h
        go_wp2
        go_ret
        exact ⟨ret_bool HL.out.symm, hbw⟩
  · have HL : Hid (decide (xs = ys) = false) := by
      have h : decide (xs = ys) = false := decide_eq_false (fun e => hl (by rw [e]))
      exact h
    clear hca hcb
    go_enter Try.func61, Try.ntmps61
    go_wp2
    go_ret
    exact ⟨ret_bool HL.out.symm, Below.refl _ w⟩
end Go.Proofs.Ytenfbjlmfdiniaa
