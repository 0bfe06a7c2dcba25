/- The walk of slices.Compact, at dots. -/
import Derived.Test.YtenfbjlmfdiniaaThin
namespace Go.Proofs.Ytenfbjlmfdiniaa
open Go.RowKit Go.Shelf

theorem But.drew {b : Nat} {w w' : World} (h : But b w w') : But b w w'.drew := ⟨h.os, h.tape, h.output, h.size, h.block⟩
theorem But.set2 {b : Nat} {w w' : World} (h : But b w w') (i : Nat) (x y : Value) : But b w ((w'.setCell ⟨b, i * 2, none⟩ x).setCell ⟨b, i * 2 + 1, none⟩ y) := (h.trans (But.set w' b _ x)).trans (But.set _ b _ y)
theorem But.cells (b : Nat) : ∀ (vs : List Value) (o : Nat) (w : World), But b w (w.setCells b o vs)
  | [], _, w => But.refl b w
  | v :: vs, o, w => by
    rw [World.setCells]
    exact (But.set w b o v).trans (But.cells b vs (o + 1) _)
theorem Own.heap {w wr : World} {g : Nat} {ds : List D} (h : Own w g ds) (e : wr.heap = w.heap) : Own wr g ds := by
  refine ⟨by rw [e]; exact h.1, fun k hk => ?_⟩
  obtain ⟨a, b, c, d⟩ := h.2 k hk
  exact ⟨(World.cell?_of_block (by rw [e])).trans a, (World.cell?_of_block (by rw [e])).trans b, (World.frozen?_of_block (by rw [e])).trans c, (World.frozen?_of_block (by rw [e])).trans d⟩

set_option maxRecDepth 20000 in
set_option maxHeartbeats 400000 in
theorem compact_any (g cap : Nat) (ds : List D) (w : World) (hO : Own w g ds) (hn : ds.length ≤ 1000000) (hc : ds.length ≤ cap) (hcm : cap ≤ maxLen) :
    Calls Try.prog 86 #[.slice (some ⟨g, 0, none⟩) ds.length cap] w fun e w' => e = .returned (.slice (some ⟨g, 0, none⟩) (ddTo ds ds.length).length cap) ∧ Own w' g (ddTo ds ds.length) ∧ But g w w' := by
  have hcap : cap ≤ 9223372036854775807 := by unfold maxLen at hcm; omega
  have HO : Hid (Own w g ds) := hO
  clear hO
  by_cases h2 : ds.length < 2
  · have hf : ddTo ds ds.length = ds := by
      match ds, h2 with
      | [], _ => rfl
      | [d], _ => rfl
    rw [hf]
    clear hf
    go_enter Try.func86, Try.ntmps86
    go_wp2
    go_ret
    exact ⟨rfl, HO.out, But.refl _ _⟩
  · obtain ⟨n, hn0⟩ : ∃ n, n = ds.length := ⟨_, rfl⟩
    have HN : Hid (n = ds.length) := hn0
    rw [← hn0] at hn hc h2 ⊢
    have HF : Hid (fresh ds 1) := by have h := fresh_one (ds := ds) (by omega); exact h
    clear hn0
    go_enter Try.func86, Try.ntmps86
    go_wp2
    go_loopw [3, 4, 5] (fun a _ _ wr => ∃ m : Nat, a = .int .i64 ((m + 1 : Nat) : Int) ∧ m + 1 ≤ n ∧ Hid (fresh ds (m + 1)) ∧ wr.heap = w.heap ∧ But g w wr) (fun a _ _ _ => n - (intOf a).toNat)
    case atStart => exact ⟨0, by go_num, by omega, HF, rfl, But.refl _ _⟩
    case round =>
      clear HF
      obtain ⟨m, rfl, hmn, HF, hheap, hbw⟩ := hrel
      have hOr : Own wr g ds := HO.out.heap hheap
      by_cases hlt : m + 1 < n
      · have h1 : m + 1 < ds.length := by have := HN.out; omega
        obtain ⟨c0, c1, _, _⟩ := hOr.2 (m + 1) h1
        obtain ⟨d0, d1, _, _⟩ := hOr.2 m (by omega)
        have hE := eql_dot ds[m + 1] ds[m]
        by_cases he : ds[m + 1] = ds[m]
        · have HC : Hid (CInv ds (m + 1) (m + 1 + 1) ds) := by have h := CInv.start HF.out (by omega) h1 (by simpa using he); exact h
          have HO' : Hid (Own wr g ds) := hOr
          simp only [he, decide_true] at hE
          rw [he] at c0 c1
          clear hOr HF
          generalize ds[m] = x at *
          go_wp2
          go_region
          go_wp2
          clear c0 c1 d0 d1 hE
          have hsub : ((m : Int) + 1).toNat = m + 1 := by omega
          go_loopw [3, 5] (fun a b wr => ∃ (k q : Nat) (cur : List D), a = .int .i64 (k : Int) ∧ b = .int .i64 ((q + 1 : Nat) : Int) ∧ m + 1 + (q + 1) ≤ n ∧ Hid (CInv ds k (m + 1 + (q + 1)) cur) ∧ Hid (Own wr g cur) ∧ But g w wr) (fun _ b _ => n - (m + 1) - (intOf b).toNat)
          case atStart => exact ⟨m + 1, 0, ds, by go_num, by go_num, by omega, HC, HO'.out, hbw.drew⟩
          case round =>
            clear HC HO' hbw hheap
            obtain ⟨k, q, cur, rfl, rfl, hq, HC, HO', hbw⟩ := hrel
            have hcl : cur.length = n := by rw [HN.out]; exact HC.out.1
            have hkj := HC.out.2.1
            by_cases hlt2 : m + 1 + (q + 1) < n
            · have hjd : m + 1 + (q + 1) < ds.length := by have := HN.out; omega
              obtain ⟨a1, a2, a3, e1, e2⟩ := HC.out.at hjd
              obtain ⟨c0, c1, _, _⟩ := HO'.out.2 _ a1
              obtain ⟨d0, d1, _, _⟩ := HO'.out.2 _ a2
              obtain ⟨g0, g1, f0, f1⟩ := HO'.out.2 k (by omega)
              rw [e1] at c0 c1
              rw [e2] at d0 d1
              have hE := neq_dot ds[m + 1 + (q + 1)] ds[m + 1 + (q + 1) - 1]
              rw [show (m + 1 + (q + 1)) * 2 = (m + 1) * 2 + (q + 1) * 2 by omega] at c0 c1
              rw [show (m + 1 + (q + 1) - 1) * 2 = (m + 1) * 2 + q * 2 by omega] at d0 d1
              by_cases he : ds[m + 1 + (q + 1)] = ds[m + 1 + (q + 1) - 1]
              · have HC' : Hid (CInv ds k (m + 1 + (q + 1 + 1)) cur) := by have h := HC.out.skip hjd he; exact h
                simp only [he, decide_true, Bool.not_true] at hE
                rw [he] at c0 c1
                clear HC e1 e2
                generalize ds[m + 1 + (q + 1) - 1] = x at *
                go_wp2
                go_region
                go_wp2
                go_roundw
                case rel => exact ⟨k, q + 1, cur, rfl, by go_num, by omega, HC', HO'.out, hbw.drew⟩
                case measure => simp [intOf]; omega
              · have HC' : Hid (CInv ds (k + 1) (m + 1 + (q + 1 + 1)) (cur.set k ds[m + 1 + (q + 1)])) := by have h := HC.out.keep hjd he; exact h
                simp only [he, decide_false, Bool.not_false] at hE
                clear HC e1 e2
                generalize ds[m + 1 + (q + 1) - 1] = x at *
                generalize ds[m + 1 + (q + 1)] = y at *
                go_wp2
                go_region
                go_wp2
                go_roundw
                case rel => exact ⟨k + 1, q + 1, cur.set k y, by go_num, by go_num, by omega, HC', HO'.out.set k y, hbw.drew.set2 k _ _⟩
                case measure => simp [intOf]; omega
            · have hjn : n = m + 1 + (q + 1) := by omega
              have hkl : k < n := by omega
              obtain ⟨vs, hcl9⟩ := HO'.out.clears k (by omega) (cap - k)
              rw [hcl] at hcl9
              have HE : Hid (k = (ddTo ds n).length ∧ cur.take k = ddTo ds n) := by
                have h1 := HC.out.len
                have h2 := HC.out.2.2.2.2.1
                rw [← hjn] at h1 h2
                exact (⟨h1, h2⟩ : k = (ddTo ds n).length ∧ cur.take k = ddTo ds n)
              have hin : k ≤ cap := by omega
              have hqn : ¬ ((q : Int) + 1 < (n : Int) - ((m : Int) + 1)) := by omega
              clear hjn
              go_wp2
              go_ret
              refine ⟨by rw [← HE.out.1]; rfl, ?_, hbw.trans (But.cells g vs (k * 2) wr)⟩
              rw [← HE.out.2]
              exact HO'.out.clear k vs
        · have HF' : Hid (fresh ds (m + 1 + 1)) := by have h := fresh_step HF.out (by omega) h1 (by simpa using he); exact h
          simp only [he, decide_false] at hE
          clear hOr HF
          generalize ds[m] = x at *
          generalize ds[m + 1] = y at *
          go_wp2
          go_region
          all_goals
            go_wp2
            go_roundw
            case rel => exact ⟨m + 1, by go_num, by omega, HF', hheap, hbw.drew⟩
            case measure => simp [intOf]; omega
      · obtain rfl : n = m + 1 := by omega
        have HE : Hid (ddTo ds (m + 1) = ds ∧ m + 1 = ds.length) := by
          have h : ddTo ds (m + 1) = ds ∧ m + 1 = ds.length := ⟨by rw [HF.out, HN.out, List.take_length], HN.out⟩
          exact h
        have HO' : Hid (Own wr g ds) := hOr
        clear hOr
        go_wp2
        go_ret
        refine ⟨by rw [HE.out.1, ← HE.out.2]; rfl, by rw [HE.out.1]; exact HO'.out, hbw⟩
end Go.Proofs.Ytenfbjlmfdiniaa
