/- The walks of bag's adds and Values. -/
import Derived.Test.YtjbbhfkbhpagbaaBRefsAll
import Derived.Test.YtjbbhfkbhpagbaaVSort
namespace Go.Proofs.Ytjbbhfkbhpagbaa.O
open Go.RowKit

theorem vx_step {xs : List IE} {k : Nat} (hk : k < xs.length) : (xs.take (k + 1)).map (fun x => Rg.valOf x.1) = (xs.take k).map (fun x => Rg.valOf x.1) ++ [Rg.valOf xs[k].1] := by
  rw [List.take_succ_eq_append_getElem hk, List.map_append]
  rfl
/-- The values of a list of items. -/
abbrev vof (xs : List IE) : List Rg.Va := xs.map fun x => Rg.valOf x.1

set_option maxRecDepth 20000 in
set_option maxHeartbeats 2000000 in
theorem values_any (v vp : Value) (xs : List IE) (p : List (List UInt8)) (w : World) (hv : itsE w v xs) (hp : U.strsAt w vp p) (hn : xs.length ≤ 1000000) (hs : ShortI xs) :
    Calls Try.prog 11 #[v, vp] w fun e w' => ∃ r, e = .returned r ∧ valsIn w' r (Rg.vals (vof (xs.filter fun x => isAt p 2 x.1))) ∧ Below w.heap.size w w' := by
  have HC := adds_any v vp xs p w hv hp hn hs
  have hn1 : (xs.filter fun x => isAt p 2 x.1).length ≤ 1000000 := Nat.le_trans (List.length_filter_le _ _) hn
  clear hv hp hs hn
  generalize (xs.filter fun x => isAt p 2 x.1) = ys at *
  go_enter Try.func11, Try.ntmps11
  go_wp2_with (go_at_call 25; refine HC.mono ?_; rintro e w1 ⟨r, rfl, hr, hb1⟩; obtain ⟨ao, cap, rfl⟩ := hr.slice; have HV : Hid (itsE w1 (.slice ao ys.length cap) ys) := hr; obtain ⟨n, hn0⟩ : ∃ n, n = ys.length := ⟨_, rfl⟩; have HN : Hid (n = ys.length) := hn0; rw [← hn0] at HV hn1 ⊢; clear hr hn0)
  go_loopw [5, 7, 12] (fun out _ i wr => ∃ (k : Nat) (acc : List Rg.Va), k ≤ n ∧ i = .int .i64 k ∧ Hid (acc = vof (ys.take k)) ∧ wr.ownsRow w1.heap.size 26 3 out acc.length (acc.flatMap vcell) ∧ Below w1.heap.size w1 wr) (fun _ _ i _ => n - (intOf i).toNat)
  case atStart => exact ⟨0, [], by omega, rfl, rfl, World.ownsRow_nil _ _ _ _, Below.refl _ _⟩
  case round =>
    obtain ⟨k, acc, hk, rfl, HA, hown, hbw⟩ := hrel
    by_cases hkn : k < n
    · have hkx : k < ys.length := by rw [← HN.out]; exact hkn
      obtain ⟨ad, rfl, -, hX, hXi⟩ := (HV.out.on hbw).get hkx
      have HS : Hid (acc ++ [Rg.valOf ys[k].1] = vof (ys.take (k + 1))) := by
        have h : acc ++ [Rg.valOf ys[k].1] = vof (ys.take (k + 1)) := by rw [vof, vx_step hkx, HA.out]
        exact h
      have hroom : acc.length + 1 ≤ 1000001 := by
        have h2 := congrArg List.length HA.out
        rw [List.length_map, List.length_take] at h2
        omega
      generalize ys[k] = x at *
      obtain ⟨it, pv, sv⟩ := x
      obtain ⟨pa, pn, pc, rfl⟩ := strs_slice hXi.1
      obtain ⟨sa, sn, sc, rfl⟩ := refs_slice hXi.2
      obtain ⟨c0, c1, c2, c3, c4, c5, c6, c7, c8, c9, c10⟩ := hX
      have bA := below_new2 wr (.cells (icell (it, .slice pa pn pc, .slice sa sn sc)).toArray 64) (vO (Rg.valOf it))
      have e1 : (wr.alloc (.cells (icell (it, .slice pa pn pc, .slice sa sn sc)).toArray 64)).heap.size = wr.heap.size + 1 := by simp
      have hnew := new_val (wr.alloc (.cells (icell (it, .slice pa pn pc, .slice sa sn sc)).toArray 64)) (Rg.valOf it)
      rw [e1] at hnew
      have hown1 := own_on hown bA
      have hbw1 := bchain hbw bA
      clear HA hXi
      go_wp2_with (first
        | (at_builtin; refine append_val rfl _ _ rfl w1.heap.size hbw1.size _ acc rfl hown1 _ (Rg.valOf it) rfl hnew hroom ?_; intro v2 w3 hown2 hg2)
        | go_in)
      go_roundw
      case rel => exact ⟨k + 1, acc ++ [Rg.valOf it], by omega, by go_num, HS, hown2, hbw1.grown hg2 hbw1.size (fun g e => (hown1.lt g e).1)⟩
      case measure => simp [intOf]; omega
    · have HE : Hid (acc = vof ys) := by
        have h := HA.out
        rw [List.take_of_length_le (by rw [← HN.out]; omega)] at h
        exact h
      have hlen : acc.length ≤ 1000000 := by
        have h2 := congrArg List.length HE.out
        rw [vof, List.length_map] at h2
        have := HN.out
        omega
      rcases valsOwn hown with ⟨rfl, rfl⟩ | ⟨g, c, rfl, hO, h1, h2, h3⟩
      · go_wp2_with (first
          | (go_at_call 28; refine (compact_none _).mono ?_; rintro e w3 ⟨rfl, hw3⟩; have hw3 := hw3.symm; subst hw3)
          | (go_at_call 26; refine (sortFunc_none 0 none _).mono ?_; rintro e w2 ⟨rfl, hw2⟩; have hw2 := hw2.symm; subst hw2))
        go_ret
        exact ⟨_, rfl, by rw [← HE.out]; exact valsIn_nil _, bchain hb1 hbw⟩
      · have HSo := sortFunc_any g c acc w1.heap.size wr hO hlen h3
        have HCo : ∀ W, Below w1.heap.size w1 W → OwnR W g vcell 3 (sorted acc) → Calls Try.prog 28 #[.slice (some ⟨g, 0, none⟩) acc.length c] W fun e w' => e = .returned (.slice (some ⟨g, 0, none⟩) (Rg.thin (sorted acc)).length c) ∧ OwnR w' g vcell 3 (Rg.thin (sorted acc)) ∧ Below w1.heap.size w1 w' := fun W hW hO2 => by
          have h := compact_any g c (sorted acc) w1.heap.size w1 W hW h3 hO2 (by rw [sorted_length]; exact hlen) (by rw [sorted_length]; exact h1) h2
          rw [sorted_length] at h
          exact h
        have HL : Hid ((Rg.thin (sorted acc)).length ≤ c) := by
          have h := Nat.le_trans (Nat.le_trans (Rg.thin_len (sorted acc)) (Nat.le_of_eq (sorted_length acc))) h1
          exact h
        clear hO hown
        generalize acc.length = m at *
        go_wp2_with (first
          | (go_at_call 28; refine (HCo _ (hbw.trans hb2) hO2).mono ?_; rintro e w3 ⟨rfl, hO3, hb3⟩)
          | (go_at_call 26; refine HSo.mono ?_; rintro e w2 ⟨rfl, hO2, hb2⟩))
        go_ret
        refine ⟨_, rfl, ?_, hb1.trans (hb3.mono hb1.size)⟩
        rw [← HE.out, ← thin_sorted]
        exact hO3.rows vcell_len HL.out

end Go.Proofs.Ytjbbhfkbhpagbaa.O
