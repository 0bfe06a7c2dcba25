/- Paths are read as they were told: the walk of Read (by a closure) over a reader whose text begins with a path's bytes. -/
import Derived.Test.YtghkjbekjkejpaaGreatTexts
import Derived.Test.YtghkjbekjkejpaaGreatChecks
import Derived.Test.YtghkjbekjkejpaaGreatNumberAll
namespace Go.Proofs.YtghkjbekjkejpaaGreat.U
open Go.RowKit

theorem own_base {w : World} {b b' s n : Nat} {e : TypeId} {v : Value} {xs : List Value} (h : w.ownsRow b e s v n xs) (hb : b' ≤ b) : w.ownsRow b' e s v n xs := by
  refine ⟨h.1, ?_⟩
  rcases h.2 with hn | ⟨g, cap, cur, hv, hbg, r⟩
  · exact Or.inl hn
  · exact Or.inr ⟨g, cap, cur, hv, Nat.le_trans hb hbg, r⟩
def flat (xs : List (List UInt8)) : List UInt8 := (xs.map Pt.textL).flatten
theorem flat_nil : flat [] = [] := rfl
theorem flat_drop {xs : List (List UInt8)} {k : Nat} (h : k < xs.length) : flat (xs.drop k) = Pk.enc xs[k].length ++ (xs[k] ++ flat (xs.drop (k + 1))) := by
  rw [List.drop_eq_getElem_cons h]
  unfold flat
  rw [List.map_cons, List.flatten_cons, Pt.textL, List.append_assoc]
theorem Few.drop {xs : List (List UInt8)} (h : Few xs) (k : Nat) : Few (xs.drop k) := ⟨by rw [List.length_drop]; have := h.1; omega, fun x hx => h.2 x (List.mem_of_mem_drop hx)⟩
theorem flat_ge : ∀ xs : List (List UInt8), xs.length ≤ (flat xs).length
  | [] => by simp
  | x :: xs => by
    have h1 := flat_ge xs
    have h2 := Pk.enc_pos x.length
    have e : flat (x :: xs) = Pk.enc x.length ++ (x ++ flat xs) := by simp [flat, Pt.textL]
    rw [e]
    simp only [List.length_append, List.length_cons]
    omega

/-- Each part is read by a closure that holds the reader. -/
theorem closure_ok {w : World} {b bx : Nat} {x l rest : List UInt8} (hbx : w.cell? ⟨bx, 0, none⟩ = some (.pointer (some ⟨b, 0, none⟩))) (h : Rd w b (Pk.enc l.length ++ (l ++ rest)) 0) (hl : (Pk.enc l.length ++ (l ++ rest)).length ≤ maxLen) (hn : l.length ≤ 120) :
    Calls Tryz.prog 102 #[.string ⟨x.toArray⟩, .pointer (some ⟨bx, 0, none⟩)] w fun e w' => e = .returned (.string ⟨l.toArray⟩) ∧ Rd w' b rest 0 ∧ But b w w' := by
  have HC := text_ok h hl hn
  clear h hl hn
  go_enter Tryz.func102, Tryz.ntmps102
  go_wp2_with fail
  refine HC.mono ?_
  rintro e w1 ⟨rfl, hr, hb⟩
  go_wp2
  go_ret
  exact ⟨rfl, hr, hb⟩

set_option maxRecDepth 20000 in
set_option maxHeartbeats 2000000 in
theorem each_read {w : World} {B b bx : Nat} {xs zs : List (List UInt8)} {rest : List UInt8} {v : Value} (hf : Few xs) (hrest : rest.length ≤ 1000000000) (hv : w.ownsRow B 9 1 v zs.length (cellsS zs)) (hzs : zs.length = xs.length) (hB : b < B)
    (hbx : w.cell? ⟨bx, 0, none⟩ = some (.pointer (some ⟨b, 0, none⟩))) (hne : bx ≠ b) (h : Rd w b (flat xs ++ rest) 0) :
    Calls Tryz.prog 84 #[v, .func (.func 102) #[] #[.pointer (some ⟨bx, 0, none⟩)]] w fun e w' => ∃ u, e = .returned u ∧ w'.ownsRow w.heap.size 9 1 u xs.length (cellsS xs) ∧ Rd w' b rest 0 ∧ But b w w' := by
  obtain ⟨i0, hi, hz0, hz1, hz2⟩ := info_parts info9
  obtain ⟨ao, ca, rfl⟩ := own_slice hv
  have hbw := h.lt
  have hn := hf.1
  have h0 : Rd w b (flat (xs.drop 0) ++ rest) 0 := by rw [List.drop_zero]; exact h
  clear h
  generalize hm : zs.length = m at *
  have HZ : Hid (m = xs.length ∧ zs.length = m) := by
    have h : m = xs.length ∧ zs.length = m := ⟨hzs, hm⟩
    exact h
  have hm12 : m ≤ 12 := by omega
  clear hm hzs
  go_enter Tryz.func84, Tryz.ntmps84
  go_wp2_with (refine wpList_make_own _ rfl _ _ 65 rfl w.heap.size 9 i0 (.string ⟨#[]⟩) 1 Tryz.underlying65 hi hz0 hz1 _ _ _ m rfl rfl rfl (by rw [hz2]; omega) (by unfold maxLen; omega) (Nat.le_refl _) ?_)
  intro w0 hown0 hg0
  have hb0 : But b w w0 := (But.refl b w).grown hg0 (fun k hk => by cases hk)
  have hr0 : Rd w0 b (flat (xs.drop 0) ++ rest) 0 := h0.grown hg0 (by simp)
  clear h0 hg0
  generalize Value.slice (some ⟨w.heap.size, 0, none⟩) 0 m = v0 at *
  go_wp2
  go_loopw [5, 13] (fun u i wr => ∃ k : Nat, k ≤ m ∧ i = .int .i64 k ∧ Hid (wr.ownsRow w.heap.size 9 1 u k (cellsS (xs.take k))) ∧ Hid (Rd wr b (flat (xs.drop k) ++ rest) 0) ∧ But b w wr) (fun _ i _ => m - (intOf i).toNat)
  case atStart => exact ⟨0, by omega, rfl, hown0, hr0, hb0⟩
  case round =>
    clear hown0 hr0 hb0
    obtain ⟨k, hk, rfl, HO, HR, hbu⟩ := hrel
    have hsr := hbu.size
    by_cases hlt : k < m
    · have hzm := HZ.out
      have hkx : k < xs.length := by omega
      have hs : strsAt wr (.slice ao m ca) zs := strsAt_own (by rw [hzm.2]; exact own_but hv hbu hB)
      obtain ⟨ao', ca', e, _, hc⟩ := hs
      obtain ⟨rfl, -, rfl⟩ : ao = ao' ∧ m = zs.length ∧ ca = ca' := by simpa using e
      obtain ⟨ad, rfl, hA⟩ := hc k (by omega)
      have hR := HR.out
      have hlen : (flat (xs.drop k) ++ rest).length ≤ maxLen := by
        have := (hf.drop k).flat
        rw [List.length_append]
        unfold maxLen
        unfold flat
        omega
      rw [flat_drop hkx, List.append_assoc, List.append_assoc] at hR hlen
      have hbx2 := hbu.cell hbx hne
      have HC := closure_ok (x := zs[k]) hbx2 hR hlen (hf.2 _ (List.getElem_mem hkx))
      have HT : Hid (xs.take (k + 1) = xs.take k ++ [xs[k]]) := List.take_succ_eq_append_getElem hkx
      have hO := HO.out
      clear hc e hR hlen HO HR hv hbx hf
      generalize zs[k] = z at *
      generalize xs[k] = y at *
      clear hzm hkx
      go_wp2_with (go_at_call 102; refine HC.mono ?_)
      rintro e w1 ⟨rfl, hr1, hb1⟩
      have hO1 := own_but hO hb1 hbw
      have hs1 : w.heap.size ≤ w1.heap.size := Nat.le_trans hsr hb1.size
      go_wp2_with (at_builtin; refine wpList_append_own _ rfl _ _ 65 rfl w.heap.size 9 i0 (.string ⟨#[]⟩) 1 16 Tryz.underlying65 hi hz0 hz1 hz2 rfl (by decide) _ _ _ rfl (hO1.alloc _) ⟨_, 0, none⟩ 1 1 [.string ⟨y.toArray⟩] rfl rfl (one_new5 _ _ _) (one_cellS _) ?c3 ?c4 ?c5 ?_)
      case c3 => unfold maxLen; omega
      case c4 => omega
      case c5 => simp; omega
      intro v' w2 hown' hgrow _
      have hne2 := hO1.lt b
      have R1 := ((hbu.trans hb1).new (.cells #[.string ⟨y.toArray⟩] 9)).grown hgrow (fun g eg => (hO1.lt g eg).1)
      have R2 := (hr1.new (.cells #[.string ⟨y.toArray⟩] 9)).grown hgrow (fun eg => by have := (hne2 eg.symm).1; omega)
      rw [cellsS_snoc, ← HT.out] at hown'
      clear hgrow hO hO1 hr1 hne2
      go_wp2
      go_roundw
      case rel => exact ⟨k + 1, by omega, by go_num, hown', R2, R1⟩
      case measure => simp [intOf]; omega
    · obtain rfl : k = m := by omega
      have hO := HO.out
      have hR := HR.out
      have hfin : k = xs.length := HZ.out.1
      rw [hfin, List.take_length] at hO
      rw [hfin, List.drop_length, flat_nil, List.nil_append] at hR
      clear HO HR hv hf
      go_wp2
      go_ret
      exact ⟨_, rfl, hO, hR, hbu⟩

theorem made_empty (m : Nat) : (madeCells #[Value.string ⟨#[]⟩] m).toList = cellsS (List.replicate m []) := by
  apply List.ext_getElem
  · simp [madeCells, cellsS]
  · intro i h1 h2
    simp [madeCells, cellsS, Nat.mod_one]

set_option maxRecDepth 20000 in
set_option maxHeartbeats 2000000 in
/-- A path is read as it was told. -/
theorem read_ok {w : World} {b : Nat} {xs : List (List UInt8)} {rest : List UInt8} (hp : Pt.check xs = 0) (hf : Few xs) (hrest : rest.length ≤ 1000000000) (h : Rd w b (Pt.code xs ++ rest) 0) :
    Calls Tryz.prog 88 #[.pointer (some ⟨b, 0, none⟩)] w fun e w' => ∃ u, e = .returned u ∧ w'.ownsRow w.heap.size 9 1 u xs.length (cellsS xs) ∧ Rd w' b rest 0 ∧ But b w w' := by
  obtain ⟨i0, hi, hz0, hz1, hz2⟩ := info_parts info9
  have hbw := h.lt
  have hn := (Pt.check_zero hp).2.1
  have hlen : (Pt.code xs ++ rest).length ≤ maxLen := by
    have := hf.code
    rw [List.length_append]
    unfold maxLen
    omega
  have e0 : Pt.code xs ++ rest = Pk.enc xs.length ++ (flat xs ++ rest) := by unfold Pt.code flat; rw [List.append_assoc]
  rw [e0] at h hlen
  have hge := flat_ge xs
  have HM := fun W (hR : Rd W b (Pk.enc xs.length ++ (flat xs ++ rest)) 0) => many_ok hR hlen (by omega) 8 (by omega) (by rw [List.length_append]; omega)
  have hbx0 : (w.alloc (.cells #[.pointer (some ⟨b, 0, none⟩)] 25)).cell? ⟨w.heap.size, 0, none⟩ = some (.pointer (some ⟨b, 0, none⟩)) := by simp
  have HM0 := HM _ (h.new (.cells #[.pointer (some ⟨b, 0, none⟩)] 25))
  have hn0 : But b w (w.alloc (.cells #[.pointer (some ⟨b, 0, none⟩)] 25)) := (But.refl b w).new _
  have hsz0 : w.heap.size < (w.alloc (.cells #[.pointer (some ⟨b, 0, none⟩)] 25)).heap.size := by simp
  clear h hlen e0 hge HM
  generalize hm : xs.length = m at *
  go_enter Tryz.func88, Tryz.ntmps88
  go_wp2_with (go_at_call 29; refine HM0.mono ?_)
  rintro e w1 ⟨rfl, hr1, hb1⟩
  have hbx1 := hb1.cell hbx0 (show w.heap.size ≠ b by omega)
  have hsz1 := hb1.size
  go_wp2_with (refine wpList_make_full _ rfl _ _ 65 rfl w.heap.size 9 i0 (.string ⟨#[]⟩) 1 Tryz.underlying65 hi hz0 hz1 _ _ _ _ m rfl rfl rfl rfl (by rw [hz2]; omega) (by unfold maxLen; omega) (by omega) ?_)
  intro w2 hown2 hg2
  have hmk : (madeCells #[Value.string ⟨#[]⟩] m).toList = cellsS (List.replicate m []) := made_empty m
  rw [hmk] at hown2
  have hown3 : w2.ownsRow w.heap.size 9 1 (.slice (some ⟨w1.heap.size, 0, none⟩) m m) (List.replicate m ([] : List UInt8)).length (cellsS (List.replicate m [])) := by rw [List.length_replicate]; exact hown2
  have hbu2 : But b w1 w2 := (But.refl b w1).grown hg2 (fun k hk => by cases hk)
  have hbx2 := hbu2.cell hbx1 (show w.heap.size ≠ b by omega)
  have hr2 := hr1.grown hg2 (by simp)
  have HE := each_read (xs := xs) hf hrest hown3 (by rw [List.length_replicate, hm]) hbw hbx2 (show w.heap.size ≠ b by omega) hr2
  have hB2 : But b w w2 := (hn0.trans hb1).trans hbu2
  clear hown2 hown3 hmk hbx1 hr1 hg2 hbu2 hbx2 hr2 hb1 hbx0 HM0 hn0
  go_wp2_with (go_at_call 84; refine HE.mono ?_)
  rintro e w3 ⟨u, rfl, hu, hr3, hb3⟩
  have hs3 := strsAt_own hu
  have HC := check_any u xs w3 (by omega) hs3
  rw [hp] at HC
  clear HE
  go_wp2_with (go_at_call 95; (refine HC.mono ?_); rintro e w4 ⟨rfl, hb4⟩)
  go_ret
  exact ⟨_, rfl, (by rw [hm] at hu; exact own_base (own_on hu hb4) hB2.size), hr3.on hb4, (hB2.trans hb3).trans (But.of hb4)⟩

end Go.Proofs.YtghkjbekjkejpaaGreat.U
