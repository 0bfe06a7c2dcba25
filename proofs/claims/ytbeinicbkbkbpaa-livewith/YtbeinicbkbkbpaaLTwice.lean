/- The walk of the statement LiveTwice. -/
import Derived.Test.YtbeinicbkbkbpaaLUndone
import Derived.Test.YtbeinicbkbkbpaaTPut
namespace Go.Proofs.Ytbeinicbkbkbpaa.O
open Go.RowKit

theorem raised_cases (u : List U) (d : D) : (T.raised u d).2 ≠ 0 ∨ (Dt.right d.1 d.2 = true ∧ Ct.get u d < 64 ∧ T.raised u d = ((d, Ct.get u d + 1), 0)) := by
  unfold T.raised
  split
  · rename_i h
    split
    · exact .inl (by simp)
    · exact .inr ⟨h, by omega, rfl⟩
  · exact .inl (by simp)
theorem put_raised {u : List U} (h : Ct.Std u) {d : D} (hd : Dt.right d.1 d.2 = true) (hl : Ct.get u d < 64) (x : D) : Ct.get (Ct.put u (d, Ct.get u d + 1)) x = if d = x then Ct.get u d + 1 else Ct.get u x := by
  have hr := Ct.get_range h d
  have hok : Ct.ok ((d, Ct.get u d + 1) : U) = true := Ct.ok_iff.2 ⟨hd, by simp only; omega, by simp only; omega⟩
  rw [Ct.get_put h]
  by_cases e : d = x
  · subst e
    rw [if_pos ⟨hok, rfl⟩, if_pos rfl]
    simp only
    omega
  · rw [if_neg (fun q => e q.2), if_neg e]
theorem twice_seen {u : List U} (h : Ct.Std u) {d : D} (hd : Dt.right d.1 d.2 = true) (h1 : Ct.get u d < 64) (h2 : Ct.get (Ct.put u (d, Ct.get u d + 1)) d < 64) (x : D) : seenD (Ct.put (Ct.put u (d, Ct.get u d + 1)) (d, Ct.get (Ct.put u (d, Ct.get u d + 1)) d + 1)) x = seenD u x := by
  unfold seenD
  rw [put_raised (Ct.put_std h _) hd h2, put_raised h hd h1, put_raised h hd h1]
  by_cases e : d = x
  · subst e
    rw [if_pos rfl, if_pos rfl, T.seenZ_not, T.seenZ_not]
    simp
  · rw [if_neg e, if_neg e]

set_option maxRecDepth 20000 in
set_option maxHeartbeats 4000000 in
theorem liveTwice_walk (v : Value) (ts : List Tx.Txn) (vu : Value) (u : List U) (d : D) (w : World) (hw : ∀ t ∈ ts, txWide t) (hv : txsIn w v ts) (hu : T.cntsIn w vu u) :
    Calls Try.prog 5 #[v, vu, dV d] w fun e w' => e = .returned (.bool true) ∧ Below w.heap.size w w' := by
  obtain ⟨W0, hW0⟩ : ∃ W0, W0 = w.alloc (.cells #[.int .i64 d.1, .int .i64 d.2] 44) := ⟨_, rfl⟩
  have B0 : Below w.heap.size w W0 := by rw [hW0]; exact below_new _ _
  have D0 : DAt W0 w.heap.size d := by rw [hW0]; exact DAt.new w d
  have HG := good_any v vu ts u W0 hw (hv.on B0) (hu.on B0)
  cases hg : good13 ts u with
  | false =>
    rw [hg] at HG
    obtain ⟨ao, cap, rfl⟩ := txs_slice hv
    obtain ⟨uo, uc, rfl⟩ := cnts_slice hu
    clear hv hu hw hg
    generalize ts.length = n at *
    generalize u.length = m at *
    go_enter Try.func5, Try.ntmps5
    go_wp2_with (first
      | (go_at_call 8; rw [← hW0]; refine HG.mono ?_; rintro e w1 ⟨rfl, hb1⟩)
      | (go_at_call 10; refine (awake_any _).mono ?_; rintro e w2 ⟨rfl, hb2⟩))
    go_ret
    exact ⟨rfl, bchain B0 (bchain hb1 hb2)⟩
  | true =>
    rw [hg] at HG
    obtain ⟨⟨h20, hr, hok⟩, h100, hstd⟩ := good13_parts hg
    have HR1 := fun W (hb : Below w.heap.size w W) => T.raise_any vu u d W (hu.on hb) (by omega) hstd
    rcases raised_cases u d with hne | ⟨hd, h64, he⟩
    · generalize T.raised u d = r at *
      obtain ⟨⟨⟨r0, r1⟩, r2⟩, re⟩ := r
      have hne : re ≠ 0 := hne
      have hneb : (re != 0) = true := by simpa using hne
      obtain ⟨ao, cap, rfl⟩ := txs_slice hv
      obtain ⟨uo, uc, rfl⟩ := cnts_slice hu
      clear hv hu hw hg h20 hr hok h100 hstd hne
      generalize ts.length = n at *
      generalize u.length = m at *
      go_enter Try.func5, Try.ntmps5
      go_wp2_with (first
        | (go_at_call 8; rw [← hW0]; refine HG.mono ?_; rintro e w1 ⟨rfl, hb1⟩; obtain ⟨d0, d1⟩ := D0.on hb1)
        | (go_at_call 23; refine (HR1 _ (bchain B0 hb1)).mono ?_; rintro e w2 ⟨rfl, hb2⟩)
        | (go_at_call 10; refine (awake_any _).mono ?_; rintro e w3 ⟨rfl, hb3⟩))
      go_ret
      exact ⟨rfl, bchain B0 (bchain hb1 (bchain hb2 (bchain (below_new _ _) hb3)))⟩
    · rw [he] at HR1
      have hst1 := Ct.put_std hstd ((d, Ct.get u d + 1) : U)
      have hl1 := Ct.put_len u ((d, Ct.get u d + 1) : U)
      have HP1 : ∀ W, Below w.heap.size w W → Calls Try.prog 24 #[vu, T.uV (d, Ct.get u d + 1)] W fun e w' => ∃ r, e = .returned r ∧ T.cntsIn w' r (Ct.put u (d, Ct.get u d + 1)) ∧ Below W.heap.size W w' := fun W hb =>
        (T.put_any vu u (d, Ct.get u d + 1) W (hu.on hb) (by omega) hstd).mono fun _ _ ⟨r, h1, h2, h3⟩ => ⟨r, h1, T.cntsIn_own h2, h3⟩
      have hsee := fun h2 x => twice_seen hstd hd h64 h2 x
      have HX : Hid (AllC 11 w v vu (Lv.all ts (seenD u))) := allC hv hu (by omega) hok (by omega) hstd
      have HY : Hid (∀ r W u', Below w.heap.size w W → T.cntsIn W r u' → u'.length ≤ 200 → Ct.Std u' → AllC 11 W v r (Lv.all ts (seenD u'))) := fun r W u' hb h h9 h10 =>
        allC (hv.on hb) h (by omega) hok (by omega) h10
      generalize Ct.put u (d, Ct.get u d + 1) = u1 at *
      have HR2 : ∀ r W, T.cntsIn W r u1 → Calls Try.prog 23 #[r, dV d] W fun e w' => e = .returned (.tuple #[T.uV (T.raised u1 d).1, .int .i64 (T.raised u1 d).2]) ∧ Below W.heap.size W w' := fun r W h => T.raise_any r u1 d W h (by omega) hst1
      rcases raised_cases u1 d with hne | ⟨_, h64', he'⟩
      · generalize T.raised u1 d = r at *
        obtain ⟨⟨⟨r0, r1⟩, r2⟩, re⟩ := r
        have hne : re ≠ 0 := hne
        have hneb : (re != 0) = true := by simpa using hne
        obtain ⟨ao, cap, rfl⟩ := txs_slice hv
        obtain ⟨uo, uc, rfl⟩ := cnts_slice hu
        clear hv hu hw hg h20 hr hok h100 hstd hne HX HY hsee hst1 hl1 he
        generalize Ct.get u d = z at *
        generalize ts.length = n at *
        generalize u.length = m at *
        go_enter Try.func5, Try.ntmps5
        go_wp2_with (first
          | (go_at_call 8; rw [← hW0]; refine HG.mono ?_; rintro e w1 ⟨rfl, hb1⟩; obtain ⟨d0, d1⟩ := D0.on hb1)
          | (go_at_call 23; with_reducible (refine (HR1 _ (bchain B0 hb1)).mono ?_); rintro e w2 ⟨rfl, hb2⟩; have k2 := bchain hb1 (bchain hb2 (below_new w2 (.cells #[.int .i64 d.1, .int .i64 d.2, .int .i64 (z + 1)] 59))))
          | (go_at_call 24; refine (HP1 _ (bchain B0 k2)).mono ?_; rintro e w3 ⟨r3, rfl, h3, hb3⟩; obtain ⟨d0, d1⟩ := D0.on (bchain k2 hb3))
          | (go_at_call 23; refine (HR2 _ _ h3).mono ?_; rintro e w4 ⟨rfl, hb4⟩)
          | (go_at_call 10; refine (awake_any _).mono ?_; rintro e w5 ⟨rfl, hb5⟩))
        go_ret
        exact ⟨rfl, bchain B0 (bchain k2 (bchain hb3 (bchain hb4 (bchain (below_new _ _) hb5))))⟩
      · rw [he'] at HR2
        have hst2 := Ct.put_std hst1 ((d, Ct.get u1 d + 1) : U)
        have hl2 := Ct.put_len u1 ((d, Ct.get u1 d + 1) : U)
        have HP2 : ∀ r W, T.cntsIn W r u1 → Calls Try.prog 24 #[r, T.uV (d, Ct.get u1 d + 1)] W fun e w' => ∃ r, e = .returned r ∧ T.cntsIn w' r (Ct.put u1 (d, Ct.get u1 d + 1)) ∧ Below W.heap.size W w' := fun r W h =>
          (T.put_any r u1 (d, Ct.get u1 d + 1) W h (by omega) hst1).mono fun _ _ ⟨r, h1, h2, h3⟩ => ⟨r, h1, T.cntsIn_own h2, h3⟩
        have HY2 : Hid (∀ r W, Below w.heap.size w W → T.cntsIn W r (Ct.put u1 (d, Ct.get u1 d + 1)) → AllC 11 W v r (Lv.all ts (seenD u))) := fun r W hb h => by
          have h1 := HY.out r W _ hb h (by omega) hst2
          rw [Lv.all_alike ts (hsee h64')] at h1
          exact h1
        generalize Ct.put u1 (d, Ct.get u1 d + 1) = u2 at *
        generalize Lv.all ts (seenD u) = its at *
        obtain ⟨ao, cap, rfl⟩ := txs_slice hv
        obtain ⟨uo, uc, rfl⟩ := cnts_slice hu
        clear hv hu hw hg h20 hr hok h100 hstd HY hsee hst1 hl1 he he' hst2 hl2
        generalize Ct.get u d = z at *
        generalize Ct.get u1 d = z1 at *
        generalize ts.length = n at *
        generalize u.length = m at *
        go_enter Try.func5, Try.ntmps5
        go_wp2_with (first
          | (go_at_call 8; rw [← hW0]; refine HG.mono ?_; rintro e w1 ⟨rfl, hb1⟩; obtain ⟨d0, d1⟩ := D0.on hb1)
          | (go_at_call 23; with_reducible (refine (HR1 _ (bchain B0 hb1)).mono ?_); rintro e w2 ⟨rfl, hb2⟩; have k2 := bchain hb1 (bchain hb2 (below_new w2 (.cells #[.int .i64 d.1, .int .i64 d.2, .int .i64 (z + 1)] 59))))
          | (go_at_call 24; refine (HP2 _ _ h3').mono ?_; rintro e w5 ⟨r5, rfl, h5, hb5⟩; have k5 := bchain k2 (bchain hb3 (bchain k4 hb5)); have HY3 := HY2.out _ _ (bchain B0 k5) h5 _ (Below.refl _ _))
          | (go_at_call 24; refine (HP1 _ (bchain B0 k2)).mono ?_; rintro e w3 ⟨r3, rfl, h3, hb3⟩; obtain ⟨d0, d1⟩ := D0.on (bchain k2 hb3))
          | (go_at_call 23; refine (HR2 _ _ h3).mono ?_; rintro e w4 ⟨rfl, hb4⟩; have k4 := bchain hb4 (below_new w4 (.cells #[.int .i64 d.1, .int .i64 d.2, .int .i64 (z1 + 1)] 59)); have h3' := h3.on k4)
          | (go_at_call 11; refine (HX.out _ (bchain B0 (bchain k5 hb6))).mono ?_; rintro e w7 ⟨ry, ys, rfl, hy, hye, hys, hyn, hb7⟩)
          | (go_at_call 11; with_reducible (refine HY3.mono ?_); rintro e w6 ⟨rx, xs, rfl, hx, hxe, hxs, hxn, hb6⟩)
          | (go_at_call 21; refine (liveSame_any _ _ xs ys _ (hx.on hb7) hy hxn hxs (hxe.trans hye.symm)).mono ?_; rintro e w8 ⟨rfl, hb8⟩)
          | (go_at_call 10; refine (awake_any _).mono ?_; rintro e w9 ⟨rfl, hb9⟩))
        go_ret
        exact ⟨rfl, bchain B0 (bchain k5 (bchain hb6 (bchain hb7 (bchain hb8 hb9))))⟩
end Go.Proofs.Ytbeinicbkbkbpaa.O
