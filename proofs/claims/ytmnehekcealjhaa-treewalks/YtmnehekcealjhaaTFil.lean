/- The walks of slices.IndexFunc and DeleteFunc over transactions, for the closure of counting. -/
import Derived.Test.YtmnehekcealjhaaOpWrapAll
namespace Go.Proofs.Ytmnehekcealjhaa.O
open Go.RowKit

/-- What the closure answers to one of these, whatever was laid since. -/
def tAsks (B : Nat) (w : World) (c0 : Value) (l : List TE) (p : TE → Bool) : Prop := ∀ (W : World) (x : TE), x ∈ l → Below B w W → Calls Try.prog 37 #[.agg (tcell x).toArray, c0] W fun e w' => e = .returned (.bool (p x)) ∧ Below W.heap.size W w'

set_option maxRecDepth 20000 in
set_option maxHeartbeats 1000000 in
theorem tindex_any (v : Value) (l : List TE) (w0 w : World) (B : Nat) (c0 : Value) (p : TE → Bool) (hb0 : Below B w0 w) (hB : B ≤ w.heap.size) (hv : rowsIn w tcell v l) (hn : l.length ≤ 1000000) (hp : tAsks B w0 c0 l p) :
    Calls Try.prog 51 #[v, .func (.func 37) #[] #[c0]] w fun e w' => e = .returned (.int .i64 (idxF p l)) ∧ Below w.heap.size w w' := by
  have HV : Hid (rowsIn w tcell v l) := hv
  obtain ⟨ao, c, rfl, _, _, _⟩ := hv
  have HP : Hid (tAsks B w0 c0 l p) := hp
  clear hp
  obtain ⟨n, hn0⟩ : ∃ n, n = l.length := ⟨_, rfl⟩
  have HN : Hid (n = l.length) := hn0
  rw [← hn0] at HV hn ⊢
  clear hn0
  go_enter Try.func51, Try.ntmps51
  go_wp2
  go_loopw [5, 8] (fun _ i wr => ∃ k : Nat, k ≤ n ∧ i = .int .i64 k ∧ noneF p l k ∧ Below w.heap.size w wr) (fun _ i _ => n - (intOf i).toNat)
  case atStart => exact ⟨0, by omega, rfl, noneF_zero _ _, Below.refl _ w⟩
  case round =>
    obtain ⟨k, hk, rfl, hN, hbw⟩ := hrel
    by_cases hlt : k < n
    · have hkl : k < l.length := by rw [← HN.out]; exact hlt
      obtain ⟨ad, rfl, hA⟩ := HV.out.get (m := 6) (fun _ => rfl) (by omega) hkl
      have hA1 := fun j u (hu : (tcell l[k])[j]? = some u) => keep_cell hbw (hA j u hu)
      have HC := HP.out wr l[k] (List.getElem_mem hkl) (hb0.trans (hbw.mono hB))
      have hcs : (tcell l[k]).length = 6 := rfl
      clear hA
      cases hq : p l[k] with
      | true =>
        have HI : Hid (idxF p l = (k : Int)) := by have h := idxF_hit hN hkl hq; exact h
        rw [hq] at HC
        clear hN hq
        generalize tcell l[k] = cs at *
        go_wp2_with (first | (go_at_call 37; refine HC.mono ?_; rintro e w1 ⟨rfl, hb1⟩) | (refine load_row rfl 48 _ rfl _ rfl cs hA1 _ Try.underlying48 rfl (tsize48 hcs) ?_))
        go_ret
        exact ⟨ret_int HI.out.symm, bchain hbw hb1⟩
      | false =>
        have HN1 := noneF_step hN hkl hq
        rw [hq] at HC
        clear hN hq
        generalize tcell l[k] = cs at *
        go_wp2_with (first | (go_at_call 37; refine HC.mono ?_; rintro e w1 ⟨rfl, hb1⟩) | (refine load_row rfl 48 _ rfl _ rfl cs hA1 _ Try.underlying48 rfl (tsize48 hcs) ?_))
        go_roundw
        case rel => exact ⟨k + 1, by omega, by go_num, HN1, bchain hbw hb1⟩
        case measure => simp [intOf]; omega
    · obtain rfl : k = n := by omega
      have HI : Hid (idxF p l = -1) := by
        have h := idxF_miss (p := p) (l := l) (by rw [← HN.out]; exact hN)
        exact h
      go_wp2
      go_ret
      exact ⟨ret_int HI.out.symm, hbw⟩

set_option maxRecDepth 20000 in
set_option maxHeartbeats 2000000 in
theorem tdelete_any (g cap : Nat) (l : List TE) (B : Nat) (w0 w : World) (c0 : Value) (p : TE → Bool) (hb0 : Below B w0 w) (hO : OwnR w g tcell 6 l) (hone : ∀ x ∈ l, ∀ u ∈ tcell x, u.oneCell' = true) (hn : l.length ≤ 1000000) (hc : l.length ≤ cap) (hcm : cap ≤ maxLen) (hB : B ≤ g) (hp : tAsks B w0 c0 l fun x => !p x) :
    Calls Try.prog 35 #[.slice (some ⟨g, 0, none⟩) l.length cap, .func (.func 37) #[] #[c0]] w fun e w' => e = .returned (.slice (some ⟨g, 0, none⟩) (l.filter p).length cap) ∧ OwnR w' g tcell 6 (l.filter p) ∧ Below B w0 w' := by
  have hBw : B ≤ w.heap.size := Nat.le_trans hB (Nat.le_of_lt hO.1)
  have HI := tindex_any (.slice (some ⟨g, 0, none⟩) l.length cap) l w0 w B c0 (fun d => !p d) hb0 hBw (hO.rows (fun _ => rfl) hc) hn hp
  have HP : Hid (tAsks B w0 c0 l fun x => !p x) := hp
  have HONE : Hid (∀ x ∈ l, ∀ u ∈ tcell x, u.oneCell' = true) := hone
  clear hp hone
  have hcap : cap ≤ 9223372036854775807 := by unfold maxLen at hcm; omega
  rcases idxF_cases (fun d => !p d) l with ⟨e, hN⟩ | ⟨k, hk, e, hN, h', hp⟩
  · rw [e] at HI
    have hf := noneF_filter hN
    rw [hf]
    have HO : Hid (OwnR w g tcell 6 l) := hO
    clear hN hO hf e
    go_enter Try.func35, Try.ntmps35
    go_wp2_with (go_at_call 51; refine HI.mono ?_; rintro e w1 ⟨rfl, hb1⟩)
    go_ret
    exact ⟨rfl, HO.out.on hb1, hb0.trans (hb1.mono hBw)⟩
  · rw [e] at HI
    have hne1 : ((k : Int) == -1) = false := beq_eq_false_iff_ne.2 (by omega)
    have HK : Hid (KIn p l k (k + 1) l) := by have h := KIn.start hN hk hp; exact h
    have HO : Hid (OwnR w g tcell 6 l) := hO
    clear hN hO e hp
    obtain ⟨n, hn0⟩ : ∃ n, n = l.length := ⟨_, rfl⟩
    have HN : Hid (n = l.length) := hn0
    rw [← hn0] at hn hc hk HI ⊢
    clear hn0 h'
    go_enter Try.func35, Try.ntmps35
    go_wp2_with (go_at_call 51; refine HI.mono ?_; rintro e w1 ⟨rfl, hb1⟩)
    go_loopw [5, 6, 7] (fun a b _ wr => ∃ (i j : Nat) (cur : List TE), a = .int .i64 i ∧ b = .int .i64 j ∧ Hid (KIn p l i j cur) ∧ Hid (OwnR wr g tcell 6 cur) ∧ Below B w0 wr) (fun _ b _ _ => n - (intOf b).toNat)
    case atStart => exact ⟨k, k + 1, l, rfl, by go_num, HK, HO.out.on hb1, hb0.trans (hb1.mono hBw)⟩
    case round =>
      clear HK HO hb1 HI hne1
      obtain ⟨i, j, cur, rfl, rfl, HK, HO, hbw⟩ := hrel
      have hcl : cur.length = n := by rw [HN.out]; exact HK.out.1
      have hij := HK.out.2.1
      have hjn : j ≤ n := by rw [HN.out]; exact HK.out.2.2.1
      have hBr : B ≤ wr.heap.size := Nat.le_trans hB (Nat.le_of_lt HO.out.1)
      by_cases hlt : j < n
      · have hjd : j < l.length := by have := HN.out; omega
        obtain ⟨hj', hcj⟩ := HK.out.at hjd
        have hR := loads (HO.out.2 j hj').1
        have hic : i < cur.length := by omega
        have hth := (HO.out.2 i hic).2
        rw [hcj] at hR
        have HC := HP.out (wr.alloc (.cells (tcell l[j]).toArray 48)) l[j] (List.getElem_mem hjd) (hbw.alloc hBr _)
        dsimp only at HC
        have h1 := HONE.out l[j] (List.getElem_mem hjd)
        have hcs : (tcell l[j]).length = 6 := rfl
        cases hq : p l[j] with
        | true =>
          rw [hq] at HC
          have HF : Hid (∀ w2, OwnR w2 g tcell 6 cur → OwnR (w2.setCells g (i * 6) (tcell l[j])) g tcell 6 (cur.set i l[j])) := by
            have h := fun w2 (h2 : OwnR w2 g tcell 6 cur) => h2.set (fun _ => rfl) hic l[j]
            exact h
          have HK' : Hid (KIn p l (i + 1) (j + 1) (cur.set i l[j])) := by have h := HK.out.keep hjd hq; exact h
          clear HK hcj hq
          generalize cur.set i l[j] = cur' at *
          generalize tcell l[j] = cs at *
          go_wp2_with (first
            | (go_at_call 37; refine HC.mono ?_; rintro e w2 ⟨rfl, hb2⟩; have hO2 := (HO.out.on (below_new wr (.cells cs.toArray 48))).on hb2; have hth2 := (hO2.2 i hic).2)
            | (refine load_row rfl 48 _ rfl _ rfl cs hR _ Try.underlying48 rfl (tsize48 hcs) ?_)
            | (refine store_new rfl 48 _ _ rfl _ cs rfl rfl (tsize48 hcs) (by rw [hcs]; rfl) h1 ?_)
            | (refine load_row rfl 48 _ rfl _ rfl cs (new_cells wr cs 48) _ Try.underlying48 rfl (tsize48 hcs) ?_)
            | (refine load_row rfl 48 _ rfl _ rfl cs (fun j v hv => keep_cell hb2 (new_cells wr cs 48 j v hv)) _ Try.underlying48 rfl (tsize48 hcs) ?_)
            | (refine store_row rfl 48 _ _ rfl g (i * 6) cs rfl rfl (by rw [hcs]; exact hth2) (tsize48 hcs) h1 ?_))
          go_roundw
          case rel => exact ⟨i + 1, j + 1, cur', by go_num, by go_num, HK', HF.out _ hO2, below_setCells hB cs (i * 6) _ ((hbw.alloc hBr _).trans (hb2.mono (by simp; omega)))⟩
          case measure => simp [intOf]; omega
        | false =>
          rw [hq] at HC
          have HK' : Hid (KIn p l i (j + 1) cur) := by have h := HK.out.skip hjd hq; exact h
          clear HK hcj hq
          generalize tcell l[j] = cs at *
          go_wp2_with (first
            | (go_at_call 37; refine HC.mono ?_; rintro e w2 ⟨rfl, hb2⟩)
            | (refine load_row rfl 48 _ rfl _ rfl cs hR _ Try.underlying48 rfl (tsize48 hcs) ?_)
            | (refine store_new rfl 48 _ _ rfl _ cs rfl rfl (tsize48 hcs) (by rw [hcs]; rfl) h1 ?_)
            | (refine load_row rfl 48 _ rfl _ rfl cs (new_cells wr cs 48) _ Try.underlying48 rfl (tsize48 hcs) ?_))
          go_roundw
          case rel => exact ⟨i, j + 1, cur, rfl, by go_num, HK', (HO.out.on (below_new _ _)).on hb2, (hbw.alloc hBr _).trans (hb2.mono (by simp; omega))⟩
          case measure => simp [intOf]; omega
      · obtain rfl : j = n := by omega
        have hcl9 := tclears HO.out i j hij hcl
        have HE : Hid (i = (l.filter p).length ∧ cur.take i = l.filter p) := by
          have h1 := HK.out.len
          have h2 := HK.out.2.2.2.1
          rw [HN.out, List.take_length] at h1 h2
          exact (⟨h1, h2⟩ : i = (l.filter p).length ∧ cur.take i = l.filter p)
        have hin : i ≤ cap := by omega
        generalize (Builtin.zeroCells tzero (j - i)).toList = vs at *
        go_wp2
        go_ret
        refine ⟨by rw [← HE.out.1]; rfl, ?_, below_setCells hB vs (i * 6) _ hbw⟩
        rw [← HE.out.2]
        exact HO.out.clear (fun _ => rfl) i vs

end Go.Proofs.Ytmnehekcealjhaa.O
