/- The walks of the document's Join and Over. -/
import Derived.Test.YtpheljlnlbiieaaRefPut
namespace Go.Proofs.Ytpheljlnlbiieaa
open Go.RowKit Go.Shelf

set_option maxRecDepth 20000 in
set_option maxHeartbeats 1000000 in
theorem refJoin_any (va vb : Value) (a b : List U) (w : World) (ha : cntsIn w va a) (hb : cntsIn w vb b) (hn : a.length + b.length ≤ 900000) (hp : Ct.Std a) :
    Calls Try.prog 24 #[va, vb] w fun e w' => ∃ r, e = .returned r ∧ cntsIn w' r (Ct.joins a b) ∧ Below w.heap.size w w' := by
  have HA : Hid (cntsIn w va a) := ha
  have HB : Hid (cntsIn w vb b) := hb
  have HP : Hid (∀ k, Ct.Std (Ct.joins a (b.take k)) ∧ (Ct.joins a (b.take k)).length ≤ 900000) := by
    have h : ∀ k, Ct.Std (Ct.joins a (b.take k)) ∧ (Ct.joins a (b.take k)).length ≤ 900000 := fun k => by
      refine ⟨?_, ?_⟩
      · induction k with
        | zero => rw [Ct.joins_zero]; exact hp
        | succ k ih =>
          by_cases hk : k < b.length
          · rw [Ct.joins_step a b k hk]; exact Ct.put_std ih _
          · rw [List.take_of_length_le (by omega)]
            rw [List.take_of_length_le (by omega)] at ih
            exact ih
      · have := Ct.joins_len (b.take k) a
        simp at this
        omega
    exact h
  obtain ⟨bo, cb, rfl, _, _, h8⟩ := hb
  clear h8 ha hp
  obtain ⟨n, hn0⟩ : ∃ n, n = b.length := ⟨_, rfl⟩
  have HN : Hid (n = b.length) := hn0
  rw [← hn0] at hn HB ⊢
  clear hn0
  go_enter Try.func24, Try.ntmps24
  go_wp2
  go_loopw [5, 6] (fun out i wr => ∃ k : Nat, k ≤ n ∧ i = .int .i64 k ∧ Hid (cntsIn wr out (Ct.joins a (b.take k))) ∧ Below w.heap.size w wr) (fun _ i _ => n - (intOf i).toNat)
  case atStart => exact ⟨0, by omega, rfl, by have h := HA.out; rw [← Ct.joins_zero a b] at h; exact h, Below.refl _ _⟩
  case round =>
    obtain ⟨k, hk, rfl, HI, below⟩ := hrel
    by_cases hlt : k < n
    · have hkl : k < b.length := by have := HN.out; omega
      obtain ⟨bd, hao, hA⟩ : ∃ bd, bo = some bd ∧ CAt wr (bd.add (k * 3)) b[k] := by
        obtain ⟨_, _, e, _, _, hc⟩ := HB.out.on below
        obtain ⟨ad, e2, h⟩ := hc k hkl
        cases e
        exact ⟨ad, e2, h⟩
      subst hao
      obtain ⟨c0, c1, c2⟩ := hA
      have HC := refPut_any _ _ b[k] wr HI.out (HP.out k).2 (HP.out k).1
      rw [← Ct.joins_step a b k hkl] at HC
      have hi0 : (0 : Int) ≤ (k : Int) := by omega
      have hi1 : (k : Int) < (n : Int) := by omega
      generalize b[k] = x at *
      go_wp2_with (go_at_call 20; refine HC.mono ?_; rintro e w2 ⟨r, rfl, hr, hb2⟩)
      go_roundw
      case rel => exact ⟨k + 1, by omega, by go_num, hr, bchain below hb2⟩
      case measure => simp [intOf]; omega
    · obtain rfl : k = n := by omega
      have hE := HI.out
      rw [HN.out, List.take_length] at hE
      go_wp2
      go_ret
      exact ⟨_, rfl, hE, below⟩

/-- What is over, of the first ones. -/
def overTo (a b : List U) (k : Nat) : List U := Ct.over (a.take k) b
theorem overTo_zero (a b : List U) : overTo a b 0 = [] := by simp [overTo, Ct.over]
theorem overTo_step (a b : List U) (k : Nat) (h : k < a.length) : overTo a b (k + 1) = overTo a b k ++ (if Ct.get b (a[k]).1 < (a[k]).2 then [a[k]] else []) := by
  unfold overTo Ct.over
  rw [List.take_succ_eq_append_getElem h, List.filter_append]
  congr 1
  rw [List.filter_cons]
  simp
theorem overTo_all (a b : List U) : overTo a b a.length = Ct.over a b := by simp [overTo]
theorem overTo_len (a b : List U) (k : Nat) : (overTo a b k).length ≤ k := by
  unfold overTo Ct.over
  refine Nat.le_trans (List.length_filter_le _ _) ?_
  simp; omega

set_option maxRecDepth 20000 in
set_option maxHeartbeats 1000000 in
theorem refOver_any (va vb : Value) (a b : List U) (w : World) (ha : cntsIn w va a) (hb : cntsIn w vb b) (hn : a.length ≤ 900000) (hn' : b.length ≤ 900000) :
    Calls Try.prog 25 #[va, vb] w fun e w' => ∃ r, e = .returned r ∧ cntsIn w' r (Ct.over a b) ∧ Below w.heap.size w w' := by
  have HA : Hid (cntsIn w va a) := ha
  have HG := fun (d : D) W (hb' : Below w.heap.size w W) => refGet_any vb b d W (by omega) (hb.on hb')
  obtain ⟨ao, ca, rfl, _, _, h8⟩ := ha
  clear h8 hb hn'
  obtain ⟨n, hn0⟩ : ∃ n, n = a.length := ⟨_, rfl⟩
  have HN : Hid (n = a.length) := hn0
  have HE : Hid (overTo a b n = Ct.over a b) := by have h := overTo_all a b; rw [← hn0] at h; exact h
  rw [← hn0] at hn HA ⊢
  clear hn0
  go_enter Try.func25, Try.ntmps25
  go_wp2
  go_loopw [5, 6] (fun out i wr => ∃ k : Nat, k ≤ n ∧ i = .int .i64 k ∧ Hid (wr.ownsRow w.heap.size 26 3 out (overTo a b k).length (ucells (overTo a b k))) ∧ Below w.heap.size w wr) (fun _ i _ => n - (intOf i).toNat)
  case atStart => exact ⟨0, by omega, rfl, by rw [overTo_zero]; exact World.ownsRow_nil _ _ _ _, Below.refl _ _⟩
  case round =>
    obtain ⟨k, hk, rfl, HI, below⟩ := hrel
    by_cases hlt : k < n
    · have hkl : k < a.length := by have := HN.out; omega
      obtain ⟨ad, hao, hA⟩ : ∃ ad, ao = some ad ∧ CAt wr (ad.add (k * 3)) a[k] := by
        obtain ⟨_, _, e, _, _, hc⟩ := HA.out.on below
        obtain ⟨ad, e2, h⟩ := hc k hkl
        cases e
        exact ⟨ad, e2, h⟩
      subst hao
      obtain ⟨c0, c1, c2⟩ := hA
      have HC := fun W hb' => HG (a[k]).1 W hb'
      have HS := overTo_step a b k hkl
      have hB := below.size
      have own := HI.out
      have hlen := overTo_len a b k
      have hi0 : (0 : Int) ≤ (k : Int) := by omega
      have hi1 : (k : Int) < (n : Int) := by omega
      clear HG HI
      generalize Ct.get b (a[k]).1 = z at *
      generalize a[k] = x at *
      by_cases hz : z < x.2
      · rw [if_pos hz] at HS
        have HS' : Hid (overTo a b (k + 1) = overTo a b k ++ [x]) := HS
        clear HS
        generalize overTo a b k = acc at *
        go_wp2
        go_region_held3 (fun W => W.cell? (ad.add (k * 3)) = some (.int .i64 x.1.1) ∧ W.cell? ⟨(ad.add (k * 3)).block, (ad.add (k * 3)).off + 1, none⟩ = some (.int .i64 x.1.2) ∧ W.cell? ⟨(ad.add (k * 3)).block, (ad.add (k * 3)).off + 2, none⟩ = some (.int .i64 x.2) ∧ Below wr.heap.size wr W)
          (first | exact ⟨c0, c1, c2, (Below.refl _ _).drew⟩ | go_keep | (refine ⟨keep_cell hb ?_, keep_cell hb ?_, keep_cell hb ?_, bchain ?_ hb⟩ <;> go_keep))
          (first | (go_at_call 15; refine (HC _ (bchain below (Below.refl _ _).drew)).mono ?_; rintro e w3 ⟨rfl, hb⟩))
        have hbx : Below wr.heap.size wr w3 := bchain (Below.refl _ _).drew hb
        have c0 := keep_cell hbx c0
        have c1 := keep_cell hbx c1
        have c2 := keep_cell hbx c2
        have f7 : acc.length + [x].length ≤ 2000000 := by simp; omega
        have ownx := own_on (own_on own hbx) (below_new w3 (.cells #[.int .i64 x.1.1, .int .i64 x.1.2, .int .i64 x.2] 26))
        have hone := cntsIn_one w3 x
        have belowx : Below w.heap.size w (w3.alloc (.cells #[.int .i64 x.1.1, .int .i64 x.1.2, .int .i64 x.2] 26)) := below.trans ((bchain hbx (below_new _ _)).mono hB)
        go_wp2_with (at_builtin; refine append_cnts rfl _ _ rfl w.heap.size belowx.size _ acc rfl ownx _ [x] rfl hone f7 ?_; intro r3 w4 own3 below3)
        go_roundw
        case rel => exact ⟨k + 1, by omega, by go_num, by rw [HS'.out]; exact own3, belowx.trans below3⟩
        case measure => simp [intOf]; omega
      · rw [if_neg hz, List.append_nil] at HS
        have HS' : Hid (overTo a b (k + 1) = overTo a b k) := HS
        clear HS
        go_wp2
        go_region_held3 (fun W => W.cell? (ad.add (k * 3)) = some (.int .i64 x.1.1) ∧ W.cell? ⟨(ad.add (k * 3)).block, (ad.add (k * 3)).off + 1, none⟩ = some (.int .i64 x.1.2) ∧ W.cell? ⟨(ad.add (k * 3)).block, (ad.add (k * 3)).off + 2, none⟩ = some (.int .i64 x.2) ∧ Below wr.heap.size wr W)
          (first | exact ⟨c0, c1, c2, (Below.refl _ _).drew⟩ | go_keep | (refine ⟨keep_cell hb ?_, keep_cell hb ?_, keep_cell hb ?_, bchain ?_ hb⟩ <;> go_keep))
          (first | (go_at_call 15; refine (HC _ (bchain below (Below.refl _ _).drew)).mono ?_; rintro e w3 ⟨rfl, hb⟩))
        have hbx : Below wr.heap.size wr w3 := bchain (Below.refl _ _).drew hb
        go_wp2
        go_roundw
        case rel => exact ⟨k + 1, by omega, by go_num, by rw [HS'.out]; exact own_on own hbx, bchain below hbx⟩
        case measure => simp [intOf]; omega
    · obtain rfl : k = n := by omega
      have own := HI.out
      rw [HE.out] at own
      go_wp2
      go_ret
      exact ⟨_, rfl, cntsIn_own own, below⟩
end Go.Proofs.Ytpheljlnlbiieaa
