/- The walk of readOps over a reader whose text begins with the bytes of operations that may be, or are gone. -/
import Derived.Test.YtghkjbekjkejpaaGreatTxnOwn
import Derived.Test.YtghkjbekjkejpaaGreatTxnLens
import Derived.Test.YtghkjbekjkejpaaGreatReadOp
namespace Go.Proofs.YtghkjbekjkejpaaGreat.O
open Go.RowKit

/-- One that may be, or is gone, is read as it was told. -/
theorem read_may {w : World} {b : Nat} {rest : List UInt8} (o : Os.Op) (hc : Os.check o = 0 ∨ Os.gone o = true) (hz : rest.length ≤ 100000000) (h : Rd w b (Os.code o ++ rest) 0) :
    Calls Tryz.prog 66 #[.pointer (some ⟨b, 0, none⟩)] w fun e w' => ∃ x : OE, e = .returned (oV x.1 x.2.1 x.2.2) ∧ x.1 = o ∧ OIn w' w.heap.size x ∧ Rd w' b rest 0 ∧ But b w w' := by
  obtain ⟨k, p, vk, vn, vs, n, l⟩ := o
  have fin : (Calls Tryz.prog 66 #[.pointer (some ⟨b, 0, none⟩)] w fun e w' => ∃ pv sv, e = .returned (opV k pv vk vn vs n sv) ∧ w'.ownsRow w.heap.size 9 1 pv p.length (U.cellsS p) ∧ w'.ownsRow w.heap.size 94 3 sv l.length (ucells l) ∧ Rd w' b rest 0 ∧ But b w w') →
      Calls Tryz.prog 66 #[.pointer (some ⟨b, 0, none⟩)] w fun e w' => ∃ x : OE, e = .returned (oV x.1 x.2.1 x.2.2) ∧ x.1 = ⟨k, p, vk, vn, vs, n, l⟩ ∧ OIn w' w.heap.size x ∧ Rd w' b rest 0 ∧ But b w w' := fun q =>
    q.mono fun e w' ⟨pv, sv, h1, h2, h3, h4, h5⟩ => ⟨(⟨k, p, vk, vn, vs, n, l⟩, pv, sv), h1, rfl, ⟨h2, h3⟩, h4, h5⟩
  refine fin ?_
  clear fin
  rcases hc with hc | hc
  · obtain ⟨h1, h2, h3, h4, h5, h6, h7, h8⟩ := Os.check_zero hc
    dsimp only at h1 h2 h3 h4 h5 h6 h7 h8
    have hk : k = 1 ∨ k = 2 ∨ k = 3 ∨ k = 4 ∨ k = 5 := by omega
    have hN : k ≠ 3 → n = 0 := fun e => by
      unfold Os.ra at h5
      rw [if_neg (by show ¬ Os.ha k = true; unfold Os.ha; simp [e])] at h5
      exact of_decide_eq_true h5
    have hV : Os.hv k = false → vk = 0 ∧ vn = 0 ∧ vs = [] := fun e => by
      unfold Os.rv at h4
      rw [if_neg (by show ¬ Os.hv k = true; rw [e]; decide)] at h4
      exact of_decide_eq_true h4
    have hL : Os.hs k = false → l = [] := fun e => by
      rcases h6 with h6 | h6
      · rw [e] at h6; cases h6
      · exact h6
    rcases hk with rfl | rfl | rfl | rfl | rfl
    · obtain rfl := hN (by decide)
      exact read_1 vk vn vs l p rest hc hz h
    · obtain rfl := hN (by decide)
      obtain rfl := hL (by decide)
      exact read_2 vk vn vs p rest hc hz h
    · obtain ⟨rfl, rfl, rfl⟩ := hV (by decide)
      obtain rfl := hL (by decide)
      exact read_3 n p rest hc hz h
    · obtain rfl := hN (by decide)
      exact read_4 vk vn vs l p rest hc hz h
    · obtain rfl := hN (by decide)
      obtain ⟨rfl, rfl, rfl⟩ := hV (by decide)
      exact read_5 l p rest hc hz h
  · have h0 := Os.gone_is hc
    obtain ⟨rfl, rfl, rfl, rfl, rfl, rfl, rfl⟩ : k = 0 ∧ p = [] ∧ vk = 0 ∧ vn = 0 ∧ vs = [] ∧ n = 0 ∧ l = [] := by simpa using h0
    exact read_gone rest hz h
theorem OIn.map {w w' : World} {B B' : Nat} {x : OE} (h : OIn w B x) (f : ∀ {e s n v xs}, e ≠ 70 → w.ownsRow B e s v n xs → w'.ownsRow B' e s v n xs) : OIn w' B' x := ⟨f (by decide) h.1, f (by decide) h.2⟩
theorem flat_drop {α : Type} (f : α → List UInt8) {l : List α} {k : Nat} (h : k < l.length) : (l.drop k).flatMap f = f l[k] ++ (l.drop (k + 1)).flatMap f := by
  rw [List.drop_eq_getElem_cons h, List.flatMap_cons]
theorem flat_drop_len {α : Type} {f : α → List UInt8} {B : Nat} {l : List α} (h : ∀ x ∈ l, (f x).length ≤ B) (k : Nat) : ((l.drop k).flatMap f).length ≤ l.length * B := by
  have h1 := flat_len (l := l.drop k) fun y hy => h y (List.mem_of_mem_drop hy)
  have h2 : (l.drop k).length * B ≤ l.length * B := Nat.mul_le_mul_right _ (by rw [List.length_drop]; omega)
  omega
theorem flat_ge {α : Type} {f : α → List UInt8} (h : ∀ x, 1 ≤ (f x).length) : ∀ l : List α, l.length ≤ (l.flatMap f).length
  | [] => by simp
  | x :: l => by
    have h1 := flat_ge h l
    have h2 := h x
    rw [List.flatMap_cons, List.length_append, List.length_cons]
    omega
theorem ocode_pos (o : Os.Op) : 1 ≤ (Os.code o).length := by
  have h := Pk.enc_pos o.k.toNat
  unfold Os.code
  split
  · exact h
  · rw [List.length_append]; omega
/-- So many were read into a row of one's own. -/
def opsTo (w : World) (B : Nat) (v : Value) (os : List Os.Op) (k : Nat) : Prop := ∃ xs : List OE, xs.map (·.1) = os.take k ∧ xs.length = k ∧ w.ownsRow B 70 7 v xs.length (ocells xs) ∧ ∀ x ∈ xs, OIn w B x
theorem opsTo_all {w : World} {B : Nat} {v : Value} {os : List Os.Op} {k : Nat} (h : opsTo w B v os k) (hk : ¬ k < os.length) : opsOwn w B v os := by
  obtain ⟨xs, h1, _, h2, h3⟩ := h
  rw [List.take_of_length_le (by omega)] at h1
  exact ⟨xs, h1, h2, h3⟩

set_option maxRecDepth 20000 in
set_option maxHeartbeats 4000000 in
/-- Operations are read as they were told. -/
theorem readOps_ok {w : World} {b : Nat} {os : List Os.Op} {rest : List UInt8} (h : Rd w b (Pk.enc os.length ++ (os.flatMap Os.code ++ rest)) 0) (hrest : rest.length ≤ 50000000) (hn : os.length ≤ 16) (hm : ∀ o ∈ os, Os.check o = 0 ∨ Os.gone o = true) :
    Calls Tryz.prog 39 #[.pointer (some ⟨b, 0, none⟩)] w fun e w' => ∃ sl, e = .returned sl ∧ opsOwn w' w.heap.size sl os ∧ Rd w' b rest 0 ∧ But b w w' := by
  have hbw := h.lt
  have hen := Pk.enc_len9 (n := os.length) (by omega)
  have hfl := fun k => flat_drop_len (l := os) (f := Os.code) (B := 20000) (fun o ho => opcode_len (hm o ho)) k
  have hmul : os.length * 20000 ≤ 16 * 20000 := Nat.mul_le_mul_right _ hn
  have hge := flat_ge ocode_pos os
  have hlen : (Pk.enc os.length ++ (os.flatMap Os.code ++ rest)).length ≤ maxLen := by
    have h0 := hfl 0
    rw [List.drop_zero] at h0
    simp only [List.length_append]
    unfold maxLen
    omega
  have HM := many_ok h hlen (by omega) 16 (by omega) (by rw [List.length_append]; omega)
  obtain ⟨n, hn0⟩ : ∃ n, n = os.length := ⟨_, rfl⟩
  have HN : Hid (n = os.length) := hn0
  have HLen : Hid (∀ k, ((os.drop k).flatMap Os.code ++ rest).length ≤ 60000000) := fun k => by
    have h0 := hfl k
    rw [List.length_append]
    omega
  have HR : Hid (∀ o ∈ os, Os.check o = 0 ∨ Os.gone o = true) := hm
  have e0 : os.flatMap Os.code ++ rest = (os.drop 0).flatMap Os.code ++ rest := by rw [List.drop_zero]
  rw [← hn0] at HM hn
  rw [e0] at HM
  clear h hlen hge hm hn0 e0 hen hrest hfl hmul
  go_enter Tryz.func39, Tryz.ntmps39
  go_wp2_with fail
  refine HM.mono ?_
  rintro e w1 ⟨rfl, hr1, hb1⟩
  clear HM
  go_wp2
  go_loopw [3, 6] (fun sl i wr => ∃ k : Nat, k ≤ n ∧ i = .int .i64 k ∧ Hid (opsTo wr w.heap.size sl os k) ∧ Hid (Rd wr b ((os.drop k).flatMap Os.code ++ rest) 0) ∧ But b w wr) (fun _ i _ => n - (intOf i).toNat)
  case atStart => exact ⟨0, by omega, rfl, ⟨[], rfl, rfl, World.ownsRow_nil _ _ _ _, fun x h => by simp at h⟩, hr1, hb1⟩
  case round =>
    clear hr1 hb1
    obtain ⟨k, hk, rfl, HY, HRd, hbw1⟩ := hrel
    have hsr := hbw1.size
    by_cases hlt : k < n
    · have hkx : k < os.length := by have := HN.out; omega
      have hR := HRd.out
      have hl1 := HLen.out (k + 1)
      rw [flat_drop Os.code hkx, List.append_assoc] at hR
      have HC := read_may os[k] (HR.out _ (List.getElem_mem hkx)) (by omega) hR
      have HT : Hid (os.take (k + 1) = os.take k ++ [os[k]]) := by have e := List.take_succ_eq_append_getElem hkx; exact e
      obtain ⟨xs, hx1, hx2, hx3, hx4⟩ := HY.out
      have HX1 : Hid (xs.map (·.1) = os.take k) := hx1
      have HX2 : Hid (xs.length = k) := hx2
      have HX4 : Hid (∀ x ∈ xs, OIn wr w.heap.size x) := hx4
      have HX3 : Hid (wr.ownsRow w.heap.size 70 7 _ xs.length (ocells xs)) := hx3
      clear hR hl1 HRd hx1 hx2 hx3 hx4 HY
      generalize hm3 : (os.drop (k + 1)).flatMap Os.code ++ rest = m3 at *
      have H3 : Hid ((os.drop (k + 1)).flatMap Os.code ++ rest = m3) := hm3
      clear hm3
      generalize os[k] = d at *
      go_wp2_with fail
      refine HC.mono ?_
      rintro e w2 ⟨y, rfl, hyd, hy, hr2, hb2⟩
      have HYD : Hid (y.1 = d) := hyd
      clear hyd
      have hs2 := hb2.size
      have hY2 := own_but HX3.out hb2 hbw
      have hin2 : ∀ x ∈ xs, OIn w2 w.heap.size x := fun x hx => (HX4.out x hx).map fun _ k => own_but k hb2 hbw
      have hy2 : OIn w2 w.heap.size y := hy.map fun _ k => own_base k hsr
      have b3 := below_new w2 (oO y.1 y.2.1 y.2.2)
      have hY3 := own_on hY2 b3
      have hin3 : ∀ x ∈ xs, OIn (w2.alloc (oO y.1 y.2.1 y.2.2)) w.heap.size x := fun x hx => (hin2 x hx).map fun _ k => own_on k b3
      have hy3 : OIn (w2.alloc (oO y.1 y.2.1 y.2.2)) w.heap.size y := hy2.map fun _ k => own_on k b3
      have hr3 := hr2.on b3
      have hB3 := (hbw1.trans hb2).trans (But.of (b := b) b3)
      have hv3 := new_op w2 y
      have hone : ∀ u ∈ ocells [y], u.oneCell' = true := ocells_one (w := w2) (B := w.heap.size) (fun x hx => by rw [List.mem_singleton.1 hx]; exact hy2)
      have HY3 : Hid ((w2.alloc (oO y.1 y.2.1 y.2.2)).ownsRow w.heap.size 70 7 _ xs.length (ocells xs)) := hY3
      have hsz3 : w.heap.size ≤ (w2.alloc (oO y.1 y.2.1 y.2.2)).heap.size := hB3.size
      have hn6 : xs.length + 1 ≤ 1000000 := by have := HX2.out; omega
      have HIN : Hid (∀ x ∈ xs ++ [y], OIn (w2.alloc (oO y.1 y.2.1 y.2.2)) w.heap.size x) := fun x hx => by
        rcases List.mem_append.1 hx with hx | hx
        · exact hin3 x hx
        · rw [List.mem_singleton.1 hx]; exact hy3
      clear hY2 hin2 hy2 hy b3 hY3 hin3 hy3 hr2 HC hb2 HX3 HX4 hbw1 hsr
      go_wp2_with (at_builtin
                   refine append_op rfl _ _ rfl w.heap.size hsz3 _ xs rfl HY3.out _ y rfl hv3 hone hn6 ?_
                   intro v' w6 hown' hg6)
      go_roundw
      case rel =>
        refine ⟨k + 1, by omega, by go_num, ⟨xs ++ [y], ?_, ?_, hown', ?_⟩, ?_, ?_⟩
        · rw [HT.out, List.map_append, HX1.out, List.map_cons, List.map_nil, HYD.out]
        · rw [List.length_append, HX2.out]; rfl
        · exact fun x hx => (HIN.out x hx).map fun hne k => own_grown_other k hg6 (own_types k HY3.out hne)
        · rw [H3.out]
          exact hr3.grown hg6 (fun e => by have := (HY3.out.lt b e.symm).1; omega)
        · exact hB3.grown hg6 (fun g eg => (HY3.out.lt g eg).1)
      case measure => simp [intOf]; omega
    · obtain rfl : k = n := by omega
      have hY := opsTo_all HY.out (by have := HN.out; omega)
      have hR := HRd.out
      rw [List.drop_of_length_le (by have := HN.out; omega), List.flatMap_nil, List.nil_append] at hR
      clear HY HRd
      go_wp2
      go_ret
      exact ⟨_, rfl, hY, hR, hbw1⟩
end Go.Proofs.YtghkjbekjkejpaaGreat.O
