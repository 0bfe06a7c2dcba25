/- The walk of ReadList over a reader whose text begins with the bytes of right dots. -/
import Derived.Test.YtenfbjlmfdiniaaReadVec
import Derived.Test.YtenfbjlmfdiniaaConcat
namespace Go.Proofs.Ytenfbjlmfdiniaa
open Go.RowKit

theorem dcode_pos (d : D) : 1 ≤ (dcode d).length := by
  have := Pk.enc_pos d.1.toNat
  rw [dcode, List.length_append]
  omega
theorem dcodes_ge : ∀ ds : List D, ds.length ≤ (dcodes ds).length
  | [] => by simp
  | d :: ds => by
    have h1 := dcode_pos d
    have h2 := dcodes_ge ds
    rw [dcodes_cons, List.length_append, List.length_cons]
    omega
theorem dcodes_drop (ds : List D) (k : Nat) (h : k < ds.length) : dcodes (ds.drop k) = dcode ds[k] ++ dcodes (ds.drop (k + 1)) := by
  rw [List.drop_eq_getElem_cons h, dcodes_cons]
theorem dcodes_drop_len (ds : List D) (k : Nat) : (dcodes (ds.drop k)).length ≤ (dcodes ds).length := by
  have : dcodes ds = dcodes (ds.take k) ++ dcodes (ds.drop k) := by rw [← dcodes_append, List.take_append_drop]
  rw [this, List.length_append]
  omega
theorem dcells_take (ds : List D) (k : Nat) (h : k < ds.length) : dcells (ds.take (k + 1)) = dcells (ds.take k) ++ dcells [ds[k]] := by
  rw [List.take_succ_eq_append_getElem h, dcells_append]
theorem own_but {w w' : World} {B s n g : Nat} {e : TypeId} {v : Value} {xs : List Value} (h : w.ownsRow B e s v n xs) (hb : But g w w') (hg : g < B) : w'.ownsRow B e s v n xs := by
  refine ⟨h.1, ?_⟩
  rcases h.2 with hn | ⟨q, cap, cur, hv, hbq, hq, r⟩
  · exact Or.inl hn
  · exact Or.inr ⟨q, cap, cur, hv, hbq, (hb.block q (Array.getElem?_eq_some_iff.1 hq).1 (by omega)).trans hq, r⟩
theorem own_slice {w : World} {b s n : Nat} {e : TypeId} {v : Value} {xs : List Value} (h : w.ownsRow b e s v n xs) : ∃ ao n c, v = .slice ao n c := by
  rcases h.2 with ⟨rfl, _⟩ | ⟨g, cap, cur, rfl, _⟩
  · exact ⟨_, _, _, rfl⟩
  · exact ⟨_, _, _, rfl⟩
theorem fresh_row (w : World) (d : D) : ∀ j u, (dcells [d])[j]? = some u → (w.alloc (.cells #[.int .i64 d.1, .int .i64 d.2] 28)).cell? ((⟨w.heap.size, 0, none⟩ : Addr).add j) = some u := by
  intro j u hu
  have e : (⟨w.heap.size, 0, none⟩ : Addr).add j = ⟨w.heap.size, j, none⟩ := by unfold Addr.add; split <;> simp_all
  rw [e, cell_of_row _ w.heap.size j _ 28 (0, 0) (heap_alloc_new w _)]
  simpa [dcells] using hu
theorem But.grown {b : Nat} {A W W' : World} {row : Option Nat} (h : But b A W) (hg : W.grownBy W' row) (hr : ∀ g, row = some g → A.heap.size ≤ g) : But b A W' :=
  ⟨hg.os.trans h.os, hg.tape.trans h.tape, hg.output.trans h.output, Nat.le_trans h.size hg.size, fun k hk hne => (hg.block k (Nat.lt_of_lt_of_le hk h.size) (fun e => by have := hr k e.symm; omega)).trans (h.block k hk hne)⟩
theorem Rd.grown {w w' : World} {b : Nat} {l : List UInt8} {f : Nat} {row : Option Nat} (h : Rd w b l f) (hg : w.grownBy w' row) (hne : some b ≠ row) : Rd w' b l f := h.blk (hg.block b h.lt hne)

set_option maxRecDepth 20000 in
set_option maxHeartbeats 1000000 in
/-- Right dots are read as they were told. -/
theorem readList_ok {w : World} {b : Nat} {ds : List D} {rest : List UInt8} (most : Int) (h : Rd w b (lcode ds ++ rest) 0) (hlen : (lcode ds ++ rest).length ≤ maxLen) (hn : ds.length ≤ 1000000) (hm : (ds.length : Int) ≤ most) (hr : ∀ d ∈ ds, Dt.right d.1 d.2 = true) :
    Calls Try.prog 42 #[.pointer (some ⟨b, 0, none⟩), .int .i64 most] w fun e w' => ∃ sl, e = .returned sl ∧ w'.ownsRow w.heap.size 28 2 sl ds.length (dcells ds) ∧ Rd w' b rest 0 ∧ But b w w' := by
  have hbw := h.lt
  rw [lcode, List.append_assoc] at h hlen
  have hge := dcodes_ge ds
  have HM := many_ok h hlen (by omega) most hm (by rw [List.length_append]; omega)
  obtain ⟨n, hn0⟩ : ∃ n, n = ds.length := ⟨_, rfl⟩
  have HN : Hid (n = ds.length) := hn0
  have HLen : Hid (∀ k, (dcodes (ds.drop k) ++ rest).length ≤ maxLen) := fun k => by
    have := dcodes_drop_len ds k
    simp only [List.length_append] at hlen ⊢
    omega
  have HR : Hid (∀ d ∈ ds, Dt.right d.1 d.2 = true) := hr
  have HE : Hid (ds.take n = ds ∧ ds.drop n = []) := by
    have e : ds.take n = ds ∧ ds.drop n = [] := by rw [hn0]; exact ⟨List.take_length, List.drop_length⟩
    exact e
  have e0 : dcodes ds ++ rest = dcodes (ds.drop 0) ++ rest := by rw [List.drop_zero]
  rw [← hn0] at HM hn ⊢
  rw [e0] at HM
  clear h hlen hge hm hr hn0 e0
  go_enter Try.func42, Try.ntmps42
  go_wp2_with fail
  refine HM.mono ?_
  rintro e w1 ⟨rfl, hr1, hb1⟩
  clear HM
  go_wp2
  go_loopw [5, 10] (fun l i wr => ∃ k : Nat, k ≤ n ∧ i = .int .i64 k ∧ Hid (wr.ownsRow w.heap.size 28 2 l k (dcells (ds.take k))) ∧ Hid (Rd wr b (dcodes (ds.drop k) ++ rest) 0) ∧ But b w wr) (fun _ i _ => n - (intOf i).toNat)
  case atStart =>
    refine ⟨0, by omega, rfl, ?_, hr1, hb1⟩
    rw [List.take_zero]
    exact World.ownsRow_nil _ _ _ _
  case round =>
    clear hr1 hb1
    obtain ⟨k, hk, rfl, HY, HRd, hbw1⟩ := hrel
    have hsr := hbw1.size
    by_cases hlt : k < n
    · have hkx : k < ds.length := by have := HN.out; omega
      have hR := HRd.out
      have hlk := HLen.out k
      rw [dcodes_drop ds k hkx, List.append_assoc] at hR hlk
      have hdr := HR.out _ (List.getElem_mem hkx)
      have HC := dotRead_ok hR hlk hdr
      have HT : Hid (dcells (ds.take (k + 1)) = dcells (ds.take k) ++ dcells [ds[k]]) := by have e := dcells_take ds k hkx; exact e
      clear hR hlk hdr HRd
      generalize ds[k] = d at *
      obtain ⟨i0, hi, hz, hz1, hz2⟩ := info28
      have h63 : k + 1 ≤ maxLen := by unfold maxLen; omega
      have hby : (k + 1) * 16 ≤ 140737488355328 := by omega
      have hY := HY.out
      obtain ⟨ao, m, ca, rfl⟩ := own_slice hY
      go_wp2_with fail
      refine HC.mono ?_
      rintro e w2 ⟨rfl, hr2, hb2⟩
      have hY2 := own_but hY hb2 hbw
      have hr5 := hr2.new (.cells #[.int .i64 d.1, .int .i64 d.2] 28)
      have hY5 := own_but hY2 (But.of (b := b) (below_new w2 (.cells #[.int .i64 d.1, .int .i64 d.2] 28))) hbw
      have hd0 : (w2.alloc (.cells #[.int .i64 d.1, .int .i64 d.2] 28)).cell? ⟨w2.heap.size, 0, none⟩ = some (.int .i64 d.1) := by simp
      have hd1 : (w2.alloc (.cells #[.int .i64 d.1, .int .i64 d.2] 28)).cell? ⟨w2.heap.size, 1, none⟩ = some (.int .i64 d.2) := by simp
      have hB5 := (hbw1.trans hb2).new (.cells #[.int .i64 d.1, .int .i64 d.2] 28)
      obtain ⟨W5, hW5⟩ : ∃ W5, W5 = w2.alloc (.cells #[.int .i64 d.1, .int .i64 d.2] 28) := ⟨_, rfl⟩
      have hf := fault_rd hr5
      go_wp2_with fail
      refine hf.mono ?_
      rintro e w' ⟨rfl, rfl⟩
      rw [← hW5]
      rw [← hW5] at hr5 hY5 hd0 hd1 hB5
      clear hW5 hf hr2 hY2 hY HY HC
      have hs5 : w.heap.size ≤ W5.heap.size := hB5.size
      go_wp2_with (at_builtin
                   refine wpList_append_own _ rfl _ _ 24 rfl w.heap.size 28 i0 _ 2 16 Try.underlying24 hi hz hz1 hz2 rfl (by decide) _ _ _ rfl (own_but hY5 (But.of (b := b) (below_new W5 _)) hbw) ⟨W5.heap.size, 0, none⟩ 1 1 (dcells [d]) rfl rfl (fresh_row W5 d) (dcells_one [d]) h63 hby (Nat.le_trans hs5 (by simp)) ?_
                   intro v' w6 hown' hg6 _
                   obtain ⟨ao6, n6, c6, rfl⟩ := own_slice hown')
      have hne : some b ≠ (Value.slice ao m ca).ownBlock := fun e => by have := (hY5.lt b e.symm).1; omega
      go_roundw
      case rel =>
        refine ⟨k + 1, by omega, by go_num, ?_, ?_, ?_⟩
        · rw [HT.out]; exact hown'
        · exact (hr5.new _).grown hg6 hne
        · exact (hB5.new _).grown hg6 fun g e => (hY5.lt g e).1
      case measure => simp [intOf]; omega
    · obtain rfl : k = n := by omega
      have hY := HY.out
      have hR := HRd.out
      rw [HE.out.1] at hY
      rw [HE.out.2] at hR
      clear HY HRd
      go_wp2
      go_ret
      exact ⟨_, rfl, hY, hR, hbw1⟩
end Go.Proofs.Ytenfbjlmfdiniaa
