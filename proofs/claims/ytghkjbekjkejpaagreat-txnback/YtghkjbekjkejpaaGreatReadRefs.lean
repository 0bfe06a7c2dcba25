/- The walk of readRefs over a reader whose text begins with the bytes of right references. -/
import Derived.Test.YtghkjbekjkejpaaGreatMemAll
import Derived.Test.YtghkjbekjkejpaaGreatCodes2
namespace Go.Proofs.YtghkjbekjkejpaaGreat.O
open Go.RowKit

/-- A slice of references is appended to a row that the call owns. -/
theorem append_refs {ops : Array Oper} {rest : List Oper} {o : Oper} {a : Act} {w : World} {Q : Exit → Act → World → Prop} (hgd : o.guard = none) (s x : Operand)
    (ho : o.op = .call { callee := .builtin .append, args := #[s, x], argTypes := #[68, 68] }) (B : Nat) (hB : B ≤ w.heap.size) (r : Value) (acc : List U) (hs : a.eval s = r) (hown : w.ownsRow B 94 3 r acc.length (ucells acc))
    (v : Value) (l : List U) (hx : a.eval x = v) (hv : refsIn w v l) (hn : acc.length + l.length ≤ 2000000)
    (h : ∀ r' w', w'.ownsRow B 94 3 r' (acc ++ l).length (ucells (acc ++ l)) → Below B w w' → wpList Tryz.prog ops Q rest (a.put o.dst r') w') : wpList Tryz.prog ops Q (o :: rest) a w := by
  obtain ⟨i0, hi, hz, hz1, hz2⟩ := info31
  obtain ⟨ao, cap, rfl, hm, h0, hc⟩ := id hv
  cases ao with
  | none =>
    obtain ⟨rfl, _, rfl⟩ := hv.none_nil
    refine wpList_append_own_none hgd s x 68 ho B 94 i0 3 Tryz.underlying68 hi r _ _ hs hown hx ?_
    refine h r w ?_ (Below.refl _ _)
    rw [List.append_nil]
    exact hown
  | some ad =>
    refine wpList_append_own w hgd s x 68 ho B 94 i0 _ 3 24 Tryz.underlying68 hi hz hz1 hz2 rfl (by decide) r _ _ hs hown ad l.length cap (ucells l) hx (ucells_length l) hv.cells (ucells_one l) (by unfold maxLen; omega) (by omega) hB ?_
    intro v' w1 hown' hg _
    refine h v' w1 ?_ (own_grown hown hB (Below.refl _ _) hg)
    rw [ucells_append, List.length_append]
    exact hown'
theorem But.andBelow {b : Nat} {A W W' : World} (h : But b A W) (k : Below A.heap.size W W') : But b A W' :=
  ⟨k.os.trans h.os, k.tape.trans h.tape, k.output.trans h.output, Nat.le_trans h.size k.size, fun i hi hne => (k.block i hi).trans (h.block i hi hne)⟩
theorem own_slice {w : World} {b s n : Nat} {e : TypeId} {v : Value} {xs : List Value} (h : w.ownsRow b e s v n xs) : ∃ ao n c, v = .slice ao n c := by
  rcases h.2 with ⟨rfl, _⟩ | ⟨g, cap, cur, rfl, _⟩
  · exact ⟨_, _, _, rfl⟩
  · exact ⟨_, _, _, rfl⟩
theorem own_lt {w : World} {B s n : Nat} {e : TypeId} {v : Value} {xs : List Value} (h : w.ownsRow B e s v n xs) : v.ownBlock ≠ some w.heap.size := fun q => by
  have := (h.lt w.heap.size q).2
  omega
theorem own_set {w : World} {B s n g j : Nat} {e : TypeId} {v : Value} {xs : List Value} (h : w.ownsRow B e s v n xs) (hg : v.ownBlock ≠ some g) (x : Value) : (w.setCell ⟨g, j, none⟩ x).ownsRow B e s v n xs := by
  refine ⟨h.1, ?_⟩
  rcases h.2 with hn | ⟨q, cap, cur, hv, hbq, hq, r⟩
  · exact Or.inl hn
  · refine Or.inr ⟨q, cap, cur, hv, hbq, ?_, r⟩
    have hne : q ≠ g := fun e => hg (by rw [hv, ← e]; rfl)
    exact (Below.heap_setCell w ⟨g, j, none⟩ x q hne).trans hq
theorem rcodes_append (a b : List U) : Os.rcodes (a ++ b) = Os.rcodes a ++ Os.rcodes b := by simp [Os.rcodes]
theorem rcodes_drop_len (l : List U) (k : Nat) : (Os.rcodes (l.drop k)).length ≤ (Os.rcodes l).length := by
  have : Os.rcodes l = Os.rcodes (l.take k) ++ Os.rcodes (l.drop k) := by rw [← rcodes_append, List.take_append_drop]
  rw [this, List.length_append]
  omega

set_option maxRecDepth 20000 in
set_option maxHeartbeats 2000000 in
/-- Right references are read as they were told. -/
theorem readRefs_ok {w : World} {b : Nat} {l : List U} {rest : List UInt8} (h : Rd w b (Os.lcode l ++ rest) 0) (hrest : rest.length ≤ 1000000000) (hn : l.length ≤ 256) (hu : ∀ u ∈ l, Os.ok u = true) :
    Calls Tryz.prog 91 #[.pointer (some ⟨b, 0, none⟩)] w fun e w' => ∃ sl, e = .returned sl ∧ w'.ownsRow w.heap.size 94 3 sl l.length (ucells l) ∧ Rd w' b rest 0 ∧ But b w w' := by
  have hbw := h.lt
  have hcl := Os.rcodes_len hu
  have hen := Pk.enc_len9 (n := l.length) (by omega)
  have hlen : (Os.lcode l ++ rest).length ≤ maxLen := by
    unfold Os.lcode maxLen
    simp only [List.length_append]
    omega
  rw [Os.lcode, List.append_assoc] at h hlen
  have hge := Os.rcodes_ge l
  have HM := many_ok h hlen (by omega) 256 (by omega) (by rw [List.length_append]; omega)
  obtain ⟨n, hn0⟩ : ∃ n, n = l.length := ⟨_, rfl⟩
  have HN : Hid (n = l.length) := hn0
  have HLen : Hid (∀ k, (Os.rcodes (l.drop k) ++ rest).length ≤ maxLen) := fun k => by
    have := rcodes_drop_len l k
    simp only [List.length_append] at hlen ⊢
    omega
  have HR : Hid (∀ u ∈ l, Os.ok u = true) := hu
  have HE : Hid (l.take n = l ∧ l.drop n = []) := by
    have e : l.take n = l ∧ l.drop n = [] := by rw [hn0]; exact ⟨List.take_length, List.drop_length⟩
    exact e
  have e0 : Os.rcodes l ++ rest = Os.rcodes (l.drop 0) ++ rest := by rw [List.drop_zero]
  rw [← hn0] at HM hn
  rw [e0] at HM
  clear h hlen hge hu hn0 e0 hcl hen hrest
  go_enter Tryz.func91, Tryz.ntmps91
  go_wp2_with fail
  refine HM.mono ?_
  rintro e w1 ⟨rfl, hr1, hb1⟩
  clear HM
  go_wp2
  go_loopw [3, 4, 7] (fun sl _ i wr => ∃ k : Nat, k ≤ n ∧ i = .int .i64 k ∧ Hid (wr.ownsRow w.heap.size 94 3 sl (l.take k).length (ucells (l.take k))) ∧ Hid (Rd wr b (Os.rcodes (l.drop k) ++ rest) 0) ∧ But b w wr) (fun _ _ i _ => n - (intOf i).toNat)
  case atStart =>
    refine ⟨0, by omega, rfl, ?_, hr1, hb1⟩
    rw [List.take_zero]
    exact World.ownsRow_nil _ _ _ _
  case round =>
    clear hr1 hb1
    obtain ⟨k, hk, rfl, HY, HRd, hbw1⟩ := hrel
    have hsr := hbw1.size
    by_cases hlt : k < n
    · have hkx : k < l.length := by have := HN.out; omega
      have hR := HRd.out
      have hlk := HLen.out k
      have e : Os.rcodes (l.drop k) ++ rest = D.codeL (l[k]).1.1 (l[k]).1.2 ++ (Pk.enc (l[k]).2.toNat ++ (Os.rcodes (l.drop (k + 1)) ++ rest)) := by
        rw [Os.rcodes_drop hkx]
        simp only [D.codeL, List.append_assoc]
      rw [e] at hR hlk
      have hok := HR.out _ (List.getElem_mem hkx)
      have hsm := Os.ok_small hok
      have hdr : Dt.right (l[k]).1.1 (l[k]).1.2 = true := by
        simp only [Os.ok, Bool.and_eq_true] at hok
        exact hok.1.1
      have HC := D.dotRead_ok hR hlk hdr
      have hlk2 : (Pk.enc (l[k]).2.toNat ++ (Os.rcodes (l.drop (k + 1)) ++ rest)).length ≤ maxLen := by rw [List.length_append] at hlk; omega
      have HI : ∀ W, Rd W b (Pk.enc (l[k]).2.toNat ++ (Os.rcodes (l.drop (k + 1)) ++ rest)) 0 → Calls Tryz.prog 38 #[.pointer (some ⟨b, 0, none⟩)] W fun e w' => e = .returned (.int .i64 (l[k]).2) ∧ Rd w' b (Os.rcodes (l.drop (k + 1)) ++ rest) 0 ∧ But b W w' := fun W hW => by
        have h := int_ok hW hlk2 (by omega)
        rw [Int.toNat_of_nonneg hsm.2.2.1] at h
        exact h
      have HT : Hid (l.take (k + 1) = l.take k ++ [l[k]]) := by have e := List.take_succ_eq_append_getElem hkx; exact e
      have hlk3 : Hid ((l.take k).length = k) := by
        have h : (l.take k).length = k := by rw [List.length_take]; omega
        exact h
      clear hR hlk hlk2 hdr HRd e hok hsm
      generalize Pk.enc (l[k]).2.toNat ++ (Os.rcodes (l.drop (k + 1)) ++ rest) = m2 at *
      generalize hm3 : Os.rcodes (l.drop (k + 1)) ++ rest = m3 at *
      have H3 : Hid (Os.rcodes (l.drop (k + 1)) ++ rest = m3) := hm3
      clear hm3
      generalize l[k] = d at *
      have hY := HY.out
      go_wp2_with fail
      refine HC.mono ?_
      rintro e w2 ⟨rfl, hr2, hb2⟩
      have hY2 := own_but hY hb2 hbw
      have hr3 := hr2.new (.cells #[.int .i64 d.1.1, .int .i64 d.1.2, .int .i64 0] 94)
      have hY3 := own_but hY2 (But.of (b := b) (below_new w2 (.cells #[.int .i64 d.1.1, .int .i64 d.1.2, .int .i64 0] 94))) hbw
      have hB3 := (hbw1.trans hb2).new (.cells #[.int .i64 d.1.1, .int .i64 d.1.2, .int .i64 0] 94)
      have hd0 : (w2.alloc (.cells #[.int .i64 d.1.1, .int .i64 d.1.2, .int .i64 0] 94)).cell? ⟨w2.heap.size, 0, none⟩ = some (.int .i64 d.1.1) := by simp
      have hd1 : (w2.alloc (.cells #[.int .i64 d.1.1, .int .i64 d.1.2, .int .i64 0] 94)).cell? ⟨w2.heap.size, 1, none⟩ = some (.int .i64 d.1.2) := by simp
      have hd2 : (w2.alloc (.cells #[.int .i64 d.1.1, .int .i64 d.1.2, .int .i64 0] 94)).cell? ⟨w2.heap.size, 2, none⟩ = some (.int .i64 0) := by simp
      have hf2 : (w2.alloc (.cells #[.int .i64 d.1.1, .int .i64 d.1.2, .int .i64 0] 94)).frozen? ⟨w2.heap.size, 2, none⟩ = false := by simp
      have hsz2 : w.heap.size ≤ w2.heap.size := (hbw1.trans hb2).size
      have hne2 : w2.heap.size ≠ b := by omega
      go_wp2_with fail
      refine (HI _ hr3).mono ?_
      rintro e w4 ⟨rfl, hr4, hb4⟩
      have hY4 := own_but hY3 hb4 hbw
      have hB4 := hB3.trans hb4
      have c0 := hb4.cell hd0 hne2
      have c1 := hb4.cell hd1 hne2
      have c2 := hb4.cell hd2 hne2
      have f2 := hb4.frozen hd2 hf2 hne2
      have hr5 := hr4.setOther (p := ⟨w2.heap.size, 2, none⟩) hne2 (.int .i64 d.2)
      have hB5 := hB4.setNew (p := ⟨w2.heap.size, 2, none⟩) hsz2 (.int .i64 d.2)
      have d0 : (w4.setCell ⟨w2.heap.size, 2, none⟩ (.int .i64 d.2)).cell? ⟨w2.heap.size, 0, none⟩ = some (.int .i64 d.1.1) := (World.cell?_setCell_other _ _ _ _ (by simp)).trans c0
      have d1 : (w4.setCell ⟨w2.heap.size, 2, none⟩ (.int .i64 d.2)).cell? ⟨w2.heap.size, 1, none⟩ = some (.int .i64 d.1.2) := (World.cell?_setCell_other _ _ _ _ (by simp)).trans c1
      have d2 : (w4.setCell ⟨w2.heap.size, 2, none⟩ (.int .i64 d.2)).cell? ⟨w2.heap.size, 2, none⟩ = some (.int .i64 d.2) := World.cell?_setCell_same _ _ _ c2
      have hY5 : (w4.setCell ⟨w2.heap.size, 2, none⟩ (.int .i64 d.2)).ownsRow w.heap.size 94 3 _ (l.take k).length (ucells (l.take k)) := own_set hY4 (own_lt hY2) (.int .i64 d.2)
      have hsz5 : w.heap.size ≤ (w4.setCell ⟨w2.heap.size, 2, none⟩ (.int .i64 d.2)).heap.size := hB5.size
      have HY5 : Hid ((w4.setCell ⟨w2.heap.size, 2, none⟩ (.int .i64 d.2)).ownsRow w.heap.size 94 3 _ (l.take k).length (ucells (l.take k))) := hY5
      have hone : refsIn ((w4.setCell ⟨w2.heap.size, 2, none⟩ (.int .i64 d.2)).alloc (.cells #[.int .i64 d.1.1, .int .i64 d.1.2, .int .i64 d.2] 94)) (.slice (some ⟨w4.heap.size, 0, none⟩) 1 1) [d] := by
        have h := refsIn_one (w4.setCell ⟨w2.heap.size, 2, none⟩ (.int .i64 d.2)) d
        have e : (w4.setCell ⟨w2.heap.size, 2, none⟩ (.int .i64 d.2)).heap.size = w4.heap.size := by simp
        rw [e] at h
        exact h
      clear hd0 hd1 hd2 hf2 hr2 hY2 hr3 hY3 hB3 hr4 hY4 hB4 hb4 hY HY HC HI hb2 hbw1 hY5
      go_wp2_with (at_builtin
                   refine append_refs rfl _ _ rfl w.heap.size (Nat.le_trans hsz5 (by simp)) _ (l.take k) rfl (own_on HY5.out (below_new _ _)) _ [d] rfl hone (by rw [hlk3.out, List.length_singleton]; omega) ?_
                   intro v' w6 hown' hg6)
      have hgt := (below_new (w4.setCell ⟨w2.heap.size, 2, none⟩ (.int .i64 d.2)) (.cells #[.int .i64 d.1.1, .int .i64 d.1.2, .int .i64 d.2] 94))
      go_roundw
      case rel =>
        refine ⟨k + 1, by omega, by go_num, ?_, ?_, ?_⟩
        · rw [HT.out]; exact hown'
        · rw [H3.out]; exact (hr5.on hgt).below hg6 hbw
        · exact But.andBelow (hB5.trans (But.of hgt)) hg6
      case measure => simp [intOf]; omega
    · obtain rfl : k = n := by omega
      have hY := HY.out
      have hR := HRd.out
      rw [HE.out.1] at hY
      rw [HE.out.2] at hR
      clear HY HRd
      go_wp2
      go_ret
      exact ⟨_, rfl, hY, hR, hbw1⟩
end Go.Proofs.YtghkjbekjkejpaaGreat.O
