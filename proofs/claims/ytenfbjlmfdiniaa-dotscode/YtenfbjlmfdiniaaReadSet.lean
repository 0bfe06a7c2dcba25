/- The walk of a set's Read over a reader whose text begins with a right set's bytes. -/
import Derived.Test.YtenfbjlmfdiniaaRights
import Derived.Test.YtenfbjlmfdiniaaReadList
import Derived.Test.YtenfbjlmfdiniaaCodeSet
namespace Go.Proofs.Ytenfbjlmfdiniaa
open Go.RowKit Go.Shelf

theorem dotsIn.setCell {w : World} {B n : Nat} {v : Value} {ds : List D} (h : w.ownsRow B 28 2 v n (dcells ds)) (hn : n = ds.length) (a : Addr) (u : Value) (ha : a.block < B) : dotsIn (w.setCell a u) v ds := by
  subst hn
  exact dotsIn_own (own_other h fun k hk => heap_setCell_other w a k u (by omega))
theorem dotsIn.setRow {w : World} {v : Value} {ds : List D} {g : Nat} (h : dotsIn w v ds) (cs : Array Value) (hg : ∀ ao n c, v = .slice (some ao) n c → ao.block ≠ g) : dotsIn (w.setRow g cs) v ds := by
  obtain ⟨ao, cap, hv, h0, hc⟩ := h
  refine ⟨ao, cap, hv, h0, fun k hk => ?_⟩
  obtain ⟨ad, h1, h2, h3⟩ := hc k hk
  subst h1
  have hb := hg ad _ _ hv
  have e : (ad.add (k * 2)).block = ad.block := by unfold Addr.add; split <;> rfl
  exact ⟨ad, rfl, (World.cell?_of_block (by rw [e]; exact setRow_other w g _ cs hb)).trans h2, (World.cell?_of_block (by simp only; rw [e]; exact setRow_other w g _ cs hb)).trans h3⟩

set_option maxRecDepth 20000 in
set_option maxHeartbeats 1000000 in
/-- A right set is read as it was told. -/
theorem readSet_ok {w : World} {b : Nat} {l : List Int} {ds : List D} {rest : List UInt8} (hS : St.Std l ds) (hn : ds.length ≤ 4096) (h : Rd w b (scode l ds ++ rest) 0) (hlen : (scode l ds ++ rest).length ≤ maxLen) :
    Calls Try.prog 35 #[.pointer (some ⟨b, 0, none⟩)] w fun e w' => ∃ sl, e = .returned (setV l sl) ∧ dotsIn w' sl ds ∧ Rd w' b rest 0 ∧ But b w w' := by
  have hbw := h.lt
  have hl := hS.len
  rw [scode, List.append_assoc] at h hlen
  obtain ⟨W0, hW0⟩ : ∃ W0, W0 = w.alloc (.cells (setC noughts (.slice none 0 0)).toArray 26) := ⟨_, rfl⟩
  have hB0 : Below w.heap.size w W0 := by rw [hW0]; exact below_new _ _
  have hZ0 : SetAt W0 w.heap.size noughts (.slice none 0 0) := by rw [hW0]; exact SetAt.zero w
  have hs0 : W0.heap.size = w.heap.size + 1 := by rw [hW0]; simp
  have HC := vecRead_ok hl hS.vec (h.on hB0) hlen
  have hlen2 : (lcode ds ++ rest).length ≤ maxLen := by rw [List.length_append] at hlen; omega
  have HL : ∀ W, Rd W b (lcode ds ++ rest) 0 → Calls Try.prog 42 #[.pointer (some ⟨b, 0, none⟩), .int .i64 4096] W fun e w' => ∃ sl, e = .returned sl ∧ w'.ownsRow W.heap.size 28 2 sl ds.length (dcells ds) ∧ Rd w' b rest 0 ∧ But b W w' :=
    fun W hW => readList_ok 4096 hW hlen2 (by omega) (by omega) fun d hd => (hS.gap d hd).1
  have HR : ∀ W v, dotsIn W v ds → Calls Try.prog 10 #[setV l v] W fun e w' => e = .returned (.bool true) ∧ Below W.heap.size W w' :=
    fun W v hd => (right_said l hl v ds W hd (by omega)).mono fun e w' ⟨h1, h2⟩ => ⟨h1.yes ⟨hS, hn⟩, h2⟩
  have HW : Hid (W0 = w.alloc (.cells (setC noughts (.slice none 0 0)).toArray 26)) := hW0
  have HZ : Hid (SetAt W0 w.heap.size noughts (.slice none 0 0)) := hZ0
  have HB : Hid (Below w.heap.size w W0) := hB0
  rw [hW0] at HC
  clear h hlen hlen2 hW0 hB0 hZ0 hS
  generalize lcode ds ++ rest = l1 at *
  go_enter Try.func35, Try.ntmps35
  go_wp2_with fail
  refine HC.mono ?_
  rw [← HW.out]
  rintro e w1 ⟨rfl, hr1, hb1⟩
  have hs1 := hb1.size
  have hZ1 := SetAt.zero w1
  have hK := kept_set w1 l (.slice none 0 0)
  have hKb := kept_below w1 l (.slice none 0 0)
  have hKs := kept_size w1 l (.slice none 0 0)
  have HL2 := HL _ (hr1.on hKb)
  have HK : Hid (SetAt (kept w1 l (.slice none 0 0)) w1.heap.size l (.slice none 0 0)) := hK
  have HKb : Hid (Below w1.heap.size w1 (kept w1 l (.slice none 0 0))) := hKb
  have HBT : Hid (But b w (kept w1 l (.slice none 0 0))) := ((But.of HB.out).trans hb1).trans (But.of hKb)
  have HZ1 : Hid (SetAt (kept w1 l (.slice none 0 0)) w.heap.size noughts (.slice none 0 0)) := (HZ.out.but hb1 (by omega)).on hKb
  clear HC HL hK hKb hr1
  go_wp2_with (first | (refine take_build rfl _ rfl l hl rfl ?_) | (refine store_set rfl _ _ rfl w1.heap.size l noughts (.slice none 0 0) (.slice none 0 0) hl noughts_length ⟨none, 0, 0, rfl⟩ rfl rfl hZ1 ?_))
  change Calls Try.prog 42 _ (kept w1 l (.slice none 0 0)) _
  refine HL2.mono ?_
  generalize kept w1 l (.slice none 0 0) = W2 at *
  rintro e w3 ⟨sl, rfl, hown, hr3, hb3⟩
  have hA3 := HK.out.but hb3 (by omega)
  have hm3 := hA3.more hl
  have hf3 := hA3.frozen 16
  obtain ⟨W4, hW4⟩ : ∃ W4, W4 = w3.setCell ⟨w1.heap.size, 16, none⟩ sl := ⟨_, rfl⟩
  have hA4 : SetAt W4 w1.heap.size l sl := by rw [hW4]; exact hA3.setMore hl sl
  have hd4 : dotsIn W4 sl ds := by rw [hW4]; exact dotsIn.setCell hown rfl _ _ (by simp; omega)
  have hr4 : Rd W4 b rest 0 := by rw [hW4]; exact hr3.setOther (by simp; omega) _
  have hB4 : But b w W4 := by rw [hW4]; exact (HBT.out.trans hb3).setNew (by simp; omega) _
  have hZ4 : SetAt W4 w.heap.size noughts (.slice none 0 0) := by rw [hW4]; exact (HZ1.out.but hb3 (by omega)).other _ _ (by simp; omega)
  have hown4 : W4.ownsRow W2.heap.size 28 2 sl ds.length (dcells ds) := by rw [hW4]; exact own_other hown fun k hk => heap_setCell_other w3 _ k sl (by simp; omega)
  have HR4 := HR W4 sl hd4
  have HW4 : Hid (W4 = w3.setCell ⟨w1.heap.size, 16, none⟩ sl) := hW4
  have HA4 : Hid (SetAt W4 w1.heap.size l sl) := hA4
  have hsl := own_sl hown
  have HO : Hid (∀ ao n c, sl = .slice (some ao) n c → ao.block ≠ w.heap.size) := fun ao n c e => by
    rcases hown.2 with ⟨rfl, _⟩ | ⟨g, cap, cur, rfl, hg, _⟩
    · cases e
    · cases e
      simp only
      omega
  obtain ⟨ao, nn, cc, rfl⟩ := hsl
  rw [hW4] at hA4 HR4
  clear HL2 hW4 hown hA3 hown4 HR
  go_wp2_with (first | (refine load_set rfl _ rfl w1.heap.size l _ hl rfl hA4 ?_))
  refine HR4.mono ?_
  rw [← HW4.out]
  rintro e w5 ⟨rfl, hb5⟩
  have hr5 := hr4.on hb5
  have hA5 := HA4.out.on hb5
  have hZ5 := hZ4.on hb5
  have hd5 := hd4.on hb5
  have HB5 : Hid (But b w w5) := hB4.trans (But.of hb5)
  have hf := fault_rd hr5
  clear hA4 HR4 hr4 hZ4 hd4 hB4 hb5 hm3 hf3
  go_wp2_with fail
  refine hf.mono ?_
  rintro e w6 ⟨rfl, rfl⟩
  go_wp2_with (first | (refine load_set rfl _ rfl w1.heap.size l _ hl rfl hA5 ?_) | (refine store_set rfl _ _ rfl w.heap.size l noughts (.slice ao nn cc) (.slice none 0 0) hl noughts_length ⟨_, _, _, rfl⟩ rfl rfl hZ5 ?_))
  refine bodyPost_ret (ret_set rfl _ hl rfl (hZ5.row l _)) rfl ⟨_, rfl, hd5.setRow _ HO.out, hr5.setRow (by omega) _, HB5.out.setRow (Nat.le_refl _) _⟩
end Go.Proofs.Ytenfbjlmfdiniaa
