/- What was told is read again: the walks of Many, of dot.Read and of vec.Read over a reader whose text begins so. -/
import Derived.Test.YtenfbjlmfdiniaaCodes
namespace Go.Proofs.Ytenfbjlmfdiniaa
open Go.RowKit

theorem But.setNew {b : Nat} {A W : World} (h : But b A W) {p : Addr} (hp : A.heap.size ≤ p.block) (v : Value) : But b A (W.setCell p v) := by
  have k := (Below.refl 0 W).setCell (p := p) (Nat.zero_le _) v
  exact ⟨k.os.trans h.os, k.tape.trans h.tape, k.output.trans h.output, Nat.le_trans h.size k.size, fun i hi hb => (Below.heap_setCell W p v i (Nat.ne_of_lt (Nat.lt_of_lt_of_le hi hp))).trans (h.block i hi hb)⟩
theorem But.setRow {b : Nat} {A W : World} (h : But b A W) {g : Nat} (hg : A.heap.size ≤ g) (cs : Array Value) : But b A (W.setRow g cs) :=
  ⟨h.os, h.tape, h.output, by rw [setRow_size]; exact h.size, fun i hi hb => (setRow_other W g i cs (by omega)).trans (h.block i hi hb)⟩
theorem But.new {b : Nat} {A W : World} (h : But b A W) (o : Obj) : But b A (W.alloc o) := h.trans (But.of (below_new W o))
theorem Rd.blk {w w' : World} {b : Nat} {l : List UInt8} {f : Nat} (h : Rd w b l f) (hb : w'.heap[b]? = w.heap[b]?) : Rd w' b l f :=
  ⟨(World.cell?_of_block (w := w) hb).trans h.left, (World.cell?_of_block (w := w) hb).trans h.bad, (World.frozen?_of_block (w := w) hb).trans h.free0, (World.frozen?_of_block (w := w) hb).trans h.free1⟩
theorem Rd.on {w w' : World} {b : Nat} {l : List UInt8} {f : Nat} (h : Rd w b l f) (hb : Below w.heap.size w w') : Rd w' b l f := h.below hb h.lt
theorem Rd.new {w : World} {b : Nat} {l : List UInt8} {f : Nat} (h : Rd w b l f) (o : Obj) : Rd (w.alloc o) b l f := h.on (below_new w o)
theorem Rd.setOther {w : World} {b : Nat} {l : List UInt8} {f : Nat} (h : Rd w b l f) {p : Addr} (hp : p.block ≠ b) (v : Value) : Rd (w.setCell p v) b l f := h.blk (Below.heap_setCell w p v b (Ne.symm hp))
theorem Rd.setRow {w : World} {b : Nat} {l : List UInt8} {f : Nat} (h : Rd w b l f) {g : Nat} (hg : g ≠ b) (cs : Array Value) : Rd (w.setRow g cs) b l f := h.blk (setRow_other w g b cs (Ne.symm hg))
theorem VecAt.but {g : Nat} {w w' : World} {b : Nat} {l : List Int} (h : VecAt w b l) (hb : But g w w') (hg : b ≠ g) : VecAt w' b l := (hb.block b h.lt hg).trans h
theorem stored2 {W : World} {b : Nat} {x0 y0 : Value} (h0 : W.cell? ⟨b, 0, none⟩ = some x0) (h1 : W.cell? ⟨b, 1, none⟩ = some y0) (x y : Value) :
    ((W.setCell ⟨b, 0, none⟩ x).setCell ⟨b, 1, none⟩ y).cell? ⟨b, 0, none⟩ = some x ∧ ((W.setCell ⟨b, 0, none⟩ x).setCell ⟨b, 1, none⟩ y).cell? ⟨b, 1, none⟩ = some y :=
  ⟨(World.cell?_setCell_other _ _ _ _ (by simp)).trans (World.cell?_setCell_same _ _ _ h0), World.cell?_setCell_same _ _ _ ((World.cell?_setCell_other _ _ _ _ (by simp)).trans h1)⟩

/-- A number that was told is read. -/
theorem int_ok {w : World} {b n : Nat} {rest : List UInt8} (h : Rd w b (Pk.enc n ++ rest) 0) (hl : (Pk.enc n ++ rest).length ≤ maxLen) (hn : n < 72057594037927936) :
    Calls Try.prog 92 #[.pointer (some ⟨b, 0, none⟩)] w fun e w' => e = .returned (.int .i64 (n : Int)) ∧ Rd w' b rest 0 ∧ But b w w' := by
  have hk := int_rd h hl
  have e : rdInt (Pk.enc n ++ rest) 0 = (n, rest, 0) := by
    rw [show rdInt (Pk.enc n ++ rest) 0 = took (Pk.enc n ++ rest) (Pk.num (Pk.enc n ++ rest)).1 (Pk.num (Pk.enc n ++ rest)).2.1 (Pk.num (Pk.enc n ++ rest)).2.2 from rfl, Pk.num_enc hn]
    rfl
  rw [e] at hk
  exact hk

set_option maxRecDepth 20000 in
set_option maxHeartbeats 1000000 in
/-- How many there are is read as it was told. -/
theorem many_ok {w : World} {b n : Nat} {rest : List UInt8} (h : Rd w b (Pk.enc n ++ rest) 0) (hl : (Pk.enc n ++ rest).length ≤ maxLen) (hn : n < 72057594037927936) (most : Int) (hm : (n : Int) ≤ most) (hr : n ≤ rest.length) :
    Calls Try.prog 73 #[.pointer (some ⟨b, 0, none⟩), .int .i64 most] w fun e w' => e = .returned (.int .i64 (n : Int)) ∧ Rd w' b rest 0 ∧ But b w w' := by
  have HR : Hid (Rd w b (Pk.enc n ++ rest) 0) := h
  have hlt := h.lt
  obtain ⟨h0, h1, h2, h3⟩ := h
  have HN : Hid (Pk.num (Pk.enc n ++ rest) = (n, rest, 0)) := by have e := Pk.num_enc hn rest; exact e
  generalize Pk.enc n ++ rest = l at *
  have hm' : ¬ most < (n : Int) := by omega
  have hk : ¬ rest.length < n := by omega
  clear hn hm hr
  go_enter Try.func73, Try.ntmps73
  go_wp2_with fail
  refine (fault_rd HR.out).mono ?_
  rintro e w' ⟨rfl, rfl⟩
  go_wp2_with fail
  refine (number_any _ _ (by rw [mk_size]; exact hl)).mono ?_
  rintro e w1 ⟨rfl, hb⟩
  rw [mk_data]
  unfold numV
  rw [HN.out]
  go_wp2_with fail
  refine (take_rd (HR.out.below hb hlt) n rest 0).mono ?_
  rintro e w2 ⟨rfl, hr, hb2⟩
  go_wp2
  go_ret
  exact ⟨rfl, hr, (But.of hb).trans hb2⟩

set_option maxRecDepth 20000 in
set_option maxHeartbeats 1000000 in
/-- A right dot is read as it was told. -/
theorem dotRead_ok {w : World} {b : Nat} {d : D} {rest : List UInt8} (h : Rd w b (dcode d ++ rest) 0) (hl : (dcode d ++ rest).length ≤ maxLen) (hd : Dt.right d.1 d.2 = true) :
    Calls Try.prog 74 #[.pointer (some ⟨b, 0, none⟩)] w fun e w' => e = .returned (dV d) ∧ Rd w' b rest 0 ∧ But b w w' := by
  have hlt := h.lt
  obtain ⟨r, n⟩ := d
  obtain ⟨i1, i2, i3, i4⟩ := Dt.right_iff.1 hd
  obtain ⟨x, rfl⟩ : ∃ x : Nat, r = (x : Int) := ⟨r.toNat, by omega⟩
  obtain ⟨y, rfl⟩ : ∃ y : Nat, n = (y : Int) := ⟨n.toNat, by omega⟩
  simp only [dcode, Int.toNat_natCast, List.append_assoc] at h hl
  have HR : ∀ w, Calls Try.prog 45 #[dotV (x : Int) (y : Int)] w fun e w' => e = .returned (.bool true) ∧ Below w.heap.size w w' := fun w => by have := right_any x y w; rw [hd] at this; exact this
  have H0 : Rd (w.alloc (.cells #[.int .i64 0, .int .i64 0] 28)) b (Pk.enc x ++ (Pk.enc y ++ rest)) 0 := h.new _
  have H1 := int_ok H0 hl (by omega)
  have hlm : (Pk.enc y ++ rest).length ≤ maxLen := by rw [List.length_append] at hl; omega
  have hY : ∀ W, Rd W b (Pk.enc y ++ rest) 0 → Calls Try.prog 92 #[.pointer (some ⟨b, 0, none⟩)] W fun e w' => e = .returned (.int .i64 (y : Int)) ∧ Rd w' b rest 0 ∧ But b W w' := fun W hW => int_ok hW hlm (by omega)
  have z0 : (w.alloc (.cells #[.int .i64 0, .int .i64 0] 28)).cell? ⟨w.heap.size, 0, none⟩ = some (.int .i64 0) := by simp
  have z1 : (w.alloc (.cells #[.int .i64 0, .int .i64 0] 28)).cell? ⟨w.heap.size, 1, none⟩ = some (.int .i64 0) := by simp
  have y0 : (w.alloc (.cells #[.int .i64 0, .int .i64 0] 28)).frozen? ⟨w.heap.size, 0, none⟩ = false := by simp
  have y1 : (w.alloc (.cells #[.int .i64 0, .int .i64 0] 28)).frozen? ⟨w.heap.size, 1, none⟩ = false := by simp
  clear h hl hlm hd i1 i2 i3 i4
  generalize Pk.enc y ++ rest = l1 at *
  go_enter Try.func74, Try.ntmps74
  go_wp2_with fail
  refine H1.mono ?_
  rintro e w1 ⟨rfl, hr1, hb1⟩
  have hlt1 := hr1.lt
  have hR1 := hr1.below (below_new w1 (.cells #[.int .i64 (x : Int), .int .i64 0] 28)) hlt1
  have d0 : (w1.alloc (.cells #[.int .i64 (x : Int), .int .i64 0] 28)).cell? ⟨w1.heap.size, 0, none⟩ = some (.int .i64 (x : Int)) := by simp
  have d1 : (w1.alloc (.cells #[.int .i64 (x : Int), .int .i64 0] 28)).cell? ⟨w1.heap.size, 1, none⟩ = some (.int .i64 0) := by simp
  have g1 : (w1.alloc (.cells #[.int .i64 (x : Int), .int .i64 0] 28)).frozen? ⟨w1.heap.size, 1, none⟩ = false := by simp
  go_wp2_with fail
  refine (hY _ hR1).mono ?_
  rintro e w2 ⟨rfl, hr2, hb2⟩
  have hne : w1.heap.size ≠ b := by omega
  have d0' := hb2.cell d0 hne
  have d1' := hb2.cell d1 hne
  have g1' := hb2.frozen d1 g1 hne
  have W0 : (w2.setCell ⟨w1.heap.size, 1, none⟩ (.int .i64 (y : Int))).cell? ⟨w1.heap.size, 0, none⟩ = some (.int .i64 (x : Int)) := (World.cell?_setCell_other _ _ _ _ (by simp)).trans d0'
  have W1 : (w2.setCell ⟨w1.heap.size, 1, none⟩ (.int .i64 (y : Int))).cell? ⟨w1.heap.size, 1, none⟩ = some (.int .i64 (y : Int)) := World.cell?_setCell_same _ _ _ d1'
  have hRW := hr2.setOther (p := ⟨w1.heap.size, 1, none⟩) hne (.int .i64 (y : Int))
  have hltW := hRW.lt
  have hsz := hb1.size
  have HB := ((hb1.trans (But.of (below_new w1 (.cells #[.int .i64 (x : Int), .int .i64 0] 28)))).trans hb2).setNew (p := ⟨w1.heap.size, 1, none⟩) hb1.size (.int .i64 (y : Int))
  go_wp2_with fail
  refine (HR _).mono ?_
  rintro e w3 ⟨rfl, hb3⟩
  have hr3 := hRW.below hb3 hltW
  have HB3 := HB.trans (But.of hb3)
  have e0 := keep_cell hb3 W0
  have e1 := keep_cell hb3 W1
  have hne' : w.heap.size ≠ b := by omega
  have z0' := HB3.cell z0 hne'
  have z1' := HB3.cell z1 hne'
  have y0' := HB3.frozen z0 y0 hne'
  have y1' := HB3.frozen z1 y1 hne'
  go_wp2
  have e01 := stored2 z0' z1' (.int .i64 (x : Int)) (.int .i64 (y : Int))
  refine bodyPost_ret (v := dotV x y) (by simp [results, Try.results74, go_sem, e01.1, e01.2]) rfl ⟨rfl, (hr3.setOther hne' _).setOther hne' _, ?_⟩
  exact ((((But.of (below_new w _)).trans HB3).setNew (Nat.le_refl _) _).setNew (Nat.le_refl _) _)

/-- What of a vector's bytes stands behind so many numbers. -/
def vtail (l : List Int) (k : Nat) : List UInt8 := (l.drop k).flatMap fun x => Pk.enc x.toNat
theorem vtail_step (l : List Int) (k : Nat) (h : k < l.length) : vtail l k = Pk.enc (l.getD k 0).toNat ++ vtail l (k + 1) := by
  unfold vtail
  rw [List.drop_eq_getElem_cons h, List.flatMap_cons]
  simp [List.getD, h]
theorem vtail_end (l : List Int) (k : Nat) (h : l.length ≤ k) : vtail l k = [] := by simp [vtail, List.drop_eq_nil_of_le h]
theorem code_tail (l : List Int) : ∀ k, k ≤ l.length → Vc.code l k ++ vtail l k = vtail l 0
  | 0, _ => by simp [Vc.code]
  | k + 1, h => by
    rw [← code_tail l k (by omega), vtail_step l k (by omega)]
    simp [Vc.code]
theorem code_all {l : List Int} (hl : l.length = 16) : Vc.code l 16 = vtail l 0 := by
  rw [← code_tail l 16 (by omega), vtail_end l 16 (by omega), List.append_nil]

theorem each_one {w : World} {b c n : Nat} {rest : List UInt8} (hc : w.cell? ⟨c, 0, none⟩ = some (.pointer (some ⟨b, 0, none⟩))) (h : Rd w b (Pk.enc n ++ rest) 0) (hl : (Pk.enc n ++ rest).length ≤ maxLen) (hn : n < 72057594037927936) (k x : Int) :
    Calls Try.prog 91 #[.int .i64 k, .int .i64 x, .pointer (some ⟨c, 0, none⟩)] w fun e w' => e = .returned (.int .i64 (n : Int)) ∧ Rd w' b rest 0 ∧ But b w w' := by
  have H := int_ok h hl hn
  clear h
  go_enter Try.func91, Try.ntmps91
  go_wp2_with fail
  refine H.mono ?_
  rintro e w1 ⟨rfl, hr, hb⟩
  go_wp2
  go_ret
  exact ⟨rfl, hr, hb⟩

set_option maxRecDepth 20000 in
set_option maxHeartbeats 1000000 in
/-- Sixteen numbers are read as they were told. -/
theorem each_read {w : World} {b c : Nat} {l z : List Int} {rest : List UInt8} (hnl : z.length = 16) (hl : l.length = 16) (hv : Vc.right l = true) (hc : w.cell? ⟨c, 0, none⟩ = some (.pointer (some ⟨b, 0, none⟩))) (hcb : c ≠ b) (h : Rd w b (Vc.code l 16 ++ rest) 0) (hlen : (Vc.code l 16 ++ rest).length ≤ maxLen) :
    Calls Try.prog 77 #[vecV z, .func (.func 91) #[] #[.pointer (some ⟨c, 0, none⟩)]] w fun e w' => e = .returned (vecV l) ∧ Rd w' b rest 0 ∧ But b w w' := by
  have hbw := h.lt
  have hW0 : VecAt ((w.alloc (.cells (ints z).toArray 23)).alloc (.cells (ints noughts).toArray 23)) w.heap.size z := (VecAt.new w z).alloc _
  have hW1 : VecAt ((w.alloc (.cells (ints z).toArray 23)).alloc (.cells (ints noughts).toArray 23)) (w.heap.size + 1) noughts := by
    have := VecAt.new (w.alloc (.cells (ints z).toArray 23)) noughts
    simpa using this
  have hB : But b w ((w.alloc (.cells (ints z).toArray 23)).alloc (.cells (ints noughts).toArray 23)) := But.of (below_new2 _ _ _)
  have hR : Rd ((w.alloc (.cells (ints z).toArray 23)).alloc (.cells (ints noughts).toArray 23)) b (vtail l 0 ++ rest) 0 := by
    rw [← code_all hl]
    exact (h.new _).new _
  have HLen : Hid (∀ k, k ≤ 16 → (vtail l k ++ rest).length ≤ maxLen) := fun k hk => by
    have := code_tail l k (by omega)
    rw [code_all hl, ← this] at hlen
    simp only [List.length_append] at hlen ⊢
    omega
  have HC0 : Hid (w.cell? ⟨c, 0, none⟩ = some (.pointer (some ⟨b, 0, none⟩))) := hc
  obtain ⟨f, hf⟩ : ∃ f : Nat → Int → Int, f = fun i _ => l.getD i 0 := ⟨_, rfl⟩
  have HF : Hid (f = fun i _ => l.getD i 0) := hf
  clear hf h hc hlen
  go_enter Try.func77, Try.ntmps77
  go_wp2_with (first | (refine load_vec rfl _ rfl w.heap.size z hnl rfl hW0 ?_))
  go_loopw [8] (fun i wr => ∃ k : Nat, k ≤ 16 ∧ i = .int .i64 k ∧ VecAt wr w.heap.size (Vc.upto f z k) ∧ VecAt wr (w.heap.size + 1) noughts ∧ Rd wr b (vtail l k ++ rest) 0 ∧ But b w wr) (fun i _ => 16 - (intOf i).toNat)
  case atStart => exact ⟨0, by omega, rfl, by rw [Vc.upto_zero]; exact hW0, hW1, hR, hB⟩
  case round =>
    clear hW0 hW1 hB hR
    obtain ⟨k, hk, rfl, h0, h1, hR, hB⟩ := hrel
    by_cases hlt : k < 16
    · have hix := index_vec hnl hlt
      have hst := Vc.upto_step f z k (by omega)
      have hvk := Vc.right_iff.1 hv k (by omega)
      have hvt := vtail_step l k (by omega)
      have hlk := HLen.out k hk
      obtain ⟨x, hx⟩ : ∃ x, z.getD k 0 = x := ⟨_, rfl⟩
      rw [hx] at hix hst
      have hy : f k x = l.getD k 0 := by rw [HF.out]
      rw [hy] at hst
      obtain ⟨y, hy2⟩ : ∃ y : Nat, l.getD k 0 = (y : Int) := ⟨(l.getD k 0).toNat, by omega⟩
      rw [hy2, Int.toNat_natCast] at hvt
      rw [hy2] at hst hvk
      rw [hvt, List.append_assoc] at hR hlk
      have HC : Calls Try.prog 91 #[.int .i64 (k : Int), .int .i64 x, .pointer (some ⟨c, 0, none⟩)] wr fun e w2 => e = .returned (.int .i64 (y : Int)) ∧ Rd w2 b (vtail l (k + 1) ++ rest) 0 ∧ But b wr w2 := each_one (hB.cell HC0.out hcb) hR hlk (by omega) _ _
      have HU : Hid ((Vc.upto f z k).set k (y : Int) = Vc.upto f z (k + 1)) := hst
      have HH0 : Hid (VecAt wr w.heap.size (Vc.upto f z k)) := h0
      have HH1 : Hid (VecAt wr (w.heap.size + 1) noughts) := h1
      have HUL : Hid ((Vc.upto f z k).length = 16) := by have e := Vc.upto_length f z k; rw [hnl] at e; exact e
      have hs0 := hB.size
      clear hx hy hy2 hvk hvt hlk hst hR h0 h1
      go_wp2_with (go_at_call 91
                   refine HC.mono ?_
                   rintro e w1 ⟨rfl, hr1, hb1⟩
                   have h01 := HH0.out.but hb1 (by omega)
                   have hc1 := h01.cell (k := k) (by rw [HUL.out]; omega)
                   generalize (Vc.upto f z k).getD k 0 = zz at hc1
                   have hf1 := h01.frozen k)
      go_roundw
      case rel =>
        refine ⟨k + 1, by omega, by go_num, ?_, ?_, ?_, ?_⟩
        · rw [← HU.out]; exact h01.set k _
        · exact (HH1.out.but hb1 (by omega)).other _ _ (by simp)
        · exact hr1.setOther (by simp; omega) _
        · exact (hB.trans hb1).setNew (Nat.le_refl _) _
      case measure => simp [intOf]; omega
    · obtain rfl : k = 16 := by omega
      rw [Vc.upto_all f z 16 (by omega)] at h0
      have hm : (z.mapIdx f).length = 16 := by simp [hnl]
      rw [vtail_end l 16 (by omega), List.nil_append] at hR
      have HE : Hid (z.mapIdx f = l) := by
        have h : z.mapIdx f = l := by
          refine Vc.same_of (by simp [hnl, hl]) fun i hi => ?_
          have hi' : i < z.length := by simpa using hi
          have : (z.mapIdx f).getD i 0 = f i (z.getD i 0) := by simp [List.getD, hi']
          rw [this, HF.out]
        exact h
      generalize z.mapIdx f = m at *
      go_wp2_with (first | (refine load_vec rfl _ rfl w.heap.size m hm rfl h0 ?_) | (refine store_vec rfl _ _ rfl (w.heap.size + 1) m noughts hm noughts_length rfl rfl h1 ?_))
      refine bodyPost_ret (ret_vec rfl _ hm rfl (h1.row m)) rfl ⟨by rw [HE.out], hR.setRow (by omega) _, hB.setRow (by omega) _⟩
end Go.Proofs.Ytenfbjlmfdiniaa
