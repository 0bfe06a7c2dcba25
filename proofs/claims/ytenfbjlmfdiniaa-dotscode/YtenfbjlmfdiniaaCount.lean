/- The walks of 'Count' and 'Code', the program's and the document's. -/
import Derived.Test.YtenfbjlmfdiniaaRef
import Derived.Test.YtenfbjlmfdiniaaBuilder
namespace Go.Proofs.Ytenfbjlmfdiniaa
open Go.RowKit

set_option maxRecDepth 20000 in
set_option maxHeartbeats 1000000 in
theorem count_vec (l : List Int) (hl : l.length = 16) (hr : Vc.right l = true) (w : World) : Calls Try.prog 55 #[vecV l] w fun e w' => e = .returned (.int .i64 (Vc.count l 16)) ∧ Below w.heap.size w w' := by
  have h0 := VecAt.new w l
  have hB : Hid (Below w.heap.size w (w.alloc (.cells (ints l).toArray 23))) := below_new w (.cells (ints l).toArray 23)
  go_enter Try.func55, Try.ntmps55
  go_wp2_with (refine load_vec rfl _ rfl w.heap.size l hl rfl h0 ?_)
  generalize w.alloc (.cells (ints l).toArray 23) = W at *
  clear h0
  go_loop [3, 7] (fun s i => ∃ k : Nat, k ≤ 16 ∧ i = .int .i64 k ∧ s = .int .i64 (Vc.count l k)) (fun _ i => 16 - (intOf i).toNat)
  case atStart => exact ⟨0, by omega, rfl, rfl⟩
  case round =>
    obtain ⟨k, hk, rfl, rfl⟩ := hrel
    by_cases hlt : k < 16
    · have hix := index_vec hl hlt
      have hb := Vc.count_bound hr k (by omega)
      have hx := Vc.right_iff.1 hr k (by omega)
      have hc : Vc.count l (k + 1) = Vc.count l k + l.getD k 0 := by rw [Vc.count]; omega
      generalize l.getD k 0 = x at *
      have HC : Hid (Vc.count l (k + 1) = Vc.count l k + x) := hc
      generalize Vc.count l k = s at *
      have hx0 : 0 ≤ x := hx.1
      have hs0 : 0 ≤ s := hb.1
      have hs1 : s ≤ 16777216 := by omega
      have hx1 : x ≤ 1048576 := hx.2
      clear hb hx hc hr hl
      have hmx : max x 0 = x := by omega
      go_wp2
      go_round
      case rel => exact ⟨k + 1, by omega, by go_num, by rw [HC.out]⟩
      case measure => first | (simp [intOf]; done) | (simp [intOf]; omega)
    · obtain rfl : k = 16 := by omega
      clear hr hl
      go_wp2
      go_ret
      exact ⟨rfl, hB.out⟩

/-- A builder is as it was behind a call that leaves all that was there. -/
theorem at_below {wr w1 : World} {B b : Nat} {p : Value} {bs : List Value} (hA : Lib.BuilderAtF 75 5 B b p bs wr) (hb : Below wr.heap.size wr w1) : Lib.BuilderAtF 75 5 B b p bs w1 := by
  obtain ⟨hB, u, hb0, hu, hne⟩ := hA
  have kept : ∀ (g : Nat) (o : Obj), wr.heap[g]? = some o → w1.heap[g]? = some o := fun g o hg => (hb.block g (heap_lt hg)).trans hg
  refine ⟨hB, u, kept b _ hb0, ⟨hu.1, ?_⟩, hne⟩
  rcases hu.2 with hn | ⟨g, cap, cur, fz, hv, hbg, hg, r⟩
  · exact .inl hn
  · exact .inr ⟨g, cap, cur, fz, hv, hbg, kept g _ hg, r⟩
theorem builder_below {wr w1 : World} {B b : Nat} {bs : List Value} (hI : Lib.IsBuilderF 75 5 B b bs wr) (hb : Below wr.heap.size wr w1) : Lib.IsBuilderF 75 5 B b bs w1 :=
  hI.elim (fun x => .inl (at_below x hb)) (fun x => .inr (at_below x hb))

/-- The numbers of a vector are Go's. -/
def Go64 (l : List Int) : Prop := ∀ k, -9223372036854775808 ≤ l.getD k 0 ∧ l.getD k 0 < 9223372036854775808

set_option maxRecDepth 20000 in
set_option maxHeartbeats 2000000 in
theorem code_vec (l : List Int) (hl : l.length = 16) (hg : Go64 l) (w : World) : Calls Try.prog 62 #[vecV l] w fun e w' => e = .returned (.string ⟨(Vc.code l 16).toArray⟩) ∧ Below w.heap.size w w' := by
  have h0 := (VecAt.new w l).alloc (.cells #[.pointer none, .slice none 0 0] 75)
  have hI : Lib.IsBuilderF 75 5 (w.heap.size + 1) (w.heap.size + 1) (Lib.byteCells []) ((w.alloc (.cells (ints l).toArray 23)).alloc (.cells #[.pointer none, .slice none 0 0] 75)) := by
    have := Lib.IsBuilderF.of (Lib.fresh_isBuilder 75 5 (w.alloc (.cells (ints l).toArray 23)))
    simpa [Lib.byteCells] using this
  have hB : Below (w.heap.size + 1) (w.alloc (.cells (ints l).toArray 23)) ((w.alloc (.cells (ints l).toArray 23)).alloc (.cells #[.pointer none, .slice none 0 0] 75)) := (Below.refl _ _).alloc (by simp) _
  have HW : Hid (Below w.heap.size w (w.alloc (.cells (ints l).toArray 23))) := below_new w (.cells (ints l).toArray 23)
  have hsz : (w.alloc (.cells (ints l).toArray 23)).heap.size = w.heap.size + 1 := by simp
  have hlen := Vc.code_len (l := l) (fun k => (hg k).2)
  go_enter Try.func62, Try.ntmps62
  go_wp2_with (refine load_vec rfl _ rfl w.heap.size l hl rfl h0 ?_)
  generalize w.alloc (.cells (ints l).toArray 23) = W at *
  go_loopw [7] (fun i wr => ∃ k : Nat, k ≤ 16 ∧ i = .int .i64 k ∧ Lib.IsBuilderF 75 5 (w.heap.size + 1) (w.heap.size + 1) (Lib.byteCells (Vc.code l k)) wr ∧ Below (w.heap.size + 1) W wr) (fun i _ => 16 - (intOf i).toNat)
  case atStart => exact ⟨0, by omega, rfl, hI, hB⟩
  case round =>
    clear h0 hI hB
    obtain ⟨k, hk, rfl, hI, hB⟩ := hrel
    by_cases hlt : k < 16
    · have hix := index_vec hl hlt
      have hx := hg k
      have hcode : Vc.code l (k + 1) = Vc.code l k ++ Pk.enc (l.getD k 0).toNat := rfl
      have h9 := Pk.enc_len9 (n := (l.getD k 0).toNat) (by omega)
      generalize l.getD k 0 = x at *
      have hlk := hlen k
      have HC : ∀ w1, Calls Try.prog 65 #[.int .i64 x] w1 fun e w2 => e = .returned (.string ⟨(Pk.enc x.toNat).toArray⟩) ∧ Below w1.heap.size w1 w2 := fun w1 => int_any x w1 hx.1 hx.2
      have HX : Hid (Lib.byteCells (Vc.code l (k + 1)) = Lib.byteCells (Vc.code l k) ++ Lib.strCells ⟨(Pk.enc x.toNat).toArray⟩) := by
        have h : Lib.byteCells (Vc.code l (k + 1)) = Lib.byteCells (Vc.code l k) ++ Lib.strCells ⟨(Pk.enc x.toNat).toArray⟩ := by rw [hcode, Lib.byteCells_append]; rfl
        exact h
      have HL : Hid ((Lib.byteCells (Vc.code l k)).length + (⟨(Pk.enc x.toNat).toArray⟩ : ByteArray).size ≤ 140737488355328) := by
        have h : (Lib.byteCells (Vc.code l k)).length + (⟨(Pk.enc x.toNat).toArray⟩ : ByteArray).size ≤ 140737488355328 := by
          rw [Lib.byteCells_length]
          have : (⟨(Pk.enc x.toNat).toArray⟩ : ByteArray).size = (Pk.enc x.toNat).length := by simp [ByteArray.size]
          omega
        exact h
      clear h9 hcode hlk hx hlen hg hl
      generalize Pk.enc x.toNat = q at *
      have hs1 := hB.size
      go_wp2_with (first
        | (go_at_call 65; refine (HC _).mono ?_; rintro e w1 ⟨rfl, hb1⟩; have hI1 := builder_below hI hb1; have hB1 := hB.trans (hb1.mono (by omega)); have hs2 := hb1.size)
        | (go_at_call 64; refine (writeString_any (w.heap.size + 1) (w.heap.size + 1) _ _ _ hI1 HL.out (by omega)).mono ?_; rintro e w2 ⟨rfl, hL, hb2, _⟩))
      go_roundw
      case rel => exact ⟨k + 1, by omega, by go_num, by rw [HX.out]; exact hL, hB1.trans hb2⟩
      case measure => first | (simp [intOf]; done) | (simp [intOf]; omega)
    · obtain rfl : k = 16 := by omega
      clear hl hg hlen
      have hs1 := hB.size
      go_wp2_with (go_at_call 67; refine (bString (w.heap.size + 1) (w.heap.size + 1) _ _ hI (by omega)).mono ?_; rintro e w1 ⟨rfl, _, hb, _⟩)
      go_ret
      exact ⟨rfl, HW.out.trans ((hB.trans hb).mono (by omega))⟩

set_option maxRecDepth 20000 in
set_option maxHeartbeats 2000000 in
theorem refCode_vec (l : List Int) (hl : l.length = 16) (hg : Go64 l) (w : World) : Calls Try.prog 63 #[vecV l] w fun e w' => e = .returned (.string ⟨(Vc.code l 16).toArray⟩) ∧ Below w.heap.size w w' := by
  have h0 := VecAt.new w l
  have hB := below_new w (.cells (ints l).toArray 23)
  have hlen := Vc.code_len (l := l) (fun k => (hg k).2)
  go_enter Try.func63, Try.ntmps63
  go_wp2
  go_loopw [3, 4] (fun s i wr => ∃ k : Nat, k ≤ 16 ∧ i = .int .i64 k ∧ s = .string ⟨(Vc.code l k).toArray⟩ ∧ VecAt wr w.heap.size l ∧ Below w.heap.size w wr) (fun _ i _ => 16 - (intOf i).toNat)
  case atStart => exact ⟨0, by omega, rfl, rfl, h0, hB⟩
  case round =>
    clear h0 hB
    obtain ⟨k, hk, rfl, rfl, h0, hB⟩ := hrel
    by_cases hlt : k < 16
    · have hcell := h0.cell (k := k) (by omega)
      have hx := hg k
      have hcode : Vc.code l (k + 1) = Vc.code l k ++ Pk.enc (l.getD k 0).toNat := rfl
      have h9 := Pk.enc_len9 (n := (l.getD k 0).toNat) (by omega)
      generalize l.getD k 0 = x at *
      have hlk := hlen k
      have HC : ∀ w1, Calls Try.prog 68 #[.int .i64 x] w1 fun e w2 => e = .returned (.string ⟨(Pk.enc x.toNat).toArray⟩) ∧ Below w1.heap.size w1 w2 := fun w1 => refInt_any x w1 hx.1 hx.2
      have HX : Hid ((⟨(Vc.code l (k + 1)).toArray⟩ : ByteArray) = ⟨(Vc.code l k).toArray⟩ ++ ⟨(Pk.enc x.toNat).toArray⟩) := by
        have h : (⟨(Vc.code l (k + 1)).toArray⟩ : ByteArray) = ⟨(Vc.code l k).toArray⟩ ++ ⟨(Pk.enc x.toNat).toArray⟩ := by rw [hcode, append_mk]
        exact h
      have hroom : ¬ 9223372036854775807 < (Vc.code l k).length + (Pk.enc x.toNat).length := by omega
      clear h9 hcode hlk hx hlen hg hl
      generalize Pk.enc x.toNat = q at *
      go_wp2_with (go_at_call 68; refine (HC _).mono ?_; rintro e w1 ⟨rfl, hb1⟩; have h1 := h0.on hb1; have hB1 := bchain hB hb1)
      go_roundw
      case rel => exact ⟨k + 1, by omega, by go_num, by rw [HX.out], h1, hB1⟩
      case measure => first | (simp [intOf]; done) | (simp [intOf]; omega)
    · obtain rfl : k = 16 := by omega
      clear hl hg hlen
      go_wp2
      go_ret
      exact ⟨rfl, hB⟩
end Go.Proofs.Ytenfbjlmfdiniaa
