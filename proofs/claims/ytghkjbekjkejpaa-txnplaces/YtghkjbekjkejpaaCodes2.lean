/- The walk of codeRefs. -/
import Derived.Test.YtghkjbekjkejpaaMemAll
import Derived.Test.YtghkjbekjkejpaaLayAll
namespace Go.Proofs.Ytghkjbekjkejpaa.O
open Go.RowKit

/-- A builder is as it was behind a call that leaves all that was there. -/
theorem at_below {wr w1 : World} {B b : Nat} {p : Value} {bs : List Value} (hA : Lib.BuilderAtF 59 5 B b p bs wr) (hb : Below wr.heap.size wr w1) : Lib.BuilderAtF 59 5 B b p bs w1 := by
  obtain ⟨hB, u, hb0, hu, hne⟩ := hA
  have kept : ∀ (g : Nat) (o : Obj), wr.heap[g]? = some o → w1.heap[g]? = some o := fun g o hg => (hb.block g (U.heap_lt hg)).trans hg
  refine ⟨hB, u, kept b _ hb0, ⟨hu.1, ?_⟩, hne⟩
  rcases hu.2 with hn | ⟨g, cap, cur, fz, hv, hbg, hg, r⟩
  · exact .inl hn
  · exact .inr ⟨g, cap, cur, fz, hv, hbg, kept g _ hg, r⟩
theorem builder_below {wr w1 : World} {B b : Nat} {bs : List Value} (hI : Lib.IsBuilderF 59 5 B b bs wr) (hb : Below wr.heap.size wr w1) : Lib.IsBuilderF 59 5 B b bs w1 :=
  hI.elim (fun x => .inl (at_below x hb)) (fun x => .inr (at_below x hb))

theorem builder_at_lt {w : World} {B b : Nat} {bs : List Value} (h : Lib.IsBuilderF 59 5 B b bs w) : b < w.heap.size := by
  obtain ⟨p, _, _, hb, _⟩ := U.builder_at h
  exact U.heap_lt hb

theorem rTo_len {l : List U} (hu : ∀ u ∈ l, Os.ok u = true) (hn : l.length ≤ 300) (s : List UInt8) (k : Nat) : (Os.rTo l s k).length ≤ s.length + 8100 := by
  unfold Os.rTo
  have h := Os.rcodes_len (l := l.take k) (fun u h => hu u (List.mem_of_mem_take h))
  rw [List.length_take] at h
  rw [List.length_append]
  omega
theorem mk_len (l : List UInt8) : (⟨l.toArray⟩ : ByteArray).size = l.length := by simp [ByteArray.size]
theorem dcode_any (u : U) (w : World) (h : Os.ok u = true) : Calls Try.prog 39 #[dV u.1] w fun e w' => e = .returned (.string ⟨(Pk.enc u.1.1.toNat ++ Pk.enc u.1.2.toNat).toArray⟩) ∧ Below w.heap.size w w' := by
  have hs := Os.ok_small h
  exact D.code_any u.1.1 u.1.2 w (by omega) (by omega) (by omega) (by omega)
theorem refDcode_any (u : U) (w : World) (h : Os.ok u = true) : Calls Try.prog 43 #[dV u.1] w fun e w' => e = .returned (.string ⟨(Pk.enc u.1.1.toNat ++ Pk.enc u.1.2.toNat).toArray⟩) ∧ Below w.heap.size w w' := by
  have hs := Os.ok_small h
  exact D.refCode_any u.1.1 u.1.2 w (by omega) (by omega) (by omega) (by omega)

/-- What is written, and what more. -/
theorem str_append (s q : List UInt8) : Lib.byteCells s ++ Lib.strCells ⟨q.toArray⟩ = Lib.byteCells (s ++ q) := by rw [Lib.byteCells_append]; rfl
theorem str_room {s q : List UInt8} (h : s.length + q.length ≤ 100000000) : (Lib.byteCells s).length + (⟨q.toArray⟩ : ByteArray).size ≤ 140737488355328 := by
  rw [Lib.byteCells_length, mk_len]; omega

set_option maxRecDepth 20000 in
set_option maxHeartbeats 2000000 in
theorem codeRefs_any (v : Value) (l : List U) (w : World) (hd : refsIn w v l) (hn : l.length ≤ 300) (hu : ∀ u ∈ l, Os.ok u = true) :
    Calls Try.prog 67 #[v] w fun e w' => e = .returned (.string ⟨(Os.lcode l).toArray⟩) ∧ Below w.heap.size w w' := by
  obtain ⟨W0, hW0⟩ : ∃ W0, W0 = w.alloc (.cells #[.pointer none, .slice none 0 0] 59) := ⟨_, rfl⟩
  have hI : Lib.IsBuilderF 59 5 w.heap.size w.heap.size (Lib.byteCells []) W0 := by
    rw [hW0]
    have := Lib.IsBuilderF.of (Lib.fresh_isBuilder 59 5 w)
    simpa [Lib.byteCells] using this
  have hB0 : Below w.heap.size w W0 := by rw [hW0]; exact below_new _ _
  have HW : Hid (W0 = w.alloc (.cells #[.pointer none, .slice none 0 0] 59)) := hW0
  obtain ⟨n, hn0⟩ : ∃ n, n = l.length := ⟨_, rfl⟩
  have HN : Hid (n = l.length) := hn0
  have hE := Pk.enc_len9 (n := n) (by omega)
  have HLen : Hid (∀ k, (Os.rTo l (Pk.enc n) k).length ≤ 10000) := by
    have h : ∀ k, (Os.rTo l (Pk.enc n) k).length ≤ 10000 := fun k => by have := rTo_len hu hn (Pk.enc n) k; omega
    exact h
  have HG : Hid (∀ u ∈ l, Os.ok u = true) := hu
  have HDs : Hid (refsIn w v l) := hd
  obtain ⟨ao, ca, rfl, _, _, _⟩ := hd
  have HC : ∀ w1, Calls Try.prog 40 #[.int .i64 (n : Int)] w1 fun e w2 => e = .returned (.string ⟨(Pk.enc n).toArray⟩) ∧ Below w1.heap.size w1 w2 := fun w1 => by
    have := int_any (n : Int) w1 (by omega) (by omega)
    rwa [Int.toNat_natCast] at this
  have HF : Hid (Os.rTo l (Pk.enc n) n = Os.lcode l) := by
    have h : Os.rTo l (Pk.enc n) n = Os.lcode l := by rw [hn0, Os.rTo_all]; rfl
    exact h
  have HL0 : Hid ((Lib.byteCells []).length + (⟨(Pk.enc n).toArray⟩ : ByteArray).size ≤ 140737488355328) := by
    have h := str_room (s := []) (q := Pk.enc n) (by simp; omega)
    exact h
  have HX0 : Hid (Lib.byteCells [] ++ Lib.strCells ⟨(Pk.enc n).toArray⟩ = Lib.byteCells (Os.rTo l (Pk.enc n) 0)) := by
    have h : Lib.byteCells [] ++ Lib.strCells ⟨(Pk.enc n).toArray⟩ = Lib.byteCells (Os.rTo l (Pk.enc n) 0) := by rw [str_append, Os.rTo_zero]; rfl
    exact h
  have HI : Hid (Lib.IsBuilderF 59 5 w.heap.size w.heap.size (Lib.byteCells []) W0) := hI
  have HB0 : Hid (Below w.heap.size w W0) := hB0
  rw [← hn0] at HDs hn ⊢
  clear hu hW0 hI hB0 hn0 hE
  generalize Pk.enc n = pre at *
  go_enter Try.func67, Try.ntmps67
  go_wp2_with (first
    | (go_at_call 40; refine (HC _).mono ?_; rintro e w1 ⟨rfl, hb1⟩; rw [← HW.out] at hb1; have hI1 := builder_below HI.out hb1; have hB1 := bchain HB0.out hb1; have hs1 := hB1.size)
    | (go_at_call 38; refine (U.writeString_any w.heap.size w.heap.size _ _ _ hI1 HL0.out (by omega)).mono ?_; rintro e w2 ⟨rfl, hL2, hb2, _⟩))
  rw [HX0.out] at hL2
  have HB2 := hB1.trans hb2
  clear HC hI1 hb1 hb2 hB1 hs1
  go_loopw [5, 12] (fun _ i wr => ∃ k : Nat, k ≤ n ∧ i = .int .i64 k ∧ Lib.IsBuilderF 59 5 w.heap.size w.heap.size (Lib.byteCells (Os.rTo l pre k)) wr ∧ Below w.heap.size w wr) (fun _ i _ => n - (intOf i).toNat)
  case atStart => exact ⟨0, by omega, rfl, hL2, HB2⟩
  case round =>
    clear hL2 HB2
    obtain ⟨k, hk, rfl, hI, hB⟩ := hrel
    by_cases hlt : k < n
    · have hkx : k < l.length := by have := HN.out; omega
      obtain ⟨ao2, cap2, e2, _, _, hc⟩ := HDs.out.on hB
      obtain ⟨ad, hao, c0, c1, c2⟩ := hc k hkx
      have e3 : ao = some ad := by cases e2; exact hao
      subst e3
      clear hc e2 hao
      have hok := HG.out _ (List.getElem_mem hkx)
      have hsm := Os.ok_small hok
      have HC : ∀ w1, Calls Try.prog 39 #[dV (l[k]).1] w1 fun e w2 => e = .returned (.string ⟨(Pk.enc (l[k]).1.1.toNat ++ Pk.enc (l[k]).1.2.toNat).toArray⟩) ∧ Below w1.heap.size w1 w2 := fun w1 => dcode_any _ w1 hok
      have HC2 : ∀ w1, Calls Try.prog 40 #[.int .i64 (l[k]).2] w1 fun e w2 => e = .returned (.string ⟨(Pk.enc (l[k]).2.toNat).toArray⟩) ∧ Below w1.heap.size w1 w2 := fun w1 => int_any _ w1 (by omega) (by omega)
      have hst := Os.rTo_step l pre hkx
      have hl0 := HLen.out k
      have hl1 := HLen.out (k + 1)
      generalize hq1 : Pk.enc (l[k]).1.1.toNat ++ Pk.enc (l[k]).1.2.toNat = q1 at *
      generalize hq2 : Pk.enc (l[k]).2.toNat = q2 at *
      rw [hst, List.length_append, List.length_append] at hl1
      have HX : Hid (Lib.byteCells (Os.rTo l pre (k + 1)) = Lib.byteCells (Os.rTo l pre k ++ q1) ++ Lib.strCells ⟨q2.toArray⟩) := by
        have h : Lib.byteCells (Os.rTo l pre (k + 1)) = Lib.byteCells (Os.rTo l pre k ++ q1) ++ Lib.strCells ⟨q2.toArray⟩ := by rw [hst, str_append]
        exact h
      have HR1 : Hid ((Lib.byteCells (Os.rTo l pre k)).length + (⟨q1.toArray⟩ : ByteArray).size ≤ 140737488355328) := by
        have h := str_room (s := Os.rTo l pre k) (q := q1) (by omega)
        exact h
      have HR2 : Hid ((Lib.byteCells (Os.rTo l pre k ++ q1)).length + (⟨q2.toArray⟩ : ByteArray).size ≤ 140737488355328) := by
        have h := str_room (s := Os.rTo l pre k ++ q1) (q := q2) (by rw [List.length_append]; omega)
        exact h
      clear hst hl0 hl1 hok hsm hq1 hq2
      generalize l[k] = d at *
      have hs1 := hB.size
      have hk0 : (0 : Int) ≤ (k : Int) := by omega
      have hk1 : (k : Int) < (n : Int) := by omega
      have hI0 := builder_below hI (below_new wr (.cells #[.int .i64 d.1.1, .int .i64 d.1.2, .int .i64 d.2] 82))
      have hB0 := bchain hB (below_new wr (.cells #[.int .i64 d.1.1, .int .i64 d.1.2, .int .i64 d.2] 82))
      have hv0 := heap_alloc_new wr (.cells #[.int .i64 d.1.1, .int .i64 d.1.2, .int .i64 d.2] 82)
      have hsz0 : wr.heap.size < (wr.alloc (.cells #[.int .i64 d.1.1, .int .i64 d.1.2, .int .i64 d.2] 82)).heap.size := by simp
      have hneb : wr.heap.size ≠ w.heap.size := by
        intro e
        have : w.heap.size < wr.heap.size := (builder_at_lt hI)
        omega
      go_wp2_with fail
      refine (HC _).mono ?_
      rintro e w1 ⟨rfl, hb1⟩
      have hI1 := builder_below hI0 hb1
      have hB1 := bchain hB0 hb1
      have hs2 := hB1.size
      have hv1 := (hb1.block _ hsz0).trans hv0
      go_wp2_with fail
      refine (U.writeString_any w.heap.size w.heap.size _ _ _ hI1 HR1.out (by omega)).mono ?_
      rintro e w2 ⟨rfl, hI2, hb2, ho2⟩
      rw [str_append] at hI2
      have hB2 := hB1.trans hb2
      have hv2 := ho2 _ _ hv1 (by simpa using hneb) (by intro c fz q; cases q)
      have d2 : w2.cell? ⟨wr.heap.size, 2, none⟩ = some (.int .i64 d.2) := by rw [Lib.cell_of_heap hv2]; rfl
      go_wp2_with fail
      refine (HC2 _).mono ?_
      rintro e w3 ⟨rfl, hb3⟩
      have hI3 := builder_below hI2 hb3
      have hB3 := bchain hB2 hb3
      have hs3 := hB3.size
      go_wp2_with fail
      refine (U.writeString_any w.heap.size w.heap.size _ _ _ hI3 HR2.out (by omega)).mono ?_
      rintro e w4 ⟨rfl, hI4, hb4, _⟩
      go_wp2
      go_roundw
      case rel => exact ⟨k + 1, by omega, by go_num, by rw [HX.out]; exact hI4, hB3.trans hb4⟩
      case measure => first | (simp [intOf]; done) | (simp [intOf]; omega)
    · obtain rfl : k = n := by omega
      have hs1 := hB.size
      rw [HF.out] at hI
      go_wp2_with (go_at_call 42; refine (bString w.heap.size w.heap.size _ _ hI (by omega)).mono ?_; rintro e w1 ⟨rfl, _, hb, _⟩)
      go_ret
      exact ⟨rfl, hB.trans hb⟩
end Go.Proofs.Ytghkjbekjkejpaa.O
