/- The walk of the program's Runes. -/
import Derived.Test.YtbbehccagdibcaaRunes
import Derived.Shelf.Strings.Prefix
namespace Go.Proofs.Ytbbehccagdibcaa.HP
open Go.Shelf Go.RowKit

/-- Which number the library's functions and types have here. -/
def ren : Ren := ⟨fun | 99 => 110 | 206 => 112 | n => n, fun | 3 => 3 | 4 => 4 | 9 => 9 | n => n, fun n => n⟩
theorem lay99 : Lays.n99 Try.prog ren := {
  mixed := by kernel_rfl
  f99 := Try.func110.trans (congrArg some (by kernel_rfl))
  f206 := Try.func112.trans (congrArg some (by kernel_rfl))
  t3 := Try.underlying3, a3 := Try.isAgg3, z3 := Try.sizeOf3, v3 := Try.zeroValue3
  t4 := Try.underlying4, a4 := Try.isAgg4, z4 := Try.sizeOf4, v4 := Try.zeroValue4
  t9 := Try.underlying9, a9 := Try.isAgg9, z9 := Try.sizeOf9, v9 := Try.zeroValue9 }
end Go.Proofs.Ytbbehccagdibcaa.HP
namespace Go.Proofs.Ytbbehccagdibcaa.U
open Go.Shelf Go.RowKit
theorem hasPrefix_any (s p : ByteArray) (w : World) :
    Calls Try.prog 110 #[.string s, .string p] w fun e w' => e = .returned (.bool (Lib.hasPrefix s.data.toList p.data.toList)) ∧ w' = w := Any.strings_HasPrefix HP.lay99 s p w
end Go.Proofs.Ytbbehccagdibcaa.U
namespace Go.Proofs.Ytbbehccagdibcaa.U
open Go.RowKit

set_option maxRecDepth 20000 in
set_option maxHeartbeats 2000000 in
theorem runes_any (s : ByteArray) (w : World) (hs : s.size ≤ 2000000) :
    Calls Try.prog 107 #[.string s] w fun e w' => ∃ v, e = .returned (.tuple #[v, .bool (runesOk s.data.toList)]) ∧ w'.ownsRow w.heap.size 21 1 v (runesL s.data.toList).length (cells32 (runesL s.data.toList)) ∧ Below w.heap.size w w' := by
  obtain ⟨i0, hi, hz0, hz1, hz2⟩ := info_parts info21
  go_enter Try.func107, Try.ntmps107
  go_wp2
  go_loopw [4] (fun v wr => ∃ (pos : Nat) (acc : List Nat), wr.ownsRow w.heap.size 21 1 v acc.length (cells32 acc) ∧ wr.heap[w.heap.size]? = some (.stringIter s pos) ∧ Below w.heap.size w wr ∧ runesAt s.data.toList pos acc) (fun _ wr => s.size - wr.iterPos w.heap.size)
  case atStart =>
    refine ⟨0, [], World.ownsRow_nil _ _ _ _, ?_, (Below.refl _ w).alloc (Nat.le_refl _) _, runesAt_zero _⟩
    simpa using World.iter_heap w s 0
  case round =>
    obtain ⟨pos, acc, hown, hit, hbw, hR⟩ := hrel
    have hsz : w.heap.size < wr.heap.size := heap_lt hit
    by_cases hp : pos < s.size
    · have hnx : ∀ ty, (Instr.next (.pointer (some ⟨w.heap.size, 0, none⟩)) true ty).run Try.prog wr = _ := fun ty => Lib.run_next_any_at wr w.heap.size s pos ty hit hp
      have HE : Hid (s.data.toList.drop pos ≠ []) := drop_ne hp
      have HD : Hid (Lib.decodeL (s.data.toList.drop pos) = Utf8.decode s pos) := Lib.decodeL_drop s pos
      have hd1 := decode_le s pos
      have hwd : 1 ≤ (Utf8.decode s pos).2 := by rw [← HD.out]; exact Lib.decodeL_width _
      have hown2 := own_iterAt hown hit (pos + (Utf8.decode s pos).2)
      have hit2 := Lib.iterAt_heap wr w.heap.size s pos (pos + (Utf8.decode s pos).2) hit
      have hbw2 := Lib.below_iterAt hbw (k := w.heap.size) (Nat.le_refl _) s (pos + (Utf8.decode s pos).2)
      have hsz2 : w.heap.size ≤ (wr.iterAt w.heap.size s (pos + (Utf8.decode s pos).2)).heap.size := by rw [Lib.iterAt_size]; omega
      have hal := hR.2.1
      by_cases hff : (Utf8.decode s pos).1 = 65533
      · have HX : Hid (s.extract pos s.size = ⟨(s.data.toList.drop pos).toArray⟩) := extract_high s pos
        have HF : Hid (Nm.isBad (s.data.toList.drop pos) = !Lib.hasPrefix (s.data.toList.drop pos) [239, 191, 189]) := by
          have h := Nm.bad_ff _ HE.out (by rw [HD.out]; exact hff)
          exact h
        by_cases hb : Nm.isBad (s.data.toList.drop pos) = true
        · have HL : Hid (runesL s.data.toList = [] ∧ runesOk s.data.toList = false) := by
            have h := runesL_none (runesAt_bad hR HE.out hb)
            exact h
          have HP : ∀ w0, Calls Try.prog 110 #[.string (s.extract pos s.size), .string ⟨#[239, 191, 189]⟩] w0 fun e w' => e = .returned (.bool false) ∧ w' = w0 := by
            have h : Lib.hasPrefix (s.data.toList.drop pos) [239, 191, 189] = false := by
              have h := HF.out
              rw [hb] at h
              cases hh : Lib.hasPrefix (s.data.toList.drop pos) [239, 191, 189] with
              | false => rfl
              | true => rw [hh] at h; cases h
            intro w0
            have h1 := hasPrefix_any (s.extract pos s.size) ⟨#[239, 191, 189]⟩ w0
            rw [HX.out] at h1 ⊢
            rw [← h]
            exact h1
          clear hb HF
          go_wp2_with (first | (go_at_call 110; refine (HP _).mono ?_; rintro e W1 ⟨rfl, rfl⟩) | go_in)
          go_ret2
          exact ⟨_, ret_two HL.out.2.symm, by rw [HL.out.1]; exact World.ownsRow_nil _ _ _ _, hbw2⟩
        · have HR : Hid (runesAt s.data.toList (pos + (Utf8.decode s pos).2) (acc ++ [65533])) := by
            have h := runesAt_step hR HE.out (by simpa using hb)
            rw [HD.out, hff] at h
            exact h
          have HP : ∀ w0, Calls Try.prog 110 #[.string (s.extract pos s.size), .string ⟨#[239, 191, 189]⟩] w0 fun e w' => e = .returned (.bool true) ∧ w' = w0 := by
            have h : Lib.hasPrefix (s.data.toList.drop pos) [239, 191, 189] = true := by
              have h := HF.out
              cases hh : Lib.hasPrefix (s.data.toList.drop pos) [239, 191, 189] with
              | true => rfl
              | false => rw [hh] at h; exact absurd h hb
            intro w0
            have h1 := hasPrefix_any (s.extract pos s.size) ⟨#[239, 191, 189]⟩ w0
            rw [HX.out] at h1 ⊢
            rw [← h]
            exact h1
          clear hb HF
          go_wp2_with (first
            | (go_at_call 110; refine (HP _).mono ?_; rintro e W1 ⟨rfl, rfl⟩)
            | (at_builtin; refine wpList_append_own _ rfl _ _ 112 rfl w.heap.size 21 i0 (.int .i32 0) 1 4 Try.underlying112 hi hz0 hz1 hz2 rfl (by decide) _ _ _ rfl (hown2.alloc _) ⟨_, 0, none⟩ 1 1 [.int .i32 ((65533 : Nat) : Int)] rfl rfl (one_new5 _ _ _) (one_cell32 _) ?c3 ?c4 ?c5 ?_)
            | go_in)
          case c3 => unfold maxLen; omega
          case c4 => omega
          case c5 => simp; omega
          intro v' w1 hown' hgrow _
          have R1 := own_below hown2 hsz2 hbw2 hgrow
          have R2 := own_iter hown2 hgrow hit2
          rw [cells32_ff] at hown'
          clear hgrow hown hown2
          go_wp2
          go_roundw
          case rel => exact ⟨_, _, by simpa using hown', R2, R1, HR.out⟩
          case measure =>
            simp only [World.iterPos, R2, hit]
            omega
      · have HR : Hid (runesAt s.data.toList (pos + (Utf8.decode s pos).2) (acc ++ [(Utf8.decode s pos).1])) := by
          have h := runesAt_step hR HE.out (Nm.not_bad_of (by rw [HD.out]; exact hff))
          rw [HD.out] at h
          exact h
        go_wp2_with (first
          | (at_builtin; refine wpList_append_own _ rfl _ _ 112 rfl w.heap.size 21 i0 (.int .i32 0) 1 4 Try.underlying112 hi hz0 hz1 hz2 rfl (by decide) _ _ _ rfl (hown2.alloc _) ⟨_, 0, none⟩ 1 1 [.int .i32 ((Utf8.decode s pos).1 : Nat)] rfl rfl (one_new5 _ _ _) (one_cell32 _) ?c3 ?c4 ?c5 ?_)
          | go_in)
        case c3 => unfold maxLen; omega
        case c4 => omega
        case c5 => simp; omega
        intro v' w1 hown' hgrow _
        have R1 := own_below hown2 hsz2 hbw2 hgrow
        have R2 := own_iter hown2 hgrow hit2
        rw [cells32_snoc] at hown'
        clear hgrow hown hown2
        go_wp2
        go_roundw
        case rel => exact ⟨_, _, by simpa using hown', R2, R1, HR.out⟩
        case measure =>
          simp only [World.iterPos, R2, hit]
          omega
    · have hnx : ∀ ty, (Instr.next (.pointer (some ⟨w.heap.size, 0, none⟩)) true ty).run Try.prog wr = _ := fun ty => Lib.run_next_end_at wr w.heap.size s pos ty hit hp
      have HL : Hid (runesL s.data.toList = acc ∧ runesOk s.data.toList = true) := by
        have h := runesL_some (runesAt_end hR (drop_nil hp))
        exact h
      go_wp2
      go_ret2
      exact ⟨_, ret_two HL.out.2.symm, by rw [HL.out.1]; exact hown, hbw⟩

end Go.Proofs.Ytbbehccagdibcaa.U
