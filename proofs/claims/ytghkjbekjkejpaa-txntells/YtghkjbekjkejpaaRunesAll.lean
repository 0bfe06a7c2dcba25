/- The walks of the two 'Runes': a text's characters, put behind one another in memory of the call's own · The walk of the program's Runes. -/
import Derived.Test.YtghkjbekjkejpaaLayAll
import Derived.Test.YtghkjbekjkejpaaChars
import Derived.Shelf.Strings.Prefix
/- The walks of the two 'Runes': a text's characters, put behind one another in memory of the call's own. -/
namespace Go.Proofs.Ytghkjbekjkejpaa.U
open Go.RowKit

/-! ### Memory of the call's own, beside a range's iterator -/
theorem own_iterAt {w : World} {B : Nat} {e : TypeId} {v : Value} {n : Nat} {xs : List Value} (h : w.ownsRow B e 1 v n xs) {k : Nat} {s : ByteArray} {pos : Nat} (hk : w.heap[k]? = some (.stringIter s pos)) (pos' : Nat) :
    (w.iterAt k s pos').ownsRow B e 1 v n xs := by
  refine ⟨h.1, ?_⟩
  rcases h.2 with hn | ⟨g, cap, cur, hv, hbg, hg, r⟩
  · exact .inl hn
  · have hkg : g ≠ k := by
      intro e1
      rw [e1, hk] at hg
      cases hg
    exact .inr ⟨g, cap, cur, hv, hbg, (Lib.iterAt_other w k g s pos' hkg).trans hg, r⟩
theorem own_ne_iter {w : World} {B : Nat} {e : TypeId} {v : Value} {n : Nat} {xs : List Value} (h : w.ownsRow B e 1 v n xs) {k : Nat} {s : ByteArray} {pos : Nat} (hk : w.heap[k]? = some (.stringIter s pos)) : some k ≠ v.ownBlock := by
  rcases h.2 with ⟨rfl, _⟩ | ⟨g, cap, cur, rfl, hbg, hg, r⟩
  · simp [Value.ownBlock]
  · simp only [Value.ownBlock, ne_eq, Option.some.injEq]
    intro e1
    rw [← e1, hk] at hg
    cases hg
/-- One element more: what lay below stands, and so does the iterator. -/
theorem own_below {w wr w1 : World} {B : Nat} {e : TypeId} {v : Value} {n : Nat} {xs : List Value} {o : Obj} (hown : wr.ownsRow B e 1 v n xs) (hB : B ≤ wr.heap.size) (hbw : Below B w wr) (hgrow : (wr.alloc o).grownBy w1 v.ownBlock) : Below B w w1 :=
  (hbw.alloc hB o).grown hgrow (by simp; omega) (fun k hk => (hown.lt k hk).1)
theorem own_iter {wr w1 : World} {B : Nat} {e : TypeId} {v : Value} {n : Nat} {xs : List Value} {o : Obj} (hown : wr.ownsRow B e 1 v n xs) (hgrow : (wr.alloc o).grownBy w1 v.ownBlock) {k : Nat} {s : ByteArray} {pos : Nat} (hk : wr.heap[k]? = some (.stringIter s pos)) : w1.heap[k]? = some (.stringIter s pos) := by
  have hlt := heap_lt hk
  rw [hgrow.block k (by simp; omega) (own_ne_iter hown hk), Lib.alloc_old wr _ k hlt]
  exact hk

/-- Characters as cells. -/
def cells32 (l : List Nat) : List Value := l.map fun c : Nat => .int .i32 (c : Int)
def cells64 (l : List Nat) : List Value := l.map fun c : Nat => .int .i64 (c : Int)
theorem cells32_snoc (l : List Nat) (c : Nat) : cells32 l ++ [.int .i32 (c : Int)] = cells32 (l ++ [c]) := by simp [cells32]
theorem cells64_snoc (l : List Nat) (c : Nat) : cells64 l ++ [.int .i64 (c : Int)] = cells64 (l ++ [c]) := by simp [cells64]
theorem cells32_ff (l : List Nat) : cells32 l ++ [.int .i32 65533] = cells32 (l ++ [65533]) := by simp [cells32]
theorem cells32_length (l : List Nat) : (cells32 l).length = l.length := by simp [cells32]
theorem cells64_length (l : List Nat) : (cells64 l).length = l.length := by simp [cells64]
theorem info21 : (Try.prog.info? 21).map (fun i => (i.zero, i.size, i.bytes)) = some (some (.int .i32 0), 1, 4) := by kernel_rfl
theorem info3 : (Try.prog.info? 3).map (fun i => (i.zero, i.size, i.bytes)) = some (some (.int .i64 0), 1, 8) := by kernel_rfl
theorem info9 : (Try.prog.info? 9).map (fun i => (i.zero, i.size, i.bytes)) = some (some (.string ⟨#[]⟩), 1, 16) := by kernel_rfl
theorem one_cell32 (n : Int) : ∀ u ∈ [Value.int .i32 n], u.oneCell' = true := by intro u hu; simp at hu; subst hu; rfl
theorem one_cell64 (n : Int) : ∀ u ∈ [Value.int .i64 n], u.oneCell' = true := by intro u hu; simp at hu; subst hu; rfl
theorem one_cellS (s : ByteArray) : ∀ u ∈ [Value.string s], u.oneCell' = true := by intro u hu; simp at hu; subst hu; rfl

theorem extract_high (s : ByteArray) (k : Nat) : s.extract k s.size = ⟨(s.data.toList.drop k).toArray⟩ := by
  apply ByteArray.ext
  apply Array.toList_inj.1
  simp only [ByteArray.data_extract, Array.toList_extract, List.extract_eq_take_drop]
  exact List.take_of_length_le (by simp)
theorem drop_ne {s : ByteArray} {pos : Nat} (h : pos < s.size) : s.data.toList.drop pos ≠ [] := by
  intro e
  have := congrArg List.length e
  rw [List.length_drop, size_len] at this
  simp at this
  omega
theorem drop_nil {s : ByteArray} {pos : Nat} (h : ¬ pos < s.size) : s.data.toList.drop pos = [] := List.drop_eq_nil_of_le (by rw [size_len]; omega)

/-- Where a walk through the characters stands: those that were told, what is still to read. -/
def runesAt (l : List UInt8) (pos : Nat) (acc : List Nat) : Prop := pos ≤ l.length ∧ acc.length ≤ pos ∧ Nm.runes l = (Nm.runes (l.drop pos)).map (acc ++ ·)
theorem runesAt_zero (l : List UInt8) : runesAt l 0 [] := ⟨by omega, by simp, by simp⟩
theorem runesAt_step {l : List UInt8} {pos : Nat} {acc : List Nat} (h : runesAt l pos acc) (hne : l.drop pos ≠ []) (hb : Nm.isBad (l.drop pos) = false) :
    runesAt l (pos + (Lib.decodeL (l.drop pos)).2) (acc ++ [(Lib.decodeL (l.drop pos)).1]) := by
  have h1 := Lib.decodeL_le _ hne
  have h2 := Lib.decodeL_width (l.drop pos)
  rw [List.length_drop] at h1
  refine ⟨by have := h.1; omega, by have := h.2.1; simp; omega, ?_⟩
  rw [h.2.2, Nm.runes_step hne hb, Nm.drop_rest]
  cases Nm.runes (l.drop (pos + (Lib.decodeL (l.drop pos)).2)) <;> simp
theorem runesAt_bad {l : List UInt8} {pos : Nat} {acc : List Nat} (h : runesAt l pos acc) (hne : l.drop pos ≠ []) (hb : Nm.isBad (l.drop pos) = true) : Nm.runes l = none := by
  rw [h.2.2, Nm.runes_bad hne hb]; rfl
theorem runesAt_end {l : List UInt8} {pos : Nat} {acc : List Nat} (h : runesAt l pos acc) (hn : l.drop pos = []) : Nm.runes l = some acc := by
  rw [h.2.2, hn, Nm.runes_nil]; simp

/-- What the two tell. -/
def runesL (l : List UInt8) : List Nat := (Nm.runes l).getD []
def runesOk (l : List UInt8) : Bool := (Nm.runes l).isSome
theorem runesL_none {l : List UInt8} (h : Nm.runes l = none) : runesL l = [] ∧ runesOk l = false := by simp [runesL, runesOk, h]
theorem runesL_some {l : List UInt8} {acc : List Nat} (h : Nm.runes l = some acc) : runesL l = acc ∧ runesOk l = true := by simp [runesL, runesOk, h]
theorem ret_two {v : Value} {a b : Bool} (h : a = b) : Ending.returned (.tuple #[v, .bool a]) = .returned (.tuple #[v, .bool b]) := by rw [h]

theorem extract_size (s : ByteArray) (k : Nat) : (s.extract k s.size).size = s.size - k := by simp
theorem charL_drop {s : ByteArray} {pos : Nat} (hp : pos < s.size) (hb : Nm.isBad (s.data.toList.drop pos) = false) : Nm.charL (s.data.toList.drop pos) = Utf8.decode s pos := by
  rw [Nm.charL_good (drop_ne hp) hb, Lib.decodeL_drop]
/-- 'Char' of what stands from a place on. -/
theorem charAt_good {s : ByteArray} {pos : Nat} (hs : s.size ≤ 2000000) (hp : pos < s.size) (hb : Nm.isBad (s.data.toList.drop pos) = false) (w0 : World) :
    Calls Try.prog 90 #[.string (s.extract pos s.size)] w0 fun e w' => e = .returned (.tuple #[.int .i64 ((Utf8.decode s pos).1 : Nat), .int .i64 ((Utf8.decode s pos).2 : Nat)]) ∧ w' = w0 := by
  have h := char_any (s.extract pos s.size) w0 (by rw [extract_size s pos]; unfold maxLen; omega)
  have e1 : charV (s.extract pos s.size).data.toList = .tuple #[.int .i64 ((Utf8.decode s pos).1 : Nat), .int .i64 ((Utf8.decode s pos).2 : Nat)] := by
    rw [extract_high]
    simp only [charV]
    rw [charL_drop hp hb]
  rw [e1] at h
  exact h
theorem charAt_bad {s : ByteArray} {pos : Nat} (hs : s.size ≤ 2000000) (hp : pos < s.size) (hb : Nm.isBad (s.data.toList.drop pos) = true) (w0 : World) :
    Calls Try.prog 90 #[.string (s.extract pos s.size)] w0 fun e w' => e = .returned (.tuple #[.int .i64 0, .int .i64 0]) ∧ w' = w0 := by
  have h := char_any (s.extract pos s.size) w0 (by rw [extract_size s pos]; unfold maxLen; omega)
  have e1 : charV (s.extract pos s.size).data.toList = .tuple #[.int .i64 0, .int .i64 0] := by
    rw [extract_high]
    simp only [charV]
    rw [Nm.charL_bad hb]
    rfl
  rw [e1] at h
  exact h

set_option maxRecDepth 20000 in
set_option maxHeartbeats 2000000 in
theorem refRunes_any (s : ByteArray) (w : World) (hs : s.size ≤ 2000000) :
    Calls Try.prog 75 #[.string s] w fun e w' => ∃ v, e = .returned (.tuple #[v, .bool (runesOk s.data.toList)]) ∧ w'.ownsRow w.heap.size 3 1 v (runesL s.data.toList).length (cells64 (runesL s.data.toList)) ∧ Below w.heap.size w w' := by
  obtain ⟨i0, hi, hz0, hz1, hz2⟩ := info_parts info3
  go_enter Try.func75, Try.ntmps75
  go_wp2
  go_loopw [4, 5] (fun v i wr => ∃ (pos : Nat) (acc : List Nat), i = .int .i64 pos ∧ wr.ownsRow w.heap.size 3 1 v acc.length (cells64 acc) ∧ Below w.heap.size w wr ∧ runesAt s.data.toList pos acc) (fun _ i _ => s.size - (intOf i).toNat)
  case atStart => exact ⟨0, [], rfl, World.ownsRow_nil _ _ _ _, Below.refl _ w, runesAt_zero _⟩
  case round =>
    obtain ⟨pos, acc, rfl, hown, hbw, hR⟩ := hrel
    have hsz := hbw.size
    have hpl := hR.1
    rw [size_len] at hpl
    have hal := hR.2.1
    by_cases hp : pos < s.size
    · have HE : Hid (s.data.toList.drop pos ≠ []) := drop_ne hp
      have HD : Hid (Lib.decodeL (s.data.toList.drop pos) = Utf8.decode s pos) := Lib.decodeL_drop s pos
      have hd1 := decode_le s pos
      have hwd : 1 ≤ (Utf8.decode s pos).2 := by rw [← HD.out]; exact Lib.decodeL_width _
      have hwe : (Utf8.decode s pos).2 ≤ s.size - pos := by
        have h := Lib.decodeL_le _ HE.out
        rw [HD.out, List.length_drop, size_len] at h
        exact h
      by_cases hb : Nm.isBad (s.data.toList.drop pos) = true
      · have HL : Hid (runesL s.data.toList = [] ∧ runesOk s.data.toList = false) := by
          have h := runesL_none (runesAt_bad hR HE.out hb)
          exact h
        have HC := charAt_bad hs hp hb
        clear hb
        go_wp2_with (first | (go_at_call 90; refine (HC _).mono ?_; rintro e W1 ⟨rfl, rfl⟩) | go_in)
        go_ret2
        exact ⟨_, ret_two HL.out.2.symm, by rw [HL.out.1]; exact World.ownsRow_nil _ _ _ _, hbw⟩
      · have hb' : Nm.isBad (s.data.toList.drop pos) = false := by simpa using hb
        have HC := charAt_good hs hp hb'
        have HR : Hid (runesAt s.data.toList (pos + (Utf8.decode s pos).2) (acc ++ [(Utf8.decode s pos).1])) := by
          have h := runesAt_step hR HE.out hb'
          rw [HD.out] at h
          exact h
        clear hb hb' HD
        generalize (Utf8.decode s pos).1 = c at *
        generalize (Utf8.decode s pos).2 = d at *
        go_wp2_with (first
          | (go_at_call 90; refine (HC _).mono ?_; rintro e W1 ⟨rfl, rfl⟩)
          | (at_builtin; refine wpList_append_own _ rfl _ _ 65 rfl w.heap.size 3 i0 (.int .i64 0) 1 8 Try.underlying65 hi hz0 hz1 hz2 rfl (by decide) _ _ _ rfl (hown.alloc _) ⟨_, 0, none⟩ 1 1 [.int .i64 (c : Int)] rfl rfl (one_new5 _ _ _) (one_cell64 _) ?c3 ?c4 ?c5 ?_)
          | go_in)
        case c3 => unfold maxLen; omega
        case c4 => omega
        case c5 => simp; omega
        intro v' w1 hown' hgrow _
        have R1 := own_below hown hsz hbw hgrow
        rw [cells64_snoc] at hown'
        clear hgrow hown
        go_wp2
        go_roundw
        case rel => exact ⟨pos + d, acc ++ [c], by go_num, by simpa using hown', R1, HR.out⟩
        case measure => simp [intOf]; omega
    · have HL : Hid (runesL s.data.toList = acc ∧ runesOk s.data.toList = true) := by
        have h := runesL_some (runesAt_end hR (drop_nil hp))
        exact h
      go_wp2
      go_ret2
      exact ⟨_, ret_two HL.out.2.symm, by rw [HL.out.1]; exact hown, hbw⟩

end Go.Proofs.Ytghkjbekjkejpaa.U
/- The walk of the program's Runes. -/
namespace Go.Proofs.Ytghkjbekjkejpaa.HP
open Go.Shelf Go.RowKit

/-- Which number the library's functions and types have here. -/
def ren : Ren := ⟨fun | 99 => 104 | 206 => 105 | n => n, fun | 3 => 3 | 4 => 4 | 9 => 9 | n => n, fun n => n⟩
theorem lay99 : Lays.n99 Try.prog ren := {
  mixed := by kernel_rfl
  f99 := Try.func104.trans (congrArg some (by kernel_rfl))
  f206 := Try.func105.trans (congrArg some (by kernel_rfl))
  t3 := Try.underlying3, a3 := Try.isAgg3, z3 := Try.sizeOf3, v3 := Try.zeroValue3
  t4 := Try.underlying4, a4 := Try.isAgg4, z4 := Try.sizeOf4, v4 := Try.zeroValue4
  t9 := Try.underlying9, a9 := Try.isAgg9, z9 := Try.sizeOf9, v9 := Try.zeroValue9 }
end Go.Proofs.Ytghkjbekjkejpaa.HP
namespace Go.Proofs.Ytghkjbekjkejpaa.U
open Go.Shelf Go.RowKit
theorem hasPrefix_any (s p : ByteArray) (w : World) :
    Calls Try.prog 104 #[.string s, .string p] w fun e w' => e = .returned (.bool (Lib.hasPrefix s.data.toList p.data.toList)) ∧ w' = w := Any.strings_HasPrefix HP.lay99 s p w
end Go.Proofs.Ytghkjbekjkejpaa.U
namespace Go.Proofs.Ytghkjbekjkejpaa.U
open Go.RowKit

set_option maxRecDepth 20000 in
set_option maxHeartbeats 2000000 in
theorem runes_any (s : ByteArray) (w : World) (hs : s.size ≤ 2000000) :
    Calls Try.prog 102 #[.string s] w fun e w' => ∃ v, e = .returned (.tuple #[v, .bool (runesOk s.data.toList)]) ∧ w'.ownsRow w.heap.size 21 1 v (runesL s.data.toList).length (cells32 (runesL s.data.toList)) ∧ Below w.heap.size w w' := by
  obtain ⟨i0, hi, hz0, hz1, hz2⟩ := info_parts info21
  go_enter Try.func102, Try.ntmps102
  go_wp2
  go_loopw [4] (fun v wr => ∃ (pos : Nat) (acc : List Nat), wr.ownsRow w.heap.size 21 1 v acc.length (cells32 acc) ∧ wr.heap[w.heap.size]? = some (.stringIter s pos) ∧ Below w.heap.size w wr ∧ runesAt s.data.toList pos acc) (fun _ wr => s.size - wr.iterPos w.heap.size)
  case atStart =>
    refine ⟨0, [], World.ownsRow_nil _ _ _ _, ?_, (Below.refl _ w).alloc (Nat.le_refl _) _, runesAt_zero _⟩
    simpa using World.iter_heap w s 0
  case round =>
    obtain ⟨pos, acc, hown, hit, hbw, hR⟩ := hrel
    have hsz : w.heap.size < wr.heap.size := heap_lt hit
    by_cases hp : pos < s.size
    · have hnx : ∀ ty, (Instr.next (.pointer (some ⟨w.heap.size, 0, none⟩)) true ty).run Try.prog wr = _ := fun ty => Lib.run_next_any_at wr w.heap.size s pos ty hit hp
      have HE : Hid (s.data.toList.drop pos ≠ []) := drop_ne hp
      have HD : Hid (Lib.decodeL (s.data.toList.drop pos) = Utf8.decode s pos) := Lib.decodeL_drop s pos
      have hd1 := decode_le s pos
      have hwd : 1 ≤ (Utf8.decode s pos).2 := by rw [← HD.out]; exact Lib.decodeL_width _
      have hown2 := own_iterAt hown hit (pos + (Utf8.decode s pos).2)
      have hit2 := Lib.iterAt_heap wr w.heap.size s pos (pos + (Utf8.decode s pos).2) hit
      have hbw2 := Lib.below_iterAt hbw (k := w.heap.size) (Nat.le_refl _) s (pos + (Utf8.decode s pos).2)
      have hsz2 : w.heap.size ≤ (wr.iterAt w.heap.size s (pos + (Utf8.decode s pos).2)).heap.size := by rw [Lib.iterAt_size]; omega
      have hal := hR.2.1
      by_cases hff : (Utf8.decode s pos).1 = 65533
      · have HX : Hid (s.extract pos s.size = ⟨(s.data.toList.drop pos).toArray⟩) := extract_high s pos
        have HF : Hid (Nm.isBad (s.data.toList.drop pos) = !Lib.hasPrefix (s.data.toList.drop pos) [239, 191, 189]) := by
          have h := Nm.bad_ff _ HE.out (by rw [HD.out]; exact hff)
          exact h
        by_cases hb : Nm.isBad (s.data.toList.drop pos) = true
        · have HL : Hid (runesL s.data.toList = [] ∧ runesOk s.data.toList = false) := by
            have h := runesL_none (runesAt_bad hR HE.out hb)
            exact h
          have HP : ∀ w0, Calls Try.prog 104 #[.string (s.extract pos s.size), .string ⟨#[239, 191, 189]⟩] w0 fun e w' => e = .returned (.bool false) ∧ w' = w0 := by
            have h : Lib.hasPrefix (s.data.toList.drop pos) [239, 191, 189] = false := by
              have h := HF.out
              rw [hb] at h
              cases hh : Lib.hasPrefix (s.data.toList.drop pos) [239, 191, 189] with
              | false => rfl
              | true => rw [hh] at h; cases h
            intro w0
            have h1 := hasPrefix_any (s.extract pos s.size) ⟨#[239, 191, 189]⟩ w0
            rw [HX.out] at h1 ⊢
            rw [← h]
            exact h1
          clear hb HF
          go_wp2_with (first | (go_at_call 104; refine (HP _).mono ?_; rintro e W1 ⟨rfl, rfl⟩) | go_in)
          go_ret2
          exact ⟨_, ret_two HL.out.2.symm, by rw [HL.out.1]; exact World.ownsRow_nil _ _ _ _, hbw2⟩
        · have HR : Hid (runesAt s.data.toList (pos + (Utf8.decode s pos).2) (acc ++ [65533])) := by
            have h := runesAt_step hR HE.out (by simpa using hb)
            rw [HD.out, hff] at h
            exact h
          have HP : ∀ w0, Calls Try.prog 104 #[.string (s.extract pos s.size), .string ⟨#[239, 191, 189]⟩] w0 fun e w' => e = .returned (.bool true) ∧ w' = w0 := by
            have h : Lib.hasPrefix (s.data.toList.drop pos) [239, 191, 189] = true := by
              have h := HF.out
              cases hh : Lib.hasPrefix (s.data.toList.drop pos) [239, 191, 189] with
              | true => rfl
              | false => rw [hh] at h; exact absurd h hb
            intro w0
            have h1 := hasPrefix_any (s.extract pos s.size) ⟨#[239, 191, 189]⟩ w0
            rw [HX.out] at h1 ⊢
            rw [← h]
            exact h1
          clear hb HF
          go_wp2_with (first
            | (go_at_call 104; refine (HP _).mono ?_; rintro e W1 ⟨rfl, rfl⟩)
            | (at_builtin; refine wpList_append_own _ rfl _ _ 112 rfl w.heap.size 21 i0 (.int .i32 0) 1 4 Try.underlying112 hi hz0 hz1 hz2 rfl (by decide) _ _ _ rfl (hown2.alloc _) ⟨_, 0, none⟩ 1 1 [.int .i32 ((65533 : Nat) : Int)] rfl rfl (one_new5 _ _ _) (one_cell32 _) ?c3 ?c4 ?c5 ?_)
            | go_in)
          case c3 => unfold maxLen; omega
          case c4 => omega
          case c5 => simp; omega
          intro v' w1 hown' hgrow _
          have R1 := own_below hown2 hsz2 hbw2 hgrow
          have R2 := own_iter hown2 hgrow hit2
          rw [cells32_ff] at hown'
          clear hgrow hown hown2
          go_wp2
          go_roundw
          case rel => exact ⟨_, _, by simpa using hown', R2, R1, HR.out⟩
          case measure =>
            simp only [World.iterPos, R2, hit]
            omega
      · have HR : Hid (runesAt s.data.toList (pos + (Utf8.decode s pos).2) (acc ++ [(Utf8.decode s pos).1])) := by
          have h := runesAt_step hR HE.out (Nm.not_bad_of (by rw [HD.out]; exact hff))
          rw [HD.out] at h
          exact h
        go_wp2_with (first
          | (at_builtin; refine wpList_append_own _ rfl _ _ 112 rfl w.heap.size 21 i0 (.int .i32 0) 1 4 Try.underlying112 hi hz0 hz1 hz2 rfl (by decide) _ _ _ rfl (hown2.alloc _) ⟨_, 0, none⟩ 1 1 [.int .i32 ((Utf8.decode s pos).1 : Nat)] rfl rfl (one_new5 _ _ _) (one_cell32 _) ?c3 ?c4 ?c5 ?_)
          | go_in)
        case c3 => unfold maxLen; omega
        case c4 => omega
        case c5 => simp; omega
        intro v' w1 hown' hgrow _
        have R1 := own_below hown2 hsz2 hbw2 hgrow
        have R2 := own_iter hown2 hgrow hit2
        rw [cells32_snoc] at hown'
        clear hgrow hown hown2
        go_wp2
        go_roundw
        case rel => exact ⟨_, _, by simpa using hown', R2, R1, HR.out⟩
        case measure =>
          simp only [World.iterPos, R2, hit]
          omega
    · have hnx : ∀ ty, (Instr.next (.pointer (some ⟨w.heap.size, 0, none⟩)) true ty).run Try.prog wr = _ := fun ty => Lib.run_next_end_at wr w.heap.size s pos ty hit hp
      have HL : Hid (runesL s.data.toList = acc ∧ runesOk s.data.toList = true) := by
        have h := runesL_some (runesAt_end hR (drop_nil hp))
        exact h
      go_wp2
      go_ret2
      exact ⟨_, ret_two HL.out.2.symm, by rw [HL.out.1]; exact hown, hbw⟩

end Go.Proofs.Ytghkjbekjkejpaa.U
