/- The walks of the two 'Right' and the two 'Clean' · The walk of name.isQuoted · The walks of 'Same', the two 'Quote'. -/
import Derived.Test.YthlhopdlkkeohaaGreatDoorCharsAll
/- The walks of the two 'Right' and the two 'Clean'. -/
namespace Go.Proofs.YthlhopdlkkeohaaGreatDoor.U
open Go.RowKit

theorem runesF_le (n : Nat) : ∀ (l : List UInt8) (rs : List Nat), Nm.runesF n l = some rs → ∀ c ∈ rs, c ≤ 1114111 := by
  induction n with
  | zero =>
    intro l rs h
    simp [Nm.runesF] at h
    subst h
    simp
  | succ n ih =>
    intro l rs h
    by_cases hne : l = []
    · subst hne
      rw [Nm.runesF_nil] at h
      cases h
      simp
    · rw [Nm.runesF, if_neg hne] at h
      by_cases hb : Nm.isBad l = true
      · rw [if_pos hb] at h
        cases h
      · rw [if_neg hb] at h
        obtain ⟨r, hr, rfl⟩ := Option.map_eq_some_iff.1 h
        intro c hc
        rcases List.mem_cons.1 hc with rfl | hc
        · exact Lib.decodeL_rune l
        · exact ih _ r hr c hc
theorem runesL_le (l : List UInt8) (k : Nat) (h : k < (runesL l).length) : (runesL l)[k] ≤ 1114111 := by
  cases hr : Nm.runes l with
  | none =>
    have := (runesL_none hr).1
    rw [this] at h
    simp at h
  | some rs =>
    have e := (runesL_some hr).1
    have h2 := runesF_le _ l rs hr
    subst e
    exact h2 _ (List.getElem_mem h)
/-- What lies at a place of the call's own memory. -/
theorem own_slice {w : World} {B : Nat} {e : TypeId} {v : Value} {n : Nat} {xs : List Value} (h : w.ownsRow B e 1 v n xs) : ∃ ao cap, v = .slice ao n cap := by
  rcases h.2 with ⟨hv, h0⟩ | ⟨g, cap, cur, hv, _⟩
  · exact ⟨none, 0, by rw [hv, h0]⟩
  · exact ⟨_, _, hv⟩
theorem own_cell {w : World} {B : Nat} {e : TypeId} {ao : Option Addr} {n m cap k : Nat} {xs : List Value} {x : Value} (h : w.ownsRow B e 1 (.slice ao n cap) m xs) (hx : xs[k]? = some x) : ∃ g, ao = some ⟨g, 0, none⟩ ∧ w.cell? ⟨g, k, none⟩ = some x := by
  rcases h.2 with ⟨_, h0⟩ | ⟨g, cap', cur, hv, _⟩
  · have := h.1
    rw [h0] at this
    have h1 : xs = [] := List.eq_nil_of_length_eq_zero (by omega)
    rw [h1] at hx
    simp at hx
  · injection hv with e1 _ _
    subst e1
    refine ⟨g, rfl, ?_⟩
    have := h.cells rfl k x hx
    have hadd : (⟨g, 0, none⟩ : Addr).add k = ⟨g, k, none⟩ := by unfold Addr.add; split <;> simp_all
    rw [hadd] at this
    exact this
theorem cells64_at {l : List Nat} {k : Nat} (h : k < l.length) : (cells64 l)[k]? = some (.int .i64 (l[k] : Int)) := by simp [cells64, List.getElem?_eq_getElem h]
theorem cells32_at {l : List Nat} {k : Nat} (h : k < l.length) : (cells32 l)[k]? = some (.int .i32 (l[k] : Int)) := by simp [cells32, List.getElem?_eq_getElem h]
/-- Of the characters so many, from the first on, may stand in a name. -/
def mayTo (rs : List Nat) (k : Nat) : Prop := ∀ c ∈ rs.take k, Nm.may c = true
theorem mayTo_zero (rs : List Nat) : mayTo rs 0 := by intro c hc; simp at hc
theorem mayTo_step {rs : List Nat} {k : Nat} (h : mayTo rs k) (hk : k < rs.length) (hm : Nm.may rs[k] = true) : mayTo rs (k + 1) := by
  intro c hc
  rw [List.take_succ_eq_append_getElem hk] at hc
  rcases List.mem_append.1 hc with h1 | h1
  · exact h c h1
  · simp at h1
    subst h1
    exact hm
theorem isName_not {l : List UInt8} {k : Nat} (hk : k < (runesL l).length) (hm : Nm.may (runesL l)[k] = false) : Nm.isName l = false := by
  unfold Nm.isName
  cases hr : Nm.runes l with
  | none => rfl
  | some rs =>
    have e := (runesL_some hr).1
    have h1 : (rs.all Nm.may) = false := by
      rw [List.all_eq_false]
      subst e
      exact ⟨_, List.getElem_mem hk, by rw [hm]; simp⟩
    simp [h1]
theorem isName_all {l : List UInt8} {k : Nat} (hk : ¬ k < (runesL l).length) (hm : mayTo (runesL l) k) : Nm.isName l = (runesOk l && decide (1 ≤ (runesL l).length) && decide ((runesL l).length ≤ 24)) := by
  unfold Nm.isName
  cases hr : Nm.runes l with
  | none => simp [(runesL_none hr).2]
  | some rs =>
    obtain ⟨e1, e2⟩ := runesL_some hr
    rw [e2, e1]
    rw [e1] at hk hm
    have h1 : (rs.all Nm.may) = true := by
      rw [List.all_eq_true]
      intro c hc
      exact hm c (by rw [List.take_of_length_le (by omega)]; exact hc)
    simp [h1]

theorem runesF_len (n : Nat) : ∀ (l : List UInt8) (rs : List Nat), Nm.runesF n l = some rs → rs.length ≤ n := by
  induction n with
  | zero =>
    intro l rs h
    simp [Nm.runesF] at h
    subst h
    simp
  | succ n ih =>
    intro l rs h
    by_cases hne : l = []
    · subst hne
      rw [Nm.runesF_nil] at h
      cases h
      simp
    · rw [Nm.runesF, if_neg hne] at h
      by_cases hb : Nm.isBad l = true
      · rw [if_pos hb] at h
        cases h
      · rw [if_neg hb] at h
        obtain ⟨r, hr, rfl⟩ := Option.map_eq_some_iff.1 h
        have := ih _ r hr
        simp
        omega
theorem runesL_len (s : ByteArray) : (runesL s.data.toList).length ≤ s.size := by
  cases hr : Nm.runes s.data.toList with
  | none => rw [(runesL_none hr).1]; simp
  | some rs =>
    rw [(runesL_some hr).1, ← size_len]
    exact runesF_len _ _ rs hr

set_option maxRecDepth 20000 in
set_option maxHeartbeats 2000000 in
theorem refRight_any (s : ByteArray) (w : World) (hs : s.size ≤ 2000000) :
    Calls Tryz.prog 171 #[.string s] w fun e w' => e = .returned (.bool (Nm.right s.data.toList)) ∧ Below w.heap.size w w' := by
  have HN : Hid (Nm.right s.data.toList = Nm.isName s.data.toList) := Nm.right_isName _
  go_enter Tryz.func171, Tryz.ntmps171
  go_wp2_with (go_at_call 172; refine (refRunes_any s _ hs).mono ?_)
  rintro e W1 ⟨v, rfl, hown, hbw⟩
  have hle := runesL_le s.data.toList
  have hlen := runesL_len s
  have HX := @isName_not s.data.toList
  have HY := @isName_all s.data.toList
  generalize runesL s.data.toList = rs at *
  generalize runesOk s.data.toList = ok at *
  generalize Nm.isName s.data.toList = nm at *
  obtain ⟨ao, cap, rfl⟩ := own_slice hown
  have hrl : rs.length ≤ s.size := hlen
  go_wp2
  go_loop [5] (fun i => ∃ k : Nat, k ≤ rs.length ∧ i = .int .i64 k ∧ mayTo rs k) (fun i => rs.length - (intOf i).toNat)
  case atStart => exact ⟨0, by omega, rfl, mayTo_zero _⟩
  case round =>
    obtain ⟨k, hk, rfl, hm⟩ := hrel
    by_cases hlt : k < rs.length
    · obtain ⟨g, rfl, hcell⟩ := own_cell hown (cells64_at hlt)
      have hb := hle k hlt
      have HM := may_any rs[k]
      cases hmk : Nm.may rs[k] with
      | false =>
        rw [hmk] at HM
        have HL : Hid (Nm.right s.data.toList = false) := by
          have h := HN.out
          rw [HX hlt hmk] at h
          exact h
        clear HX HY HN
        generalize rs[k] = c at *
        go_wp2_with (first | (go_at_call 190; refine (HM _ (by omega)).mono ?_; rintro e W2 ⟨rfl, rfl⟩) | go_in)
        go_ret
        exact ⟨ret_bool HL.out.symm, hbw⟩
      | true =>
        rw [hmk] at HM
        have HS := mayTo_step hm hlt hmk
        clear HX HY HN
        generalize rs[k] = c at *
        go_wp2_with (first | (go_at_call 190; refine (HM _ (by omega)).mono ?_; rintro e W2 ⟨rfl, rfl⟩) | go_in)
        go_round
        case rel => exact ⟨k + 1, by omega, by go_num, HS⟩
        case measure => simp [intOf]; omega
    · have HL : Hid (Nm.right s.data.toList = (ok && decide (1 ≤ rs.length) && decide (rs.length ≤ 24))) := by
        have h := HN.out
        rw [HY hlt hm] at h
        exact h
      clear HX HY HN
      clear hle
      have hk' : k = rs.length := by omega
      cases ok with
      | false =>
        go_wp2
        go_ret
        exact ⟨ret_bool (by rw [HL.out]; rfl), hbw⟩
      | true =>
        by_cases h1 : rs.length = 0
        · rw [h1] at HL
          go_wp2
          go_ret
          exact ⟨ret_bool (by rw [HL.out]; rfl), hbw⟩
        · by_cases h2 : rs.length ≤ 24
          · have HL2 : Hid (Nm.right s.data.toList = true) := by
              have h := HL.out
              rw [decide_eq_true (by omega : 1 ≤ rs.length), decide_eq_true h2] at h
              exact h
            clear HL
            go_wp2
            go_ret
            exact ⟨ret_bool (by rw [HL2.out]; first | done | (simp; exact_mod_cast h2) | (simp; exact_mod_cast Nat.lt_of_not_le h2)), hbw⟩
          · have HL2 : Hid (Nm.right s.data.toList = false) := by
              have h := HL.out
              rw [decide_eq_true (by omega : 1 ≤ rs.length), decide_eq_false h2] at h
              exact h
            clear HL
            go_wp2
            go_ret
            exact ⟨ret_bool (by rw [HL2.out]; first | done | (simp; exact_mod_cast h2) | (simp; exact_mod_cast Nat.lt_of_not_le h2)), hbw⟩

/-! ### The two 'Clean' -/
/-- Where a walk stands: what was kept, how many characters, what is still to read. -/
def cleanAt (l : List UInt8) (pos k : Nat) (acc : List UInt8) : Prop := pos ≤ l.length ∧ k ≤ 24 ∧ acc.length ≤ pos ∧ (k = 0 ↔ acc = []) ∧ Nm.cgo 0 l = acc ++ Nm.cgo k (l.drop pos)
theorem cleanAt_zero (l : List UInt8) : cleanAt l 0 0 [] := ⟨by omega, by omega, by simp, by simp, by simp⟩
theorem ret_str {a b : ByteArray} (h : a = b) : Ending.returned (.string a) = .returned (.string b) := by rw [h]
theorem bytes_of {a : ByteArray} {l : List UInt8} (h : a.data.toList = l) : a = ⟨l.toArray⟩ := by
  subst h
  apply ByteArray.ext
  simp
theorem extract_list (s : ByteArray) (a b : Nat) : (s.extract a b).data.toList = (s.data.toList.drop a).take (b - a) := by
  simp [ByteArray.data_extract, Array.toList_extract, List.extract_eq_take_drop]

theorem slice_add (s : ByteArray) (a d : Nat) (h : a + d ≤ s.size) : ∀ wx, (Instr.slice 9 (.string s) (some (.int .i64 (a : Int))) (some (.int .i64 ((a : Int) + (d : Int)))) none).run Tryz.prog wx = .ok (.string (s.extract a (a + d))) wx := by
  intro wx
  have h1 := run_slice_string (P := Tryz.prog) wx 9 s .i64 .i64 (a : Int) ((a : Int) + (d : Int)) Tryz.underlying9 (by omega) (by omega) (by omega)
  rw [h1]
  congr 2

end Go.Proofs.YthlhopdlkkeohaaGreatDoor.U
/- The walk of name.isQuoted. -/
namespace Go.Proofs.YthlhopdlkkeohaaGreatDoor.U
open Go.RowKit

set_option maxRecDepth 20000 in
theorem isQuoted_any (c : Nat) (w : World) (hc : c ≤ 2147483647) :
    Calls Tryz.prog 127 #[.int .i32 c] w fun e w' => e = .returned (.bool (isQN c)) ∧ w' = w := by
  by_cases h1 : c = 47
  · subst h1
    go_enter Tryz.func127, Tryz.ntmps127
    go_wp2
    go_ret
    exact ⟨rfl, rfl⟩
  · by_cases h2 : c = 92
    · subst h2
      go_enter Tryz.func127, Tryz.ntmps127
      go_wp2
      go_ret
      exact ⟨rfl, rfl⟩
    · have HM : Hid (isQN c = false) := by
        have h : isQN c = false := by simp [isQN, h1, h2]
        exact h
      go_enter Tryz.func127, Tryz.ntmps127
      go_wp2
      go_ret
      exact ⟨ret_bool (by rw [HM.out]; first | done | (simp; omega)), rfl⟩


end Go.Proofs.YthlhopdlkkeohaaGreatDoor.U
/- The walks of 'Same', the two 'Quote'. -/
namespace Go.Proofs.YthlhopdlkkeohaaGreatDoor.U
open Go.RowKit

/-! ### Texts in memory -/
def cellsS (l : List (List UInt8)) : List Value := l.map fun x => .string ⟨x.toArray⟩
theorem cellsS_snoc (l : List (List UInt8)) (x : List UInt8) : cellsS l ++ [.string ⟨x.toArray⟩] = cellsS (l ++ [x]) := by simp [cellsS]
theorem cellsS_length (l : List (List UInt8)) : (cellsS l).length = l.length := by simp [cellsS]
theorem cellsS_at {l : List (List UInt8)} {k : Nat} (h : k < l.length) : (cellsS l)[k]? = some (.string ⟨(l[k]).toArray⟩) := by simp [cellsS, List.getElem?_eq_getElem h]
/-- A slice in memory reads as these texts. -/
def strsAt (w : World) (v : Value) (xs : List (List UInt8)) : Prop := ∃ ao cap, v = .slice ao xs.length cap ∧ xs.length ≤ cap ∧ ∀ k (h : k < xs.length), ∃ ad, ao = some ad ∧ w.cell? (ad.add k) = some (.string ⟨(xs[k]).toArray⟩)
theorem strsAt_nil (w : World) : strsAt w (.slice none 0 0) [] := ⟨none, 0, rfl, Nat.le_refl _, fun k h => by simp at h⟩
theorem strsAt_own {w : World} {B : Nat} {v : Value} {xs : List (List UInt8)} (h : w.ownsRow B 9 1 v xs.length (cellsS xs)) : strsAt w v xs := by
  rcases h.2 with ⟨rfl, h0⟩ | ⟨g, cap, cur, rfl, r⟩
  · obtain rfl : xs = [] := List.eq_nil_of_length_eq_zero h0
    exact strsAt_nil w
  · exact ⟨_, cap, rfl, r.2.2.1, fun k hk => ⟨_, rfl, h.cells rfl k _ (cellsS_at hk)⟩⟩
theorem strsAt_below {w w' : World} {B : Nat} {v : Value} {xs : List (List UInt8)} (h : strsAt w v xs) (hb : Below B w w') (hB : w.heap.size ≤ B) : strsAt w' v xs := by
  obtain ⟨ao, cap, hv, hcap, hc⟩ := h
  refine ⟨ao, cap, hv, hcap, fun k hk => ?_⟩
  obtain ⟨ad, h1, h2⟩ := hc k hk
  exact ⟨ad, h1, (hb.cell (Nat.lt_of_lt_of_le (World.block_lt_of_cell? _ _ h2) hB)).trans h2⟩

/-- So many of the texts are the same. -/
def sameTo (xs ys : List (List UInt8)) (k : Nat) : Prop := xs.take k = ys.take k
theorem sameTo_zero (xs ys : List (List UInt8)) : sameTo xs ys 0 := by simp [sameTo]
theorem sameTo_step {xs ys : List (List UInt8)} {k : Nat} (h : sameTo xs ys k) (h1 : k < xs.length) (h2 : k < ys.length) (he : xs[k] = ys[k]) : sameTo xs ys (k + 1) := by
  unfold sameTo at h ⊢
  rw [List.take_succ_eq_append_getElem h1, List.take_succ_eq_append_getElem h2, h, he]
theorem same_not {xs ys : List (List UInt8)} {k : Nat} (h1 : k < xs.length) (h2 : k < ys.length) (he : ¬ xs[k] = ys[k]) : decide (xs = ys) = false := by
  apply decide_eq_false
  intro e
  subst e
  exact he rfl
theorem same_all {xs ys : List (List UInt8)} {k : Nat} (h : sameTo xs ys k) (h1 : ¬ k < xs.length) (hl : xs.length = ys.length) : decide (xs = ys) = true := by
  apply decide_eq_true
  unfold sameTo at h
  rw [List.take_of_length_le (by omega), List.take_of_length_le (by omega)] at h
  exact h

set_option maxRecDepth 20000 in
set_option maxHeartbeats 2000000 in
theorem same_any (va vb : Value) (xs ys : List (List UInt8)) (w : World) (hx : xs.length ≤ 2000000) (ha : strsAt w va xs) (hb : strsAt w vb ys) :
    Calls Tryz.prog 48 #[va, vb] w fun e w' => e = .returned (.bool (decide (xs = ys))) ∧ Below w.heap.size w w' := by
  obtain ⟨ao, ca, rfl, _, hca⟩ := ha
  obtain ⟨bo, cb, rfl, _, hcb⟩ := hb
  by_cases hl : xs.length = ys.length
  · go_enter Tryz.func48, Tryz.ntmps48
    go_wp2
    go_loopw [5] (fun i wr => ∃ k : Nat, k ≤ xs.length ∧ i = .int .i64 k ∧ sameTo xs ys k ∧ wr.heap = w.heap ∧ Below w.heap.size w wr) (fun i _ => xs.length - (intOf i).toNat)
    case atStart => exact ⟨0, by omega, rfl, sameTo_zero _ _, rfl, Below.refl _ w⟩
    case round =>
      obtain ⟨k, hk, rfl, hS, hheap, hbw⟩ := hrel
      by_cases hlt : k < xs.length
      · have hlt2 : k < ys.length := by omega
        obtain ⟨ad, rfl, hA⟩ := hca k hlt
        obtain ⟨bd, rfl, hB⟩ := hcb k hlt2
        have hA2 : wr.cell? (ad.add k) = some (.string ⟨(xs[k]).toArray⟩) := (World.cell?_of_block (by rw [hheap])).trans hA
        have hB2 : wr.cell? (bd.add k) = some (.string ⟨(ys[k]).toArray⟩) := (World.cell?_of_block (by rw [hheap])).trans hB
        clear hca hcb hA hB
        by_cases he : xs[k] = ys[k]
        · have HS := sameTo_step hS hlt hlt2 he
          rw [← he] at hB2
          generalize xs[k] = x at *
          go_wp2
          go_region
          all_goals
            go_wp2
            go_roundw
            case rel => exact ⟨k + 1, by omega, by go_num, HS, hheap, hbw.drew⟩
            case measure => simp [intOf]; omega
        · have HL : Hid (decide (xs = ys) = false) := by
            have h := same_not hlt hlt2 he
            exact h
          have hne : ¬ (⟨(xs[k]).toArray⟩ : ByteArray) = ⟨(ys[k]).toArray⟩ := fun e => he (by
            have := congrArg (fun b : ByteArray => b.data.toList) e
            simpa using this)
          have hbe : (xs[k] == ys[k]) = false := beq_eq_false_iff_ne.2 he
          generalize xs[k] = x at *
          generalize ys[k] = y at *
          go_wp2
          go_region
          all_goals
            go_wp2
            go_ret
            exact ⟨ret_bool HL.out.symm, hbw.drew⟩
      · have HL : Hid (decide (xs = ys) = true) := by
          have h := same_all hS hlt hl
          exact h
        go_wp2
        go_ret
        exact ⟨ret_bool HL.out.symm, hbw⟩
  · have HL : Hid (decide (xs = ys) = false) := by
      have h : decide (xs = ys) = false := decide_eq_false (fun e => hl (by rw [e]))
      exact h
    clear hca hcb
    go_enter Tryz.func48, Tryz.ntmps48
    go_wp2
    go_ret
    exact ⟨ret_bool HL.out.symm, Below.refl _ w⟩

/-! ### Quoted -/
/-- Where a walk through the characters stands: what is written, from where on the rest is not, what is still to read. -/
def quoteAt (l : List UInt8) (pos fr : Nat) (acc : List UInt8) : Prop := fr ≤ pos ∧ pos ≤ l.length ∧ acc.length + (pos - fr) ≤ 2 * pos ∧ Nm.quote l = acc ++ ((l.take pos).drop fr ++ Nm.quote (l.drop pos))
theorem quoteAt_zero (l : List UInt8) : quoteAt l 0 0 [] := ⟨by omega, by omega, by simp, by simp⟩
theorem take_chunk (l : List UInt8) {fr pos d : Nat} (h1 : fr ≤ pos) (h2 : pos ≤ l.length) : (l.take (pos + d)).drop fr = (l.take pos).drop fr ++ (l.drop pos).take d := by
  rw [List.take_add, List.drop_append_of_le_length (by simp; omega)]
/-- The byte in front of what is quoted; the character is that byte. -/
theorem isQN_byte {l : List UInt8} (hne : l ≠ []) (h : isQN (Lib.decodeL l).1 = true) : ∃ b t, l = b :: t ∧ Nm.isQ b = true ∧ (Lib.decodeL l).2 = 1 ∧ b.toNat = (Lib.decodeL l).1 := by
  cases l with
  | nil => exact absurd rfl hne
  | cons b t =>
    rcases Nm.chunk (b :: t) hne with ⟨h1, h2⟩ | ⟨_, h2, _⟩
    · rw [h2] at h
      simp only [List.getD_cons_zero] at h h1 h2
      refine ⟨b, t, rfl, ?_, by rw [h2], by rw [h2]⟩
      simp only [isQN, Bool.or_eq_true, beq_iff_eq] at h
      simp only [Nm.isQ, Bool.or_eq_true, beq_iff_eq]
      rcases h with h | h
      · left; exact UInt8.toNat_inj.1 h
      · right; exact UInt8.toNat_inj.1 h
    · simp only [isQN, Bool.or_eq_true, beq_iff_eq] at h
      omega
/-- No byte of another character is a slash or an escape. -/
theorem isQN_none {l : List UInt8} (hne : l ≠ []) (h : isQN (Lib.decodeL l).1 = false) : ∀ x ∈ l.take (Lib.decodeL l).2, Nm.isQ x = false := by
  rcases Nm.chunk l hne with ⟨h1, h2⟩ | ⟨_, _, h3⟩
  · intro x hx
    rw [h2] at h hx
    cases l with
    | nil => exact absurd rfl hne
    | cons b t =>
      simp only [List.getD_cons_zero] at h
      simp at hx
      subst hx
      simp only [isQN, Bool.or_eq_false_iff, beq_eq_false_iff_ne] at h
      simp only [Nm.isQ, Bool.or_eq_false_iff, beq_eq_false_iff_ne]
      refine ⟨fun e => h.1 (by rw [e]; rfl), fun e => h.2 (by rw [e]; rfl)⟩
  · intro x hx
    exact Nm.isQ_high (h3 x hx)
theorem quoteAt_step {l : List UInt8} {pos fr : Nat} {acc : List UInt8} (h : quoteAt l pos fr acc) (hne : l.drop pos ≠ []) (hq : isQN (Lib.decodeL (l.drop pos)).1 = false) : quoteAt l (pos + (Lib.decodeL (l.drop pos)).2) fr acc := by
  have h1 := Lib.decodeL_le _ hne
  rw [List.length_drop] at h1
  obtain ⟨a1, a2, a3, a4⟩ := h
  refine ⟨by omega, by omega, by omega, ?_⟩
  rw [take_chunk l a1 a2, a4]
  have e : Nm.quote (l.drop pos) = (l.drop pos).take (Lib.decodeL (l.drop pos)).2 ++ Nm.quote (l.drop (pos + (Lib.decodeL (l.drop pos)).2)) := by
    conv => lhs; rw [← List.take_append_drop (Lib.decodeL (l.drop pos)).2 (l.drop pos)]
    rw [Nm.quote_append, Nm.quote_high (isQN_none hne hq), List.drop_drop]
  rw [e]
  simp
theorem quoteAt_esc {l : List UInt8} {pos fr : Nat} {acc : List UInt8} (h : quoteAt l pos fr acc) (hne : l.drop pos ≠ []) (hq : isQN (Lib.decodeL (l.drop pos)).1 = true) : quoteAt l (pos + (Lib.decodeL (l.drop pos)).2) pos (acc ++ (l.take pos).drop fr ++ [92]) := by
  have h1 := Lib.decodeL_le _ hne
  rw [List.length_drop] at h1
  obtain ⟨b, t, e1, e2, e3, _⟩ := isQN_byte hne hq
  obtain ⟨a1, a2, a3, a4⟩ := h
  rw [e3] at h1 ⊢
  refine ⟨by omega, by omega, ?_, ?_⟩
  · simp only [List.length_append, List.length_drop, List.length_take, List.length_singleton]
    omega
  · have e4 : l.drop (pos + 1) = t := by rw [← List.drop_drop, e1]; rfl
    have e5 : (l.take (pos + 1)).drop pos = [b] := by
      rw [take_chunk l (Nat.le_refl _) a2, e1]
      simp
    rw [e4, e5, a4, e1, Nm.quote_cons, if_pos e2]
    simp

theorem quoteAt_end {l : List UInt8} {pos fr : Nat} {acc : List UInt8} (h : quoteAt l pos fr acc) (hn : l.drop pos = []) : Nm.quote l = acc ++ l.drop fr := by
  obtain ⟨a1, a2, a3, a4⟩ := h
  have : pos = l.length := by
    have := congrArg List.length hn
    rw [List.length_drop] at this
    simp at this
    omega
  rw [a4, hn, Nm.quote_nil, List.append_nil, this, List.take_length]
theorem extract_mid (s : ByteArray) {a b : Nat} : (s.extract a b).data.toList = (s.data.toList.take b).drop a := by
  rw [extract_list, List.drop_take]

set_option maxRecDepth 100000 in
set_option maxHeartbeats 4000000 in
theorem quote_any (s : ByteArray) (w : World) (hs : s.size ≤ 2000000) :
    Calls Tryz.prog 88 #[.string s] w fun e w' => e = .returned (.string ⟨(Nm.quote s.data.toList).toArray⟩) ∧ Below w.heap.size w w' := by
  go_enter Tryz.func88, Tryz.ntmps88
  go_wp2
  go_loopw [4] (fun f wr => ∃ (pos fr : Nat) (acc : List UInt8), f = .int .i64 fr ∧ Lib.IsBuilderF 102 5 w.heap.size w.heap.size (Lib.byteCells acc) wr ∧ wr.heap[w.heap.size + 1]? = some (.stringIter s pos) ∧ Below w.heap.size w wr ∧ quoteAt s.data.toList pos fr acc) (fun _ wr => s.size - wr.iterPos (w.heap.size + 1))
  case atStart =>
    refine ⟨0, 0, [], rfl, (Lib.IsBuilderF.of (Lib.fresh_isBuilder 102 5 w)).alloc _, ?_, ((Below.refl _ w).alloc (Nat.le_refl _) _).alloc (by simp) _, quoteAt_zero _⟩
    have := World.iter_heap (w.alloc (.cells #[.pointer none, .slice none 0 0] 102)) s 0
    simpa using this
  case round =>
    obtain ⟨pos, fr, acc, rfl, hI, hit, hbw, hR⟩ := hrel
    have hsz : w.heap.size + 1 < wr.heap.size := heap_lt hit
    have hfr := hR.1
    have hpl := hR.2.1
    rw [size_len] at hpl
    have hal := hR.2.2.1
    by_cases hp : pos < s.size
    · have hnx : ∀ ty, (Instr.next (.pointer (some ⟨w.heap.size + 1, 0, none⟩)) true ty).run Tryz.prog wr = _ := fun ty => Lib.run_next_any_at wr (w.heap.size + 1) s pos ty hit hp
      have HE : Hid (s.data.toList.drop pos ≠ []) := drop_ne hp
      have HD : Hid (Lib.decodeL (s.data.toList.drop pos) = Utf8.decode s pos) := Lib.decodeL_drop s pos
      have hd1 := decode_le s pos
      have hwd : 1 ≤ (Utf8.decode s pos).2 := by rw [← HD.out]; exact Lib.decodeL_width _
      have hI2 := hI.iterAt hit (pos + (Utf8.decode s pos).2)
      have hit2 := Lib.iterAt_heap wr (w.heap.size + 1) s pos (pos + (Utf8.decode s pos).2) hit
      have hbw2 := Lib.below_iterAt hbw (k := w.heap.size + 1) (by omega) s (pos + (Utf8.decode s pos).2)
      have hsz2 : w.heap.size ≤ (wr.iterAt (w.heap.size + 1) s (pos + (Utf8.decode s pos).2)).heap.size := by rw [Lib.iterAt_size]; omega
      have HQ := isQuoted_any (Utf8.decode s pos).1
      cases hq : isQN (Utf8.decode s pos).1 with
      | false =>
        rw [hq] at HQ
        have HR : Hid (quoteAt s.data.toList (pos + (Utf8.decode s pos).2) fr acc) := by
          have h := quoteAt_step hR HE.out (by rw [HD.out]; exact hq)
          rw [HD.out] at h
          exact h
        clear hR
        go_wp2_with (first | (go_at_call 127; refine (HQ _ hd1).mono ?_; rintro e W1 ⟨rfl, rfl⟩) | go_in)
        go_roundw
        case rel => exact ⟨_, fr, acc, rfl, hI2, hit2, hbw2, HR.out⟩
        case measure =>
          simp only [World.iterPos, hit2, hit]
          omega
      | true =>
        rw [hq] at HQ
        have HR : Hid (quoteAt s.data.toList (pos + (Utf8.decode s pos).2) pos (acc ++ (s.data.toList.take pos).drop fr ++ [92])) := by
          have h := quoteAt_esc hR HE.out (by rw [HD.out]; exact hq)
          rw [HD.out] at h
          exact h
        clear hR
        have HX : Hid (Lib.strCells (s.extract fr pos) = Lib.byteCells ((s.data.toList.take pos).drop fr)) := by
          have h : Lib.strCells (s.extract fr pos) = Lib.byteCells ((s.data.toList.take pos).drop fr) := by rw [Lib.strCells_eq, extract_mid s]
          exact h
        go_wp2_with (first
          | (go_at_call 127; refine (HQ _ hd1).mono ?_; rintro e W1 ⟨rfl, rfl⟩)
          | (go_at_call 50; refine (writeString_any w.heap.size w.heap.size _ (s.extract fr pos) _ hI2 (by rw [Lib.byteCells_length, ByteArray.size_extract]; omega) hsz2).mono ?_)
          | go_in)
        rintro e W1 ⟨rfl, h1, b1, k1⟩
        rw [HX.out, ← Lib.byteCells_append] at h1
        have hit3 := k1.iter hit2 (by omega)
        have hsz3 : w.heap.size ≤ W1.heap.size := Nat.le_trans hsz2 b1.size
        have hlen : (acc ++ (s.data.toList.take pos).drop fr).length ≤ 2 * s.size := by
          rw [List.length_append, List.length_drop, List.length_take, size_len]; omega
        go_wp2_with (first
          | (go_at_call 51; refine (writeByte_any w.heap.size w.heap.size _ 92 _ h1 (by rw [Lib.byteCells_length]; omega) hsz3).mono ?_)
          | go_in)
        rintro e W2 ⟨rfl, h2, b2, k2⟩
        have hit4 := k2.iter hit3 (by omega)
        go_wp2
        go_roundw
        case rel =>
          refine ⟨pos + (Utf8.decode s pos).2, pos, acc ++ (s.data.toList.take pos).drop fr ++ [92], rfl, ?_, hit4, (hbw2.trans b1).trans b2, HR.out⟩
          rw [Lib.byteCells_append]
          exact h2
        case measure =>
          simp only [World.iterPos, hit4, hit]
          omega
    · have hnx : ∀ ty, (Instr.next (.pointer (some ⟨w.heap.size + 1, 0, none⟩)) true ty).run Tryz.prog wr = _ := fun ty => Lib.run_next_end_at wr (w.heap.size + 1) s pos ty hit hp
      have HL : Hid (Nm.quote s.data.toList = acc ++ s.data.toList.drop fr) := by
        have h := quoteAt_end hR (drop_nil hp)
        exact h
      clear hR
      have HX : Hid (Lib.strCells (s.extract fr s.size) = Lib.byteCells (s.data.toList.drop fr)) := by
        have h : Lib.strCells (s.extract fr s.size) = Lib.byteCells (s.data.toList.drop fr) := by rw [Lib.strCells_eq, extract_high]
        exact h
      go_wp2_with (first
        | (go_at_call 50; refine (writeString_any w.heap.size w.heap.size _ (s.extract fr s.size) _ hI (by rw [Lib.byteCells_length, ByteArray.size_extract]; omega) (by omega)).mono ?_)
        | go_in)
      rintro e W1 ⟨rfl, h1, b1, k1⟩
      rw [HX.out, ← Lib.byteCells_append] at h1
      have hsz3 : w.heap.size ≤ W1.heap.size := Nat.le_trans (by omega) b1.size
      go_wp2_with (first | (go_at_call 52; refine (bString w.heap.size w.heap.size _ _ h1 hsz3).mono ?_) | go_in)
      rintro e W2 ⟨rfl, _, b2, _⟩
      go_wp2
      go_ret
      exact ⟨ret_str (by rw [HL.out]), (hbw.trans b1).trans b2⟩

theorem slice_one (s : ByteArray) (a : Nat) (h : a < s.size) : ∀ wx, (Instr.slice 9 (.string s) (some (.int .i64 (a : Int))) (some (.int .i64 ((a : Int) + 1))) none).run Tryz.prog wx = .ok (.string ⟨#[s[a]]⟩) wx := by
  intro wx
  have h1 := slice_add s a 1 (by omega) wx
  have e : s.extract a (a + 1) = ⟨#[s[a]]⟩ := by
    have := bytes_of (extract_list s a (a + 1))
    rw [this]
    have h2 : (s.data.toList.drop a).take (a + 1 - a) = [s[a]] := by
      rw [Nat.add_sub_cancel_left, List.drop_eq_getElem_cons (by rw [size_len]; exact h)]
      rfl
    rw [h2]
  rw [e] at h1
  exact h1
theorem drop_cons {s : ByteArray} {pos : Nat} (h : pos < s.size) : s.data.toList.drop pos = s[pos] :: s.data.toList.drop (pos + 1) := by
  rw [List.drop_eq_getElem_cons (by rw [size_len]; exact h)]
  rfl
theorem app_bytes (acc : List UInt8) (b : UInt8) : (⟨acc.toArray⟩ : ByteArray) ++ ⟨#[b]⟩ = ⟨(acc ++ [b]).toArray⟩ := by
  apply bytes_of
  rw [ByteArray.data_append, Array.toList_append]
def qAt (l : List UInt8) (pos : Nat) (acc : List UInt8) : Prop := pos ≤ l.length ∧ acc.length ≤ 2 * pos ∧ Nm.quote l = acc ++ Nm.quote (l.drop pos)
theorem qAt_zero (l : List UInt8) : qAt l 0 [] := ⟨by omega, by simp, by simp⟩
theorem qAt_esc {s : ByteArray} {pos : Nat} {acc : List UInt8} (h : qAt s.data.toList pos acc) (hp : pos < s.size) (hq : Nm.isQ s[pos] = true) : qAt s.data.toList (pos + 1) (acc ++ [92] ++ [s[pos]]) := by
  obtain ⟨a1, a2, a3⟩ := h
  refine ⟨by rw [size_len]; omega, by simp; omega, ?_⟩
  rw [a3, drop_cons hp, Nm.quote_cons, if_pos hq]
  simp
theorem qAt_plain {s : ByteArray} {pos : Nat} {acc : List UInt8} (h : qAt s.data.toList pos acc) (hp : pos < s.size) (hq : Nm.isQ s[pos] = false) : qAt s.data.toList (pos + 1) (acc ++ [s[pos]]) := by
  obtain ⟨a1, a2, a3⟩ := h
  refine ⟨by rw [size_len]; omega, by simp; omega, ?_⟩
  rw [a3, drop_cons hp, Nm.quote_cons, if_neg (by rw [hq]; simp)]
  simp
theorem isQ_nat (b : UInt8) : Nm.isQ b = isQN b.toNat := by
  simp only [Nm.isQ, isQN]
  congr 1
  · rw [Bool.eq_iff_iff]
    simp only [beq_iff_eq]
    exact ⟨fun e => by rw [e]; rfl, fun e => UInt8.toNat_inj.1 e⟩
  · rw [Bool.eq_iff_iff]
    simp only [beq_iff_eq]
    exact ⟨fun e => by rw [e]; rfl, fun e => UInt8.toNat_inj.1 e⟩

set_option maxRecDepth 20000 in
set_option maxHeartbeats 2000000 in
theorem refQuote_any (s : ByteArray) (w : World) (hs : s.size ≤ 2000000) :
    Calls Tryz.prog 91 #[.string s] w fun e w' => e = .returned (.string ⟨(Nm.quote s.data.toList).toArray⟩) ∧ w' = w := by
  go_enter Tryz.func91, Tryz.ntmps91
  go_wp2
  go_loop [3, 4] (fun o i => ∃ (pos : Nat) (acc : List UInt8), o = .string ⟨acc.toArray⟩ ∧ i = .int .i64 pos ∧ qAt s.data.toList pos acc) (fun _ i => s.size - (intOf i).toNat)
  case atStart => exact ⟨0, [], rfl, rfl, qAt_zero _⟩
  case round =>
    obtain ⟨pos, acc, rfl, rfl, hR⟩ := hrel
    have hpl := hR.1
    rw [size_len] at hpl
    have hal := hR.2.1
    by_cases hp : pos < s.size
    · have hsl := slice_one s pos hp
      have HA : Hid ((⟨acc.toArray⟩ : ByteArray) ++ ⟨#[s[pos]]⟩ = ⟨(acc ++ [s[pos]]).toArray⟩) := app_bytes acc _
      have HB : Hid ((⟨acc.toArray⟩ : ByteArray) ++ ⟨#[92]⟩ ++ ⟨#[s[pos]]⟩ = ⟨(acc ++ [92] ++ [s[pos]]).toArray⟩) := by
        have h : (⟨acc.toArray⟩ : ByteArray) ++ ⟨#[92]⟩ ++ ⟨#[s[pos]]⟩ = ⟨(acc ++ [92] ++ [s[pos]]).toArray⟩ := by rw [app_bytes, app_bytes]
        exact h
      by_cases h47 : s[pos].toNat = 47
      · have HR : Hid (qAt s.data.toList (pos + 1) (acc ++ [92] ++ [s[pos]])) := by
          have h := qAt_esc hR hp (by rw [isQ_nat, h47]; rfl)
          exact h
        clear hR
        go_wp2
        go_round
        case rel => exact ⟨pos + 1, _, by rw [← HB.out], by go_num, HR.out⟩
        case measure => simp [intOf]; omega
      · by_cases h92 : s[pos].toNat = 92
        · have HR : Hid (qAt s.data.toList (pos + 1) (acc ++ [92] ++ [s[pos]])) := by
            have h := qAt_esc hR hp (by rw [isQ_nat, h92]; rfl)
            exact h
          clear hR
          go_wp2
          go_round
          case rel => exact ⟨pos + 1, _, by rw [← HB.out], by go_num, HR.out⟩
          case measure => simp [intOf]; omega
        · have HR : Hid (qAt s.data.toList (pos + 1) (acc ++ [s[pos]])) := by
            have h := qAt_plain hR hp (by rw [isQ_nat]; simp [isQN, h47, h92])
            exact h
          clear hR
          have q1 : ((s[pos].toNat : Int) == 47) = false := beq_eq_false_iff_ne.2 (by omega)
          have q2 : ((s[pos].toNat : Int) == 92) = false := beq_eq_false_iff_ne.2 (by omega)
          go_wp2
          go_round
          case rel => exact ⟨pos + 1, _, by rw [← HA.out], by go_num, HR.out⟩
          case measure => simp [intOf]; omega
    · have HL : Hid (Nm.quote s.data.toList = acc) := by
        have h := hR.2.2
        rw [drop_nil hp, Nm.quote_nil, List.append_nil] at h
        exact h
      clear hR
      go_wp2
      go_ret
      exact ⟨ret_str (by rw [HL.out]), rfl⟩

end Go.Proofs.YthlhopdlkkeohaaGreatDoor.U
