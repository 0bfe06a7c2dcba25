/- The walks of the two 'Bytes', and of 'Changed': bytes that are put behind one another in memory of the call's own, told as a text. -/
import Derived.Test.YtpcdfonbejhhgaaDoorMore
import Derived.WalkKit
import Derived.Laws.IdiomStrings
import Derived.Laws.BytesArg
namespace Go.Proofs.YtpcdfonbejhhgaaDoor
open Go.RowKit

/-- Bytes as cells. -/
def cellsOf (l : List UInt8) : List Value := l.map fun b => .int .u8 (b.toNat : Int)
theorem cellsOf_snoc (l : List UInt8) (b : UInt8) : cellsOf (l ++ [b]) = cellsOf l ++ [.int .u8 (b.toNat : Int)] := by simp [cellsOf]
theorem cellsOf_length (l : List UInt8) : (cellsOf l).length = l.length := by simp [cellsOf]

/-- The text of a row of the call's own. -/
theorem conv_own {w : World} {base : Nat} {v : Value} {n : Nat} {l : List UInt8} (h : w.ownsRow base 5 1 v n (cellsOf l)) (hn : n = l.length) :
    (convert 37 9 v).run Tryd.prog w = .ok (.string ⟨l.toArray⟩) w := by
  subst hn
  rcases h.2 with ⟨rfl, h0⟩ | ⟨g, cap, cur, rfl, _⟩
  · obtain rfl : l = [] := List.length_eq_zero_iff.1 h0
    exact run_convert_bytes_nil w 37 5 Tryd.underlying37 Tryd.underlying5 0 0 9 Tryd.underlying9
  · refine run_convert_bytes_back w 37 9 5 ⟨g, 0, none⟩ cap l Tryd.underlying37 Tryd.underlying5 Tryd.underlying9 ?_
    intro j hj
    exact h.cells rfl j _ (by simp [cellsOf, List.getElem?_eq_getElem hj])

/-- The text of a literal's row. -/
theorem conv_new (w : World) (cs : Array Value) (l : List UInt8) (cap m : Nat) (hm : m = l.length) (hcs : cs = (cellsOf l).toArray) :
    (convert 37 9 (.slice (some ⟨w.heap.size, 0, none⟩) m cap)).run Tryd.prog (w.alloc (.cells cs 5)) = .ok (.string ⟨l.toArray⟩) (w.alloc (.cells cs 5)) := by
  subst hm hcs
  refine run_convert_bytes_back _ 37 9 5 ⟨w.heap.size, 0, none⟩ cap l Tryd.underlying37 Tryd.underlying5 Tryd.underlying9 ?_
  intro j hj
  have hadd : (⟨w.heap.size, 0, none⟩ : Addr).add j = ⟨w.heap.size, j, none⟩ := by unfold Addr.add; split <;> simp_all
  rw [hadd, World.cell?_alloc_at _ _ _ _ rfl]
  simp [cellsOf, List.getElem?_eq_getElem hj]

theorem four_cells (n : Nat) (hn : n < 4294967296) : (#[Value.int .u8 ((n : Int) % 256), .int .u8 ((n : Int) / 256 % 256), .int .u8 ((n : Int) / 65536 % 256), .int .u8 ((n : Int) / 16777216)] : Array Value) = (cellsOf (Crc.four n)).toArray := by
  simp [cellsOf, Crc.four]; omega

set_option maxHeartbeats 400000 in
theorem bytes_any (n : Nat) (w : World) (hn : n < 4294967296) :
    Calls Tryd.prog 12 #[.int .u32 n] w fun e w' => e = .returned (.string ⟨(Crc.four n).toArray⟩) ∧ Below w.heap.size w w' := by
  go_enter Tryd.func12, Tryd.ntmps12
  go_wp2
  rw [conv_new w _ (Crc.four n) 4 4 rfl (four_cells n hn)]
  go_wp2
  go_ret
  exact ⟨rfl, (Below.refl _ _).alloc (Nat.le_refl _) _⟩

theorem div_pow_succ (n k : Nat) : n / 256 ^ (k + 1) = n / 256 ^ k / 256 := by rw [Nat.pow_succ, Nat.div_div_eq_div_mul]
theorem four_take (n k : Nat) (h : k < 4) : (Crc.four n).take (k + 1) = (Crc.four n).take k ++ [UInt8.ofNat (n / 256 ^ k)] := by
  match k, h with
  | 0, _ => simp [Crc.four]
  | 1, _ => simp [Crc.four]
  | 2, _ => simp [Crc.four]
  | 3, _ => simp [Crc.four]
theorem Tryd.info5 : (Tryd.prog.info? 5).map (fun i => (i.zero, i.size, i.bytes)) = some (some (.int .u8 0), 1, 1) := by kernel_rfl

/-- A byte more. -/
theorem rel_snoc {w wr w1 : World} {B : Nat} {v v' : Value} {l : List UInt8} {o : Obj} {x : Int} (b : UInt8) (hB : B ≤ wr.heap.size) (hown : wr.ownsRow B 5 1 v l.length (cellsOf l)) (hnx : Below B w wr)
    (hown' : w1.ownsRow B 5 1 v' (l.length + 1) (cellsOf l ++ [.int .u8 x])) (hgrow : (wr.alloc o).grownBy w1 v.ownBlock) (hx : x = (b.toNat : Int)) :
    w1.ownsRow B 5 1 v' (l ++ [b]).length (cellsOf (l ++ [b])) ∧ Below B w w1 := by
  subst hx
  refine ⟨by rw [cellsOf_snoc, List.length_append]; exact hown', ?_⟩
  exact (hnx.alloc hB o).grown hgrow (by simp; omega) (fun k hk => (hown.lt k hk).1)

theorem one_new (wr : World) (x : Value) : ∀ j u, [x][j]? = some u → (wr.alloc (.cells #[x] 5)).cell? ((⟨wr.heap.size, 0, none⟩ : Addr).add j) = some u := by
  intro j u hj
  match j, hj with
  | 0, hj => simp at hj; subst hj; simp [Addr.add]
theorem one_cell (n : Int) : ∀ u ∈ [Value.int .u8 n], u.oneCell' = true := by intro u hu; simp at hu; subst hu; rfl
theorem len_one {l : List UInt8} {k : Nat} (h : Hid (l.length = k)) (hk : k ≤ 1000000) : l.length + 1 ≤ maxLen := by rw [h.out]; unfold maxLen; omega
theorem len_bytes {l : List UInt8} {k : Nat} (h : Hid (l.length = k)) (hk : k ≤ 1000000) : (l.length + 1) * 1 ≤ 140737488355328 := by rw [h.out]; omega

set_option maxHeartbeats 800000 in
theorem refBytes_any (n : Nat) (w : World) (hn : n < 4294967296) :
    Calls Tryd.prog 13 #[.int .u32 n] w fun e w' => e = .returned (.string ⟨(Crc.four n).toArray⟩) ∧ Below w.heap.size w w' := by
  obtain ⟨i0, hi, hz0, hz1, hz2⟩ := info_parts Tryd.info5
  go_enter Tryd.func13, Tryd.ntmps13
  go_wp2
  go_loopw [0, 3, 4] (fun m v i wr => ∃ k : Nat, k ≤ 4 ∧ i = .int .i64 k ∧ m = .int .u32 ((n / 256 ^ k : Nat) : Int) ∧ wr.ownsRow w.heap.size 5 1 v ((Crc.four n).take k).length (cellsOf ((Crc.four n).take k)) ∧ Below w.heap.size w wr)
    (fun _ _ i _ => 4 - (intOf i).toNat)
  case atStart => exact ⟨0, by omega, rfl, by simp, World.ownsRow_nil _ _ _ _, Below.refl _ _⟩
  case round =>
    obtain ⟨k, hk, rfl, rfl, hown, hnx⟩ := hrel
    by_cases hlt : k < 4
    · have hsz := hnx.size
      have hl : ((Crc.four n).take k).length = k := by simp [Crc.four]; omega
      have HL : Hid (((Crc.four n).take k).length = k) := hl
      have hm : n / 256 ^ k < 4294967296 := Nat.lt_of_le_of_lt (Nat.div_le_self _ _) hn
      have HS : Hid ((Crc.four n).take (k + 1) = (Crc.four n).take k ++ [UInt8.ofNat (n / 256 ^ k)]) := four_take n k hlt
      have HD : Hid (n / 256 ^ (k + 1) = n / 256 ^ k / 256) := div_pow_succ n k
      clear hl
      generalize n / 256 ^ k = m at *
      generalize (Crc.four n).take k = l at *
      go_wp2_with (first
        | (at_builtin; refine wpList_append_own _ rfl _ _ 37 rfl w.heap.size 5 i0 (.int .u8 0) 1 1 Tryd.underlying37 hi hz0 hz1 hz2 rfl (by decide) _ _ _ rfl (hown.alloc _) ⟨wr.heap.size, 0, none⟩ 1 1 [.int .u8 ((m : Int) % 256)] rfl rfl (one_new wr _) (one_cell _) (len_one HL (by omega)) (len_bytes HL (by omega)) (Nat.le_trans hsz (by simp)) ?_)
        | go_in)
      intro v' w1 hown' hgrow _
      have R := rel_snoc (UInt8.ofNat m) hsz hown hnx hown' hgrow (by simp)
      clear hown' hgrow hown
      go_wp2
      go_roundw
      case rel => exact ⟨k + 1, by omega, by go_num, by rw [HD.out]; go_num, by rw [HS.out]; exact R.1, R.2⟩
      case measure => simp [intOf]; omega
    · obtain rfl : k = 4 := by omega
      have hc := conv_own hown rfl
      go_wp2
      go_ret
      exact ⟨rfl, hnx⟩

/-- A text of which the byte at a place is another one. -/
def changed (l : List UInt8) (at_ : Int) (x : UInt8) : List UInt8 := l.mapIdx fun i c => if (i : Int) = at_ then c ^^^ x else c
theorem changed_length (l : List UInt8) (a : Int) (x : UInt8) : (changed l a x).length = l.length := by simp [changed]
theorem changed_take (l : List UInt8) (a : Int) (x : UInt8) (k : Nat) (h : k < l.length) : (changed l a x).take (k + 1) = (changed l a x).take k ++ [if (k : Int) = a then l[k] ^^^ x else l[k]] := by
  rw [List.take_succ_eq_append_getElem (by rw [changed_length]; exact h)]
  simp [changed]

set_option maxHeartbeats 800000 in
theorem changed_any (s : ByteArray) (a : Int) (x : UInt8) (w : World) (hs : s.size ≤ 4096) :
    Calls Tryd.prog 17 #[.string s, .int .i64 a, .int .u8 (x.toNat : Int)] w fun e w' => e = .returned (.string ⟨(changed s.data.toList a x).toArray⟩) ∧ Below w.heap.size w w' := by
  obtain ⟨i0, hi, hz0, hz1, hz2⟩ := info_parts Tryd.info5
  go_enter Tryd.func17, Tryd.ntmps17
  go_wp2
  go_loopw [7, 8] (fun v i wr => ∃ k : Nat, k ≤ s.size ∧ i = .int .i64 k ∧ wr.ownsRow w.heap.size 5 1 v ((changed s.data.toList a x).take k).length (cellsOf ((changed s.data.toList a x).take k)) ∧ Below w.heap.size w wr)
    (fun _ i _ => s.size - (intOf i).toNat)
  case atStart => exact ⟨0, by omega, rfl, World.ownsRow_nil _ _ _ _, Below.refl _ _⟩
  case round =>
    obtain ⟨k, hk, rfl, hown, hnx⟩ := hrel
    by_cases hlt : k < s.size
    · have hsz := hnx.size
      have HL : Hid (((changed s.data.toList a x).take k).length = k) := by
        have h : ((changed s.data.toList a x).take k).length = k := by rw [List.length_take, changed_length]; simp; omega
        exact h
      have HS : Hid ((changed s.data.toList a x).take (k + 1) = (changed s.data.toList a x).take k ++ [if (k : Int) = a then s[k] ^^^ x else s[k]]) := by
        have h := changed_take s.data.toList a x k (by simpa using hlt)
        exact h
      have hb : s[k].toNat < 256 := Crc.byte_lt _
      generalize (changed s.data.toList a x).take k = l at *
      by_cases ha : (k : Int) = a
      · subst ha
        have hx := u8_xor_nat s[k].toNat x.toNat hb (Crc.byte_lt x)
        go_wp2_with (first
          | (at_builtin; refine wpList_append_own _ rfl _ _ 37 rfl w.heap.size 5 i0 (.int .u8 0) 1 1 Tryd.underlying37 hi hz0 hz1 hz2 rfl (by decide) _ _ _ rfl (hown.alloc _) ⟨wr.heap.size, 0, none⟩ 1 1 [.int .u8 ((s[k].toNat ^^^ x.toNat : Nat) : Int)] rfl rfl (one_new wr _) (one_cell _) (len_one HL (by omega)) (len_bytes HL (by omega)) (Nat.le_trans hsz (by simp)) ?_)
          | go_in)
        intro v' w1 hown' hgrow _
        have R := rel_snoc (s[k] ^^^ x) hsz hown hnx hown' hgrow (by rw [UInt8.toNat_xor])
        clear hown' hgrow hown
        go_wp2
        go_roundw
        case rel => exact ⟨k + 1, by omega, by go_num, by rw [HS.out, if_pos trivial]; exact R.1, R.2⟩
        case measure => simp [intOf]; omega
      · have hab : ((k : Int) == a) = false := beq_eq_false_iff_ne.2 ha
        go_wp2_with (first
          | (at_builtin; refine wpList_append_own _ rfl _ _ 37 rfl w.heap.size 5 i0 (.int .u8 0) 1 1 Tryd.underlying37 hi hz0 hz1 hz2 rfl (by decide) _ _ _ rfl (hown.alloc _) ⟨wr.heap.size, 0, none⟩ 1 1 [.int .u8 (s[k].toNat : Int)] rfl rfl (one_new wr _) (one_cell _) (len_one HL (by omega)) (len_bytes HL (by omega)) (Nat.le_trans hsz (by simp)) ?_)
          | go_in)
        intro v' w1 hown' hgrow _
        have R := rel_snoc (s[k]) hsz hown hnx hown' hgrow rfl
        clear hown' hgrow hown
        go_wp2
        go_roundw
        case rel => exact ⟨k + 1, by omega, by go_num, by rw [HS.out, if_neg ha]; exact R.1, R.2⟩
        case measure => simp [intOf]; omega
    · have HL : Hid ((changed s.data.toList a x).take k = changed s.data.toList a x) := by
        have h : (changed s.data.toList a x).take k = changed s.data.toList a x := List.take_of_length_le (by rw [changed_length]; simp; omega)
        exact h
      rw [HL.out] at hown
      have hc := conv_own hown rfl
      go_wp2
      go_ret
      exact ⟨rfl, hnx⟩

end Go.Proofs.YtpcdfonbejhhgaaDoor
