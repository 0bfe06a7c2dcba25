/- The walks of the document's Text (of a right value), and of both Codes · The walks of the two 'Split' · The walk of 'each' with name.Quote and with pack.Text: what a function answers to each part, in a row of its own · strings.Join, which lies proved over any program: laid at this program; at a row of one's own · The walks of Text and Code and of the document's. -/
import Derived.Test.YthlhopdlkkeohaaGreatDoorNValsAll
import Derived.Test.YthlhopdlkkeohaaGreatDoorNamesAll
import Derived.Test.YthlhopdlkkeohaaGreatDoorPlainAll
import Derived.OwnWalk
import Derived.Shelf.Strings.OnBuilder
import Derived.Test.YthlhopdlkkeohaaGreatDoorChecked
/- The walks of the document's Text (of a right value), and of both Codes. -/
namespace Go.Proofs.YthlhopdlkkeohaaGreatDoor.N
open Go.RowKit

theorem isQ_iff {b : UInt8} : Nq.isQ b = true ↔ b = 34 ∨ b = 92 := by simp [Nq.isQ]
theorem drop_cons' {s : ByteArray} {pos : Nat} (h : pos < s.size) : s.data.toList.drop pos = s[pos] :: s.data.toList.drop (pos + 1) := by
  rw [List.drop_eq_getElem_cons (by rw [size_len]; exact h)]
  rfl
theorem slice_one (s : ByteArray) (a : Nat) (h : a < s.size) : ∀ wx, (Instr.slice 9 (.string s) (some (.int .i64 (a : Int))) (some (.int .i64 ((a : Int) + 1))) none).run Tryz.prog wx = .ok (.string ⟨#[s[a]]⟩) wx := by
  intro wx
  have h1 := run_slice_string (P := Tryz.prog) wx 9 s .i64 .i64 (a : Int) ((a : Int) + 1) Tryz.underlying9 (by omega) (by omega) (by omega)
  have e : s.extract a (a + 1) = ⟨#[s[a]]⟩ := by
    apply ByteArray.ext
    apply Array.toList_inj.1
    simp only [ByteArray.data_extract, Array.toList_extract, List.extract_eq_take_drop]
    rw [Nat.add_sub_cancel_left, drop_cons' h]
    rfl
  rw [h1, show ((a : Int) + 1).toNat = a + 1 by omega, show (a : Int).toNat = a by omega, e]
theorem add_lists {x y : List UInt8} (h : ¬ 9223372036854775807 < x.length + y.length) (w : World) : (binOp .add 9 (.string ⟨x.toArray⟩) (.string ⟨y.toArray⟩)).run Tryz.prog w = .ok (.string ⟨(x ++ y).toArray⟩) w := by
  go_simp
  rw [cat_lists]
theorem app_bytes (acc : List UInt8) (b : UInt8) : (⟨acc.toArray⟩ : ByteArray) ++ ⟨#[b]⟩ = ⟨(acc ++ [b]).toArray⟩ := cat_lists acc [b]
/-- Where the walk through a text's bytes stands: what is written, what is still to read. -/
def qAt (l : List UInt8) (pos : Nat) (acc : List UInt8) : Prop := pos ≤ l.length ∧ acc.length ≤ 2 * pos + 1 ∧ 34 :: Nq.quote l = acc ++ Nq.quote (l.drop pos)
theorem qAt_zero (l : List UInt8) : qAt l 0 [34] := ⟨by omega, by simp, by simp⟩
theorem qAt_esc {s : ByteArray} {pos : Nat} {acc : List UInt8} (h : qAt s.data.toList pos acc) (hp : pos < s.size) (hq : Nq.isQ s[pos] = true) : qAt s.data.toList (pos + 1) (acc ++ [92] ++ [s[pos]]) := by
  obtain ⟨a1, a2, a3⟩ := h
  refine ⟨by rw [size_len]; omega, by simp; omega, ?_⟩
  rw [a3, drop_cons' hp, Nq.quote_cons, if_pos hq]
  simp
theorem qAt_plain {s : ByteArray} {pos : Nat} {acc : List UInt8} (h : qAt s.data.toList pos acc) (hp : pos < s.size) (hq : Nq.isQ s[pos] = false) : qAt s.data.toList (pos + 1) (acc ++ [s[pos]]) := by
  obtain ⟨a1, a2, a3⟩ := h
  refine ⟨by rw [size_len]; omega, by simp; omega, ?_⟩
  rw [a3, drop_cons' hp, Nq.quote_cons, if_neg (by rw [hq]; simp)]
  simp

set_option maxRecDepth 20000 in
set_option maxHeartbeats 2000000 in
theorem refText_str (s : ByteArray) (w : World) (hs : s.size ≤ 2000000) :
    Calls Tryz.prog 45 #[.agg #[.int .i64 2, .int .i64 0, .string s]] w fun e w' => e = .returned (.string ⟨(Vl.quoted s.data.toList).toArray⟩) ∧ Below w.heap.size w w' := by
  have HB := below_new w (.cells #[.int .i64 2, .int .i64 0, .string s] 61)
  go_enter Tryz.func45, Tryz.ntmps45
  go_wp2
  go_loop [3, 4] (fun o i => ∃ (pos : Nat) (acc : List UInt8), o = .string ⟨acc.toArray⟩ ∧ i = .int .i64 pos ∧ qAt s.data.toList pos acc) (fun _ i => s.size - (intOf i).toNat)
  case atStart => exact ⟨0, [34], rfl, rfl, qAt_zero _⟩
  case round =>
    obtain ⟨pos, acc, rfl, rfl, hR⟩ := hrel
    have hpl := hR.1
    rw [size_len] at hpl
    have hal := hR.2.1
    by_cases hp : pos < s.size
    · have hsl := slice_one s pos hp
      have HA : Hid ((⟨acc.toArray⟩ : ByteArray) ++ ⟨#[s[pos]]⟩ = ⟨(acc ++ [s[pos]]).toArray⟩) := app_bytes acc _
      have HB : Hid ((⟨acc.toArray⟩ : ByteArray) ++ ⟨#[92]⟩ ++ ⟨#[s[pos]]⟩ = ⟨(acc ++ [92] ++ [s[pos]]).toArray⟩) := by
        have h : (⟨acc.toArray⟩ : ByteArray) ++ ⟨#[92]⟩ ++ ⟨#[s[pos]]⟩ = ⟨(acc ++ [92] ++ [s[pos]]).toArray⟩ := by rw [app_bytes, app_bytes]
        exact h
      by_cases h34 : s[pos].toNat = 34
      · have HR : Hid (qAt s.data.toList (pos + 1) (acc ++ [92] ++ [s[pos]])) := by
          have h := qAt_esc hR hp (isQ_iff.2 (.inl (UInt8.toNat_inj.1 h34)))
          exact h
        clear hR
        go_wp2
        go_round
        case rel => exact ⟨pos + 1, _, by rw [← HB.out], by go_num, HR.out⟩
        case measure => simp [intOf]; omega
      · by_cases h92 : s[pos].toNat = 92
        · have HR : Hid (qAt s.data.toList (pos + 1) (acc ++ [92] ++ [s[pos]])) := by
            have h := qAt_esc hR hp (isQ_iff.2 (.inr (UInt8.toNat_inj.1 h92)))
            exact h
          clear hR
          go_wp2
          go_round
          case rel => exact ⟨pos + 1, _, by rw [← HB.out], by go_num, HR.out⟩
          case measure => simp [intOf]; omega
        · have HR : Hid (qAt s.data.toList (pos + 1) (acc ++ [s[pos]])) := by
            have h := qAt_plain hR hp (by
              cases hq : Nq.isQ s[pos] with
              | false => rfl
              | true => rcases isQ_iff.1 hq with e | e <;> rw [e] at h34 h92 <;> simp at h34 h92)
            exact h
          clear hR
          have q1 : ((s[pos].toNat : Int) == 34) = false := beq_eq_false_iff_ne.2 (by omega)
          have q2 : ((s[pos].toNat : Int) == 92) = false := beq_eq_false_iff_ne.2 (by omega)
          go_wp2
          go_round
          case rel => exact ⟨pos + 1, _, by rw [← HA.out], by go_num, HR.out⟩
          case measure => simp [intOf]; omega
    · have HL : Hid (34 :: Nq.quote s.data.toList = acc) := by
        have h := hR.2.2
        rw [U.drop_nil hp, Nq.quote_nil, List.append_nil] at h
        exact h
      clear hR
      go_wp2
      go_ret
      exact ⟨ret_str (by rw [show (⟨#[34]⟩ : ByteArray) = ⟨[34].toArray⟩ from rfl, cat_lists, ← HL.out]; rfl), HB⟩

set_option maxRecDepth 20000 in
theorem refText_right (k n : Int) (l : List UInt8) (w : World) (h : Vl.Right k n l) : Calls Tryz.prog 45 #[valV k n l] w fun e w' => e = .returned (.string ⟨(Vl.text k n l).toArray⟩) ∧ Below w.heap.size w w' := by
  have hlen := h.len
  have ham := h.amount
  rcases h with ⟨rfl, rfl, h1, h2⟩ | ⟨rfl, rfl, h1, h2⟩ | ⟨rfl, rfl, h1, h2⟩
  · have C := fun w => digits_any n w (by omega) (by omega)
    rw [show Vl.text 1 n [] = Lib.itoa n from rfl]
    generalize Lib.itoa n = t at *
    go_enter Tryz.func45, Tryz.ntmps45
    go_wp2_with (go_at_call 47; refine (C _).mono ?_; rintro e w1 ⟨rfl, hb1⟩)
    go_ret
    exact ⟨rfl, bchain (below_new _ _) hb1⟩
  · exact refText_str ⟨l.toArray⟩ w (by rw [mk_size]; omega)
  · by_cases e : n = 1
    · subst e
      rw [show Vl.text 3 1 [] = Vl.tru from rfl]
      go_enter Tryz.func45, Tryz.ntmps45
      go_wp2
      go_ret
      exact ⟨rfl, below_new _ _⟩
    · obtain rfl : n = 0 := by omega
      rw [show Vl.text 3 0 [] = Vl.fls from rfl]
      go_enter Tryz.func45, Tryz.ntmps45
      go_wp2
      go_ret
      exact ⟨rfl, below_new _ _⟩

end Go.Proofs.YthlhopdlkkeohaaGreatDoor.N
/- The walks of the two 'Split'. -/
namespace Go.Proofs.YthlhopdlkkeohaaGreatDoor.U
open Go.RowKit

/-! ### A builder beside texts of the call's own -/
/-! ### Split, byte by byte -/
/-- Where a walk through the bytes stands. -/
def spAt (l : List UInt8) (pos : Nat) (outs : List (List UInt8)) (word : List UInt8) : Prop := pos ≤ l.length ∧ word.length ≤ pos ∧ outs.length ≤ pos ∧ Nm.split l = Nm.sp (l.drop pos) false outs word
theorem spAt_zero (l : List UInt8) : spAt l 0 [] [] := ⟨by omega, by simp, by simp, by simp [Nm.split]⟩
theorem sp_slash (r : List UInt8) (outs : List (List UInt8)) (word : List UInt8) : Nm.sp (47 :: r) false outs word = Nm.sp r false (outs ++ [word]) [] := by
  rw [Nm.sp, if_neg (by decide), if_pos rfl]
theorem sp_esc (r : List UInt8) (outs : List (List UInt8)) (word : List UInt8) : Nm.sp (92 :: r) false outs word = Nm.sp r true outs word := by
  rw [Nm.sp, if_pos rfl]
theorem sp_escaped {b : UInt8} (r : List UInt8) (outs : List (List UInt8)) (word : List UInt8) (h : Nm.isQ b = true) : Nm.sp (b :: r) true outs word = Nm.sp r false outs (word ++ [b]) := by
  rw [Nm.sp, if_pos h]
theorem sp_wrong {b : UInt8} (r : List UInt8) (outs : List (List UInt8)) (word : List UInt8) (h : Nm.isQ b = false) : Nm.sp (b :: r) true outs word = none := by
  rw [Nm.sp, if_neg (by rw [h]; simp)]
theorem byte_of {b c : UInt8} (h : b.toNat = c.toNat) : b = c := UInt8.toNat_inj.1 h

/-- What the two tell. -/
def splitL (l : List UInt8) : List (List UInt8) := (Nm.split l).getD []
def splitOk (l : List UInt8) : Bool := (Nm.split l).isSome
theorem splitL_none {l : List UInt8} (h : Nm.split l = none) : splitL l = [] ∧ splitOk l = false := by simp [splitL, splitOk, h]
theorem splitL_some {l : List UInt8} {x : List (List UInt8)} (h : Nm.split l = some x) : splitL l = x ∧ splitOk l = true := by simp [splitL, splitOk, h]

/-! ### Split, character by character -/
/-- Where a walk through the characters stands. -/
def splAt (l : List UInt8) (pos fr : Nat) (esc : Bool) (outs : List (List UInt8)) (acc : List UInt8) : Prop := fr ≤ pos ∧ pos ≤ l.length ∧ acc.length + (pos - fr) ≤ pos ∧ outs.length ≤ pos ∧ Nm.split l = Nm.sp (l.drop pos) esc outs (acc ++ (l.take pos).drop fr)
theorem splAt_zero (l : List UInt8) : splAt l 0 0 false [] [] := ⟨by omega, by omega, by simp, by simp, by simp [Nm.split]⟩
end Go.Proofs.YthlhopdlkkeohaaGreatDoor.U
/- The walk of 'each' with name.Quote and with pack.Text: what a function answers to each part, in a row of its own. -/
namespace Go.Proofs.YthlhopdlkkeohaaGreatDoor.U
open Go.RowKit

/-- A row of one's own stands through a call. -/
theorem own_on {w w' : World} {B : Nat} {e : TypeId} {v : Value} {n : Nat} {xs : List Value} (h : w.ownsRow B e 1 v n xs) (hb : Below w.heap.size w w') : w'.ownsRow B e 1 v n xs := by
  refine ⟨h.1, ?_⟩
  rcases h.2 with h0 | ⟨g, cap, cur, h1, h2, h3, h4⟩
  · exact Or.inl h0
  · exact Or.inr ⟨g, cap, cur, h1, h2, (hb.block g (heap_lt h3)).trans h3, h4⟩
theorem quote_list (l : List UInt8) (w : World) (hl : l.length ≤ 2000000) : Calls Tryz.prog 88 #[.string ⟨l.toArray⟩] w fun e w' => e = .returned (.string ⟨(Nm.quote l).toArray⟩) ∧ Below w.heap.size w w' :=
  quote_any ⟨l.toArray⟩ w (by simp [ByteArray.size]; exact hl)
theorem map_take_succ (f : List UInt8 → List UInt8) {xs : List (List UInt8)} {k : Nat} (h : k < xs.length) : (xs.map f).take (k + 1) = (xs.map f).take k ++ [f xs[k]] := by
  rw [List.take_succ_eq_append_getElem (by rw [List.length_map]; exact h), List.getElem_map]

set_option maxRecDepth 20000 in
set_option maxHeartbeats 2000000 in
theorem each_quote (v : Value) (xs : List (List UInt8)) (w : World) (hx : xs.length ≤ 1000) (hz : ∀ x ∈ xs, x.length ≤ 1000000) (hv : strsAt w v xs) :
    Calls Tryz.prog 87 #[v, .func (.func 88) #[] #[]] w fun e w' => ∃ u, e = .returned u ∧ w'.ownsRow w.heap.size 9 1 u xs.length (cellsS (xs.map Nm.quote)) ∧ Below w.heap.size w w' := by
  obtain ⟨i0, hi, hz0, hz1, hz2⟩ := info_parts info9
  obtain ⟨ao, ca, rfl, _, hc⟩ := hv
  go_enter Tryz.func87, Tryz.ntmps87
  go_wp2_with (refine wpList_make_own _ rfl _ _ 24 rfl w.heap.size 9 i0 (.string ⟨#[]⟩) 1 Tryz.underlying24 hi hz0 hz1 _ _ _ xs.length rfl rfl rfl (by rw [hz2]; omega) (by unfold maxLen; omega) (Nat.le_refl _) ?_)
  intro w0 hown0 hg0
  have hb0 : Below w.heap.size w w0 := (Below.refl _ w).grown hg0 (Nat.le_refl _) (fun k hk => by cases hk)
  generalize Value.slice (some ⟨w.heap.size, 0, none⟩) 0 xs.length = v0 at *
  go_wp2
  go_loopw [5, 13] (fun u i wr => ∃ k : Nat, k ≤ xs.length ∧ i = .int .i64 k ∧ wr.ownsRow w.heap.size 9 1 u k (cellsS ((xs.map Nm.quote).take k)) ∧ Below w.heap.size w wr) (fun _ i _ => xs.length - (intOf i).toNat)
  case atStart => exact ⟨0, by omega, rfl, hown0, hb0⟩
  case round =>
    obtain ⟨k, hk, rfl, hown, hbw⟩ := hrel
    by_cases hlt : k < xs.length
    · obtain ⟨ad, rfl, hA⟩ := hc k hlt
      have hA2 : wr.cell? (ad.add k) = some (.string ⟨(xs[k]).toArray⟩) := (hbw.cell (World.block_lt_of_cell? _ _ hA)).trans hA
      have HT : Hid ((xs.map Nm.quote).take (k + 1) = (xs.map Nm.quote).take k ++ [Nm.quote xs[k]]) := map_take_succ _ hlt
      have HC := fun W => quote_list xs[k] W (Nat.le_trans (hz _ (List.getElem_mem hlt)) (by omega))
      clear hc hA hz
      generalize Nm.quote xs[k] = y at *
      generalize xs[k] = x at *
      go_wp2_with (go_at_call 88; refine (HC _).mono ?_)
      rintro e w1 ⟨rfl, hb1⟩
      have hown1 := own_on hown hb1
      have hs1 : w.heap.size ≤ w1.heap.size := Nat.le_trans hbw.size hb1.size
      have hbw1 : Below w.heap.size w w1 := hbw.trans (hb1.mono hbw.size)
      go_wp2_with (at_builtin; refine wpList_append_own _ rfl _ _ 24 rfl w.heap.size 9 i0 (.string ⟨#[]⟩) 1 16 Tryz.underlying24 hi hz0 hz1 hz2 rfl (by decide) _ _ _ rfl (hown1.alloc _) ⟨_, 0, none⟩ 1 1 [.string ⟨y.toArray⟩] rfl rfl (one_new5 _ _ _) (one_cellS _) ?c3 ?c4 ?c5 ?_)
      case c3 => unfold maxLen; omega
      case c4 => omega
      case c5 => simp; omega
      intro v' w2 hown' hgrow _
      have R1 := own_below hown1 hs1 hbw1 hgrow
      rw [cellsS_snoc, ← HT.out] at hown'
      clear hgrow hown hown1
      go_wp2
      go_roundw
      case rel => exact ⟨k + 1, by omega, by go_num, hown', R1⟩
      case measure => simp [intOf]; omega
    · obtain rfl : k = xs.length := by omega
      rw [List.take_of_length_le (by rw [List.length_map]; exact Nat.le_refl _)] at hown
      clear hc hz
      go_wp2
      go_ret
      exact ⟨_, rfl, hown, hbw⟩

end Go.Proofs.YthlhopdlkkeohaaGreatDoor.U
/- strings.Join, which lies proved over any program: laid at this program; at a row of one's own. -/
namespace Go.Proofs.YthlhopdlkkeohaaGreatDoor.J
open Go.Shelf Go.RowKit

/-- Which number the library's functions, types and variables have here. -/
def ren : Ren := ⟨fun | 156 => 86 | 165 => 126 | 166 => 50 | 169 => 52 | 240 => 92 | 241 => 164 | 276 => 132 | 277 => 184 | n => n, fun | 0 => 0 | 3 => 3 | 4 => 4 | 5 => 5 | 9 => 9 | 20 => 20 | 31 => 24 | 37 => 100 | 70 => 99 | 72 => 102 | 75 => 104 | 76 => 105 | 80 => 108 | 127 => 140 | 164 => 176 | n => n, fun | n => n⟩
theorem lay156 : Lays.n156 Tryz.prog ren := {
  mixed := by kernel_rfl
  f156 := Tryz.func86.trans (congrArg some (by kernel_rfl))
  f165 := Tryz.func126.trans (congrArg some (by kernel_rfl))
  f166 := Tryz.func50.trans (congrArg some (by kernel_rfl))
  f169 := Tryz.func52.trans (congrArg some (by kernel_rfl))
  f240 := Tryz.func92.trans (congrArg some (by kernel_rfl))
  f241 := Tryz.func164.trans (congrArg some (by kernel_rfl))
  f276 := Tryz.func132.trans (congrArg some (by kernel_rfl))
  f277 := Tryz.func184.trans (congrArg some (by kernel_rfl))
  t0 := Tryz.underlying0, a0 := Tryz.isAgg0, z0 := Tryz.sizeOf0, v0 := Tryz.zeroValue0
  t3 := Tryz.underlying3, a3 := Tryz.isAgg3, z3 := Tryz.sizeOf3, v3 := Tryz.zeroValue3
  t4 := Tryz.underlying4, a4 := Tryz.isAgg4, z4 := Tryz.sizeOf4, v4 := Tryz.zeroValue4
  t9 := Tryz.underlying9, a9 := Tryz.isAgg9, z9 := Tryz.sizeOf9, v9 := Tryz.zeroValue9
  t20 := Tryz.underlying20, a20 := Tryz.isAgg20, z20 := Tryz.sizeOf20, v20 := Tryz.zeroValue20
  t31 := Tryz.underlying24, a31 := Tryz.isAgg24, z31 := Tryz.sizeOf24, v31 := Tryz.zeroValue24
  t37 := Tryz.underlying100, a37 := Tryz.isAgg100, z37 := Tryz.sizeOf100, v37 := Tryz.zeroValue100
  t70 := Tryz.underlying99, a70 := Tryz.isAgg99, z70 := Tryz.sizeOf99, v70 := Tryz.zeroValue99
  t72 := Tryz.underlying102, a72 := Tryz.isAgg102, z72 := Tryz.sizeOf102, v72 := Tryz.zeroValue102
  t75 := Tryz.underlying104, a75 := Tryz.isAgg104, z75 := Tryz.sizeOf104, v75 := Tryz.zeroValue104
  t76 := Tryz.underlying105, a76 := Tryz.isAgg105, z76 := Tryz.sizeOf105, v76 := Tryz.zeroValue105
  t127 := Tryz.underlying140, a127 := Tryz.isAgg140, z127 := Tryz.sizeOf140, v127 := Tryz.zeroValue140
  t164 := Tryz.underlying176, a164 := Tryz.isAgg176, z164 := Tryz.sizeOf176, v164 := Tryz.zeroValue176 }
theorem layX : Builder.Extra Tryz.prog ren := {
  sizeBuilder := by kernel_rfl
  liesBuilder := by kernel_rfl
  t5 := Tryz.underlying5, a5 := Tryz.isAgg5, z5 := Tryz.sizeOf5, v5 := Tryz.zeroValue5
  infoByte := by kernel_rfl
  cellsByte := by kernel_rfl
  sizeByte := by kernel_rfl
  neB5 := by decide }
end Go.Proofs.YthlhopdlkkeohaaGreatDoor.J
namespace Go.Proofs.YthlhopdlkkeohaaGreatDoor.U
open Go.Shelf Go.RowKit

/-- Texts that lie in a row of one's own, joined. -/
theorem join_own {B : Nat} {u : Value} {ys : List (List UInt8)} {w : World} (sep : List UInt8) (h : w.ownsRow B 9 1 u ys.length (cellsS ys)) (hn : ys.length ≤ 140737488355328) (hlen : (Lib.join ys sep).length ≤ 140737488355328) :
    Calls Tryz.prog 86 #[u, .string ⟨sep.toArray⟩] w fun e w' => e = .returned (.string ⟨(Lib.join ys sep).toArray⟩) ∧ Below w.heap.size w w' := by
  have hmap : (ys.map fun x => (⟨x.toArray⟩ : ByteArray)).map (·.data.toList) = ys := by
    rw [List.map_map]
    conv => rhs; rw [← List.map_id ys]
    apply List.map_congr_left
    intro x _
    simp
  rcases h.2 with ⟨rfl, h0⟩ | ⟨g, cap, cur, rfl, hB, hg, hle, _⟩
  · obtain rfl : ys = [] := List.eq_nil_of_length_eq_zero h0
    refine (Any.strings_Join_none J.lay156 J.layX none 0 ⟨sep.toArray⟩ w).mono fun e w' ⟨he, hw⟩ => ⟨?_, hw ▸ Below.refl _ _⟩
    rw [he]; rfl
  · have hc := Any.strings_Join J.lay156 J.layX g 0 cap (ys.map fun x => (⟨x.toArray⟩ : ByteArray)) ⟨sep.toArray⟩ w (fun j x hx => by
      have h1 := h.cells rfl j (.string x) (by
        rw [List.getElem?_map] at hx
        obtain ⟨y, hy, rfl⟩ := Option.map_eq_some_iff.1 hx
        simp [cellsS, hy])
      rw [Addr.add_lit] at h1
      exact h1) (heap_lt hg) (by rw [List.length_map]; exact hn) (by rw [List.length_map]; exact hle) (by rw [hmap]; simpa using hlen)
    rw [hmap, List.length_map] at hc
    exact hc

end Go.Proofs.YthlhopdlkkeohaaGreatDoor.U
/- The walks of Text and Code and of the document's. -/
namespace Go.Proofs.YthlhopdlkkeohaaGreatDoor.U
open Go.RowKit

theorem bchain {a b c : World} (h1 : Below a.heap.size a b) (h2 : Below b.heap.size b c) : Below a.heap.size a c := h1.trans (h2.mono h1.size)
theorem ret_str2 {a b : List UInt8} (h : a = b) : Ending.returned (.string ⟨a.toArray⟩) = .returned (.string ⟨b.toArray⟩) := by rw [h]

/-! ### Lengths -/
theorem lens_le {ys : List (List UInt8)} {m : Nat} (h : ∀ y ∈ ys, y.length ≤ m) : Lib.lens ys ≤ ys.length * m := by
  induction ys with
  | nil => simp [Lib.lens]
  | cons y ys ih =>
    have h1 := ih (fun x hx => h x (by simp [hx]))
    have h2 := h y (by simp)
    simp only [Lib.lens, List.map_cons, List.sum_cons, List.length_cons] at h1 ⊢
    rw [Nat.succ_mul]
    omega
theorem join_len {ys : List (List UInt8)} {m : Nat} (sep : List UInt8) (h : ∀ y ∈ ys, y.length ≤ m) : (Lib.join ys sep).length ≤ ys.length * (m + sep.length) := by
  cases ys with
  | nil => simp [Lib.join_nil]
  | cons y r =>
    rw [Lib.join_cons, List.length_append, Lib.joinTail_length]
    have h1 := lens_le (ys := r) (fun x hx => h x (by simp [hx]))
    have h2 := h y (by simp)
    simp only [List.length_cons]
    rw [Nat.succ_mul, Nat.mul_add, Nat.mul_comm sep.length]
    omega
/-- A few short parts. -/
def Few (xs : List (List UInt8)) : Prop := xs.length ≤ 12 ∧ ∀ x ∈ xs, x.length ≤ 120
theorem Few.each {xs : List (List UInt8)} (h : Few xs) : xs.length ≤ 1000 ∧ ∀ x ∈ xs, x.length ≤ 1000000 := ⟨by have := h.1; omega, fun x hx => by have := h.2 x hx; omega⟩
theorem enc_len {n : Nat} (h : n < 9223372036854775808) : (Pk.enc n).length ≤ 9 := Pk.enc_len9 h
theorem textL_len {x : List UInt8} (h : x.length ≤ 120) : (Pt.textL x).length ≤ 129 := by
  unfold Pt.textL
  rw [List.length_append]
  have := enc_len (show x.length < 9223372036854775808 by omega)
  omega
theorem Few.joined {xs : List (List UInt8)} (h : Few xs) : (Nm.joined xs).length ≤ 2892 := by
  rw [← Pt.joined_join]
  have h1 := join_len (ys := xs.map Nm.quote) (m := 240) [47] (fun y hy => by
    obtain ⟨x, hx, rfl⟩ := List.mem_map.1 hy
    have := Nm.quote_length x
    have := h.2 x hx
    omega)
  rw [List.length_map] at h1
  have h2 := h.1
  have h3 : xs.length * (240 + [(47 : UInt8)].length) ≤ 12 * 241 := Nat.mul_le_mul h2 (by simp)
  omega
theorem Few.flat {xs : List (List UInt8)} (h : Few xs) : (xs.map Pt.textL).flatten.length ≤ 1548 := by
  rw [← Pt.join_empty]
  have h1 := join_len (ys := xs.map Pt.textL) (m := 129) [] (fun y hy => by
    obtain ⟨x, hx, rfl⟩ := List.mem_map.1 hy
    exact textL_len (h.2 x hx))
  rw [List.length_map] at h1
  have h2 := h.1
  have h3 : xs.length * (129 + ([] : List UInt8).length) ≤ 12 * 129 := Nat.mul_le_mul h2 (by simp)
  omega
theorem Few.take {xs : List (List UInt8)} (h : Few xs) (k : Nat) : Few (xs.take k) := ⟨by rw [List.length_take]; have := h.1; omega, fun x hx => h.2 x (List.mem_of_mem_take hx)⟩
theorem Few.code {xs : List (List UInt8)} (h : Few xs) : (Pt.code xs).length ≤ 1557 := by
  unfold Pt.code
  rw [List.length_append]
  have h1 := enc_len (show xs.length < 9223372036854775808 by have := h.1; omega)
  have h2 := h.flat
  omega

/-! ### The program's -/
set_option maxRecDepth 20000 in
theorem text_any (v : Value) (xs : List (List UInt8)) (w : World) (hf : Few xs) (hv : strsAt w v xs) :
    Calls Tryz.prog 42 #[v] w fun e w' => e = .returned (.string ⟨(Nm.joined xs).toArray⟩) ∧ Below w.heap.size w w' := by
  have HE := each_quote v xs w hf.each.1 hf.each.2 hv
  have HJ : ∀ (u : Value) (w1 : World), w1.ownsRow w.heap.size 9 1 u xs.length (cellsS (xs.map Nm.quote)) → Calls Tryz.prog 86 #[u, .string ⟨#[47]⟩] w1 fun e w' => e = .returned (.string ⟨(Nm.joined xs).toArray⟩) ∧ Below w1.heap.size w1 w' := fun u w1 h => by
    have hl := hf.joined
    have hc := join_own (ys := xs.map Nm.quote) [47] (by rw [List.length_map]; exact h) (by rw [List.length_map]; have := hf.1; omega) (by rw [Pt.joined_join]; omega)
    rw [Pt.joined_join] at hc
    exact hc
  clear hv hf
  go_enter Tryz.func42, Tryz.ntmps42
  go_wp2_with (go_at_call 87; (with_reducible refine HE.mono ?_))
  rintro e w1 ⟨u, rfl, hown, hb1⟩
  have HJ1 := HJ u w1 hown
  go_wp2_with (go_at_call 86; (with_reducible refine HJ1.mono ?_); rintro e w2 ⟨rfl, hb2⟩)
  go_ret
  exact ⟨rfl, bchain hb1 hb2⟩

/-! ### The document's -/
theorem joined_first {xs : List (List UInt8)} (h : 0 < xs.length) : Nm.joined (xs.take 1) = Nm.quote xs[0] := by
  cases xs with
  | nil => simp at h
  | cons a r => simp [Nm.joined]
theorem joined_next {xs : List (List UInt8)} {k : Nat} (h : k < xs.length) (hk : 0 < k) : Nm.joined (xs.take (k + 1)) = Nm.joined (xs.take k) ++ 47 :: Nm.quote xs[k] := by
  rw [List.take_succ_eq_append_getElem h, Nm.joined_snoc]
  intro e
  have := congrArg List.length e
  rw [List.length_take, Nat.min_eq_left (by omega), List.length_nil] at this
  omega
theorem app_slash (a b : List UInt8) : (⟨a.toArray⟩ : ByteArray) ++ ⟨#[47]⟩ ++ ⟨b.toArray⟩ = ⟨(a ++ 47 :: b).toArray⟩ := by
  apply bytes_of
  rw [ByteArray.data_append, ByteArray.data_append, Array.toList_append, Array.toList_append]
  simp
theorem app_empty (b : List UInt8) : (⟨#[]⟩ : ByteArray) ++ ⟨b.toArray⟩ = ⟨b.toArray⟩ := by
  apply bytes_of
  rw [ByteArray.data_append, Array.toList_append]
  simp
/-- The text so far. -/
def joinV (xs : List (List UInt8)) (k : Nat) : Value := .string ⟨(Nm.joined (xs.take k)).toArray⟩

set_option maxRecDepth 20000 in
set_option maxHeartbeats 4000000 in
theorem refPText_any (v : Value) (xs : List (List UInt8)) (w : World) (hf : Few xs) (hv : strsAt w v xs) :
    Calls Tryz.prog 46 #[v] w fun e w' => e = .returned (.string ⟨(Nm.joined xs).toArray⟩) ∧ Below w.heap.size w w' := by
  obtain ⟨ao, ca, rfl, _, hc⟩ := hv
  have hn := hf.1
  go_enter Tryz.func46, Tryz.ntmps46
  go_wp2
  go_loopw [3, 4] (fun x i wr => ∃ k : Nat, k ≤ xs.length ∧ i = .int .i64 k ∧ x = joinV xs k ∧ Below w.heap.size w wr) (fun _ i _ => xs.length - (intOf i).toNat)
  case atStart => exact ⟨0, by omega, rfl, rfl, Below.refl _ w⟩
  case round =>
    obtain ⟨k, hk, rfl, rfl, hbw⟩ := hrel
    have hjl := (hf.take k).joined
    by_cases hlt : k < xs.length
    · obtain ⟨ad, rfl, hA⟩ := hc k hlt
      have hA2 : wr.cell? (ad.add k) = some (.string ⟨(xs[k]).toArray⟩) := (hbw.cell (World.block_lt_of_cell? _ _ hA)).trans hA
      have hzk := hf.2 _ (List.getElem_mem hlt)
      have HQ := fun w0 => refQuote_any ⟨(xs[k]).toArray⟩ w0 (by simp [ByteArray.size]; omega)
      have hql := Nm.quote_length xs[k]
      by_cases h0 : k = 0
      · subst h0
        have HJ : Hid (joinV xs (0 + 1) = .string ((⟨#[]⟩ : ByteArray) ++ ⟨(Nm.quote xs[0]).toArray⟩)) := by
          have h : joinV xs (0 + 1) = .string ((⟨#[]⟩ : ByteArray) ++ ⟨(Nm.quote xs[0]).toArray⟩) := by rw [app_empty, joinV, joined_first hlt]
          exact h
        have hj0 : joinV xs 0 = .string ⟨#[]⟩ := rfl
        rw [hj0]
        have hA0 : wr.cell? ad = some (.string ⟨(xs[0]).toArray⟩) := by
          have e : ad.add 0 = ad := by simp [Addr.add]
          rw [e] at hA2
          exact hA2
        clear hc hA hf hjl
        generalize xs[0] = x at *
        simp only at HQ
        go_wp2_with fail
        refine (HQ _).mono ?_
        rintro e W1 ⟨rfl, hw⟩
        have hw := hw.symm
        subst hw
        go_wp2
        go_roundw
        case rel => exact ⟨0 + 1, by omega, by go_num, by rw [HJ.out], hbw⟩
        case measure => simp [intOf]; omega
      · have HJ : Hid (joinV xs (k + 1) = .string ((⟨(Nm.joined (xs.take k)).toArray⟩ : ByteArray) ++ ⟨#[47]⟩ ++ ⟨(Nm.quote xs[k]).toArray⟩)) := by
          have h : joinV xs (k + 1) = .string ((⟨(Nm.joined (xs.take k)).toArray⟩ : ByteArray) ++ ⟨#[47]⟩ ++ ⟨(Nm.quote xs[k]).toArray⟩) := by rw [app_slash, joinV, joined_next hlt (by omega)]
          exact h
        have hj0 : joinV xs k = .string ⟨(Nm.joined (xs.take k)).toArray⟩ := rfl
        rw [hj0]
        clear hc hA hf
        have hk0 : 0 < (k : Int) := by omega
        generalize xs[k] = x at *
        generalize Nm.joined (xs.take k) = j at *
        simp only at HQ
        go_wp2_with fail
        refine (HQ _).mono ?_
        rintro e W1 ⟨rfl, hw⟩
        have hw := hw.symm
        subst hw
        go_wp2
        go_roundw
        case rel => exact ⟨k + 1, by omega, by go_num, by rw [HJ.out], hbw⟩
        case measure => simp [intOf]; omega
    · obtain rfl : k = xs.length := by omega
      have hj0 : joinV xs xs.length = .string ⟨(Nm.joined xs).toArray⟩ := by rw [joinV, List.take_length]
      rw [hj0]
      clear hc hf
      go_wp2
      go_ret
      exact ⟨rfl, hbw⟩

/-- The bytes so far. -/
def codeTo (xs : List (List UInt8)) (k : Nat) : List UInt8 := Pk.enc xs.length ++ ((xs.take k).map Pt.textL).flatten
theorem codeTo_zero (xs : List (List UInt8)) : codeTo xs 0 = Pk.enc xs.length := by simp [codeTo]
theorem codeTo_all (xs : List (List UInt8)) : codeTo xs xs.length = Pt.code xs := by simp [codeTo, Pt.code]
def codeV (xs : List (List UInt8)) (k : Nat) : Value := .string ⟨(codeTo xs k).toArray⟩

end Go.Proofs.YthlhopdlkkeohaaGreatDoor.U
