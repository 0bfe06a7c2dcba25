/- The walks of slices.IndexFunc and DeleteFunc over transactions, for the closure of counting · Slices of counts: how one lies in memory; rows that a call owns · The walks of Same: the document's, the program's (slices.Equal) · A region that draws its order, walked operation by operation: what yields in every world that meets the region's condition is taken first, whatever the order; a call by its contract · The walks of Get and Seen: the document's, the program's (slices.BinarySearchFunc). -/
import Derived.Test.YthlhopdlkkeohaaGreatDoorMemAll
import Derived.Test.YthlhopdlkkeohaaGreatDoorOpWrapAllAll
import Derived.Test.YthlhopdlkkeohaaGreatDoorLCompactAll
import Derived.Laws.AppendOwn
import Derived.Laws.AppendOwnNone
import Derived.OwnWalk
import Derived.Shelf.Abstract
/- The walks of slices.IndexFunc and DeleteFunc over transactions, for the closure of counting. -/
namespace Go.Proofs.YthlhopdlkkeohaaGreatDoor.O
open Go.RowKit

/-- What the closure answers to one of these, whatever was laid since. -/
def tAsks (B : Nat) (w : World) (c0 : Value) (l : List TE) (p : TE → Bool) : Prop := ∀ (W : World) (x : TE), x ∈ l → Below B w W → Calls Tryz.prog 66 #[.agg (tcell x).toArray, c0] W fun e w' => e = .returned (.bool (p x)) ∧ Below W.heap.size W w'

set_option maxRecDepth 20000 in
set_option maxHeartbeats 1000000 in
theorem tindex_any (v : Value) (l : List TE) (w0 w : World) (B : Nat) (c0 : Value) (p : TE → Bool) (hb0 : Below B w0 w) (hB : B ≤ w.heap.size) (hv : rowsIn w tcell v l) (hn : l.length ≤ 1000000) (hp : tAsks B w0 c0 l p) :
    Calls Tryz.prog 106 #[v, .func (.func 66) #[] #[c0]] w fun e w' => e = .returned (.int .i64 (idxF p l)) ∧ Below w.heap.size w w' := by
  have HV : Hid (rowsIn w tcell v l) := hv
  obtain ⟨ao, c, rfl, _, _, _⟩ := hv
  have HP : Hid (tAsks B w0 c0 l p) := hp
  clear hp
  obtain ⟨n, hn0⟩ : ∃ n, n = l.length := ⟨_, rfl⟩
  have HN : Hid (n = l.length) := hn0
  rw [← hn0] at HV hn ⊢
  clear hn0
  go_enter Tryz.func106, Tryz.ntmps106
  go_wp2
  go_loopw [5, 8] (fun _ i wr => ∃ k : Nat, k ≤ n ∧ i = .int .i64 k ∧ noneF p l k ∧ Below w.heap.size w wr) (fun _ i _ => n - (intOf i).toNat)
  case atStart => exact ⟨0, by omega, rfl, noneF_zero _ _, Below.refl _ w⟩
  case round =>
    obtain ⟨k, hk, rfl, hN, hbw⟩ := hrel
    by_cases hlt : k < n
    · have hkl : k < l.length := by rw [← HN.out]; exact hlt
      obtain ⟨ad, rfl, hA⟩ := HV.out.get (m := 6) (fun _ => rfl) (by omega) hkl
      have hA1 := fun j u (hu : (tcell l[k])[j]? = some u) => keep_cell hbw (hA j u hu)
      have HC := HP.out wr l[k] (List.getElem_mem hkl) (hb0.trans (hbw.mono hB))
      have hcs : (tcell l[k]).length = 6 := rfl
      clear hA
      cases hq : p l[k] with
      | true =>
        have HI : Hid (idxF p l = (k : Int)) := by have h := idxF_hit hN hkl hq; exact h
        rw [hq] at HC
        clear hN hq
        generalize tcell l[k] = cs at *
        go_wp2_with (first | (go_at_call 66; refine HC.mono ?_; rintro e w1 ⟨rfl, hb1⟩) | (refine load_row rfl 56 _ rfl _ rfl cs hA1 _ Tryz.underlying56 rfl (tsize48 hcs) ?_))
        go_ret
        exact ⟨ret_int HI.out.symm, bchain hbw hb1⟩
      | false =>
        have HN1 := noneF_step hN hkl hq
        rw [hq] at HC
        clear hN hq
        generalize tcell l[k] = cs at *
        go_wp2_with (first | (go_at_call 66; refine HC.mono ?_; rintro e w1 ⟨rfl, hb1⟩) | (refine load_row rfl 56 _ rfl _ rfl cs hA1 _ Tryz.underlying56 rfl (tsize48 hcs) ?_))
        go_roundw
        case rel => exact ⟨k + 1, by omega, by go_num, HN1, bchain hbw hb1⟩
        case measure => simp [intOf]; omega
    · obtain rfl : k = n := by omega
      have HI : Hid (idxF p l = -1) := by
        have h := idxF_miss (p := p) (l := l) (by rw [← HN.out]; exact hN)
        exact h
      go_wp2
      go_ret
      exact ⟨ret_int HI.out.symm, hbw⟩

set_option maxRecDepth 20000 in
set_option maxHeartbeats 2000000 in
theorem tdelete_any (g cap : Nat) (l : List TE) (B : Nat) (w0 w : World) (c0 : Value) (p : TE → Bool) (hb0 : Below B w0 w) (hO : OwnR w g tcell 6 l) (hone : ∀ x ∈ l, ∀ u ∈ tcell x, u.oneCell' = true) (hn : l.length ≤ 1000000) (hc : l.length ≤ cap) (hcm : cap ≤ maxLen) (hB : B ≤ g) (hp : tAsks B w0 c0 l fun x => !p x) :
    Calls Tryz.prog 64 #[.slice (some ⟨g, 0, none⟩) l.length cap, .func (.func 66) #[] #[c0]] w fun e w' => e = .returned (.slice (some ⟨g, 0, none⟩) (l.filter p).length cap) ∧ OwnR w' g tcell 6 (l.filter p) ∧ Below B w0 w' := by
  have hBw : B ≤ w.heap.size := Nat.le_trans hB (Nat.le_of_lt hO.1)
  have HI := tindex_any (.slice (some ⟨g, 0, none⟩) l.length cap) l w0 w B c0 (fun d => !p d) hb0 hBw (hO.rows (fun _ => rfl) hc) hn hp
  have HP : Hid (tAsks B w0 c0 l fun x => !p x) := hp
  have HONE : Hid (∀ x ∈ l, ∀ u ∈ tcell x, u.oneCell' = true) := hone
  clear hp hone
  have hcap : cap ≤ 9223372036854775807 := by unfold maxLen at hcm; omega
  rcases idxF_cases (fun d => !p d) l with ⟨e, hN⟩ | ⟨k, hk, e, hN, h', hp⟩
  · rw [e] at HI
    have hf := noneF_filter hN
    rw [hf]
    have HO : Hid (OwnR w g tcell 6 l) := hO
    clear hN hO hf e
    go_enter Tryz.func64, Tryz.ntmps64
    go_wp2_with (go_at_call 106; refine HI.mono ?_; rintro e w1 ⟨rfl, hb1⟩)
    go_ret
    exact ⟨rfl, HO.out.on hb1, hb0.trans (hb1.mono hBw)⟩
  · rw [e] at HI
    have hne1 : ((k : Int) == -1) = false := beq_eq_false_iff_ne.2 (by omega)
    have HK : Hid (KIn p l k (k + 1) l) := by have h := KIn.start hN hk hp; exact h
    have HO : Hid (OwnR w g tcell 6 l) := hO
    clear hN hO e hp
    obtain ⟨n, hn0⟩ : ∃ n, n = l.length := ⟨_, rfl⟩
    have HN : Hid (n = l.length) := hn0
    rw [← hn0] at hn hc hk HI ⊢
    clear hn0 h'
    go_enter Tryz.func64, Tryz.ntmps64
    go_wp2_with (go_at_call 106; refine HI.mono ?_; rintro e w1 ⟨rfl, hb1⟩)
    go_loopw [5, 6, 7] (fun a b _ wr => ∃ (i j : Nat) (cur : List TE), a = .int .i64 i ∧ b = .int .i64 j ∧ Hid (KIn p l i j cur) ∧ Hid (OwnR wr g tcell 6 cur) ∧ Below B w0 wr) (fun _ b _ _ => n - (intOf b).toNat)
    case atStart => exact ⟨k, k + 1, l, rfl, by go_num, HK, HO.out.on hb1, hb0.trans (hb1.mono hBw)⟩
    case round =>
      clear HK HO hb1 HI hne1
      obtain ⟨i, j, cur, rfl, rfl, HK, HO, hbw⟩ := hrel
      have hcl : cur.length = n := by rw [HN.out]; exact HK.out.1
      have hij := HK.out.2.1
      have hjn : j ≤ n := by rw [HN.out]; exact HK.out.2.2.1
      have hBr : B ≤ wr.heap.size := Nat.le_trans hB (Nat.le_of_lt HO.out.1)
      by_cases hlt : j < n
      · have hjd : j < l.length := by have := HN.out; omega
        obtain ⟨hj', hcj⟩ := HK.out.at hjd
        have hR := loads (HO.out.2 j hj').1
        have hic : i < cur.length := by omega
        have hth := (HO.out.2 i hic).2
        rw [hcj] at hR
        have HC := HP.out (wr.alloc (.cells (tcell l[j]).toArray 56)) l[j] (List.getElem_mem hjd) (hbw.alloc hBr _)
        dsimp only at HC
        have h1 := HONE.out l[j] (List.getElem_mem hjd)
        have hcs : (tcell l[j]).length = 6 := rfl
        cases hq : p l[j] with
        | true =>
          rw [hq] at HC
          have HF : Hid (∀ w2, OwnR w2 g tcell 6 cur → OwnR (w2.setCells g (i * 6) (tcell l[j])) g tcell 6 (cur.set i l[j])) := by
            have h := fun w2 (h2 : OwnR w2 g tcell 6 cur) => h2.set (fun _ => rfl) hic l[j]
            exact h
          have HK' : Hid (KIn p l (i + 1) (j + 1) (cur.set i l[j])) := by have h := HK.out.keep hjd hq; exact h
          clear HK hcj hq
          generalize cur.set i l[j] = cur' at *
          generalize tcell l[j] = cs at *
          go_wp2_with (first
            | (go_at_call 66; refine HC.mono ?_; rintro e w2 ⟨rfl, hb2⟩; have hO2 := (HO.out.on (below_new wr (.cells cs.toArray 56))).on hb2; have hth2 := (hO2.2 i hic).2)
            | (refine load_row rfl 56 _ rfl _ rfl cs hR _ Tryz.underlying56 rfl (tsize48 hcs) ?_)
            | (refine store_new rfl 56 _ _ rfl _ cs rfl rfl (tsize48 hcs) (by rw [hcs]; rfl) h1 ?_)
            | (refine load_row rfl 56 _ rfl _ rfl cs (new_cells wr cs 56) _ Tryz.underlying56 rfl (tsize48 hcs) ?_)
            | (refine load_row rfl 56 _ rfl _ rfl cs (fun j v hv => keep_cell hb2 (new_cells wr cs 56 j v hv)) _ Tryz.underlying56 rfl (tsize48 hcs) ?_)
            | (refine store_row rfl 56 _ _ rfl g (i * 6) cs rfl rfl (by rw [hcs]; exact hth2) (tsize48 hcs) h1 ?_))
          go_roundw
          case rel => exact ⟨i + 1, j + 1, cur', by go_num, by go_num, HK', HF.out _ hO2, below_setCells hB cs (i * 6) _ ((hbw.alloc hBr _).trans (hb2.mono (by simp; omega)))⟩
          case measure => simp [intOf]; omega
        | false =>
          rw [hq] at HC
          have HK' : Hid (KIn p l i (j + 1) cur) := by have h := HK.out.skip hjd hq; exact h
          clear HK hcj hq
          generalize tcell l[j] = cs at *
          go_wp2_with (first
            | (go_at_call 66; refine HC.mono ?_; rintro e w2 ⟨rfl, hb2⟩)
            | (refine load_row rfl 56 _ rfl _ rfl cs hR _ Tryz.underlying56 rfl (tsize48 hcs) ?_)
            | (refine store_new rfl 56 _ _ rfl _ cs rfl rfl (tsize48 hcs) (by rw [hcs]; rfl) h1 ?_)
            | (refine load_row rfl 56 _ rfl _ rfl cs (new_cells wr cs 56) _ Tryz.underlying56 rfl (tsize48 hcs) ?_))
          go_roundw
          case rel => exact ⟨i, j + 1, cur, rfl, by go_num, HK', (HO.out.on (below_new _ _)).on hb2, (hbw.alloc hBr _).trans (hb2.mono (by simp; omega))⟩
          case measure => simp [intOf]; omega
      · obtain rfl : j = n := by omega
        have hcl9 := tclears HO.out i j hij hcl
        have HE : Hid (i = (l.filter p).length ∧ cur.take i = l.filter p) := by
          have h1 := HK.out.len
          have h2 := HK.out.2.2.2.1
          rw [HN.out, List.take_length] at h1 h2
          exact (⟨h1, h2⟩ : i = (l.filter p).length ∧ cur.take i = l.filter p)
        have hin : i ≤ cap := by omega
        generalize (Builtin.zeroCells tzero (j - i)).toList = vs at *
        go_wp2
        go_ret
        refine ⟨by rw [← HE.out.1]; rfl, ?_, below_setCells hB vs (i * 6) _ hbw⟩
        rw [← HE.out.2]
        exact HO.out.clear (fun _ => rfl) i vs

end Go.Proofs.YthlhopdlkkeohaaGreatDoor.O
/- Slices of counts: how one lies in memory; rows that a call owns. -/
namespace Go.Proofs.YthlhopdlkkeohaaGreatDoor.T
open Go.Proofs.YthlhopdlkkeohaaGreatDoor.D
open Go.RowKit

abbrev dV (d : D) : Value := .agg #[.int .i64 d.1, .int .i64 d.2]
abbrev uV (u : U) : Value := .agg #[.int .i64 u.1.1, .int .i64 u.1.2, .int .i64 u.2]
theorem keep_cell {W w1 : World} {a : Addr} {v : Value} (hb : Below W.heap.size W w1) (h : W.cell? a = some v) : w1.cell? a = some v := (hb.cell (World.block_lt_of_cell? W a h)).trans h
/-- Two dots, two counts, held against one another whole. -/
theorem equal_dot (w : World) (x y : D) : (Op.equalIn 10000 53 (dV x) (dV y)).run Tryz.prog w = .ok (decide (x = y)) w := by
  obtain ⟨a, b⟩ := x
  obtain ⟨a', b'⟩ := y
  have u3 := Tryz.underlying3
  have a3 := Tryz.isAgg3
  have z3 := Tryz.sizeOf3
  have hS : Tryz.prog.underlying 53 = some (.struct (Tryz.prog.fieldsOf 53)) := by kernel_rfl
  have hp : Tryz.prog.stoodInHeld 53 = false := by kernel_rfl
  rw [show (10000 : Nat) = 9999 + 1 from rfl, run_equalIn_agg w 9999 53 _ _ hS hp]
  simp only [Program.fieldsOf, Tryz.underlying53]
  go_simp
  by_cases h1 : a = a' <;> by_cases h2 : b = b' <;> simp [h1, h2]
theorem eql_dot (x y : D) (w : World) : (binOp .eql 53 (dV x) (dV y)).run Tryz.prog w = .ok (.bool (decide (x = y))) w := by
  rw [run_eql_struct, equal_dot w x y]
  rfl
theorem equal_cnt (w : World) (x y : U) : (Op.equalIn 10000 147 (uV x) (uV y)).run Tryz.prog w = .ok (decide (x = y)) w := by
  obtain ⟨⟨a, b⟩, c⟩ := x
  obtain ⟨⟨a', b'⟩, c'⟩ := y
  have u3 := Tryz.underlying3
  have a3 := Tryz.isAgg3
  have z3 := Tryz.sizeOf3
  have hS : Tryz.prog.underlying 147 = some (.struct (Tryz.prog.fieldsOf 147)) := by kernel_rfl
  have hp : Tryz.prog.stoodInHeld 147 = false := by kernel_rfl
  rw [show (10000 : Nat) = 9999 + 1 from rfl, run_equalIn_agg w 9999 147 _ _ hS hp]
  simp only [Program.fieldsOf, Tryz.underlying147]
  go_simp
  by_cases h1 : a = a' <;> by_cases h2 : b = b' <;> by_cases h3 : c = c' <;> simp [h1, h2, h3]
theorem eql_cnt (x y : U) (w : World) : (binOp .eql 147 (uV x) (uV y)).run Tryz.prog w = .ok (.bool (decide (x = y))) w := by
  rw [run_eql_struct, equal_cnt w x y]
  rfl
theorem neq_cnt (x y : U) (w : World) : (binOp .neq 147 (uV x) (uV y)).run Tryz.prog w = .ok (.bool (!decide (x = y))) w := by
  rw [run_neq_struct, equal_cnt w x y]
  rfl

/-- At this place there is this count. -/
def CAt (w : World) (p : Addr) (u : U) : Prop := w.cell? p = some (.int .i64 u.1.1) ∧ w.cell? ⟨p.block, p.off + 1, none⟩ = some (.int .i64 u.1.2) ∧ w.cell? ⟨p.block, p.off + 2, none⟩ = some (.int .i64 u.2)
theorem CAt.on {w w' : World} {p : Addr} {u : U} (h : CAt w p u) (hb : Below w.heap.size w w') : CAt w' p u := ⟨keep_cell hb h.1, keep_cell hb h.2.1, keep_cell hb h.2.2⟩
theorem CAt.new (w : World) (u : U) : CAt (w.alloc (.cells #[.int .i64 u.1.1, .int .i64 u.1.2, .int .i64 u.2] 147)) ⟨w.heap.size, 0, none⟩ u := ⟨by simp, by simp, by simp⟩
/-- At this place there is this dot. -/
def DAt (w : World) (b : Nat) (d : D) : Prop := w.cell? ⟨b, 0, none⟩ = some (.int .i64 d.1) ∧ w.cell? ⟨b, 1, none⟩ = some (.int .i64 d.2)
theorem DAt.on {w w' : World} {b : Nat} {d : D} (h : DAt w b d) (hb : Below w.heap.size w w') : DAt w' b d := ⟨keep_cell hb h.1, keep_cell hb h.2⟩
theorem DAt.new (w : World) (d : D) : DAt (w.alloc (.cells #[.int .i64 d.1, .int .i64 d.2] 53)) w.heap.size d := ⟨by simp, by simp⟩

/-- A slice reads as these counts. -/
def cntsIn (w : World) (v : Value) (l : List U) : Prop :=
  ∃ ao cap, v = .slice ao l.length cap ∧ l.length ≤ cap ∧ (ao = none → cap = 0) ∧ ∀ k (h : k < l.length), ∃ ad, ao = some ad ∧ CAt w (ad.add (k * 3)) l[k]
theorem cntsIn_nil (w : World) : cntsIn w (.slice none 0 0) [] := ⟨none, 0, rfl, by simp, fun _ => rfl, fun k h => by simp at h⟩
theorem cntsIn_none (w : World) (a : Addr) (cap : Nat) : cntsIn w (.slice (some a) 0 cap) [] := ⟨some a, cap, rfl, by simp, fun h => by simp at h, fun k h => by simp at h⟩
theorem cntsIn.on {w w' : World} {v : Value} {l : List U} (h : cntsIn w v l) (hb : Below w.heap.size w w') : cntsIn w' v l := by
  obtain ⟨ao, cap, hv, hm, h0, hc⟩ := h
  refine ⟨ao, cap, hv, hm, h0, fun k hk => ?_⟩
  obtain ⟨ad, h1, h2⟩ := hc k hk
  exact ⟨ad, h1, h2.on hb⟩
theorem cntsIn.len {w : World} {ao : Option Addr} {n cap : Nat} {l : List U} (h : cntsIn w (.slice ao n cap) l) : n = l.length := by
  obtain ⟨_, _, e, _⟩ := h
  cases e
  rfl
/-- Counts as cells. -/
def ucells (l : List U) : List Value := l.flatMap fun u => [.int .i64 u.1.1, .int .i64 u.1.2, .int .i64 u.2]
theorem ucells_nil : ucells [] = [] := rfl
theorem ucells_append (a b : List U) : ucells (a ++ b) = ucells a ++ ucells b := by simp [ucells]
theorem ucells_length : ∀ l : List U, (ucells l).length = l.length * 3
  | [] => rfl
  | u :: l => by have := ucells_length l; simp [ucells] at *; omega
theorem ucells_at : ∀ (l : List U) (k : Nat) (h : k < l.length), (ucells l)[k * 3]? = some (.int .i64 (l[k]).1.1) ∧ (ucells l)[k * 3 + 1]? = some (.int .i64 (l[k]).1.2) ∧ (ucells l)[k * 3 + 2]? = some (.int .i64 (l[k]).2)
  | u :: l, 0, _ => by simp [ucells]
  | u :: l, k + 1, h => by
    have := ucells_at l k (by simpa using h)
    have e : ucells (u :: l) = .int .i64 u.1.1 :: .int .i64 u.1.2 :: .int .i64 u.2 :: ucells l := rfl
    rw [e, show (k + 1) * 3 = k * 3 + 1 + 1 + 1 by omega]
    simpa using this
theorem ucells_one (l : List U) : ∀ u ∈ ucells l, u.oneCell' = true := by
  intro u hu
  simp only [ucells, List.mem_flatMap, List.mem_cons, List.not_mem_nil, or_false] at hu
  obtain ⟨d, _, rfl | rfl | rfl⟩ := hu <;> rfl
/-- What is at place j. -/
theorem ucells_get (l : List U) (j : Nat) (u : Value) (h : (ucells l)[j]? = some u) : ∃ k, ∃ hk : k < l.length, (j = k * 3 ∧ u = .int .i64 (l[k]).1.1) ∨ (j = k * 3 + 1 ∧ u = .int .i64 (l[k]).1.2) ∨ (j = k * 3 + 2 ∧ u = .int .i64 (l[k]).2) := by
  have hj : j < (ucells l).length := (List.getElem?_eq_some_iff.1 h).1
  rw [ucells_length] at hj
  refine ⟨j / 3, by omega, ?_⟩
  obtain ⟨h0, h1, h2⟩ := ucells_at l (j / 3) (by omega)
  have hm : j % 3 = 0 ∨ j % 3 = 1 ∨ j % 3 = 2 := by omega
  rcases hm with e | e | e
  · left
    have hj2 : j = j / 3 * 3 := by omega
    refine ⟨hj2, ?_⟩
    rw [← hj2, h] at h0
    exact Option.some.inj h0
  · right; left
    have hj2 : j = j / 3 * 3 + 1 := by omega
    refine ⟨hj2, ?_⟩
    rw [← hj2, h] at h1
    exact Option.some.inj h1
  · right; right
    have hj2 : j = j / 3 * 3 + 2 := by omega
    refine ⟨hj2, ?_⟩
    rw [← hj2, h] at h2
    exact Option.some.inj h2
theorem add_one (ad : Addr) (k : Nat) : ad.add (k * 3 + 1) = ⟨(ad.add (k * 3)).block, (ad.add (k * 3)).off + 1, none⟩ := by
  unfold Addr.add
  by_cases h : k = 0
  · subst h; simp
  · have : ¬ k * 3 = 0 := by omega
    rw [if_neg (by omega), if_neg this]
    simp; omega
theorem add_two (ad : Addr) (k : Nat) : ad.add (k * 3 + 2) = ⟨(ad.add (k * 3)).block, (ad.add (k * 3)).off + 2, none⟩ := by
  unfold Addr.add
  by_cases h : k = 0
  · subst h; simp
  · have : ¬ k * 3 = 0 := by omega
    rw [if_neg (by omega), if_neg this]
    simp; omega
theorem add_block (a : Addr) (k : Nat) : (a.add k).block = a.block := by unfold Addr.add; split <;> rfl
theorem add_add (a : Addr) (j k : Nat) : (a.add j).add k = a.add (j + k) := by
  unfold Addr.add
  by_cases h : k = 0
  · subst h; simp
  · by_cases h' : j = 0
    · subst h'; simp
    · rw [if_neg h, if_neg h', if_neg (by omega)]
      simp; omega
theorem cntsIn.cells {w : World} {ad : Addr} {n cap : Nat} {l : List U} (h : cntsIn w (.slice (some ad) n cap) l) : ∀ j u, (ucells l)[j]? = some u → w.cell? (ad.add j) = some u := by
  obtain ⟨ao, c, hv, _, _, hc⟩ := h
  intro j u hu
  cases hv
  obtain ⟨k, hk, ⟨rfl, rfl⟩ | ⟨rfl, rfl⟩ | ⟨rfl, rfl⟩⟩ := ucells_get l j u hu <;> obtain ⟨ad', e, h0, h1, h2⟩ := hc k hk <;> cases e
  · exact h0
  · rw [add_one]; exact h1
  · rw [add_two]; exact h2
theorem cntsIn_of {w : World} {ad : Addr} {cap : Nat} {l : List U} (hm : l.length ≤ cap) (h : ∀ j u, (ucells l)[j]? = some u → w.cell? (ad.add j) = some u) : cntsIn w (.slice (some ad) l.length cap) l := by
  refine ⟨some ad, cap, rfl, hm, fun e => by simp at e, fun k hk => ⟨ad, rfl, ?_, ?_, ?_⟩⟩
  · exact h _ _ (ucells_at l k hk).1
  · rw [← add_one]; exact h _ _ (ucells_at l k hk).2.1
  · rw [← add_two]; exact h _ _ (ucells_at l k hk).2.2
/-- All but the first one. -/
theorem cntsIn.tail {w : World} {ad : Addr} {n cap : Nat} {u : U} {l : List U} (h : cntsIn w (.slice (some ad) n cap) (u :: l)) : cntsIn w (.slice (some (ad.add 3)) (n - 1) (cap - 1)) l := by
  obtain ⟨ao, c, hv, hm, _, hc⟩ := h
  cases hv
  refine ⟨some (ad.add 3), cap - 1, by simp, by simp at hm; omega, fun e => by simp at e, fun k hk => ⟨ad.add 3, rfl, ?_⟩⟩
  obtain ⟨ad', e, h0⟩ := hc (k + 1) (by simpa using hk)
  cases e
  rw [add_add, show 3 + k * 3 = (k + 1) * 3 by omega]
  exact h0
theorem cntsIn.head {w : World} {ao : Option Addr} {n cap : Nat} {u : U} {l : List U} (h : cntsIn w (.slice ao n cap) (u :: l)) : ∃ ad, ao = some ad ∧ CAt w ad u := by
  obtain ⟨ao', c, hv, hm, _, hc⟩ := h
  cases hv
  obtain ⟨ad, e, h0⟩ := hc 0 (by simp)
  exact ⟨ad, e, by simpa [Addr.add] using h0⟩
/-! ### Rows that a call owns -/
theorem info26 : ∃ i0, Tryz.prog.info? 147 = some i0 ∧ i0.zero = some (.agg #[.int .i64 0, .int .i64 0, .int .i64 0]) ∧ i0.size = 3 ∧ i0.bytes = 24 := info_parts (by kernel_rfl)
theorem own_grown {w wr w1 : World} {B s : Nat} {e : TypeId} {v : Value} {n : Nat} {xs : List Value} (hown : wr.ownsRow B e s v n xs) (hB : B ≤ wr.heap.size) (hbw : Below B w wr) (hgrow : wr.grownBy w1 v.ownBlock) : Below B w w1 :=
  hbw.grown hgrow (by omega) (fun k hk => (hown.lt k hk).1)
theorem own_on {w w' : World} {B s n : Nat} {e : TypeId} {v : Value} {xs : List Value} (h : w.ownsRow B e s v n xs) (hb : Below w.heap.size w w') : w'.ownsRow B e s v n xs := by
  refine ⟨h.1, ?_⟩
  rcases h.2 with hn | ⟨g, cap, cur, hv, hbg, hg, r⟩
  · exact Or.inl hn
  · exact Or.inr ⟨g, cap, cur, hv, hbg, (hb.block g (Array.getElem?_eq_some_iff.1 hg).1).trans hg, r⟩
theorem own_base {w : World} {b b' s n : Nat} {e : TypeId} {v : Value} {xs : List Value} (h : w.ownsRow b e s v n xs) (hb : b' ≤ b) : w.ownsRow b' e s v n xs := by
  refine ⟨h.1, ?_⟩
  rcases h.2 with hn | ⟨g, cap, cur, hv, hbg, r⟩
  · exact Or.inl hn
  · exact Or.inr ⟨g, cap, cur, hv, Nat.le_trans hb hbg, r⟩
theorem new_row (w : World) (u : U) : ∀ j v, (ucells [u])[j]? = some v → (w.alloc (.cells #[.int .i64 u.1.1, .int .i64 u.1.2, .int .i64 u.2] 147)).cell? ((⟨w.heap.size, 0, none⟩ : Addr).add j) = some v := by
  intro j v hv
  have e : (⟨w.heap.size, 0, none⟩ : Addr).add j = ⟨w.heap.size, j, none⟩ := by unfold Addr.add; split <;> simp_all
  rw [e, cell_of_row _ w.heap.size j _ 147 (0, 0) (heap_alloc_new w _)]
  simpa [ucells] using hv
/-- A row of one count. -/
theorem cntsIn_one (w : World) (u : U) : cntsIn (w.alloc (.cells #[.int .i64 u.1.1, .int .i64 u.1.2, .int .i64 u.2] 147)) (.slice (some ⟨w.heap.size, 0, none⟩) 1 1) [u] := cntsIn_of (l := [u]) (by simp) (new_row w u)
theorem ret_bool {a b : Bool} (h : a = b) : (Ending.returned (.bool a)) = .returned (.bool b) := by rw [h]
theorem ret_int {a b : Int} (h : a = b) : (Ending.returned (.int .i64 a)) = .returned (.int .i64 b) := by rw [h]
end Go.Proofs.YthlhopdlkkeohaaGreatDoor.T
/- The walks of Same: the document's, the program's (slices.Equal). -/
namespace Go.Proofs.YthlhopdlkkeohaaGreatDoor.T
open Go.Proofs.YthlhopdlkkeohaaGreatDoor.D
open Go.RowKit

/-- So many of the counts are the same. -/
def sameTo (xs ys : List U) (k : Nat) : Prop := xs.take k = ys.take k
theorem sameTo_zero (xs ys : List U) : sameTo xs ys 0 := by simp [sameTo]
theorem sameTo_step {xs ys : List U} {k : Nat} (h : sameTo xs ys k) (h1 : k < xs.length) (h2 : k < ys.length) (he : xs[k] = ys[k]) : sameTo xs ys (k + 1) := by
  unfold sameTo at h ⊢
  rw [List.take_succ_eq_append_getElem h1, List.take_succ_eq_append_getElem h2, h, he]
theorem same_not {xs ys : List U} {k : Nat} (h1 : k < xs.length) (h2 : k < ys.length) (he : ¬ xs[k] = ys[k]) : decide (xs = ys) = false := by
  apply decide_eq_false
  intro e
  subst e
  exact he rfl
theorem same_all {xs ys : List U} {k : Nat} (h : sameTo xs ys k) (h1 : ¬ k < xs.length) (hl : xs.length = ys.length) : decide (xs = ys) = true := by
  apply decide_eq_true
  unfold sameTo at h
  rwa [List.take_of_length_le (by omega), List.take_of_length_le (by omega)] at h
theorem CAt.heap {w w' : World} {p : Addr} {u : U} (h : CAt w p u) (e : w'.heap = w.heap) : CAt w' p u := ⟨(World.cell?_of_block (by rw [e])).trans h.1, (World.cell?_of_block (by rw [e])).trans h.2.1, (World.cell?_of_block (by rw [e])).trans h.2.2⟩

end Go.Proofs.YthlhopdlkkeohaaGreatDoor.T
/- A region that draws its order, walked operation by operation: what yields in every world that meets the region's condition is taken first, whatever the order; a call by its contract. -/
namespace Go.Proofs.YthlhopdlkkeohaaGreatDoor.T
open Go.Proofs.YthlhopdlkkeohaaGreatDoor.D
open Go.RowKit

section
variable {P : Program} {md : Region.Mode} {ops : Array Oper} {Q : Exit → Act → World → Prop} {S : World → Prop} {i : Nat} {o : Oper} {v : Value} {fuel : Nat} {listed : Array Bool} {a : Act} {w : World}

theorem held_take (ho : ops[i]? = some o) (hs : Region.noSelect ops = true) (hf : Region.free md ops listed i = true) (hr : (Region.ready md ops listed).contains i = true)
    (hQ : ∀ c a w, Q (.panic c) (a.put o.dst v) w → Q (.panic c) a w) (hw : Region.wanted o (yielded ops a.tmps) = true) (he : ∀ w, S w → (execOp a.eval o).run P w = .ok (.value v) w) (hS : S w)
    (h : wpAnyH P md ops Q S fuel (listed.setIfInBounds i true) (a.put o.dst v) w) : wpAnyH P md ops Q S (fuel + 1) listed a w :=
  wpAnyH_take ho hs hf hr hQ (Or.inl ⟨hw, he⟩) hS h
theorem held_skip (ho : ops[i]? = some o) (hs : Region.noSelect ops = true) (hf : Region.free md ops listed i = true) (hr : (Region.ready md ops listed).contains i = true)
    (hQ : ∀ c a w, Q (.panic c) (a.put o.dst undef) w → Q (.panic c) a w) (hw : Region.wanted o (yielded ops a.tmps) = false) (hS : S w)
    (h : wpAnyH P md ops Q S fuel (listed.setIfInBounds i true) (a.put o.dst undef) w) : wpAnyH P md ops Q S (fuel + 1) listed a w :=
  wpAnyH_take ho hs hf hr hQ (Or.inr ⟨hw, rfl⟩) hS h
theorem held_do (ho : ops[i]? = some o) (hr : Region.ready md ops listed = [i]) (hw : Region.wanted o (yielded ops a.tmps) = true) (he : (execOp a.eval o).run P w = .ok (.value v) w) (hS : S w)
    (h : wpAnyH P md ops Q S fuel (listed.setIfInBounds i true) (a.put o.dst v) w) : wpAnyH P md ops Q S (fuel + 1) listed a w :=
  wpAnyH_ready hr (by simp) (AllReadyH.cons ho (fun K hK => by
    rw [if_pos hw, Oper.wp, he]
    exact hK.out _ _ hS (fun _ => h)) AllReadyH.nil)
theorem exec_bin {op : BinOp} {t t' : TypeId} {x y : Operand} {X Y V : Value} (ho : o.op = .binOp op t x y t') (hx : a.eval x = X) (hy : a.eval y = Y) (hg : ∀ w, (eqGuard op t x y X Y).run P w = .ok () w) (hb : ∀ w, (binOp op t X Y).run P w = .ok V w) (w : World) :
    (execOp a.eval o).run P w = .ok (.value V) w := by
  unfold execOp
  simp only [ho, hx, hy, Sem.run_bind, hg, hb, Result.andThen_ok, Sem.run_pure]
theorem exec_un {op : UnOp} {t : TypeId} {x : Operand} {X V : Value} (ho : o.op = .unOp op t x) (hx : a.eval x = X) (hb : ∀ w, (Op.unary op X).run P w = .ok V w) (w : World) :
    (execOp a.eval o).run P w = .ok (.value V) w := by
  unfold execOp
  simp only [ho, hx, Sem.run_bind, hb, Result.andThen_ok, Sem.run_pure]
end
section
variable {P : Program} {md : Region.Mode} {ops : Array Oper} {Q : Exit → Act → World → Prop} {S : World → Prop} {i j : Nat} {o o' : Oper} {v v' : Value} {fuel : Nat} {listed : Array Bool} {a : Act} {w : World}
/-- A call, whatever it hands back. -/
theorem held_callX {F : FuncId} {vs : Array Value} {R : Ending → World → Prop} (ho : ops[i]? = some o) (hr : Region.ready md ops listed = [i]) (hw : Region.wanted o (yielded ops a.tmps) = true)
    (he : ∀ w, (execOp a.eval o).run P w = .ok (.enter F vs) w) (hc : Calls P F vs w R) (h : ∀ e w', R e w' → ∃ v, e = .returned v ∧ S w' ∧ wpAnyH P md ops Q S fuel (listed.setIfInBounds i true) (a.put o.dst v) w') :
    wpAnyH P md ops Q S (fuel + 1) listed a w :=
  wpAnyH_ready hr (by simp) (AllReadyH.cons ho (fun K hK => by
    rw [if_pos hw, Oper.wp, he]
    refine hc.mono ?_
    intro e w' hR
    obtain ⟨v, rfl, hs, hk⟩ := h e w' hR
    exact hK.out _ _ hs (fun _ => hk)) AllReadyH.nil)
end
section
variable {o : Oper} {a : Act} {w : World}
theorem exec_idx {x y : Operand} {ad : Addr} {n c k : Nat} (ho : o.op = .indexAddr 23 x y) (hx : a.eval x = .slice (some ad) n c) (hy : a.eval y = .int .i64 (k : Int)) (hk : k < n) (w : World) :
    (execOp a.eval o).run Tryz.prog w = .ok (.value (.pointer (some (ad.add (k * 3))))) w := by
  have h0 : (0 : Int) ≤ (k : Int) := by omega
  have h1 : (k : Int) < (n : Int) := by omega
  unfold execOp
  simp only [ho, hx, hy, Sem.run_bind]
  go_simp
theorem exec_fld0 {x : Operand} {p : Addr} (ho : o.op = .fieldAddr 147 x 0) (hx : a.eval x = .pointer (some p)) (w : World) :
    (execOp a.eval o).run Tryz.prog w = .ok (.value (.pointer (some p))) w := by
  unfold execOp
  simp only [ho, hx, Sem.run_bind]
  go_simp
theorem exec_ldU {x : Operand} {p : Addr} {u : U} (ho : o.op = .load 147 x) (hx : a.eval x = .pointer (some p)) (h : CAt w p u) :
    (execOp a.eval o).run Tryz.prog w = .ok (.value (uV u)) w := by
  obtain ⟨h0, h1, h2⟩ := h
  unfold execOp
  simp only [ho, hx, Sem.run_bind]
  go_simp
theorem exec_ldD {x : Operand} {p : Addr} {u : U} (ho : o.op = .load 53 x) (hx : a.eval x = .pointer (some p)) (h : CAt w p u) :
    (execOp a.eval o).run Tryz.prog w = .ok (.value (dV u.1)) w := by
  obtain ⟨h0, h1, h2⟩ := h
  unfold execOp
  simp only [ho, hx, Sem.run_bind]
  go_simp
end
theorem eqb_same (x : Bool) (w : World) : (binOp .eql 4 (.bool x) (.bool x)).run Tryz.prog w = .ok (.bool true) w := by go_simp
theorem eqi_same (x : Int) (w : World) : (binOp .eql 3 (.int .i64 x) (.int .i64 x)).run Tryz.prog w = .ok (.bool true) w := by go_simp
theorem eqs_same (x : ByteArray) (w : World) : (binOp .eql 9 (.string x) (.string x)).run Tryz.prog w = .ok (.bool true) w := by go_simp
theorem not_of (x : Bool) (w : World) : (Op.unary .not (.bool x)).run Tryz.prog w = .ok (.bool (!x)) w := by go_simp
end Go.Proofs.YthlhopdlkkeohaaGreatDoor.T
/- The walks of Get and Seen: the document's, the program's (slices.BinarySearchFunc). -/
namespace Go.Proofs.YthlhopdlkkeohaaGreatDoor.T
open Go.Proofs.YthlhopdlkkeohaaGreatDoor.D
open Go.RowKit Go.Shelf

/-- None of the first ones is the dot's. -/
def missTo (l : List U) (d : D) (k : Nat) : Prop := Ct.get l d = Ct.get (l.drop k) d
theorem missTo_zero (l : List U) (d : D) : missTo l d 0 := rfl
theorem missTo_step {l : List U} {d : D} {k : Nat} (h : missTo l d k) (hk : k < l.length) (he : ¬ (l[k]).1 = d) : missTo l d (k + 1) := by
  unfold missTo at *
  rw [h, List.drop_eq_getElem_cons hk, Ct.get, if_neg he]
theorem missTo_hit {l : List U} {d : D} {k : Nat} (h : missTo l d k) (hk : k < l.length) (he : (l[k]).1 = d) : Ct.get l d = (l[k]).2 := by
  unfold missTo at h
  rw [h, List.drop_eq_getElem_cons hk, Ct.get, if_pos he]
theorem missTo_end {l : List U} {d : D} {k : Nat} (h : missTo l d k) (hk : ¬ k < l.length) : Ct.get l d = 0 := by
  unfold missTo at h
  rw [h, List.drop_eq_nil_of_le (by omega), Ct.get]

set_option maxRecDepth 20000 in
set_option maxHeartbeats 2000000 in
theorem refGet_any (v : Value) (l : List U) (d : D) (w : World) (hn : l.length ≤ 1000000) (hv : cntsIn w v l) :
    Calls Tryz.prog 67 #[v, dV d] w fun e w' => e = .returned (.int .i64 (Ct.get l d)) ∧ Below w.heap.size w w' := by
  obtain ⟨ao, c, rfl, _, _, hc⟩ := hv
  obtain ⟨W0, hW0⟩ : ∃ W0, W0 = w.alloc (.cells #[.int .i64 d.1, .int .i64 d.2] 53) := ⟨_, rfl⟩
  have hB0 : Below w.heap.size w W0 := by rw [hW0]; exact below_new _ _
  have hd0 : DAt W0 w.heap.size d := by rw [hW0]; exact DAt.new w d
  go_enter Tryz.func67, Tryz.ntmps67
  go_wp2
  rw [← hW0]
  clear hW0
  go_loopw [5] (fun i wr => ∃ k : Nat, k ≤ l.length ∧ i = .int .i64 k ∧ missTo l d k ∧ Below W0.heap.size W0 wr) (fun i _ => l.length - (intOf i).toNat)
  case atStart => exact ⟨0, by omega, rfl, missTo_zero _ _, Below.refl _ _⟩
  case round =>
    obtain ⟨k, hk, rfl, hS, hbw⟩ := hrel
    obtain ⟨e0, e1⟩ := hd0.on hbw
    by_cases hlt : k < l.length
    · obtain ⟨ad, rfl, hA⟩ := hc k hlt
      obtain ⟨hA1, hA2, hA3⟩ := hA.on (bchain hB0 hbw)
      clear hc hA
      have hE := eql_dot (l[k]).1 d
      by_cases he : (l[k]).1 = d
      · have HL : Hid (Ct.get l d = (l[k]).2) := by
          have h := missTo_hit hS hlt he
          exact h
        simp only [he, decide_true] at hE
        rw [he] at hA1 hA2
        generalize (l[k]).2 = x at *
        go_wp2
        go_region
        all_goals
          go_wp2
          go_ret
          exact ⟨ret_int HL.out.symm, bchain hB0 hbw.drew⟩
      · have HS := missTo_step hS hlt he
        simp only [he, decide_false] at hE
        generalize l[k] = x at *
        go_wp2
        go_region
        all_goals
          go_wp2
          go_roundw
          case rel => exact ⟨k + 1, by omega, by go_num, HS, hbw.drew⟩
          case measure => simp [intOf]; omega
    · have HL : Hid (Ct.get l d = 0) := by
        have h := missTo_end hS hlt
        exact h
      go_wp2
      go_ret
      exact ⟨ret_int HL.out.symm, bchain hB0 hbw⟩

theorem cmpU_any (u : U) (d : D) (w : World) : Calls Tryz.prog 98 #[uV u, dV d] w fun e w' => e = .returned (.int .i64 (Dt.comp u.1.1 u.1.2 d.1 d.2)) ∧ Below w.heap.size w w' := by
  obtain ⟨⟨r, n⟩, m⟩ := u
  obtain ⟨r', n'⟩ := d
  have HC := fun w => comp_any r n r' n' w
  show Calls Tryz.prog 98 #[.agg #[.int .i64 r, .int .i64 n, .int .i64 m], dotV r' n'] w fun e w' => e = .returned (.int .i64 (Dt.comp r n r' n')) ∧ Below w.heap.size w w'
  generalize Dt.comp r n r' n' = z at *
  go_enter Tryz.func98, Tryz.ntmps98
  go_wp2_with (go_at_call 99; refine (HC _).mono ?_; rintro e w1 ⟨rfl, hb1⟩)
  go_ret
  exact ⟨rfl, bchain (below_new2 _ _ _) hb1⟩

/-- Where the search stands: all ahead of i are less, none from j on is. -/
def SInv (l : List U) (d : D) (i j : Nat) : Prop := i ≤ j ∧ j ≤ l.length ∧ (∀ k (h : k < l.length), k < i → Ct.lt (l[k]).1 d) ∧ (∀ k (h : k < l.length), j ≤ k → ¬ Ct.lt (l[k]).1 d)
theorem SInv.start (l : List U) (d : D) : SInv l d 0 l.length := ⟨Nat.zero_le _, Nat.le_refl _, fun _ _ h => absurd h (Nat.not_lt_zero _), fun k h1 h2 => by omega⟩
theorem SInv.up {l : List U} {d : D} {i j h : Nat} (hp : Ct.Std l) (hI : SInv l d i j) (h1 : i ≤ h) (h2 : h < j) (hh : h < l.length) (hl : Ct.lt (l[h]).1 d) : SInv l d (h + 1) j := by
  refine ⟨by omega, hI.2.1, fun k hk hk1 => ?_, hI.2.2.2⟩
  by_cases e : k = h
  · subst e; exact hl
  · exact Ct.lt_trans (List.pairwise_iff_getElem.1 hp.2 k h hk hh (by omega)) hl
theorem SInv.down {l : List U} {d : D} {i j h : Nat} (hp : Ct.Std l) (hI : SInv l d i j) (h1 : i ≤ h) (h2 : h < j) (hh : h < l.length) (hl : ¬ Ct.lt (l[h]).1 d) : SInv l d i h := by
  refine ⟨h1, by omega, hI.2.2.1, fun k hk hk1 hlt => ?_⟩
  by_cases e : k = h
  · subst e; exact hl hlt
  · exact hl (Ct.lt_trans (List.pairwise_iff_getElem.1 hp.2 h k hh hk (by omega)) hlt)
/-- Is there a count of it? -/
def hasD (l : List U) (d : D) : Bool := decide (Ct.get l d ≠ 0)
/-- Where it is found, it stands. -/
def hitAt (l : List U) (d : D) (i : Nat) : Prop := hasD l d = true → ∃ h : i < l.length, (l[i]).1 = d
theorem SInv.miss {l : List U} {d : D} {i : Nat} (hI : SInv l d i i) (hi : ¬ i < l.length) : hasD l d = false := by
  have h : Ct.get l d = 0 := Ct.get_none fun u hu e => by
    obtain ⟨k, hk, rfl⟩ := List.mem_iff_getElem.1 hu
    have := hI.2.2.1 k hk (by omega)
    rw [e] at this
    exact Ct.lt_irrefl _ this
  simp [hasD, h]
theorem SInv.hit {l : List U} {d : D} {i : Nat} (hp : Ct.Std l) (hI : SInv l d i i) (hi : i < l.length) : hasD l d = decide ((l[i]).1 = d) := by
  by_cases e : (l[i]).1 = d
  · have h1 := Ct.get_at hp i hi
    have h2 := (Ct.ok_iff.1 (hp.1 _ (List.getElem_mem hi))).2
    rw [e] at h1
    rw [decide_eq_true e, hasD, decide_eq_true]
    omega
  · have h : Ct.get l d = 0 := Ct.get_none fun u hu q => by
      obtain ⟨k, hk, rfl⟩ := List.mem_iff_getElem.1 hu
      by_cases h1 : k < i
      · have := hI.2.2.1 k hk h1
        rw [q] at this
        exact Ct.lt_irrefl _ this
      · by_cases h2 : k = i
        · subst h2; exact e q
        · have h3 := List.pairwise_iff_getElem.1 hp.2 i k hi hk (by omega)
          rw [q] at h3
          exact hI.2.2.2 i hi (Nat.le_refl _) h3
    simp [hasD, h, e]
theorem cf_lt (x y : D) : decide (Dt.comp x.1 x.2 y.1 y.2 < 0) = decide (Ct.lt x y) := by
  obtain ⟨a, b⟩ := x
  obtain ⟨c, d⟩ := y
  rcases Dt.comp_cases a b c d with ⟨h, e⟩ | ⟨h1, h2, e⟩ | ⟨h, e⟩ <;> simp only [e]
  · symm; rw [show decide ((-1 : Int) < 0) = true from rfl, decide_eq_true_iff]; exact h
  · symm; rw [show decide ((0 : Int) < 0) = false from rfl, decide_eq_false_iff_not]; subst h1 h2; exact Ct.lt_irrefl _
  · symm; rw [show decide ((1 : Int) < 0) = false from rfl, decide_eq_false_iff_not]; simp only [Ct.lt]; omega
theorem cf_eq (x y : D) : decide (Dt.comp x.1 x.2 y.1 y.2 = 0) = decide (x = y) := by
  obtain ⟨a, b⟩ := x
  obtain ⟨c, d⟩ := y
  rcases Dt.comp_cases a b c d with ⟨h, e⟩ | ⟨h1, h2, e⟩ | ⟨h, e⟩ <;> simp only [e]
  · symm; rw [show decide ((-1 : Int) = 0) = false from rfl, decide_eq_false_iff_not]; intro k; cases k; omega
  · subst h1 h2; simp
  · symm; rw [show decide ((1 : Int) = 0) = false from rfl, decide_eq_false_iff_not]; intro k; cases k; omega
theorem ret_pair {x : Value} {a b : Bool} (h : a = b) : Ending.returned (.tuple #[x, .bool a]) = .returned (.tuple #[x, .bool b]) := by rw [h]

set_option maxRecDepth 20000 in
set_option maxHeartbeats 400000 in
theorem search_any (v : Value) (l : List U) (d : D) (w : World) (hv : cntsIn w v l) (hn : l.length ≤ 1000000) (hp : Ct.Std l) :
    Calls Tryz.prog 97 #[v, dV d, .func (.func 98) #[] #[]] w fun e w' => ∃ i : Nat, e = .returned (.tuple #[.int .i64 (i : Int), .bool (hasD l d)]) ∧ hitAt l d i ∧ Below w.heap.size w w' := by
  obtain ⟨ao, c, rfl, _, _, hc⟩ := hv
  obtain ⟨W0, hW0⟩ : ∃ W0, W0 = w.alloc (.cells #[.int .i64 d.1, .int .i64 d.2] 53) := ⟨_, rfl⟩
  have hB0 : Below w.heap.size w W0 := by rw [hW0]; exact below_new _ _
  have hd0 : W0.cell? ⟨w.heap.size, 0, none⟩ = some (.int .i64 d.1) := by rw [hW0]; simp
  have hd1 : W0.cell? ⟨w.heap.size, 1, none⟩ = some (.int .i64 d.2) := by rw [hW0]; simp
  have HC : Hid (∀ k (h : k < l.length), ∃ ad, ao = some ad ∧ CAt w (ad.add (k * 3)) l[k]) := hc
  have HP : Hid (Ct.Std l) := hp
  clear hc hp
  obtain ⟨n, hn0⟩ : ∃ n, n = l.length := ⟨_, rfl⟩
  have HN : Hid (n = l.length) := hn0
  have HS : Hid (SInv l d 0 n) := by have h := SInv.start l d; rw [← hn0] at h; exact h
  rw [← hn0] at hn ⊢
  clear hn0
  go_enter Tryz.func97, Tryz.ntmps97
  go_wp2
  rw [← hW0]
  clear hW0
  go_loopw [9, 10, 11] (fun a b _ wr => ∃ i j : Nat, a = .int .i64 i ∧ b = .int .i64 j ∧ i ≤ j ∧ j ≤ n ∧ Hid (SInv l d i j) ∧ Below W0.heap.size W0 wr) (fun a b _ _ => (intOf b).toNat - (intOf a).toNat)
  case atStart => exact ⟨0, n, rfl, rfl, by omega, by omega, HS, Below.refl _ _⟩
  case round =>
    clear HS
    obtain ⟨i, j, rfl, rfl, hij, hjn, HS, hbw⟩ := hrel
    by_cases hlt : i < j
    · obtain ⟨h, hh⟩ : ∃ h : Nat, h = (i + j) / 2 := ⟨_, rfl⟩
      have hh1 : i ≤ h := by omega
      have hh2 : h < j := by omega
      have hhd : h < l.length := by have := HN.out; omega
      obtain ⟨ad, rfl, hA⟩ := HC.out h hhd
      obtain ⟨c0, c1, c2⟩ := hA.on (bchain hB0 hbw)
      have e0 := keep_cell hbw hd0
      have e1 := keep_cell hbw hd1
      have hshr : ((i : Int) + (j : Int)) / 2 = (h : Int) := by omega
      have hi0 : (0 : Int) ≤ (h : Int) := by omega
      have hi1 : (h : Int) < (n : Int) := by omega
      clear hh hA
      have HQ := fun W => cmpU_any l[h] d W
      have hz := cf_lt (l[h]).1 d
      by_cases hl : Ct.lt (l[h]).1 d
      · have HS' : Hid (SInv l d (h + 1) j) := by have k := HS.out.up HP.out hh1 hh2 hhd hl; exact k
        rw [decide_eq_true hl] at hz
        have hz' : Dt.comp (l[h]).1.1 (l[h]).1.2 d.1 d.2 < 0 := of_decide_eq_true hz
        clear hz hl HS
        generalize Dt.comp (l[h]).1.1 (l[h]).1.2 d.1 d.2 = z at *
        generalize l[h] = x at *
        go_wp2
        go_region_held3 (fun W => W.cell? (ad.add (h * 3)) = some (.int .i64 x.1.1) ∧ W.cell? ⟨(ad.add (h * 3)).block, (ad.add (h * 3)).off + 1, none⟩ = some (.int .i64 x.1.2) ∧ W.cell? ⟨(ad.add (h * 3)).block, (ad.add (h * 3)).off + 2, none⟩ = some (.int .i64 x.2) ∧ W.cell? ⟨w.heap.size, 0, none⟩ = some (.int .i64 d.1) ∧ W.cell? ⟨w.heap.size, 1, none⟩ = some (.int .i64 d.2) ∧ Below wr.heap.size wr W)
          (first | exact ⟨c0, c1, c2, e0, e1, (Below.refl _ _).drew⟩ | go_keep | (refine ⟨keep_cell hb ?_, keep_cell hb ?_, keep_cell hb ?_, keep_cell hb ?_, keep_cell hb ?_, bchain ?_ hb⟩ <;> go_keep))
          (first | (go_at_call 98; refine (HQ _).mono ?_; rintro e w1 ⟨rfl, hb⟩))
        have hbx : Below wr.heap.size wr w1 := bchain (Below.refl _ _).drew hb
        go_wp2
        go_roundw
        case rel => exact ⟨h + 1, j, by go_num, rfl, by omega, hjn, HS', bchain hbw hbx⟩
        case measure => simp [intOf]; omega
      · have HS' : Hid (SInv l d i h) := by have k := HS.out.down HP.out hh1 hh2 hhd hl; exact k
        rw [decide_eq_false hl] at hz
        have hz' : ¬ Dt.comp (l[h]).1.1 (l[h]).1.2 d.1 d.2 < 0 := of_decide_eq_false hz
        clear hz hl HS
        generalize Dt.comp (l[h]).1.1 (l[h]).1.2 d.1 d.2 = z at *
        generalize l[h] = x at *
        go_wp2
        go_region_held3 (fun W => W.cell? (ad.add (h * 3)) = some (.int .i64 x.1.1) ∧ W.cell? ⟨(ad.add (h * 3)).block, (ad.add (h * 3)).off + 1, none⟩ = some (.int .i64 x.1.2) ∧ W.cell? ⟨(ad.add (h * 3)).block, (ad.add (h * 3)).off + 2, none⟩ = some (.int .i64 x.2) ∧ W.cell? ⟨w.heap.size, 0, none⟩ = some (.int .i64 d.1) ∧ W.cell? ⟨w.heap.size, 1, none⟩ = some (.int .i64 d.2) ∧ Below wr.heap.size wr W)
          (first | exact ⟨c0, c1, c2, e0, e1, (Below.refl _ _).drew⟩ | go_keep | (refine ⟨keep_cell hb ?_, keep_cell hb ?_, keep_cell hb ?_, keep_cell hb ?_, keep_cell hb ?_, bchain ?_ hb⟩ <;> go_keep))
          (first | (go_at_call 98; refine (HQ _).mono ?_; rintro e w1 ⟨rfl, hb⟩))
        have hbx : Below wr.heap.size wr w1 := bchain (Below.refl _ _).drew hb
        go_wp2
        go_roundw
        case rel => exact ⟨i, h, rfl, rfl, hh1, by omega, HS', bchain hbw hbx⟩
        case measure => simp [intOf]; omega
    · obtain rfl : i = j := by omega
      by_cases hin : i < n
      · have hhd : i < l.length := by have := HN.out; omega
        obtain ⟨ad, rfl, hA⟩ := HC.out i hhd
        obtain ⟨c0, c1, c2⟩ := hA.on (bchain hB0 hbw)
        have e0 := keep_cell hbw hd0
        have e1 := keep_cell hbw hd1
        have HQ := fun W => cmpU_any l[i] d W
        have HE : Hid (hasD l d = decide (Dt.comp (l[i]).1.1 (l[i]).1.2 d.1 d.2 = 0) ∧ (hasD l d = true → (l[i]).1 = d)) := by
          have k : hasD l d = decide (Dt.comp (l[i]).1.1 (l[i]).1.2 d.1 d.2 = 0) := by rw [HS.out.hit HP.out hhd, cf_eq]
          have k2 : hasD l d = true → (l[i]).1 = d := fun q => by rw [HS.out.hit HP.out hhd] at q; exact of_decide_eq_true q
          exact (⟨k, k2⟩ : hasD l d = decide (Dt.comp (l[i]).1.1 (l[i]).1.2 d.1 d.2 = 0) ∧ (hasD l d = true → (l[i]).1 = d))
        have hi0 : (0 : Int) ≤ (i : Int) := by omega
        have hi1 : (i : Int) < (n : Int) := by omega
        clear hA
        have HX : Hid (hitAt l d i) := by
          have k : hitAt l d i := fun q => ⟨hhd, HE.out.2 q⟩
          exact k
        have HE' : Hid (hasD l d = decide (Dt.comp (l[i]).1.1 (l[i]).1.2 d.1 d.2 = 0)) := HE.out.1
        clear HE
        generalize Dt.comp (l[i]).1.1 (l[i]).1.2 d.1 d.2 = z at HQ HE'
        generalize l[i] = x at c0 c1 c2 HQ
        go_wp2
        go_region_held3 (fun W => W.cell? (ad.add (i * 3)) = some (.int .i64 x.1.1) ∧ W.cell? ⟨(ad.add (i * 3)).block, (ad.add (i * 3)).off + 1, none⟩ = some (.int .i64 x.1.2) ∧ W.cell? ⟨(ad.add (i * 3)).block, (ad.add (i * 3)).off + 2, none⟩ = some (.int .i64 x.2) ∧ W.cell? ⟨w.heap.size, 0, none⟩ = some (.int .i64 d.1) ∧ W.cell? ⟨w.heap.size, 1, none⟩ = some (.int .i64 d.2) ∧ Below wr.heap.size wr W)
          (first | exact ⟨c0, c1, c2, e0, e1, (Below.refl _ _).drew⟩ | go_keep | (refine ⟨keep_cell hb ?_, keep_cell hb ?_, keep_cell hb ?_, keep_cell hb ?_, keep_cell hb ?_, bchain ?_ hb⟩ <;> go_keep))
          (first | (go_at_call 98; refine (HQ _).mono ?_; rintro e w1 ⟨rfl, hb⟩))
        have hbx : Below wr.heap.size wr w1 := bchain (Below.refl _ _).drew hb
        go_wp2
        go_ret2
        refine ⟨_, ret_pair ?_, HX.out, bchain (bchain hB0 hbw) hbx⟩
        rw [HE'.out]
        by_cases e : z = 0
        · subst e; rfl
        · rw [decide_eq_false e]; exact beq_eq_false_iff_ne.2 e
      · have HE : Hid (hasD l d = false) := by
          have k := HS.out.miss (by have := HN.out; omega)
          exact k
        have hin' : ¬ (i : Int) < (n : Int) := by omega
        go_wp2
        go_region
        all_goals
          go_wp2
          go_ret2
          exact ⟨_, ret_pair HE.out.symm, fun q => absurd (HE.out.symm.trans q) (by decide), (bchain hB0 hbw).drew⟩

set_option maxRecDepth 20000 in
theorem get_any (v : Value) (l : List U) (d : D) (w : World) (hv : cntsIn w v l) (hn : l.length ≤ 1000000) (hp : Ct.Std l) :
    Calls Tryz.prog 59 #[v, dV d] w fun e w' => e = .returned (.int .i64 (Ct.get l d)) ∧ Below w.heap.size w w' := by
  obtain ⟨W0, hW0⟩ : ∃ W0, W0 = w.alloc (.cells #[.int .i64 d.1, .int .i64 d.2] 53) := ⟨_, rfl⟩
  have hB0 : Below w.heap.size w W0 := by rw [hW0]; exact below_new _ _
  have HC := search_any v l d W0 (hv.on hB0) hn hp
  cases hq : hasD l d with
  | false =>
    rw [hq] at HC
    have hz : Ct.get l d = 0 := by simpa [hasD] using hq
    rw [hz]
    clear hz hq
    go_enter Tryz.func59, Tryz.ntmps59
    go_wp2_with (go_at_call 97; rw [← hW0]; refine HC.mono ?_; rintro e w1 ⟨i, rfl, _, hb1⟩)
    go_ret
    exact ⟨rfl, bchain hB0 hb1⟩
  | true =>
    have HQ : Hid (hasD l d = true) := hq
    rw [hq] at HC
    have HP : Hid (Ct.Std l) := hp
    clear hq hp
    obtain ⟨ao, c, rfl, hc1, hc2, hc⟩ := hv
    have HV : Hid (∀ k (h : k < l.length), ∃ ad, ao = some ad ∧ CAt w (ad.add (k * 3)) l[k]) := hc
    clear hc
    obtain ⟨n, hn0⟩ : ∃ n, n = l.length := ⟨_, rfl⟩
    have HN : Hid (n = l.length) := hn0
    rw [← hn0] at HC ⊢
    clear hn0
    go_enter Tryz.func59, Tryz.ntmps59
    go_wp2_with (go_at_call 97; rw [← hW0]; refine HC.mono ?_; rintro e w1 ⟨i, rfl, hx, hb1⟩; obtain ⟨hi, hxd⟩ := hx HQ.out; obtain ⟨ad, rfl, hA⟩ := HV.out i hi; obtain ⟨c0, c1, c2⟩ := hA.on (bchain hB0 hb1); have HG : Hid (Ct.get l d = (l[i]).2) := (by have k : Ct.get l d = (l[i]).2 := (by rw [← hxd]; exact Ct.get_at HP.out i hi); exact k); have hi0 : (0 : Int) ≤ (i : Int) := (by omega); have hi1 : (i : Int) < (n : Int) := (by have := HN.out; omega); clear hA hxd; generalize (l[i]).2 = x at *)
    go_ret
    exact ⟨ret_int HG.out.symm, bchain hB0 hb1⟩
end Go.Proofs.YthlhopdlkkeohaaGreatDoor.T
