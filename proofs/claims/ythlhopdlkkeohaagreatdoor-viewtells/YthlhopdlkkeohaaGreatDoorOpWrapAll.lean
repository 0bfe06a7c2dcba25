/- What the functions of an operation answer, said of the operation as one thing · The walks of Same over items that are the same: the statement's (of the program's and the document's), and the program's own · What clear does to a row of transactions, and to one of items · The walks of slices.IndexFunc and DeleteFunc over items, for At's closure · The walk of the document's Covers · The walks of slices.IndexFunc and DeleteFunc over transactions, for the closure of counting. -/
import Derived.Test.YthlhopdlkkeohaaGreatDoorOpMemAll
import Derived.Test.YthlhopdlkkeohaaGreatDoorChecksAll
import Derived.Test.YthlhopdlkkeohaaGreatDoorRefCheck
import Derived.Test.YthlhopdlkkeohaaGreatDoorThinsAll
import Derived.Test.YthlhopdlkkeohaaGreatDoorItMemAll
/- What the functions of an operation answer, said of the operation as one thing. -/
namespace Go.Proofs.YthlhopdlkkeohaaGreatDoor.O
open Go.RowKit

/-- Few, and short ones. -/
def tshort (t : Tx.Txn) : Bool := decide (t.ops.length ≤ 20) && t.ops.all Os.short
theorem short_parts {o : Os.Op} (h : Os.short o = true) : (o.p.length ≤ 12 ∧ ∀ x ∈ o.p, x.length ≤ 120) ∧ o.vs.length ≤ 200 ∧ o.l.length ≤ 300 := by
  have h1 : (Pt.short o.p = true ∧ o.vs.length ≤ 200) ∧ o.l.length ≤ 300 := by simpa [Os.short] using h
  exact ⟨Pt.short_iff h1.1.1, h1.1.2, h1.2⟩
theorem tshort_parts {t : Tx.Txn} (h : tshort t = true) : t.ops.length ≤ 20 ∧ ∀ o ∈ t.ops, Os.short o = true := by
  simpa [tshort] using h
section
variable (o : Os.Op) (pv sv : Value) (w : World)
theorem oshort (hw : opWide o) (hp : U.strsAt w pv o.p) (hs : refsIn w sv o.l) : Calls Tryz.prog 101 #[oV o pv sv] w fun e w' => e = .returned (.bool (Os.short o)) ∧ Below w.heap.size w w' :=
  refShort_any o.k pv o.vk o.vn o.vs o.n sv o.p o.l w hw.1 hw.2 hp hs
theorem orcheck (h : Os.short o = true) (hp : U.strsAt w pv o.p) (hs : refsIn w sv o.l) : Calls Tryz.prog 103 #[oV o pv sv] w fun e w' => e = .returned (.int .i64 (Os.check o : Nat)) ∧ Below w.heap.size w w' :=
  refCheck_any o.k pv o.vk o.vn o.vs o.n sv o.p o.l w (by have := short_parts h; omega) (fun x hx => by have := (short_parts h).1.2 x hx; omega) (by have := short_parts h; omega) (by have := short_parts h; omega) hp hs
theorem orgone (hp : U.strsAt w pv o.p) (hs : refsIn w sv o.l) : Calls Tryz.prog 104 #[oV o pv sv] w fun e w' => e = .returned (.bool (Os.gone o)) ∧ Below w.heap.size w w' :=
  refGone_any o.k pv o.vk o.vn o.vs o.n sv o.p o.l w hp hs
variable (o' : Os.Op) (pv' sv' : Value)
end
end Go.Proofs.YthlhopdlkkeohaaGreatDoor.O
/- The walks of Same over items that are the same: the statement's (of the program's and the document's), and the program's own. -/
namespace Go.Proofs.YthlhopdlkkeohaaGreatDoor.O
open Go.RowKit

/-- Their operations are short. -/
def ShortI (xs : List IE) : Prop := ∀ x ∈ xs, Os.short x.1.o = true
end Go.Proofs.YthlhopdlkkeohaaGreatDoor.O
/- What clear does to a row of transactions, and to one of items. -/
namespace Go.Proofs.YthlhopdlkkeohaaGreatDoor.O
open Go.RowKit

abbrev tzero : Array Value := #[.int .i64 0, .int .i64 0, .int .i64 0, .int .i64 0, .bool false, .slice none 0 0]
theorem tclears {w : World} {g : Nat} {cur : List TE} (h : OwnR w g tcell 6 cur) (i n : Nat) (hi : i < n) (hn : cur.length = n) (c : Nat) (ty : TypeId) : (Builtin.clear_ #[22] ty #[.slice (some ⟨g, i * 6, none⟩) (n - i) c]).run Tryz.prog w = .ok (.tuple #[]) (w.setCells g (i * 6) (Builtin.zeroCells tzero (n - i)).toList) := by
  have hst := OwnR.clears (P := Tryz.prog) (m := 6) tzero rfl (Nat.succ_pos 5) (by decide) h i (n - i) (by omega)
  obtain ⟨m, hm⟩ : ∃ m, n - i = m + 1 := ⟨n - i - 1, by omega⟩
  rw [hm] at hst ⊢
  simp [Builtin.clear_, run_underlying Tryz.underlying22, hst, Value.cells, Result.andThen]
abbrev izero : Array Value := #[.int .i64 0, .int .i64 0, .int .i64 0, .int .i64 0, .slice none 0 0, .int .i64 0, .int .i64 0, .string ⟨#[]⟩, .int .i64 0, .slice none 0 0, .int .i64 0]
theorem iclears {w : World} {g : Nat} {cur : List IE} (h : OwnR w g icell 11 cur) (i n : Nat) (hi : i < n) (hn : cur.length = n) (c : Nat) (ty : TypeId) : (Builtin.clear_ #[28] ty #[.slice (some ⟨g, i * 11, none⟩) (n - i) c]).run Tryz.prog w = .ok (.tuple #[]) (w.setCells g (i * 11) (Builtin.zeroCells izero (n - i)).toList) := by
  have hst := OwnR.clears (P := Tryz.prog) (m := 11) izero rfl (Nat.succ_pos 10) (by decide) h i (n - i) (by omega)
  obtain ⟨m, hm⟩ : ∃ m, n - i = m + 1 := ⟨n - i - 1, by omega⟩
  rw [hm] at hst ⊢
  simp [Builtin.clear_, run_underlying Tryz.underlying28, hst, Value.cells, Result.andThen]
end Go.Proofs.YthlhopdlkkeohaaGreatDoor.O
/- The walks of slices.IndexFunc and DeleteFunc over items, for At's closure. -/
namespace Go.Proofs.YthlhopdlkkeohaaGreatDoor.O
open Go.RowKit

/-- What the closure answers to one of these, whatever was laid since. -/
def iaAsks (B : Nat) (w : World) (c0 c1 : Value) (l : List IE) (p : IE → Bool) : Prop := ∀ (W : World) (x : IE), x ∈ l → Below B w W → Calls Tryz.prog 153 #[.agg (icell x).toArray, c0, c1] W fun e w' => e = .returned (.bool (p x)) ∧ Below W.heap.size W w'

set_option maxRecDepth 20000 in
set_option maxHeartbeats 1000000 in
theorem iaindex_any (v : Value) (l : List IE) (w0 w : World) (B : Nat) (c0 c1 : Value) (p : IE → Bool) (hb0 : Below B w0 w) (hB : B ≤ w.heap.size) (hv : rowsIn w icell v l) (hn : l.length ≤ 1000000) (hp : iaAsks B w0 c0 c1 l p) :
    Calls Tryz.prog 179 #[v, .func (.func 153) #[] #[c0, c1]] w fun e w' => e = .returned (.int .i64 (idxF p l)) ∧ Below w.heap.size w w' := by
  have HV : Hid (rowsIn w icell v l) := hv
  obtain ⟨ao, c, rfl, _, _, _⟩ := hv
  have HP : Hid (iaAsks B w0 c0 c1 l p) := hp
  clear hp
  obtain ⟨n, hn0⟩ : ∃ n, n = l.length := ⟨_, rfl⟩
  have HN : Hid (n = l.length) := hn0
  rw [← hn0] at HV hn ⊢
  clear hn0
  go_enter Tryz.func179, Tryz.ntmps179
  go_wp2
  go_loopw [5, 8] (fun _ i wr => ∃ k : Nat, k ≤ n ∧ i = .int .i64 k ∧ noneF p l k ∧ Below w.heap.size w wr) (fun _ i _ => n - (intOf i).toNat)
  case atStart => exact ⟨0, by omega, rfl, noneF_zero _ _, Below.refl _ w⟩
  case round =>
    obtain ⟨k, hk, rfl, hN, hbw⟩ := hrel
    by_cases hlt : k < n
    · have hkl : k < l.length := by rw [← HN.out]; exact hlt
      obtain ⟨ad, rfl, hA⟩ := HV.out.get (m := 11) (fun _ => rfl) (by omega) hkl
      have hA1 := fun j u (hu : (icell l[k])[j]? = some u) => keep_cell hbw (hA j u hu)
      have HC := HP.out wr l[k] (List.getElem_mem hkl) (hb0.trans (hbw.mono hB))
      have hcs : (icell l[k]).length = 11 := rfl
      clear hA
      cases hq : p l[k] with
      | true =>
        have HI : Hid (idxF p l = (k : Int)) := by have h := idxF_hit hN hkl hq; exact h
        rw [hq] at HC
        clear hN hq
        generalize icell l[k] = cs at *
        go_wp2_with (first | (go_at_call 153; refine HC.mono ?_; rintro e w1 ⟨rfl, hb1⟩) | (refine load_row rfl 76 _ rfl _ rfl cs hA1 _ Tryz.underlying76 rfl (isize56 hcs) ?_))
        go_ret
        exact ⟨ret_int HI.out.symm, bchain hbw hb1⟩
      | false =>
        have HN1 := noneF_step hN hkl hq
        rw [hq] at HC
        clear hN hq
        generalize icell l[k] = cs at *
        go_wp2_with (first | (go_at_call 153; refine HC.mono ?_; rintro e w1 ⟨rfl, hb1⟩) | (refine load_row rfl 76 _ rfl _ rfl cs hA1 _ Tryz.underlying76 rfl (isize56 hcs) ?_))
        go_roundw
        case rel => exact ⟨k + 1, by omega, by go_num, HN1, bchain hbw hb1⟩
        case measure => simp [intOf]; omega
    · obtain rfl : k = n := by omega
      have HI : Hid (idxF p l = -1) := by
        have h := idxF_miss (p := p) (l := l) (by rw [← HN.out]; exact hN)
        exact h
      go_wp2
      go_ret
      exact ⟨ret_int HI.out.symm, hbw⟩

set_option maxRecDepth 20000 in
set_option maxHeartbeats 2000000 in
theorem iadelete_any (g cap : Nat) (l : List IE) (B : Nat) (w0 w : World) (c0 c1 : Value) (p : IE → Bool) (hb0 : Below B w0 w) (hO : OwnR w g icell 11 l) (hone : ∀ x ∈ l, ∀ u ∈ icell x, u.oneCell' = true) (hn : l.length ≤ 1000000) (hc : l.length ≤ cap) (hcm : cap ≤ maxLen) (hB : B ≤ g) (hp : iaAsks B w0 c0 c1 l fun x => !p x) :
    Calls Tryz.prog 152 #[.slice (some ⟨g, 0, none⟩) l.length cap, .func (.func 153) #[] #[c0, c1]] w fun e w' => e = .returned (.slice (some ⟨g, 0, none⟩) (l.filter p).length cap) ∧ OwnR w' g icell 11 (l.filter p) ∧ Below B w0 w' := by
  have hBw : B ≤ w.heap.size := Nat.le_trans hB (Nat.le_of_lt hO.1)
  have HI := iaindex_any (.slice (some ⟨g, 0, none⟩) l.length cap) l w0 w B c0 c1 (fun d => !p d) hb0 hBw (hO.rows (fun _ => rfl) hc) hn hp
  have HP : Hid (iaAsks B w0 c0 c1 l fun x => !p x) := hp
  have HONE : Hid (∀ x ∈ l, ∀ u ∈ icell x, u.oneCell' = true) := hone
  clear hp hone
  have hcap : cap ≤ 9223372036854775807 := by unfold maxLen at hcm; omega
  rcases idxF_cases (fun d => !p d) l with ⟨e, hN⟩ | ⟨k, hk, e, hN, h', hp⟩
  · rw [e] at HI
    have hf := noneF_filter hN
    rw [hf]
    have HO : Hid (OwnR w g icell 11 l) := hO
    clear hN hO hf e
    go_enter Tryz.func152, Tryz.ntmps152
    go_wp2_with (go_at_call 179; refine HI.mono ?_; rintro e w1 ⟨rfl, hb1⟩)
    go_ret
    exact ⟨rfl, HO.out.on hb1, hb0.trans (hb1.mono hBw)⟩
  · rw [e] at HI
    have hne1 : ((k : Int) == -1) = false := beq_eq_false_iff_ne.2 (by omega)
    have HK : Hid (KIn p l k (k + 1) l) := by have h := KIn.start hN hk hp; exact h
    have HO : Hid (OwnR w g icell 11 l) := hO
    clear hN hO e hp
    obtain ⟨n, hn0⟩ : ∃ n, n = l.length := ⟨_, rfl⟩
    have HN : Hid (n = l.length) := hn0
    rw [← hn0] at hn hc hk HI ⊢
    clear hn0 h'
    go_enter Tryz.func152, Tryz.ntmps152
    go_wp2_with (go_at_call 179; refine HI.mono ?_; rintro e w1 ⟨rfl, hb1⟩)
    go_loopw [5, 6, 7] (fun a b _ wr => ∃ (i j : Nat) (cur : List IE), a = .int .i64 i ∧ b = .int .i64 j ∧ Hid (KIn p l i j cur) ∧ Hid (OwnR wr g icell 11 cur) ∧ Below B w0 wr) (fun _ b _ _ => n - (intOf b).toNat)
    case atStart => exact ⟨k, k + 1, l, rfl, by go_num, HK, HO.out.on hb1, hb0.trans (hb1.mono hBw)⟩
    case round =>
      clear HK HO hb1 HI hne1
      obtain ⟨i, j, cur, rfl, rfl, HK, HO, hbw⟩ := hrel
      have hcl : cur.length = n := by rw [HN.out]; exact HK.out.1
      have hij := HK.out.2.1
      have hjn : j ≤ n := by rw [HN.out]; exact HK.out.2.2.1
      have hBr : B ≤ wr.heap.size := Nat.le_trans hB (Nat.le_of_lt HO.out.1)
      by_cases hlt : j < n
      · have hjd : j < l.length := by have := HN.out; omega
        obtain ⟨hj', hcj⟩ := HK.out.at hjd
        have hR := loads (HO.out.2 j hj').1
        have hic : i < cur.length := by omega
        have hth := (HO.out.2 i hic).2
        rw [hcj] at hR
        have HC := HP.out (wr.alloc (.cells (icell l[j]).toArray 76)) l[j] (List.getElem_mem hjd) (hbw.alloc hBr _)
        dsimp only at HC
        have h1 := HONE.out l[j] (List.getElem_mem hjd)
        have hcs : (icell l[j]).length = 11 := rfl
        cases hq : p l[j] with
        | true =>
          rw [hq] at HC
          have HF : Hid (∀ w2, OwnR w2 g icell 11 cur → OwnR (w2.setCells g (i * 11) (icell l[j])) g icell 11 (cur.set i l[j])) := by
            have h := fun w2 (h2 : OwnR w2 g icell 11 cur) => h2.set (fun _ => rfl) hic l[j]
            exact h
          have HK' : Hid (KIn p l (i + 1) (j + 1) (cur.set i l[j])) := by have h := HK.out.keep hjd hq; exact h
          clear HK hcj hq
          generalize cur.set i l[j] = cur' at *
          generalize icell l[j] = cs at *
          go_wp2_with (first
            | (go_at_call 153; refine HC.mono ?_; rintro e w2 ⟨rfl, hb2⟩; have hO2 := (HO.out.on (below_new wr (.cells cs.toArray 76))).on hb2; have hth2 := (hO2.2 i hic).2)
            | (refine load_row rfl 76 _ rfl _ rfl cs hR _ Tryz.underlying76 rfl (isize56 hcs) ?_)
            | (refine store_new rfl 76 _ _ rfl _ cs rfl rfl (isize56 hcs) (by rw [hcs]; rfl) h1 ?_)
            | (refine load_row rfl 76 _ rfl _ rfl cs (new_cells wr cs 76) _ Tryz.underlying76 rfl (isize56 hcs) ?_)
            | (refine load_row rfl 76 _ rfl _ rfl cs (fun j v hv => keep_cell hb2 (new_cells wr cs 76 j v hv)) _ Tryz.underlying76 rfl (isize56 hcs) ?_)
            | (refine store_row rfl 76 _ _ rfl g (i * 11) cs rfl rfl (by rw [hcs]; exact hth2) (isize56 hcs) h1 ?_))
          go_roundw
          case rel => exact ⟨i + 1, j + 1, cur', by go_num, by go_num, HK', HF.out _ hO2, below_setCells hB cs (i * 11) _ ((hbw.alloc hBr _).trans (hb2.mono (by simp; omega)))⟩
          case measure => simp [intOf]; omega
        | false =>
          rw [hq] at HC
          have HK' : Hid (KIn p l i (j + 1) cur) := by have h := HK.out.skip hjd hq; exact h
          clear HK hcj hq
          generalize icell l[j] = cs at *
          go_wp2_with (first
            | (go_at_call 153; refine HC.mono ?_; rintro e w2 ⟨rfl, hb2⟩)
            | (refine load_row rfl 76 _ rfl _ rfl cs hR _ Tryz.underlying76 rfl (isize56 hcs) ?_)
            | (refine store_new rfl 76 _ _ rfl _ cs rfl rfl (isize56 hcs) (by rw [hcs]; rfl) h1 ?_)
            | (refine load_row rfl 76 _ rfl _ rfl cs (new_cells wr cs 76) _ Tryz.underlying76 rfl (isize56 hcs) ?_))
          go_roundw
          case rel => exact ⟨i, j + 1, cur, rfl, by go_num, HK', (HO.out.on (below_new _ _)).on hb2, (hbw.alloc hBr _).trans (hb2.mono (by simp; omega))⟩
          case measure => simp [intOf]; omega
      · obtain rfl : j = n := by omega
        have hcl9 := iclears HO.out i j hij hcl
        have HE : Hid (i = (l.filter p).length ∧ cur.take i = l.filter p) := by
          have h1 := HK.out.len
          have h2 := HK.out.2.2.2.1
          rw [HN.out, List.take_length] at h1 h2
          exact (⟨h1, h2⟩ : i = (l.filter p).length ∧ cur.take i = l.filter p)
        have hin : i ≤ cap := by omega
        generalize (Builtin.zeroCells izero (j - i)).toList = vs at *
        go_wp2
        go_ret
        refine ⟨by rw [← HE.out.1]; rfl, ?_, below_setCells hB vs (i * 11) _ hbw⟩
        rw [← HE.out.2]
        exact HO.out.clear (fun _ => rfl) i vs

end Go.Proofs.YthlhopdlkkeohaaGreatDoor.O
/- The walk of the document's Covers. -/
namespace Go.Proofs.YthlhopdlkkeohaaGreatDoor.O
open Go.RowKit

abbrev uO (u : U) : Obj := .cells #[.int .i64 u.1.1, .int .i64 u.1.2, .int .i64 u.2] 70
theorem OAt.newU (w : World) (k : Int) (pv : Value) (vk vn : Int) (vs : List UInt8) (n : Int) (sv : Value) (x : U) :
    OAt ((w.alloc (opO k pv vk vn vs n sv)).alloc (uO x)) w.heap.size k pv vk vn vs n sv ∧ CAt ((w.alloc (opO k pv vk vn vs n sv)).alloc (uO x)) ⟨w.heap.size + 1, 0, none⟩ x := by
  refine ⟨(OAt.new w k pv vk vn vs n sv).on (below_new _ _), ?_⟩
  have h := CAt.new (w.alloc (opO k pv vk vn vs n sv)) x
  have e : (w.alloc (opO k pv vk vn vs n sv)).heap.size = w.heap.size + 1 := by simp
  rw [e] at h
  exact h

def hasR (l : List U) (x : U) : Bool := decide (x ∈ l)
/-- None of so many is it. -/
def notTo (l : List U) (x : U) (k : Nat) : Prop := ¬ x ∈ l.take k
theorem notTo_zero (l : List U) (x : U) : notTo l x 0 := by simp [notTo]
theorem notTo_step {l : List U} {x : U} {k : Nat} (h : notTo l x k) (hk : k < l.length) (he : ¬ l[k] = x) : notTo l x (k + 1) := by
  unfold notTo at *
  rw [List.take_succ_eq_append_getElem hk, List.mem_append, List.mem_singleton]
  rintro (q | q)
  · exact h q
  · exact he q.symm
theorem notTo_end {l : List U} {x : U} {k : Nat} (h : notTo l x k) (hk : ¬ k < l.length) : hasR l x = false := by
  unfold notTo at h
  rw [List.take_of_length_le (by omega)] at h
  exact decide_eq_false h

set_option maxRecDepth 20000 in
set_option maxHeartbeats 4000000 in
theorem refCovers_any (k : Int) (pv : Value) (vk vn : Int) (vs : List UInt8) (n : Int) (sv : Value) (l : List U) (x : U) (w : World) (hll : l.length ≤ 1000000) (hs : refsIn w sv l) :
    Calls Tryz.prog 68 #[opV k pv vk vn vs n sv, uV x] w fun e w' => e = .returned (.bool (hasR l x)) ∧ Below w.heap.size w w' := by
  obtain ⟨bo, cs, rfl, _, _, hc⟩ := hs
  have HC : Hid (∀ k (h : k < l.length), ∃ ad, bo = some ad ∧ CAt w (ad.add (k * 3)) l[k]) := hc
  clear hc
  obtain ⟨m, hm⟩ : ∃ m, m = l.length := ⟨_, rfl⟩
  have HM : Hid (m = l.length) := hm
  rw [← hm] at hll ⊢
  clear hm
  have B0 := below_new2 w (opO k pv vk vn vs n (.slice bo m cs)) (uO x)
  have O0 := OAt.newU w k pv vk vn vs n (.slice bo m cs) x
  obtain ⟨W0, hW0⟩ : ∃ W0, W0 = ((w.alloc (opO k pv vk vn vs n (.slice bo m cs))).alloc (uO x)) := ⟨_, rfl⟩
  rw [← hW0] at B0 O0
  go_enter Tryz.func68, Tryz.ntmps68
  go_wp2
  rw [← hW0]
  clear hW0
  go_loopw [5] (fun i wr => ∃ j : Nat, j ≤ m ∧ i = .int .i64 j ∧ Hid (notTo l x j) ∧ Below W0.heap.size W0 wr) (fun i _ => m - (intOf i).toNat)
  case atStart => exact ⟨0, by omega, rfl, by have h := notTo_zero l x; exact h, Below.refl _ _⟩
  case round =>
    obtain ⟨j, hj, rfl, HS, hbw⟩ := hrel
    obtain ⟨c0, c1, c2, c3, c4, c5, c6⟩ := O0.1.on hbw
    obtain ⟨d0, d1, d2⟩ := O0.2.on hbw
    by_cases hlt : j < m
    · have hj1 : j < l.length := by have := HM.out; omega
      obtain ⟨ad, rfl, hA⟩ := HC.out j hj1
      obtain ⟨hA1, hA2, hA3⟩ := hA.on (bchain B0 hbw)
      have hi0 : (0 : Int) ≤ (j : Int) := by omega
      have hi1 : (j : Int) < (m : Int) := by omega
      clear hA
      have hE := eql_cnt l[j] x
      by_cases he : l[j] = x
      · have HL : Hid (hasR l x = true) := by
          have h : hasR l x = true := decide_eq_true (by rw [← he]; exact List.getElem_mem hj1)
          exact h
        simp only [he, decide_true] at hE
        rw [he] at hA1 hA2 hA3
        go_wp2
        go_region
        all_goals
          go_wp2
          go_ret
          exact ⟨ret_bool HL.out.symm, bchain B0 hbw.drew⟩
      · have HS' : Hid (notTo l x (j + 1)) := by have h := notTo_step HS.out hj1 he; exact h
        simp only [he, decide_false] at hE
        generalize l[j] = y at *
        clear HS
        go_wp2
        go_region
        all_goals
          go_wp2
          go_roundw
          case rel => exact ⟨j + 1, by omega, by go_num, HS', hbw.drew⟩
          case measure => simp [intOf]; omega
    · have HL : Hid (hasR l x = false) := by
        have h := notTo_end HS.out (by have := HM.out; omega)
        exact h
      go_wp2
      go_ret
      exact ⟨ret_bool HL.out.symm, bchain B0 hbw⟩

end Go.Proofs.YthlhopdlkkeohaaGreatDoor.O
/- The walks of slices.IndexFunc and DeleteFunc over transactions, for the closure of counting. -/
namespace Go.Proofs.YthlhopdlkkeohaaGreatDoor.O
open Go.RowKit

/-- What the closure answers to one of these, whatever was laid since. -/
def tAsks (B : Nat) (w : World) (c0 : Value) (l : List TE) (p : TE → Bool) : Prop := ∀ (W : World) (x : TE), x ∈ l → Below B w W → Calls Tryz.prog 66 #[.agg (tcell x).toArray, c0] W fun e w' => e = .returned (.bool (p x)) ∧ Below W.heap.size W w'

set_option maxRecDepth 20000 in
set_option maxHeartbeats 1000000 in
theorem tindex_any (v : Value) (l : List TE) (w0 w : World) (B : Nat) (c0 : Value) (p : TE → Bool) (hb0 : Below B w0 w) (hB : B ≤ w.heap.size) (hv : rowsIn w tcell v l) (hn : l.length ≤ 1000000) (hp : tAsks B w0 c0 l p) :
    Calls Tryz.prog 106 #[v, .func (.func 66) #[] #[c0]] w fun e w' => e = .returned (.int .i64 (idxF p l)) ∧ Below w.heap.size w w' := by
  have HV : Hid (rowsIn w tcell v l) := hv
  obtain ⟨ao, c, rfl, _, _, _⟩ := hv
  have HP : Hid (tAsks B w0 c0 l p) := hp
  clear hp
  obtain ⟨n, hn0⟩ : ∃ n, n = l.length := ⟨_, rfl⟩
  have HN : Hid (n = l.length) := hn0
  rw [← hn0] at HV hn ⊢
  clear hn0
  go_enter Tryz.func106, Tryz.ntmps106
  go_wp2
  go_loopw [5, 8] (fun _ i wr => ∃ k : Nat, k ≤ n ∧ i = .int .i64 k ∧ noneF p l k ∧ Below w.heap.size w wr) (fun _ i _ => n - (intOf i).toNat)
  case atStart => exact ⟨0, by omega, rfl, noneF_zero _ _, Below.refl _ w⟩
  case round =>
    obtain ⟨k, hk, rfl, hN, hbw⟩ := hrel
    by_cases hlt : k < n
    · have hkl : k < l.length := by rw [← HN.out]; exact hlt
      obtain ⟨ad, rfl, hA⟩ := HV.out.get (m := 6) (fun _ => rfl) (by omega) hkl
      have hA1 := fun j u (hu : (tcell l[k])[j]? = some u) => keep_cell hbw (hA j u hu)
      have HC := HP.out wr l[k] (List.getElem_mem hkl) (hb0.trans (hbw.mono hB))
      have hcs : (tcell l[k]).length = 6 := rfl
      clear hA
      cases hq : p l[k] with
      | true =>
        have HI : Hid (idxF p l = (k : Int)) := by have h := idxF_hit hN hkl hq; exact h
        rw [hq] at HC
        clear hN hq
        generalize tcell l[k] = cs at *
        go_wp2_with (first | (go_at_call 66; refine HC.mono ?_; rintro e w1 ⟨rfl, hb1⟩) | (refine load_row rfl 56 _ rfl _ rfl cs hA1 _ Tryz.underlying56 rfl (tsize48 hcs) ?_))
        go_ret
        exact ⟨ret_int HI.out.symm, bchain hbw hb1⟩
      | false =>
        have HN1 := noneF_step hN hkl hq
        rw [hq] at HC
        clear hN hq
        generalize tcell l[k] = cs at *
        go_wp2_with (first | (go_at_call 66; refine HC.mono ?_; rintro e w1 ⟨rfl, hb1⟩) | (refine load_row rfl 56 _ rfl _ rfl cs hA1 _ Tryz.underlying56 rfl (tsize48 hcs) ?_))
        go_roundw
        case rel => exact ⟨k + 1, by omega, by go_num, HN1, bchain hbw hb1⟩
        case measure => simp [intOf]; omega
    · obtain rfl : k = n := by omega
      have HI : Hid (idxF p l = -1) := by
        have h := idxF_miss (p := p) (l := l) (by rw [← HN.out]; exact hN)
        exact h
      go_wp2
      go_ret
      exact ⟨ret_int HI.out.symm, hbw⟩

set_option maxRecDepth 20000 in
set_option maxHeartbeats 2000000 in
theorem tdelete_any (g cap : Nat) (l : List TE) (B : Nat) (w0 w : World) (c0 : Value) (p : TE → Bool) (hb0 : Below B w0 w) (hO : OwnR w g tcell 6 l) (hone : ∀ x ∈ l, ∀ u ∈ tcell x, u.oneCell' = true) (hn : l.length ≤ 1000000) (hc : l.length ≤ cap) (hcm : cap ≤ maxLen) (hB : B ≤ g) (hp : tAsks B w0 c0 l fun x => !p x) :
    Calls Tryz.prog 64 #[.slice (some ⟨g, 0, none⟩) l.length cap, .func (.func 66) #[] #[c0]] w fun e w' => e = .returned (.slice (some ⟨g, 0, none⟩) (l.filter p).length cap) ∧ OwnR w' g tcell 6 (l.filter p) ∧ Below B w0 w' := by
  have hBw : B ≤ w.heap.size := Nat.le_trans hB (Nat.le_of_lt hO.1)
  have HI := tindex_any (.slice (some ⟨g, 0, none⟩) l.length cap) l w0 w B c0 (fun d => !p d) hb0 hBw (hO.rows (fun _ => rfl) hc) hn hp
  have HP : Hid (tAsks B w0 c0 l fun x => !p x) := hp
  have HONE : Hid (∀ x ∈ l, ∀ u ∈ tcell x, u.oneCell' = true) := hone
  clear hp hone
  have hcap : cap ≤ 9223372036854775807 := by unfold maxLen at hcm; omega
  rcases idxF_cases (fun d => !p d) l with ⟨e, hN⟩ | ⟨k, hk, e, hN, h', hp⟩
  · rw [e] at HI
    have hf := noneF_filter hN
    rw [hf]
    have HO : Hid (OwnR w g tcell 6 l) := hO
    clear hN hO hf e
    go_enter Tryz.func64, Tryz.ntmps64
    go_wp2_with (go_at_call 106; refine HI.mono ?_; rintro e w1 ⟨rfl, hb1⟩)
    go_ret
    exact ⟨rfl, HO.out.on hb1, hb0.trans (hb1.mono hBw)⟩
  · rw [e] at HI
    have hne1 : ((k : Int) == -1) = false := beq_eq_false_iff_ne.2 (by omega)
    have HK : Hid (KIn p l k (k + 1) l) := by have h := KIn.start hN hk hp; exact h
    have HO : Hid (OwnR w g tcell 6 l) := hO
    clear hN hO e hp
    obtain ⟨n, hn0⟩ : ∃ n, n = l.length := ⟨_, rfl⟩
    have HN : Hid (n = l.length) := hn0
    rw [← hn0] at hn hc hk HI ⊢
    clear hn0 h'
    go_enter Tryz.func64, Tryz.ntmps64
    go_wp2_with (go_at_call 106; refine HI.mono ?_; rintro e w1 ⟨rfl, hb1⟩)
    go_loopw [5, 6, 7] (fun a b _ wr => ∃ (i j : Nat) (cur : List TE), a = .int .i64 i ∧ b = .int .i64 j ∧ Hid (KIn p l i j cur) ∧ Hid (OwnR wr g tcell 6 cur) ∧ Below B w0 wr) (fun _ b _ _ => n - (intOf b).toNat)
    case atStart => exact ⟨k, k + 1, l, rfl, by go_num, HK, HO.out.on hb1, hb0.trans (hb1.mono hBw)⟩
    case round =>
      clear HK HO hb1 HI hne1
      obtain ⟨i, j, cur, rfl, rfl, HK, HO, hbw⟩ := hrel
      have hcl : cur.length = n := by rw [HN.out]; exact HK.out.1
      have hij := HK.out.2.1
      have hjn : j ≤ n := by rw [HN.out]; exact HK.out.2.2.1
      have hBr : B ≤ wr.heap.size := Nat.le_trans hB (Nat.le_of_lt HO.out.1)
      by_cases hlt : j < n
      · have hjd : j < l.length := by have := HN.out; omega
        obtain ⟨hj', hcj⟩ := HK.out.at hjd
        have hR := loads (HO.out.2 j hj').1
        have hic : i < cur.length := by omega
        have hth := (HO.out.2 i hic).2
        rw [hcj] at hR
        have HC := HP.out (wr.alloc (.cells (tcell l[j]).toArray 56)) l[j] (List.getElem_mem hjd) (hbw.alloc hBr _)
        dsimp only at HC
        have h1 := HONE.out l[j] (List.getElem_mem hjd)
        have hcs : (tcell l[j]).length = 6 := rfl
        cases hq : p l[j] with
        | true =>
          rw [hq] at HC
          have HF : Hid (∀ w2, OwnR w2 g tcell 6 cur → OwnR (w2.setCells g (i * 6) (tcell l[j])) g tcell 6 (cur.set i l[j])) := by
            have h := fun w2 (h2 : OwnR w2 g tcell 6 cur) => h2.set (fun _ => rfl) hic l[j]
            exact h
          have HK' : Hid (KIn p l (i + 1) (j + 1) (cur.set i l[j])) := by have h := HK.out.keep hjd hq; exact h
          clear HK hcj hq
          generalize cur.set i l[j] = cur' at *
          generalize tcell l[j] = cs at *
          go_wp2_with (first
            | (go_at_call 66; refine HC.mono ?_; rintro e w2 ⟨rfl, hb2⟩; have hO2 := (HO.out.on (below_new wr (.cells cs.toArray 56))).on hb2; have hth2 := (hO2.2 i hic).2)
            | (refine load_row rfl 56 _ rfl _ rfl cs hR _ Tryz.underlying56 rfl (tsize48 hcs) ?_)
            | (refine store_new rfl 56 _ _ rfl _ cs rfl rfl (tsize48 hcs) (by rw [hcs]; rfl) h1 ?_)
            | (refine load_row rfl 56 _ rfl _ rfl cs (new_cells wr cs 56) _ Tryz.underlying56 rfl (tsize48 hcs) ?_)
            | (refine load_row rfl 56 _ rfl _ rfl cs (fun j v hv => keep_cell hb2 (new_cells wr cs 56 j v hv)) _ Tryz.underlying56 rfl (tsize48 hcs) ?_)
            | (refine store_row rfl 56 _ _ rfl g (i * 6) cs rfl rfl (by rw [hcs]; exact hth2) (tsize48 hcs) h1 ?_))
          go_roundw
          case rel => exact ⟨i + 1, j + 1, cur', by go_num, by go_num, HK', HF.out _ hO2, below_setCells hB cs (i * 6) _ ((hbw.alloc hBr _).trans (hb2.mono (by simp; omega)))⟩
          case measure => simp [intOf]; omega
        | false =>
          rw [hq] at HC
          have HK' : Hid (KIn p l i (j + 1) cur) := by have h := HK.out.skip hjd hq; exact h
          clear HK hcj hq
          generalize tcell l[j] = cs at *
          go_wp2_with (first
            | (go_at_call 66; refine HC.mono ?_; rintro e w2 ⟨rfl, hb2⟩)
            | (refine load_row rfl 56 _ rfl _ rfl cs hR _ Tryz.underlying56 rfl (tsize48 hcs) ?_)
            | (refine store_new rfl 56 _ _ rfl _ cs rfl rfl (tsize48 hcs) (by rw [hcs]; rfl) h1 ?_)
            | (refine load_row rfl 56 _ rfl _ rfl cs (new_cells wr cs 56) _ Tryz.underlying56 rfl (tsize48 hcs) ?_))
          go_roundw
          case rel => exact ⟨i, j + 1, cur, rfl, by go_num, HK', (HO.out.on (below_new _ _)).on hb2, (hbw.alloc hBr _).trans (hb2.mono (by simp; omega))⟩
          case measure => simp [intOf]; omega
      · obtain rfl : j = n := by omega
        have hcl9 := tclears HO.out i j hij hcl
        have HE : Hid (i = (l.filter p).length ∧ cur.take i = l.filter p) := by
          have h1 := HK.out.len
          have h2 := HK.out.2.2.2.1
          rw [HN.out, List.take_length] at h1 h2
          exact (⟨h1, h2⟩ : i = (l.filter p).length ∧ cur.take i = l.filter p)
        have hin : i ≤ cap := by omega
        generalize (Builtin.zeroCells tzero (j - i)).toList = vs at *
        go_wp2
        go_ret
        refine ⟨by rw [← HE.out.1]; rfl, ?_, below_setCells hB vs (i * 6) _ hbw⟩
        rw [← HE.out.2]
        exact HO.out.clear (fun _ => rfl) i vs

end Go.Proofs.YthlhopdlkkeohaaGreatDoor.O
