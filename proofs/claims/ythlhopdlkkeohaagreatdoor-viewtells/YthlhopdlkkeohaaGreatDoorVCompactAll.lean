/- The walk of slices.Compact, at values · strings.Compare, which lies proved over any program, laid at this program · The walks of the program's Compare and of the document's. -/
import Derived.Test.YthlhopdlkkeohaaGreatDoorValMemAll
import Derived.Test.YthlhopdlkkeohaaGreatDoorThinsAll
import Derived.Shelf.Small.Strs
import Derived.Test.YthlhopdlkkeohaaGreatDoorChecked
import Derived.Test.YthlhopdlkkeohaaGreatDoorValAll
import Derived.Test.YthlhopdlkkeohaaGreatDoorReaderAll
import Derived.Test.YthlhopdlkkeohaaGreatDoorAllPAll
import Derived.Test.YthlhopdlkkeohaaGreatDoorRegsAll
/- The walk of slices.Compact, at values. -/
namespace Go.Proofs.YthlhopdlkkeohaaGreatDoor.O
open Go.RowKit

theorem OwnR.cells3 {w : World} {g : Nat} {l : List Rg.Va} (h : OwnR w g vcell 3 l) {k : Nat} (hk : k < l.length) :
    w.cell? ⟨g, k * 3, none⟩ = some (.int .i64 l[k].1) ∧ w.cell? ⟨g, k * 3 + 1, none⟩ = some (.int .i64 l[k].2.1) ∧ w.cell? ⟨g, k * 3 + 2, none⟩ = some (.string ⟨l[k].2.2.toArray⟩) := by
  have h1 := (h.2 k hk).1
  exact ⟨h1 0 _ rfl, h1 1 _ rfl, h1 2 _ rfl⟩
theorem OwnR.heap {w wr : World} {g : Nat} {l : List Rg.Va} (h : OwnR w g vcell 3 l) (e : wr.heap = w.heap) : OwnR wr g vcell 3 l := by
  refine ⟨by rw [e]; exact h.1, fun k hk => ⟨fun j v hv => ?_, fun j hj => ?_⟩⟩
  · exact (World.cell?_of_block (by rw [e])).trans ((h.2 k hk).1 j v hv)
  · obtain ⟨a, b⟩ := (h.2 k hk).2 j hj
    exact ⟨by rw [World.cell?_of_block (w := w) (w' := wr) (by rw [e])]; exact a, (World.frozen?_of_block (by rw [e])).trans b⟩
abbrev vzero : Array Value := #[.int .i64 0, .int .i64 0, .string ⟨#[]⟩]
theorem vclears {w : World} {g : Nat} {cur : List Rg.Va} (h : OwnR w g vcell 3 cur) (i n : Nat) (hi : i < n) (hn : cur.length = n) (c : Nat) (ty : TypeId) : (Builtin.clear_ #[36] ty #[.slice (some ⟨g, i * 3, none⟩) (n - i) c]).run Tryz.prog w = .ok (.tuple #[]) (w.setCells g (i * 3) (Builtin.zeroCells vzero (n - i)).toList) := by
  have hst := OwnR.clears (P := Tryz.prog) (m := 3) vzero rfl (Nat.succ_pos 2) (by decide) h i (n - i) (by omega)
  obtain ⟨m, hm⟩ : ∃ m, n - i = m + 1 := ⟨n - i - 1, by omega⟩
  rw [hm] at hst ⊢
  simp [Builtin.clear_, run_underlying Tryz.underlying36, hst, Value.cells, Result.andThen]
theorem va_eq (x y : Rg.Va) : decide (x.1 = y.1 ∧ x.2.1 = y.2.1 ∧ x.2.2 = y.2.2) = decide (x = y) := by
  obtain ⟨a, b, c⟩ := x
  obtain ⟨a', b', c'⟩ := y
  simp
theorem eql_va (x y : Rg.Va) (w : World) : (binOp .eql 61 (.agg #[.int .i64 x.1, .int .i64 x.2.1, .string ⟨x.2.2.toArray⟩]) (.agg #[.int .i64 y.1, .int .i64 y.2.1, .string ⟨y.2.2.toArray⟩])).run Tryz.prog w = .ok (.bool (decide (x = y))) w := by
  rw [← va_eq]; exact eql_val _ _ _ _ _ _ w
theorem neq_va (x y : Rg.Va) (w : World) : (binOp .neq 61 (.agg #[.int .i64 x.1, .int .i64 x.2.1, .string ⟨x.2.2.toArray⟩]) (.agg #[.int .i64 y.1, .int .i64 y.2.1, .string ⟨y.2.2.toArray⟩])).run Tryz.prog w = .ok (.bool (!decide (x = y))) w := by
  rw [← va_eq]; exact neq_val _ _ _ _ _ _ w

set_option maxRecDepth 20000 in
set_option maxHeartbeats 1000000 in
theorem compact_any (g cap : Nat) (ds : List Rg.Va) (B : Nat) (w0 w : World) (hb0 : Below B w0 w) (hB : B ≤ g) (hO : OwnR w g vcell 3 ds) (hn : ds.length ≤ 1000000) (hc : ds.length ≤ cap) (hcm : cap ≤ maxLen) :
    Calls Tryz.prog 83 #[.slice (some ⟨g, 0, none⟩) ds.length cap] w fun e w' => e = .returned (.slice (some ⟨g, 0, none⟩) (Rg.thin ds).length cap) ∧ OwnR w' g vcell 3 (Rg.thin ds) ∧ Below B w0 w' := by
  have hcap : cap ≤ 9223372036854775807 := by unfold maxLen at hcm; omega
  have HO : Hid (OwnR w g vcell 3 ds) := hO
  have HB : Hid (B ≤ g) := hB
  clear hO hB
  by_cases h2 : ds.length < 2
  · have hf : Rg.thin ds = ds := by
      match ds, h2 with
      | [], _ => rfl
      | [d], _ => rfl
    rw [hf]
    clear hf
    go_enter Tryz.func83, Tryz.ntmps83
    go_wp2
    go_ret
    exact ⟨rfl, HO.out, hb0⟩
  · rw [← Rg.dd_all (l := ds) (n := ds.length) rfl]
    obtain ⟨n, hn0⟩ : ∃ n, n = ds.length := ⟨_, rfl⟩
    have HN : Hid (n = ds.length) := hn0
    rw [← hn0] at hn hc h2 ⊢
    have HF : Hid (Rg.fresh ds 1) := by have h := Rg.fresh_one (ds := ds) (by omega); exact h
    clear hn0
    go_enter Tryz.func83, Tryz.ntmps83
    go_wp2
    go_loopw [3, 4, 5] (fun a _ _ wr => ∃ m : Nat, a = .int .i64 ((m + 1 : Nat) : Int) ∧ m + 1 ≤ n ∧ Hid (Rg.fresh ds (m + 1)) ∧ wr.heap = w.heap ∧ Below B w0 wr) (fun a _ _ _ => n - (intOf a).toNat)
    case atStart => exact ⟨0, by go_num, by omega, HF, rfl, hb0⟩
    case round =>
      clear HF hb0
      obtain ⟨m, rfl, hmn, HF, hheap, hbw⟩ := hrel
      have hOr : OwnR wr g vcell 3 ds := HO.out.heap hheap
      by_cases hlt : m + 1 < n
      · have h1 : m + 1 < ds.length := by have := HN.out; omega
        obtain ⟨c0, c1, c2⟩ := hOr.cells3 h1
        obtain ⟨d0, d1, d2⟩ := hOr.cells3 (k := m) (by omega)
        have hE := eql_va ds[m + 1] ds[m]
        by_cases he : ds[m + 1] = ds[m]
        · have HC : Hid (Rg.CInv ds (m + 1) (m + 1 + 1) ds) := by have h := Rg.CInv.start HF.out (by omega) h1 (by simpa using he); exact h
          have HO' : Hid (OwnR wr g vcell 3 ds) := hOr
          simp only [he, decide_true] at hE
          rw [he] at c0 c1 c2
          clear hOr HF
          generalize ds[m] = x at *
          go_wp2
          go_region
          go_wp2
          clear c0 c1 c2 d0 d1 d2 hE
          have hsub : ((m : Int) + 1).toNat = m + 1 := by omega
          go_loopw [3, 5] (fun a b wr => ∃ (k q : Nat) (cur : List Rg.Va), a = .int .i64 (k : Int) ∧ b = .int .i64 ((q + 1 : Nat) : Int) ∧ m + 1 + (q + 1) ≤ n ∧ Hid (Rg.CInv ds k (m + 1 + (q + 1)) cur) ∧ Hid (OwnR wr g vcell 3 cur) ∧ Below B w0 wr) (fun _ b _ => n - (m + 1) - (intOf b).toNat)
          case atStart => exact ⟨m + 1, 0, ds, by go_num, by go_num, by omega, HC, HO'.out, hbw.drew⟩
          case round =>
            clear HC HO' hbw hheap
            obtain ⟨k, q, cur, rfl, rfl, hq, HC, HO', hbw⟩ := hrel
            have hcl : cur.length = n := by rw [HN.out]; exact HC.out.1
            have hkj := HC.out.2.1
            by_cases hlt2 : m + 1 + (q + 1) < n
            · have hjd : m + 1 + (q + 1) < ds.length := by have := HN.out; omega
              obtain ⟨a1, a2, a3, e1, e2⟩ := HC.out.at hjd
              obtain ⟨c0, c1, c2⟩ := HO'.out.cells3 a1
              obtain ⟨d0, d1, d2⟩ := HO'.out.cells3 a2
              have hkc : k < cur.length := by omega
              have hth := ((HO'.out.heap (wr := wr.drew) rfl).2 k hkc).2
              rw [e1] at c0 c1 c2
              rw [e2] at d0 d1 d2
              have hE := neq_va ds[m + 1 + (q + 1)] ds[m + 1 + (q + 1) - 1]
              rw [show (m + 1 + (q + 1)) * 3 = (m + 1) * 3 + (q + 1) * 3 by omega] at c0 c1 c2
              rw [show (m + 1 + (q + 1) - 1) * 3 = (m + 1) * 3 + q * 3 by omega] at d0 d1 d2
              by_cases he : ds[m + 1 + (q + 1)] = ds[m + 1 + (q + 1) - 1]
              · have HC' : Hid (Rg.CInv ds k (m + 1 + (q + 1 + 1)) cur) := by have h := HC.out.skip hjd he; exact h
                simp only [he, decide_true, Bool.not_true] at hE
                rw [he] at c0 c1 c2
                clear HC e1 e2 hth
                generalize ds[m + 1 + (q + 1) - 1] = x at *
                go_wp2
                go_region
                go_wp2
                go_roundw
                case rel => exact ⟨k, q + 1, cur, rfl, by go_num, by omega, HC', HO'.out, hbw.drew⟩
                case measure => simp [intOf]; omega
              · have HC' : Hid (Rg.CInv ds (k + 1) (m + 1 + (q + 1 + 1)) (cur.set k ds[m + 1 + (q + 1)])) := by have h := HC.out.keep hjd he; exact h
                have HF' : Hid (∀ w2, OwnR w2 g vcell 3 cur → OwnR (w2.setCells g (k * 3) (vcell ds[m + 1 + (q + 1)])) g vcell 3 (cur.set k ds[m + 1 + (q + 1)])) := by
                  have h := fun w2 (h2 : OwnR w2 g vcell 3 cur) => h2.set vcell_len hkc ds[m + 1 + (q + 1)]
                  exact h
                simp only [he, decide_false, Bool.not_false] at hE
                clear HC e1 e2
                generalize cur.set k ds[m + 1 + (q + 1)] = cur' at *
                generalize ds[m + 1 + (q + 1) - 1] = x at *
                generalize ds[m + 1 + (q + 1)] = y at *
                go_wp2
                go_region
                go_wp2_with (first | (refine store_row rfl 61 _ _ rfl g (k * 3) (vcell y) rfl rfl (by show World.there _ _ _ 3; exact hth) (vsize33 rfl) (vcell_one y) ?_) | go_in)
                have hx : ((m : Int) + 1 < (n : Int)) := by omega
                push_cast
                simp only [hx, decide_true]
                go_roundw
                case rel => exact ⟨k + 1, q + 1, cur', by go_num, by go_num, by omega, HC', HF'.out _ HO'.out, below_setCells HB.out (vcell y) (k * 3) _ hbw.drew⟩
                case measure => simp [intOf]; omega
            · have hjn : n = m + 1 + (q + 1) := by omega
              have hkl : k < n := by omega
              have hcl9 := vclears HO'.out k n hkl hcl
              have HE : Hid (k = (Rg.dd ds n).length ∧ cur.take k = Rg.dd ds n) := by
                have h1 := HC.out.len
                have h2 := HC.out.2.2.2.2.1
                rw [← hjn] at h1 h2
                exact (⟨h1, h2⟩ : k = (Rg.dd ds n).length ∧ cur.take k = Rg.dd ds n)
              have hin : k ≤ cap := by omega
              have hqn : ¬ ((q : Int) + 1 < (n : Int) - ((m : Int) + 1)) := by omega
              clear hjn
              generalize (Builtin.zeroCells vzero (n - k)).toList = vs at *
              go_wp2
              go_ret
              refine ⟨by rw [← HE.out.1]; rfl, ?_, below_setCells HB.out vs (k * 3) _ hbw⟩
              rw [← HE.out.2]
              exact HO'.out.clear vcell_len k vs
        · have HF' : Hid (Rg.fresh ds (m + 1 + 1)) := by have h := Rg.fresh_step HF.out (by omega) h1 (by simpa using he); exact h
          simp only [he, decide_false] at hE
          clear hOr HF
          generalize ds[m] = x at *
          generalize ds[m + 1] = y at *
          go_wp2
          go_region
          all_goals
            go_wp2
            go_roundw
            case rel => exact ⟨m + 1, by go_num, by omega, HF', hheap, hbw.drew⟩
            case measure => simp [intOf]; omega
      · obtain rfl : n = m + 1 := by omega
        have HE : Hid (Rg.dd ds (m + 1) = ds ∧ m + 1 = ds.length) := by
          have h : Rg.dd ds (m + 1) = ds ∧ m + 1 = ds.length := ⟨by rw [HF.out, HN.out, List.take_length], HN.out⟩
          exact h
        have HO' : Hid (OwnR wr g vcell 3 ds) := hOr
        clear hOr
        go_wp2
        go_ret
        refine ⟨by rw [HE.out.1, ← HE.out.2]; rfl, by rw [HE.out.1]; exact HO'.out, hbw⟩
theorem compact_none (w : World) : Calls Tryz.prog 83 #[.slice none 0 0] w fun e w' => e = .returned (.slice none 0 0) ∧ w' = w := by
  go_enter Tryz.func83, Tryz.ntmps83
  go_wp2
  go_ret
  exact ⟨rfl, rfl⟩
end Go.Proofs.YthlhopdlkkeohaaGreatDoor.O
/- strings.Compare, which lies proved over any program, laid at this program. -/
namespace Go.Proofs.YthlhopdlkkeohaaGreatDoor
open Go.Shelf Go.RowKit

/-- Which number the library's functions and types have here. -/
def strRen : Ren := ⟨fun | 106 => 124 | 213 => 163 | 265 => 183 | n => n, fun | n => n, fun | n => n⟩
theorem lay106 : Lays.n106 Tryz.prog strRen := {
  mixed := by kernel_rfl
  f106 := Tryz.func124.trans (congrArg some (by kernel_rfl))
  f213 := Tryz.func163.trans (congrArg some (by kernel_rfl))
  f265 := Tryz.func183.trans (congrArg some (by kernel_rfl))
  t3 := Tryz.underlying3, a3 := Tryz.isAgg3, z3 := Tryz.sizeOf3, v3 := Tryz.zeroValue3
  t9 := Tryz.underlying9, a9 := Tryz.isAgg9, z9 := Tryz.sizeOf9, v9 := Tryz.zeroValue9 }
theorem cmpS_any (a b : ByteArray) (w : World) : Calls Tryz.prog 124 #[.string a, .string b] w fun e w' => e = .returned (.int .i64 (Lib.compareBytes a.data.toList b.data.toList)) ∧ w' = w := Any.strings_Compare lay106 a b w
end Go.Proofs.YthlhopdlkkeohaaGreatDoor
/- The walks of the program's Compare and of the document's. -/
namespace Go.Proofs.YthlhopdlkkeohaaGreatDoor.V
open Go.RowKit
open Go.Proofs.YthlhopdlkkeohaaGreatDoor.U (size_len wrap_i64)

set_option maxRecDepth 20000 in
/-- Of three numbers the first that is not 0. -/
theorem or_three (b : Nat) (x y z : Int) (w : World) (h0 : w.cell? ⟨b, 0, none⟩ = some (.int .i64 x)) (h1 : w.cell? ⟨b, 1, none⟩ = some (.int .i64 y)) (h2 : w.cell? ⟨b, 2, none⟩ = some (.int .i64 z)) :
    Calls Tryz.prog 122 #[.slice (some ⟨b, 0, none⟩) 3 3] w fun e w' => e = .returned (.int .i64 (Dt.two x (Dt.two y z))) ∧ w' = w := by
  by_cases hx : x = 0
  · subst hx
    rw [show Dt.two 0 (Dt.two y z) = Dt.two y z from rfl]
    by_cases hy : y = 0
    · subst hy
      rw [show Dt.two 0 z = z from rfl]
      by_cases hz : z = 0
      · subst hz
        go_enter Tryz.func122, Tryz.ntmps122
        go_wp2
        go_loop [8] (fun i => ∃ k : Nat, k ≤ 3 ∧ i = .int .i64 k) (fun i => 3 - (intOf i).toNat)
        case atStart => exact ⟨0, by omega, rfl⟩
        case round =>
          obtain ⟨k, hk, rfl⟩ := hrel
          match k, hk with
          | 0, _ =>
            go_wp2
            go_round
            case rel => exact ⟨1, by omega, rfl⟩
            case measure => simp [intOf]
          | 1, _ =>
            go_wp2
            go_round
            case rel => exact ⟨2, by omega, rfl⟩
            case measure => simp [intOf]
          | 2, _ =>
            go_wp2
            go_round
            case rel => exact ⟨3, by omega, rfl⟩
            case measure => simp [intOf]
          | 3, _ =>
            go_wp2
            go_ret
            exact ⟨rfl, rfl⟩
      · have hzb : (z != 0) = true := by simpa using hz
        go_enter Tryz.func122, Tryz.ntmps122
        go_wp2
        go_loop [8] (fun i => ∃ k : Nat, k ≤ 2 ∧ i = .int .i64 k) (fun i => 3 - (intOf i).toNat)
        case atStart => exact ⟨0, by omega, rfl⟩
        case round =>
          obtain ⟨k, hk, rfl⟩ := hrel
          match k, hk with
          | 0, _ =>
            go_wp2
            go_round
            case rel => exact ⟨1, by omega, rfl⟩
            case measure => simp [intOf]
          | 1, _ =>
            go_wp2
            go_round
            case rel => exact ⟨2, by omega, rfl⟩
            case measure => simp [intOf]
          | 2, _ =>
            go_wp2
            go_ret
            exact ⟨rfl, rfl⟩
    · rw [show Dt.two y z = y by unfold Dt.two; rw [if_neg hy]]
      have hyb : (y != 0) = true := by simpa using hy
      go_enter Tryz.func122, Tryz.ntmps122
      go_wp2
      go_loop [8] (fun i => ∃ k : Nat, k ≤ 1 ∧ i = .int .i64 k) (fun i => 3 - (intOf i).toNat)
      case atStart => exact ⟨0, by omega, rfl⟩
      case round =>
        obtain ⟨k, hk, rfl⟩ := hrel
        match k, hk with
        | 0, _ =>
          go_wp2
          go_round
          case rel => exact ⟨1, by omega, rfl⟩
          case measure => simp [intOf]
        | 1, _ =>
          go_wp2
          go_ret
          exact ⟨rfl, rfl⟩
  · rw [show Dt.two x (Dt.two y z) = x by unfold Dt.two; rw [if_neg hx]]
    have hxb : (x != 0) = true := by simpa using hx
    go_enter Tryz.func122, Tryz.ntmps122
    go_wp2
    go_loop [8] (fun i => i = .int .i64 0) (fun _ => 0)
    case atStart => rfl
    case round =>
      subst hrel
      go_wp2
      go_ret
      exact ⟨rfl, rfl⟩

theorem or_new (W : World) (o p : Obj) (x y z : Int) : Calls Tryz.prog 122 #[.slice (some ⟨W.heap.size + 1 + 1, 0, none⟩) 3 3] (((W.alloc o).alloc p).alloc (.cells #[.int .i64 x, .int .i64 y, .int .i64 z] 3)).drew
    fun e w' => e = .returned (.int .i64 (Dt.two x (Dt.two y z))) ∧ w' = (((W.alloc o).alloc p).alloc (.cells #[.int .i64 x, .int .i64 y, .int .i64 z] 3)).drew := by
  have e : ((W.alloc o).alloc p).heap.size = W.heap.size + 1 + 1 := by simp
  rw [← e]
  generalize (W.alloc o).alloc p = V at *
  exact or_three _ x y z _ (by simp) (by simp) (by simp)

theorem cmpL_any (a b : List UInt8) (w : World) : Calls Tryz.prog 124 #[.string ⟨a.toArray⟩, .string ⟨b.toArray⟩] w fun e w' => e = .returned (.int .i64 (Lib.compareBytes a b)) ∧ w' = w := cmpS_any _ _ w

set_option maxRecDepth 20000 in
theorem comp_exact (k n : Int) (l : List UInt8) (k' n' : Int) (l' : List UInt8) (w : World) : Calls Tryz.prog 82 #[valV k n l, valV k' n' l'] w fun e w' => e = .returned (.int .i64 (Rg.comp (k, n, l) (k', n', l'))) ∧ ∃ a b c, w' = (((w.alloc a).alloc b).alloc c).drew := by
  go_enter Tryz.func82, Tryz.ntmps82
  go_wp2_with fail
  go_region_held3 (fun w' => w'.cell? ⟨w.heap.size, 0, none⟩ = some (.int .i64 k) ∧ w'.cell? ⟨w.heap.size, 1, none⟩ = some (.int .i64 n) ∧ w'.cell? ⟨w.heap.size, 2, none⟩ = some (.string ⟨l.toArray⟩) ∧ w'.cell? ⟨w.heap.size + 1, 0, none⟩ = some (.int .i64 k') ∧ w'.cell? ⟨w.heap.size + 1, 1, none⟩ = some (.int .i64 n') ∧ w'.cell? ⟨w.heap.size + 1, 2, none⟩ = some (.string ⟨l'.toArray⟩)) (go_keep)
    (first | (go_at_call 123; refine (D.cmp_any _ _ _).mono ?_; rintro e w1 ⟨rfl, rfl⟩) | (go_at_call 124; refine (cmpL_any _ _ _).mono ?_; rintro e w1 ⟨rfl, rfl⟩) | (go_at_call 122; refine (or_new _ _ _ _ _ _).mono ?_; rintro e w1 ⟨rfl, rfl⟩))
  go_wp2
  go_ret
  exact ⟨rfl, _, _, _, rfl⟩

/-! ### The document's -/
theorem ints_any (x y : Int) (w : World) : Calls Tryz.prog 96 #[.int .i64 x, .int .i64 y] w fun e w' => e = .returned (.int .i64 (Dt.compareInt x y)) ∧ w' = w := by
  by_cases h : x < y
  · rw [show Dt.compareInt x y = -1 by unfold Dt.compareInt; rw [if_pos h]]
    go_enter Tryz.func96, Tryz.ntmps96
    go_wp2
    go_ret
    exact ⟨rfl, rfl⟩
  · by_cases h' : y < x
    · rw [show Dt.compareInt x y = 1 by unfold Dt.compareInt; rw [if_neg h, if_pos h']]
      go_enter Tryz.func96, Tryz.ntmps96
      go_wp2
      go_ret
      exact ⟨rfl, rfl⟩
    · rw [show Dt.compareInt x y = 0 by unfold Dt.compareInt; rw [if_neg h, if_neg h']]
      go_enter Tryz.func96, Tryz.ntmps96
      go_wp2
      go_ret
      exact ⟨rfl, rfl⟩

theorem drop_cons {s : ByteArray} {pos : Nat} (h : pos < s.size) : s.data.toList.drop pos = s[pos] :: s.data.toList.drop (pos + 1) := by
  rw [List.drop_eq_getElem_cons (by rw [size_len]; exact h)]
  rfl
/-- How far two texts are alike. -/
def likeTo (a b : List UInt8) (k : Nat) : Prop := k ≤ a.length ∧ k ≤ b.length ∧ Lib.compareBytes a b = Lib.compareBytes (a.drop k) (b.drop k)
theorem likeTo_zero (a b : List UInt8) : likeTo a b 0 := ⟨by omega, by omega, by simp⟩
theorem likeTo_succ {s t : ByteArray} {k : Nat} (h : likeTo s.data.toList t.data.toList k) (h1 : k < s.size) (h2 : k < t.size) (e : s[k] = t[k]) : likeTo s.data.toList t.data.toList (k + 1) := by
  refine ⟨by rw [size_len]; omega, by rw [size_len]; omega, ?_⟩
  rw [h.2.2, drop_cons h1, drop_cons h2, e]
  simp [Lib.compareBytes]
theorem likeTo_diff {s t : ByteArray} {k : Nat} (h : likeTo s.data.toList t.data.toList k) (h1 : k < s.size) (h2 : k < t.size) (e : s[k] ≠ t[k]) : Lib.compareBytes s.data.toList t.data.toList = Dt.compareInt (s[k].toNat : Int) (t[k].toNat : Int) := by
  rw [h.2.2, drop_cons h1, drop_cons h2]
  have : s[k].toNat ≠ t[k].toNat := fun x => e (UInt8.toNat_inj.1 x)
  simp only [Lib.compareBytes, Dt.compareInt, UInt8.lt_iff_toNat_lt]
  by_cases h3 : s[k].toNat < t[k].toNat
  · rw [if_pos h3, if_pos (by omega)]
  · rw [if_neg h3, if_pos (by omega), if_neg (by omega), if_pos (by omega)]
theorem likeTo_end {s t : ByteArray} {k : Nat} (h : likeTo s.data.toList t.data.toList k) (hk : ¬ (k < s.size ∧ k < t.size)) : Lib.compareBytes s.data.toList t.data.toList = Dt.compareInt (s.size : Int) (t.size : Int) := by
  obtain ⟨h1, h2, h3⟩ := h
  rw [size_len] at h1 h2
  rw [h3]
  by_cases e : k < s.size
  · have e2 : k = t.size := by omega
    rw [drop_cons e, show t.data.toList.drop k = [] from List.drop_eq_nil_of_le (by rw [size_len]; omega)]
    simp only [Lib.compareBytes, Dt.compareInt]
    rw [if_neg (by omega), if_pos (by omega)]
  · rw [show s.data.toList.drop k = [] from List.drop_eq_nil_of_le (by rw [size_len]; omega)]
    by_cases e2 : k < t.size
    · rw [drop_cons e2]
      simp only [Lib.compareBytes, Dt.compareInt]
      rw [if_pos (by omega)]
    · rw [show t.data.toList.drop k = [] from List.drop_eq_nil_of_le (by rw [size_len]; omega)]
      simp only [Lib.compareBytes, Dt.compareInt]
      rw [if_neg (by omega), if_neg (by omega)]

set_option maxRecDepth 20000 in
set_option maxHeartbeats 2000000 in
theorem refTexts_any (s t : ByteArray) (w : World) (hs : s.size ≤ 2000000) :
    Calls Tryz.prog 58 #[.string s, .string t] w fun e w' => e = .returned (.int .i64 (Lib.compareBytes s.data.toList t.data.toList)) ∧ Below w.heap.size w w' := by
  go_enter Tryz.func58, Tryz.ntmps58
  go_wp2
  go_loopw [5] (fun i wr => ∃ k : Nat, i = .int .i64 k ∧ likeTo s.data.toList t.data.toList k ∧ Below w.heap.size w wr) (fun i _ => s.size - (intOf i).toNat)
  case atStart => exact ⟨0, rfl, likeTo_zero _ _, Below.refl _ w⟩
  case round =>
    obtain ⟨k, rfl, hR, hbw⟩ := hrel
    have hl1 := hR.1
    have hl2 := hR.2.1
    rw [size_len] at hl1 hl2
    by_cases h1 : k < s.size
    · by_cases h2 : k < t.size
      · by_cases e : s[k] = t[k]
        · have HR : Hid (likeTo s.data.toList t.data.toList (k + 1)) := by
            have h := likeTo_succ hR h1 h2 e
            exact h
          have en : (((s[k]).toNat : Int) != ((t[k]).toNat : Int)) = false := by rw [e]; simp
          clear hR e
          go_wp2
          go_region
          all_goals
            go_wp2
            go_roundw
            case rel => exact ⟨k + 1, by go_num, HR.out, hbw.drew⟩
            case measure => simp [intOf]; omega
        · have HL : Hid (Lib.compareBytes s.data.toList t.data.toList = Dt.compareInt (s[k].toNat : Int) (t[k].toNat : Int)) := by
            have h := likeTo_diff hR h1 h2 e
            exact h
          have hn : s[k].toNat ≠ t[k].toNat := fun x => e (UInt8.toNat_inj.1 x)
          have en : (((s[k]).toNat : Int) != ((t[k]).toNat : Int)) = true := by simp; omega
          have hw1 : IntKind.i64.wrap (s[k].toNat : Int) = (s[k].toNat : Int) := wrap_i64 (by omega) (by have := s[k].toNat_lt; omega)
          have hw2 : IntKind.i64.wrap (t[k].toNat : Int) = (t[k].toNat : Int) := wrap_i64 (by omega) (by have := t[k].toNat_lt; omega)
          have HC : ∀ W, Calls Tryz.prog 96 #[.int .i64 (IntKind.i64.wrap (s[k].toNat : Int)), .int .i64 (IntKind.i64.wrap (t[k].toNat : Int))] W fun e w' => e = .returned (.int .i64 (Lib.compareBytes s.data.toList t.data.toList)) ∧ w' = W := fun W => by
            rw [hw1, hw2, HL.out]; exact ints_any _ _ W
          clear hR e hw1 hw2 HL
          go_wp2
          go_region
          all_goals
            go_wp2_with fail
            go_region_held3 (fun _ => True) (trivial) (first | (go_at_call 96; refine (HC _).mono ?_; rintro e w1 ⟨rfl, rfl⟩))
            all_goals first
              | (go_ret; exact ⟨rfl, hbw.drew.drew⟩)
              | (go_wp2; go_ret; exact ⟨rfl, hbw.drew.drew⟩)
              | (go_wp2; all_goals (go_ret; exact ⟨rfl, hbw.drew.drew⟩))
      · have HL : Hid (Lib.compareBytes s.data.toList t.data.toList = Dt.compareInt (s.size : Int) (t.size : Int)) := by
          have h := likeTo_end hR (by omega)
          exact h
        clear hR
        go_wp2_with (go_at_call 96; refine (ints_any _ _ _).mono ?_; rintro e w1 ⟨rfl, rfl⟩)
        go_ret
        exact ⟨by rw [HL.out]; rfl, hbw⟩
    · have HL : Hid (Lib.compareBytes s.data.toList t.data.toList = Dt.compareInt (s.size : Int) (t.size : Int)) := by
        have h := likeTo_end hR (by omega)
        exact h
      clear hR
      go_wp2_with (go_at_call 96; refine (ints_any _ _ _).mono ?_; rintro e w1 ⟨rfl, rfl⟩)
      go_ret
      exact ⟨by rw [HL.out]; rfl, hbw⟩

theorem refTexts_list (a b : List UInt8) (w : World) (ha : a.length ≤ 2000000) : Calls Tryz.prog 58 #[.string ⟨a.toArray⟩, .string ⟨b.toArray⟩] w fun e w' => e = .returned (.int .i64 (Lib.compareBytes a b)) ∧ Below w.heap.size w w' :=
  refTexts_any ⟨a.toArray⟩ ⟨b.toArray⟩ w (by rw [mk_size]; exact ha)

set_option maxRecDepth 20000 in
theorem refComp_any (k n : Int) (l : List UInt8) (k' n' : Int) (l' : List UInt8) (w : World) (hl : l.length ≤ 2000000) : Calls Tryz.prog 133 #[valV k n l, valV k' n' l'] w fun e w' => e = .returned (.int .i64 (Rg.comp (k, n, l) (k', n', l'))) ∧ Below w.heap.size w w' := by
  have C := fun w => refTexts_list l l' w hl
  by_cases h1 : k = k'
  · subst h1
    by_cases h2 : n = n'
    · subst h2
      rw [show Rg.comp (k, n, l) (k, n, l') = Lib.compareBytes l l' by unfold Rg.comp; simp only; rw [Dt.compareInt_zero.2 rfl, Dt.compareInt_zero.2 rfl]; rfl]
      generalize Lib.compareBytes l l' = z at *
      go_enter Tryz.func133, Tryz.ntmps133
      go_wp2_with (go_at_call 58; refine (C _).mono ?_; rintro e w1 ⟨rfl, hb⟩)
      go_ret
      exact ⟨rfl, bchain (below_new2 _ _ _) hb⟩
    · have hz : Dt.compareInt n n' ≠ 0 := fun e => h2 (Dt.compareInt_zero.1 e)
      rw [show Rg.comp (k, n, l) (k, n', l') = Dt.compareInt n n' by unfold Rg.comp; simp only; rw [Dt.compareInt_zero.2 rfl]; unfold Dt.two; rw [if_pos rfl, if_neg hz]]
      have e2 : (n != n') = true := by simpa using h2
      clear hz
      go_enter Tryz.func133, Tryz.ntmps133
      go_wp2_with (go_at_call 96; refine (ints_any _ _ _).mono ?_; rintro e w1 ⟨rfl, rfl⟩)
      go_ret
      exact ⟨rfl, below_new2 _ _ _⟩
  · have hz : Dt.compareInt k k' ≠ 0 := fun e => h1 (Dt.compareInt_zero.1 e)
    rw [show Rg.comp (k, n, l) (k', n', l') = Dt.compareInt k k' by unfold Rg.comp Dt.two; simp only; rw [if_neg hz]]
    have e1 : (k != k') = true := by simpa using h1
    clear hz
    go_enter Tryz.func133, Tryz.ntmps133
    go_wp2_with (go_at_call 96; refine (ints_any _ _ _).mono ?_; rintro e w1 ⟨rfl, rfl⟩)
    go_ret
    exact ⟨rfl, below_new2 _ _ _⟩
end Go.Proofs.YthlhopdlkkeohaaGreatDoor.V
