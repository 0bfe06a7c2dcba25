/- What the document's calls tell of the transactions' items, gathered for the walk of ViewTells · The walk of the statement ViewTells · What the proofs of this seat share: operations and references that came in. -/
import Derived.Test.YthlhopdlkkeohaaGreatDoorESamePAll
import Derived.Test.YthlhopdlkkeohaaGreatDoorESameAll
import Derived.Test.YthlhopdlkkeohaaGreatDoorRows
import Derived.Test.YthlhopdlkkeohaaGreatDoorOpMemAll
import Derived.Deep.SlicePairs
import Derived.Deep.Strs
import Derived.ProofKit
import Derived.OpenShut
import Derived.WideKeyArgs
import Derived.ChangeSame
/- What the document's calls tell of the transactions' items, gathered for the walk of ViewTells. -/
namespace Go.Proofs.YthlhopdlkkeohaaGreatDoor.O
open Go.RowKit
section
variable {o : Oper} {a : Act} {w : World} {x : Operand} {p : Addr}
theorem ex_l_rent {v0 v1 v2 v3 : Value} (ho : o.op = .load 42 x) (hx : a.eval x = .pointer (some p)) (h0 : w.cell? p = some v0) (h1 : w.cell? ⟨p.block, p.off + 1, none⟩ = some v1) (h2 : w.cell? ⟨p.block, p.off + 2, none⟩ = some v2) (h3 : w.cell? ⟨p.block, p.off + 3, none⟩ = some v3) : (execOp a.eval o).run Tryz.prog w = .ok (.value (.agg #[v0, v1, v2, v3])) w := by
  unfold execOp
  simp only [ho, hx, Sem.run_bind]
  go_simp
end
theorem vwR {v vu : Value} {ts : List Tx.Txn} {u : List U} {w : World} (hv : txsIn w v ts) (hu : T.cntsIn w vu u) (hg : good13 ts u = true) : AllC 10 w v vu (Lv.all ts (seenD u)) := by
  obtain ⟨⟨h20, hr, hok⟩, h100, hstd⟩ := good13_parts hg
  exact refAllC hv hu (by omega) hok (by omega) hstd
/-- What the document's calls tell of entries. -/
structure EsR (es : List Vw.Entry) (TX : ByteArray) : Prop where
  c16 : ∀ {va vb W}, EntsAt es W va → EntsAt es W vb → Calls Tryz.prog 16 #[va, vb] W fun e w' => e = .returned (.bool true) ∧ Below W.heap.size W w'
  c17 : ∀ {va W}, EntsAt es W va → Calls Tryz.prog 17 #[va] W fun e w' => ∃ q, e = .returned q ∧ EntsAt es w' q ∧ Below W.heap.size W w'
  c19 : ∀ {va W}, EntsAt es W va → Calls Tryz.prog 19 #[va] W fun e w' => e = .returned (.string TX) ∧ Below W.heap.size W w'
theorem esR {es : List Vw.Entry} (hf : ∀ e ∈ es, EFine e) (hn : es.length ≤ 100000) : EsR es ⟨(linesE es).toArray⟩ :=
  ⟨fun ha hb => refSame_at ha hb hf hn, fun ha => theirs_at ha hn, fun ha => refText_at ha hf hn⟩
/-- What the document's calls tell of items. -/
structure ItR (w : World) (vp : Value) (its : List Lv.Item) (es : List Vw.Entry) (n : Nat) (p : List (List UInt8)) (z : Int) (l0 : List Rg.Va) (n0 : Int) : Prop where
  c12 : ∀ {r W}, ItsAt its W r → Calls Tryz.prog 12 #[r] W fun e w' => ∃ ea ec, e = .returned (.slice ea n ec) ∧ EntsAt es w' (.slice ea n ec) ∧ Below W.heap.size W w'
  c21 : ∀ {r W}, ItsAt its W r → Below w.heap.size w W → Calls Tryz.prog 21 #[r, vp, .int .i64 z] W fun e w' => ∃ ra rk, e = .returned (entV vp z (.slice ra l0.length rk) n0) ∧ EOk w' (⟨p, z, l0, n0⟩, vp, .slice ra l0.length rk) ∧ Below W.heap.size W w'
theorem itR {w : World} {vp : Value} {its : List Lv.Item} {p : List (List UInt8)} (hf : FineI its) (hp : U.strsAt w vp p) (hn : p.length ≤ 1000000) (z : Int) : ItR w vp its (Vw.of its) (Vw.of its).length p z (Vw.at' its p z).l (Vw.at' its p z).n where
  c12 h := (refOf_at h hf).mono fun e w' ⟨q, e1, e2, e3⟩ => by
    obtain ⟨ea, ec, rfl⟩ := e2.slice
    exact ⟨ea, ec, e1, e2, e3⟩
  c21 h hb := (refAt_at h hf (U.strsAt_below hp hb (Nat.le_refl _)) (by omega)).mono fun e w' ⟨ra, rn, rk, e1, e2, e3, e4⟩ => by
    subst e3
    exact ⟨ra, rk, e1, e2, e4⟩
end Go.Proofs.YthlhopdlkkeohaaGreatDoor.O
/- The walk of the statement ViewTells. -/
namespace Go.Proofs.YthlhopdlkkeohaaGreatDoor.O
open Go.RowKit

set_option maxRecDepth 20000 in
set_option maxHeartbeats 4000000 in
theorem viewTells_walk (v : Value) (ts : List Tx.Txn) (vu : Value) (u : List U) (vp : Value) (p : List (List UInt8)) (z : Int) (w : World) (hkp : N.Keeps w) (hw : ∀ t ∈ ts, txWide t) (hv : txsIn w v ts) (hu : T.cntsIn w vu u) (hpl : p.length ≤ maxLen) (hpz : ∀ x ∈ p, x.length ≤ maxLen) (hp : U.strsAt w vp p) :
    Calls Tryz.prog 3 #[v, vu, vp, .int .i64 z] w fun e w' => e = .returned (.bool true) ∧ Below w.heap.size w w' := by
  have HG := good_any v vu ts u w hw hv hu
  have HS := fun W (hb : Below w.heap.size w W) => U.short_any vp p W hpl hpz (U.strsAt_below hp hb (Nat.le_refl _))
  obtain ⟨ao, cap, rfl⟩ := txs_slice hv
  obtain ⟨uo, uc, rfl⟩ := cnts_slice hu
  obtain ⟨qa, qn, qc, rfl⟩ := strs_slice hp
  cases hg : good13 ts u with
  | false =>
    rw [hg] at HG
    clear hv hu hp hw hpl hpz HS
    generalize ts.length = n at *
    generalize u.length = m at *
    go_enter Tryz.func3, Tryz.ntmps3
    go_wp2_with (first
      | (go_at_call 6; refine HG.mono ?_; rintro e w1 ⟨rfl, hb1⟩)
      | (go_at_call 8; refine (awake_any _ (hkp.on hb1)).mono ?_; rintro e w2 ⟨rfl, hb2⟩))
    go_ret
    exact ⟨rfl, bchain hb1 hb2⟩
  | true =>
    rw [hg] at HG
    cases hs : Pt.short p with
    | false =>
      rw [hs] at HS
      clear hv hu hp hw hpl hpz
      generalize ts.length = n at *
      generalize u.length = m at *
      go_enter Tryz.func3, Tryz.ntmps3
      go_wp2_with (first
        | (go_at_call 6; refine HG.mono ?_; rintro e w1 ⟨rfl, hb1⟩)
        | (go_at_call 7; refine (HS _ hb1).mono ?_; rintro e w3 ⟨rfl, hb3⟩)
        | (go_at_call 8; refine (awake_any _ (hkp.on (bchain hb1 hb3))).mono ?_; rintro e w2 ⟨rfl, hb2⟩))
      go_ret
      exact ⟨rfl, bchain hb1 (bchain hb3 hb2)⟩
    | true =>
      rw [hs] at HS
      have HT : Hid (VwT w (.slice ao ts.length cap) (.slice uo u.length uc) (Lv.all ts (seenD u))) := vwT hv hu hg
      have HTR : Hid (AllC 10 w (.slice ao ts.length cap) (.slice uo u.length uc) (Lv.all ts (seenD u))) := vwR hv hu hg
      generalize Lv.all ts (seenD u) = its at *
      have hfw := few_short hs
      have hpn : p.length ≤ 1000000 := by have := hfw.1; omega
      have HI : Hid (ItC w (.slice qa qn qc) its (Vw.of its) (Vw.of its).length p z (Vw.at' its p z).l (Vw.at' its p z).n) := itC HT.out.fine hp hpn z
      have HIR : Hid (ItR w (.slice qa qn qc) its (Vw.of its) (Vw.of its).length p z (Vw.at' its p z).l (Vw.at' its p z).n) := itR HT.out.fine hp hpn z
      have HER : Hid (EsR (Vw.of its) ⟨(linesE (Vw.of its)).toArray⟩) := esR (fine_of HT.out.fine (by have := HT.out.len; omega)) (of_few HT.out.len)
      have HE : Hid (EsC (Vw.of its) (Vw.of its).length ⟨(linesE (Vw.of its)).toArray⟩) := esC (fine_of HT.out.fine (by have := HT.out.len; omega)) (of_few HT.out.len)
      have H1 : Hid (EsR [⟨p, z, (Vw.at' its p z).l, (Vw.at' its p z).n⟩] ⟨(linesE [⟨p, z, (Vw.at' its p z).l, (Vw.at' its p z).n⟩]).toArray⟩) := by
        have h : EsR [Vw.at' its p z] ⟨(linesE [Vw.at' its p z]).toArray⟩ := esR (fun e he => by rw [List.mem_singleton.1 he]; exact fine_at HT.out.fine (by have := HT.out.len; omega) hfw z) (by simp)
        exact h
      have hn5 := HE.out.few
      generalize (linesE (Vw.of its)).toArray = TX at *
      generalize (linesE [(⟨p, z, (Vw.at' its p z).l, (Vw.at' its p z).n⟩ : Vw.Entry)]).toArray = TX1 at *
      generalize (Vw.at' its p z).l = l0 at *
      generalize (Vw.at' its p z).n = n0 at *
      generalize (Vw.of its).length = n at *
      generalize Vw.of its = es at *
      clear hv hu hp hw hpl hpz hg hs hfw hpn
      generalize ts.length = tn at *
      generalize u.length = m at *
      go_enter Tryz.func3, Tryz.ntmps3
      go_wp2_with (first
        | (go_at_call 6; refine HG.mono ?_; rintro e w1 ⟨rfl, hb1⟩)
        | (go_at_call 7; refine (HS _ hb1).mono ?_; rintro e w2 ⟨rfl, hb2⟩; have k2 := bchain hb1 hb2)
        | (go_at_call 9; refine (HT.out.all _ k2).mono ?_; rintro e w3 ⟨rx, rfl, hx3, hb3⟩; have k3 := bchain k2 hb3)
        | (go_at_call 10; refine (HTR.out _ k3).mono ?_; rintro e w4 ⟨ry, rfl, hy4, hb4⟩; have k4 := bchain k3 hb4; have hx4 := hx3.on hb4)
        | (go_at_call 11; refine (HI.out.c11 hx4).mono ?_; rintro e w5 ⟨ea, ec, rfl, hE5, hb5⟩; have k5 := bchain k4 hb5; have hx5 := hx4.on hb5; have hy5 := hy4.on hb5)
        | (go_at_call 12; refine (HIR.out.c12 hy5).mono ?_; rintro e w6 ⟨fa, fc, rfl, hF6, hb6⟩; have k6 := bchain k5 hb6; have hx6 := hx5.on hb6; have hy6 := hy5.on hb6; have hE6 := hE5.on hb6)
        | (go_at_call 13; refine (HI.out.c13 hx6 k6).mono ?_; rintro e w7 ⟨pa, pn, pc, ra, rk, rfl, hA7, hb7⟩; have k7 := bchain k6 hb7))
      generalize l0.length = rn at *
      have bB := below_new w7 (entO (.slice pa pn pc) z (.slice ra rn rk) n0 38)
      have kB := bchain k7 bB
      have VZ : Hid (EVar (w7.alloc (entO (.slice pa pn pc) z (.slice ra rn rk) n0 38)) w7.heap.size (.slice pa pn pc) z (.slice ra rn rk) n0) := EVar.new w7 (.slice pa pn pc) z (.slice ra rn rk) n0 38
      have hEB : Hid (EntsAt es (w7.alloc (entO (.slice pa pn pc) z (.slice ra rn rk) n0 38)) (.slice ea n ec)) := (hE6.on hb7).on bB
      have hFB : Hid (EntsAt es (w7.alloc (entO (.slice pa pn pc) z (.slice ra rn rk) n0 38)) (.slice fa n fc)) := (hF6.on hb7).on bB
      have hyB : Hid (ItsAt its (w7.alloc (entO (.slice pa pn pc) z (.slice ra rn rk) n0 38)) ry) := (hy6.on hb7).on bB
      have hAB : Hid (EOk (w7.alloc (entO (.slice pa pn pc) z (.slice ra rn rk) n0 38)) (⟨p, z, l0, n0⟩, .slice pa pn pc, .slice ra rn rk)) := hA7.on bB
      clear HG HS HT HTR hx3 hx4 hx5 hx6 hy4 hy5 hy6 hE5 hE6 hF6 hA7
      go_loopw [14] (fun i wr => ∃ k : Nat, k ≤ n ∧ i = .int .i64 k ∧ Below (w7.alloc (entO (.slice pa pn pc) z (.slice ra rn rk) n0 38)).heap.size (w7.alloc (entO (.slice pa pn pc) z (.slice ra rn rk) n0 38)) wr) (fun i _ => n - (intOf i).toNat)
      case atStart => exact ⟨0, by omega, rfl, Below.refl _ _⟩
      case round =>
        obtain ⟨k, hk, rfl, hbw⟩ := hrel
        by_cases hkn : k < n
        · have hkx : k < es.length := by rw [HE.out.len]; exact hkn
          obtain ⟨ad, xa, xn, xc, ya, yn, yc, rfl, hX, hXo⟩ := (hEB.out.on hbw).get hkx
          obtain ⟨bd, sa, sn, sc, ja, jn, jc, rfl, hY, hYo⟩ := (hFB.out.on hbw).get hkx
          have hfe := HE.out.fine _ (List.getElem_mem hkx)
          generalize es[k] = X at *
          obtain ⟨p9, z9, l9, m9⟩ := X
          have HT2 : ∀ W, Below wr.heap.size wr W → Calls Tryz.prog 14 #[entV (.slice xa xn xc) z9 (.slice ya yn yc) m9] W fun e w' => e = .returned (.string ⟨(lineE ⟨p9, z9, l9, m9⟩).toArray⟩) ∧ Below W.heap.size W w' := fun W hb => line18_any _ W ((hkp.on kB).on (bchain hbw hb)) (hXo.on hb) hfe
          have HR2 : ∀ W, Below wr.heap.size wr W → Calls Tryz.prog 15 #[entV (.slice sa sn sc) z9 (.slice ja jn jc) m9] W fun e w' => e = .returned (.string ⟨(lineE ⟨p9, z9, l9, m9⟩).toArray⟩) ∧ Below W.heap.size W w' := fun W hb => refLine_any _ W (hYo.on hb) hfe
          generalize (lineE ⟨p9, z9, l9, m9⟩).toArray = L at *
          clear hXo hYo hfe
          go_wp2
          refine wp_region_held_drew (S := fun W => SmE wr (ad.add (k * 4)) (bd.add (k * 4)) ((⟨p9, z9, l9, m9⟩, .slice xa xn xc, .slice ya yn yc) : EE) ((⟨p9, z9, l9, m9⟩, .slice sa sn sc, .slice ja jn jc) : EE) W) (by kernel_rfl) (⟨hX.on (Below.refl _ _).drew, hY.on (Below.refl _ _).drew, (Below.refl _ _).drew⟩) (fun hH0 => ?_)
          refine held_take (i := 0) (o := { dst := some 51, op := Op.move (Operand.tmp 11), type := 32, pos := "law.go:43", after := #[], guard := none }) (v := .slice (some ad) n ec) (by kernel_rfl) (by kernel_rfl) (by kernel_rfl) (by kernel_rfl) (fun _ _ _ h => h) (by kernel_rfl) (fun _ _ => by kernel_rfl) hH0 ?_
          refine held_take (i := 1) (o := { dst := some 52, op := Op.move (Operand.tmp 14), type := 3, pos := "law.go:43", after := #[], guard := none }) (v := .int .i64 (k : Int)) (by kernel_rfl) (by kernel_rfl) (by kernel_rfl) (by kernel_rfl) (fun _ _ _ h => h) (by kernel_rfl) (fun _ _ => by kernel_rfl) hH0 ?_
          refine held_take (i := 2) (o := { dst := some 53, op := Op.indexAddr 32 (Operand.tmp 51) (Operand.tmp 52), type := 0, pos := "law.go:43", after := #[{ on := 0, ground := Ground.data }, { on := 1, ground := Ground.data }], guard := none }) (v := .pointer (some ((ad.add (k * 4))))) (by kernel_rfl) (by kernel_rfl) (by kernel_rfl) (by kernel_rfl) (fun _ _ _ h => h) (by kernel_rfl) (fun W _ => ex_i_ents (n := n) (c := ec) (k := k) rfl (by kernel_rfl) (by kernel_rfl) hkn W) hH0 ?_
          refine held_take (i := 3) (o := { dst := some 54, op := Op.load 38 (Operand.tmp 53), type := 38, pos := "law.go:43", after := #[{ on := 2, ground := Ground.data }], guard := none }) (v := .agg #[.slice xa xn xc, .int .i64 z9, .slice ya yn yc, .int .i64 m9]) (by kernel_rfl) (by kernel_rfl) (by kernel_rfl) (by kernel_rfl) (fun _ _ _ h => h) (by kernel_rfl) (fun _ h => ex_l_ent (p := ((ad.add (k * 4)))) rfl (by kernel_rfl) (h.x.c0) (h.x.c1) (h.x.c2) (h.x.c3)) hH0 ?_
          refine held_take (i := 5) (o := { dst := some 56, op := Op.move (Operand.tmp 12), type := 34, pos := "law.go:43", after := #[], guard := none }) (v := .slice (some bd) n fc) (by kernel_rfl) (by kernel_rfl) (by kernel_rfl) (by kernel_rfl) (fun _ _ _ h => h) (by kernel_rfl) (fun _ _ => by kernel_rfl) hH0 ?_
          refine held_take (i := 6) (o := { dst := some 57, op := Op.move (Operand.tmp 14), type := 3, pos := "law.go:43", after := #[], guard := none }) (v := .int .i64 (k : Int)) (by kernel_rfl) (by kernel_rfl) (by kernel_rfl) (by kernel_rfl) (fun _ _ _ h => h) (by kernel_rfl) (fun _ _ => by kernel_rfl) hH0 ?_
          refine held_take (i := 7) (o := { dst := some 58, op := Op.indexAddr 34 (Operand.tmp 56) (Operand.tmp 57), type := 0, pos := "law.go:43", after := #[{ on := 5, ground := Ground.data }, { on := 6, ground := Ground.data }], guard := none }) (v := .pointer (some ((bd.add (k * 4))))) (by kernel_rfl) (by kernel_rfl) (by kernel_rfl) (by kernel_rfl) (fun _ _ _ h => h) (by kernel_rfl) (fun W _ => ex_i_rents (n := n) (c := fc) (k := k) rfl (by kernel_rfl) (by kernel_rfl) hkn W) hH0 ?_
          refine held_take (i := 8) (o := { dst := some 59, op := Op.load 42 (Operand.tmp 58), type := 42, pos := "law.go:43", after := #[{ on := 7, ground := Ground.data }], guard := none }) (v := .agg #[.slice sa sn sc, .int .i64 z9, .slice ja jn jc, .int .i64 m9]) (by kernel_rfl) (by kernel_rfl) (by kernel_rfl) (by kernel_rfl) (fun _ _ _ h => h) (by kernel_rfl) (fun _ h => ex_l_rent (p := ((bd.add (k * 4)))) rfl (by kernel_rfl) (h.y.c0) (h.y.c1) (h.y.c2) (h.y.c3)) hH0 ?_
          refine held_callX (i := 4) (o := { dst := some 55, op := Op.call { callee := Callee.value (Operand.func 14), args := #[Operand.tmp 54], argTypes := #[38] }, type := 9, pos := "law.go:43", after := #[{ on := 3, ground := Ground.data }], guard := none }) (F := 14) (vs := #[.agg #[.slice xa xn xc, .int .i64 z9, .slice ya yn yc, .int .i64 m9]]) (by kernel_rfl) (by kernel_rfl) (by kernel_rfl) (fun _ => by kernel_rfl) (HT2 _ hH0.below) ?_
          rintro e w1 ⟨rfl, hb1⟩
          have hH1 := hH0.on hb1
          refine ⟨.string ⟨L⟩, rfl, hH1, ?_⟩
          refine held_callX (i := 9) (o := { dst := some 60, op := Op.call { callee := Callee.value (Operand.func 15), args := #[Operand.tmp 59], argTypes := #[42] }, type := 9, pos := "law.go:43", after := #[{ on := 8, ground := Ground.data }, { on := 4, ground := Ground.chain }], guard := none }) (F := 15) (vs := #[.agg #[.slice sa sn sc, .int .i64 z9, .slice ja jn jc, .int .i64 m9]]) (by kernel_rfl) (by kernel_rfl) (by kernel_rfl) (fun _ => by kernel_rfl) (HR2 _ hH1.below) ?_
          rintro e w2 ⟨rfl, hb2⟩
          have hH2 := hH1.on hb2
          refine ⟨.string ⟨L⟩, rfl, hH2, ?_⟩
          refine held_take (i := 10) (o := { dst := some 61, op := Op.binOp BinOp.neq 9 (Operand.tmp 55) (Operand.tmp 60) 9, type := 4, pos := "law.go:43", after := #[{ on := 4, ground := Ground.data }, { on := 9, ground := Ground.data }], guard := none }) (v := .bool false) (by kernel_rfl) (by kernel_rfl) (by kernel_rfl) (by kernel_rfl) (fun _ _ _ h => h) (by kernel_rfl) (fun W _ => exec_bin rfl (by kernel_rfl) (by kernel_rfl) (fun _ => by kernel_rfl) (neqs_same ⟨L⟩) W) hH2 ?_
          refine wpAnyH_done (by kernel_rfl) ?_ _
          simp only [Act.put, List.setIfInBounds_toArray, List.set_cons_zero, List.set_cons_succ]
          go_wp2
          go_roundw
          case rel => exact ⟨k + 1, by omega, by go_num, bchain hbw hH2.below⟩
          case measure => simp [intOf]; omega
        · go_wp2_with (first
            | (go_at_call 8; refine (awake_any _ (hkp.on (bchain kB j8))).mono ?_; rintro e u9 ⟨rfl, hc9⟩)
            | (go_at_call 16; refine (H1.out.c16 (hS7.on (below_new u7 _)) (ents_one hA7 42)).mono ?_; rintro e u8 ⟨rfl, hc8⟩; have j8 := bchain (bchain j7 (below_new u7 _)) hc8)
            | (go_at_call 21; refine (HIR.out.c21 (hyB.out.on j6) (bchain kB j6)).mono ?_; rintro e u7 ⟨ta, tk, rfl, hA7, hc7⟩; have j7 := bchain j6 hc7; have hS7 := hS6.on hc7)
            | (go_at_call 17; refine (H1.out.c17 (ents_one (hAB.out.on j5) 38)).mono ?_; rintro e u6 ⟨sb, rfl, hS6, hc6⟩; have j6 := bchain (bchain j5 (below_new u5 _)) hc6)
            | (go_at_call 20; refine (HE.out.c20 (hEB.out.on j4) (hEB.out.on j4)).mono ?_; rintro e u5 ⟨rfl, hc5⟩; have j5 := bchain j4 hc5; have V5 := VZ.out.on j5; obtain ⟨d0, d1, d2, d3, _, _, _, _⟩ := id V5)
            | (go_at_call 19; refine (HER.out.c19 (hFB.out.on j3)).mono ?_; rintro e u4 ⟨rfl, hc4⟩; have j4 := bchain j3 hc4)
            | (go_at_call 18; refine (HE.out.c18 (hkp.on (bchain kB j2)) (hEB.out.on j2)).mono ?_; rintro e u3 ⟨rfl, hc3⟩; have j3 := bchain j2 hc3)
            | (go_at_call 16; refine (HER.out.c16 hS1 (hFB.out.on j1)).mono ?_; rintro e u2 ⟨rfl, hc2⟩; have j2 := bchain j1 hc2)
            | (go_at_call 17; refine (HER.out.c17 (hEB.out.on hbw)).mono ?_; rintro e u1 ⟨sb1, rfl, hS1, hc1⟩; have j1 := bchain hbw hc1))
          go_ret
          exact ⟨rfl, bchain kB (bchain j8 hc9)⟩
end Go.Proofs.YthlhopdlkkeohaaGreatDoor.O

/- What the proofs of this seat share: operations and references that came in. -/
namespace Go.Proofs.YthlhopdlkkeohaaGreatDoor
open Go.ChangeShapes Go.WideShapes Go.ChangeAt Go.RowKit Go.Deep

theorem own : ownKnob Tryz.prog.godebug = none := by kernel_rfl
theorem laid_out : laidOutB Tryz.prog = true := by kernel_rfl
theorem reads65 : Tryz.prog.readableRec 65 = true := by kernel_rfl
theorem rows65 : 65 < Tryz.prog.types.size := by decide +kernel
theorem reads70 : Tryz.prog.readableRec 70 = true := by kernel_rfl
theorem rows70 : 70 < Tryz.prog.types.size := by decide +kernel
theorem cells3 : Tryz.prog.cellsOf 3 = 1 := by kernel_rfl
theorem cells9 : Tryz.prog.cellsOf 9 = 1 := by kernel_rfl
theorem cells22 : Tryz.prog.cellsOf 24 = 1 := by kernel_rfl
theorem cells24 : Tryz.prog.cellsOf 61 = 3 := by kernel_rfl
theorem cells25 : Tryz.prog.cellsOf 63 = 1 := by kernel_rfl
theorem cells27 : Tryz.prog.cellsOf 65 = 7 := by kernel_rfl
theorem cells29 : Tryz.prog.cellsOf 53 = 2 := by kernel_rfl
theorem cells31 : Tryz.prog.cellsOf 70 = 3 := by kernel_rfl

/-- A struct of five fields. -/
theorem trod_struct5 {P : Program} {H : Type} {enc : TypeId × Value → H} {w : World} {base : Nat} {spare : Nat → Bool} {held : Bool} {t : TypeId} {f0 f1 f2 f3 f4 : Field} {fuel : Nat} {cs : List Value} {x : DataW H × List MemPlace} (ht : P.underlying t = some (.struct #[f0, f1, f2, f3, f4])) (h : DataW.trod enc P w base spare held fuel t cs = some x) :
    ∃ y0 y1 y2 y3 y4 n, DataW.trod enc P w base spare held n f0.type ((cs.drop f0.offset).take (P.cellsOf f0.type)) = some y0 ∧
      DataW.trod enc P w base spare held n f1.type ((cs.drop f1.offset).take (P.cellsOf f1.type)) = some y1 ∧ DataW.trod enc P w base spare held n f2.type ((cs.drop f2.offset).take (P.cellsOf f2.type)) = some y2 ∧
      DataW.trod enc P w base spare held n f3.type ((cs.drop f3.offset).take (P.cellsOf f3.type)) = some y3 ∧ DataW.trod enc P w base spare held n f4.type ((cs.drop f4.offset).take (P.cellsOf f4.type)) = some y4 := by
  obtain ⟨xs, n, _, rfl, hl, hlen, hf⟩ := DataW.trod_struct ht h
  match xs, hlen with
  | [y0, y1, y2, y3, y4], _ => exact ⟨y0, y1, y2, y3, y4, n, by simpa using hf 0 f0 rfl, by simpa using hf 1 f1 rfl, by simpa using hf 2 f2 rfl, by simpa using hf 3 f3 rfl, by simpa using hf 4 f4 rfl⟩
theorem array7 {α : Type} {cs : Array α} (h : cs.size = 7) : ∃ c0 c1 c2 c3 c4 c5 c6, cs = #[c0, c1, c2, c3, c4, c5, c6] := by
  obtain ⟨l⟩ := cs
  match l, h with
  | [c0, c1, c2, c3, c4, c5, c6], _ => exact ⟨c0, c1, c2, c3, c4, c5, c6, rfl⟩
theorem array3 {α : Type} {cs : Array α} (h : cs.size = 3) : ∃ c0 c1 c2, cs = #[c0, c1, c2] := by
  obtain ⟨l⟩ := cs
  match l, h with
  | [c0, c1, c2], _ => exact ⟨c0, c1, c2, rfl⟩

set_option maxRecDepth 100000 in
/-- A slice of texts, by its cell. -/
theorem cells_strs {H : Type} {enc : TypeId × Value → H} {W : World} {fuel : Nat} {cs : List Value} {x : DataW H × List MemPlace} (h : DataW.trod enc Tryz.prog W 0 (fun _ => true) true fuel 24 cs = some x) :
    ∃ (v : Value) (xs : List (List UInt8)), cs = [v] ∧ xs.length ≤ maxLen ∧ (∀ x ∈ xs, x.length ≤ maxLen) ∧ U.strsAt W v xs := by
  rcases open_strs Tryz.underlying24 Tryz.underlying9 cells9 h with ⟨hcs, hx⟩ | ⟨a, len', cap', m, Sx, hcs, _, hl, hm, hmm, hx, hcell⟩
  · exact ⟨_, [], hcs, by simp, by simp, U.strsAt_nil _⟩
  · simp only [if_true] at hmm
    subst hmm
    refine ⟨_, (List.range len').map fun i => (Sx i).data.toList, hcs, ?_, ?_, some a, m, by simp, by simp; omega, ?_⟩
    · simp; omega
    · intro x hx
      simp only [List.mem_map, List.mem_range] at hx
      obtain ⟨i, hi, rfl⟩ := hx
      rw [U.size_len]
      exact (hcell i (by omega)).2
    · intro k hk
      simp at hk
      refine ⟨a, rfl, ?_⟩
      rw [(hcell k (by omega)).1]
      simp
set_option maxRecDepth 100000 in
/-- Two cells of a dot. -/
theorem cells_dot {H : Type} {enc : TypeId × Value → H} {W : World} {sp : Nat → Bool} {fuel : Nat} {c0 c1 : Value} {x : DataW H × List MemPlace} (h : DataW.trod enc Tryz.prog W 0 sp true fuel 53 [c0, c1] = some x) :
    ∃ d : D, c0 = .int .i64 d.1 ∧ c1 = .int .i64 d.2 := by
  obtain ⟨d, p⟩ := x
  obtain ⟨y0, y1, m, hx, _, hy0, hy1⟩ := trod_struct2 Tryz.underlying53 h
  obtain ⟨a, e0, _, wa⟩ := DataW.trod_int Tryz.underlying3 hy0
  obtain ⟨b, e1, _, wb⟩ := DataW.trod_int Tryz.underlying3 hy1
  simp [cells3] at e0 e1
  exact ⟨(a, b), e0, e1⟩
set_option maxRecDepth 100000 in
/-- Three cells of a reference. -/
theorem cells_ref {H : Type} {enc : TypeId × Value → H} {W : World} {sp : Nat → Bool} {fuel : Nat} {c0 c1 c2 : Value} {x : DataW H × List MemPlace} (h : DataW.trod enc Tryz.prog W 0 sp true fuel 70 [c0, c1, c2] = some x) :
    ∃ u : U, c0 = .int .i64 u.1.1 ∧ c1 = .int .i64 u.1.2 ∧ c2 = .int .i64 u.2 := by
  obtain ⟨d, p⟩ := x
  obtain ⟨y0, y1, m, hx, _, hy0, hy1⟩ := trod_struct2 Tryz.underlying70 h
  simp only [cells29, cells3, List.drop_zero, List.take_succ_cons, List.take_zero, List.drop_succ_cons] at hy0 hy1
  obtain ⟨q, e0, e1⟩ := cells_dot hy0
  obtain ⟨b, e2, _, wb⟩ := DataW.trod_int Tryz.underlying3 hy1
  exact ⟨(q, b), e0, e1, (List.cons.inj e2).1⟩
set_option maxRecDepth 100000 in
/-- Three cells of a value. -/
theorem cells_val {H : Type} {enc : TypeId × Value → H} {W : World} {sp : Nat → Bool} {fuel : Nat} {c0 c1 c2 : Value} {x : DataW H × List MemPlace} (h : DataW.trod enc Tryz.prog W 0 sp true fuel 61 [c0, c1, c2] = some x) :
    ∃ (k n : Int) (l : List UInt8), c0 = .int .i64 k ∧ c1 = .int .i64 n ∧ c2 = .string ⟨l.toArray⟩ := by
  obtain ⟨d, p⟩ := x
  obtain ⟨y0, y1, y2, m, hx, hd, hy0, hy1, hy2⟩ := Go.Deep.trod_struct3 Tryz.underlying61 h
  obtain ⟨a, e0, _, wa⟩ := DataW.trod_int Tryz.underlying3 hy0
  obtain ⟨b, e1, _, wb⟩ := DataW.trod_int Tryz.underlying3 hy1
  obtain ⟨s, e2, _, ws⟩ := DataW.trod_string Tryz.underlying9 hy2
  simp [cells3, cells9] at e0 e1 e2
  exact ⟨a, b, s.data.toList, e0, e1, by rw [e2]⟩
set_option maxRecDepth 100000 in
/-- A slice of references, by its cell. -/
theorem cells_refs {H : Type} {enc : TypeId × Value → H} {W : World} {sp : Nat → Bool} {fuel : Nat} {cs : List Value} {x : DataW H × List MemPlace} (h : DataW.trod enc Tryz.prog W 0 sp true fuel 63 cs = some x) :
    ∃ v l, cs = [v] ∧ O.refsIn W v l := by
  rcases Go.Deep.open_slice Tryz.underlying63 h with ⟨e, _⟩ | ⟨a, len, cap, m, n, Dd, Pl, e, hb, hl, hm, hmm, _, hx⟩
  · exact ⟨_, [], e, O.refsIn_nil W⟩
  · have hlm : len ≤ m := by rw [hmm]; split <;> omega
    have each : ∀ i, i < len → ∃ u : U, O.CAt W (a.add (i * 3)) u := fun i hi => by
      obtain ⟨cs', h1, h2⟩ := hx i (by omega)
      rw [cells31] at h1
      obtain ⟨_, hlen, hcell⟩ := World.cells?_some h1
      match cs', hlen with
      | [c0, c1, c2], _ =>
        obtain ⟨u, e0, e1, e2⟩ := cells_ref h2
        have g0 := hcell 0 (by omega)
        have g1 := hcell 1 (by omega)
        have g2 := hcell 2 (by omega)
        rw [O.add_add] at g0 g1 g2
        refine ⟨u, ?_, ?_, ?_⟩
        · rw [← e0]; simpa using g0
        · rw [← e1, ← O.add_one]; simpa using g1
        · rw [← e2, ← O.add_two]; simpa using g2
    refine ⟨_, (List.range len).attach.map fun i => (each i.1 (List.mem_range.1 i.2)).choose, e, some a, cap, by simp, by simpa using hl, fun e => by simp at e, fun k hk => ⟨a, rfl, ?_⟩⟩
    simp only [List.getElem_map, List.getElem_attach, List.getElem_range]
    exact (each k (by simpa using hk)).choose_spec

end Go.Proofs.YthlhopdlkkeohaaGreatDoor
