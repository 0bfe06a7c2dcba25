/- Loads of entries; what the program's calls tell of the transactions' items, gathered for the walks · The walk of the statement ViewParity. -/
import Derived.Test.YthlhopdlkkeohaaGreatDoorEFinesAll
import Derived.Test.YthlhopdlkkeohaaGreatDoorEqualsAll
import Derived.Test.YthlhopdlkkeohaaGreatDoorTGetsAll
/- Loads of entries; what the program's calls tell of the transactions' items, gathered for the walks. -/
namespace Go.Proofs.YthlhopdlkkeohaaGreatDoor.O
open Go.RowKit
section
variable {o : Oper} {a : Act} {w : World} {x : Operand} {p : Addr}
end
theorem neqs_same (x : ByteArray) (w : World) : (binOp .neq 9 (.string x) (.string x)).run Tryz.prog w = .ok (.bool false) w := by go_simp
theorem neqb_not {a b : Bool} (h : a ≠ b) (w : World) : (binOp .neq 4 (.bool a) (.bool b)).run Tryz.prog w = .ok (.bool true) w := by
  cases a <;> cases b <;> first | exact absurd rfl h | go_simp

/-- What live.All tells of transactions that may be, and of right counts. -/
structure VwT (w : World) (v vu : Value) (its : List Lv.Item) : Prop where
  all : AllC 9 w v vu its
  fine : FineI its
  len : its.length ≤ 100000
theorem vwT {v vu : Value} {ts : List Tx.Txn} {u : List U} {w : World} (hv : txsIn w v ts) (hu : T.cntsIn w vu u) (hg : good13 ts u = true) : VwT w v vu (Lv.all ts (seenD u)) := by
  obtain ⟨⟨h20, hr, hok⟩, h100, hstd⟩ := good13_parts hg
  refine ⟨allC hv hu (by omega) hok (by omega) hstd, all_fine hok, ?_⟩
  have h := Lv.allBy_len (B := 1000) (l := ts) (cov := Lv.covered ts (seenD u)) (sn := seenD u) fun t ht => (okT_few (hok t ht)).1
  unfold Lv.all
  omega
/-- What the calls tell of entries. -/
structure EsC (es : List Vw.Entry) (n : Nat) (TX : ByteArray) : Prop where
  len : es.length = n
  few : n ≤ 100000
  fine : ∀ e ∈ es, EFine e
  c18 : ∀ {va W}, N.Keeps W → EntsAt es W va → Calls Tryz.prog 18 #[va] W fun e w' => e = .returned (.string TX) ∧ Below W.heap.size W w'
  c20 : ∀ {va vb W}, EntsAt es W va → EntsAt es W vb → Calls Tryz.prog 20 #[va, vb] W fun e w' => e = .returned (.bool true) ∧ Below W.heap.size W w'
theorem esC {es : List Vw.Entry} (hf : ∀ e ∈ es, EFine e) (hn : es.length ≤ 100000) : EsC es es.length ⟨(linesE es).toArray⟩ :=
  ⟨rfl, hn, hf, fun hk ha => text_at hk ha hf hn, fun ha hb => same_at ha hb hf hn⟩
/-- What the calls tell of items. -/
structure ItC (w : World) (vp : Value) (its : List Lv.Item) (es : List Vw.Entry) (n : Nat) (p : List (List UInt8)) (z : Int) (l0 : List Rg.Va) (n0 : Int) : Prop where
  c11 : ∀ {r W}, ItsAt its W r → Calls Tryz.prog 11 #[r] W fun e w' => ∃ ea ec, e = .returned (.slice ea n ec) ∧ EntsAt es w' (.slice ea n ec) ∧ Below W.heap.size W w'
  c13 : ∀ {r W}, ItsAt its W r → Below w.heap.size w W → Calls Tryz.prog 13 #[r, vp, .int .i64 z] W fun e w' => ∃ pa pn pc ra rk, e = .returned (entV (.slice pa pn pc) z (.slice ra l0.length rk) n0) ∧ EOk w' (⟨p, z, l0, n0⟩, .slice pa pn pc, .slice ra l0.length rk) ∧ Below W.heap.size W w'
theorem few_short {p : List (List UInt8)} (h : Pt.short p = true) : U.Few p := Pt.short_iff h
theorem of_few {its : List Lv.Item} (h : its.length ≤ 100000) : (Vw.of its).length ≤ 100000 := Nat.le_trans (Vw.of_len _) h
end Go.Proofs.YthlhopdlkkeohaaGreatDoor.O
/- The walk of the statement ViewParity. -/
namespace Go.Proofs.YthlhopdlkkeohaaGreatDoor.O
open Go.RowKit

/-- A transaction at its place while a region goes. -/
structure PaS (w : World) (q : Addr) (t : Tx.Txn) (ov : Value) (W : World) : Prop where
  t : TcAt W q t ov
  below : Below w.heap.size w W
theorem PaS.on {w W W' : World} {q : Addr} {t : Tx.Txn} {ov : Value} (h : PaS w q t ov W) (hb : Below W.heap.size W W') : PaS w q t ov W' := ⟨h.t.on hb, bchain h.below hb⟩

set_option maxRecDepth 20000 in
set_option maxHeartbeats 4000000 in
theorem viewParity_walk (v : Value) (ts : List Tx.Txn) (vu : Value) (u : List U) (vx : Value) (x : List U) (w : World) (hkp : N.Keeps w) (hw : ∀ t ∈ ts, txWide t) (hv : txsIn w v ts) (hu : T.cntsIn w vu u) (hx : T.cntsIn w vx x) :
    Calls Tryz.prog 5 #[v, vu, vx] w fun e w' => e = .returned (.bool true) ∧ Below w.heap.size w w' := by
  have HG := good_any v vu ts u w hw hv hu
  have HH := fun W (hb : Below w.heap.size w W) => good_any v vx ts x W hw (hv.on hb) (hx.on hb)
  obtain ⟨ao, cap, rfl⟩ := txs_slice hv
  obtain ⟨uo, uc, rfl⟩ := cnts_slice hu
  obtain ⟨xo, xc, rfl⟩ := cnts_slice hx
  cases hg : good13 ts u with
  | false =>
    rw [hg] at HG
    clear hv hu hx hw HH
    generalize ts.length = n at *
    generalize u.length = m at *
    generalize x.length = q at *
    go_enter Tryz.func5, Tryz.ntmps5
    go_wp2_with (first
      | (go_at_call 6; refine HG.mono ?_; rintro e w1 ⟨rfl, hb1⟩)
      | (go_at_call 8; refine (awake_any _ (hkp.on hb1)).mono ?_; rintro e w2 ⟨rfl, hb2⟩))
    go_ret
    exact ⟨rfl, bchain hb1 hb2⟩
  | true =>
    rw [hg] at HG
    cases hh : good13 ts x with
    | false =>
      rw [hh] at HH
      clear hv hu hx hw
      generalize ts.length = n at *
      generalize u.length = m at *
      generalize x.length = q at *
      go_enter Tryz.func5, Tryz.ntmps5
      go_wp2_with (first
        | (go_at_call 8; refine (awake_any _ (hkp.on (bchain hb1 hb3))).mono ?_; rintro e w2 ⟨rfl, hb2⟩)
        | (go_at_call 6; refine (HH _ hb1).mono ?_; rintro e w3 ⟨rfl, hb3⟩)
        | (go_at_call 6; refine HG.mono ?_; rintro e w1 ⟨rfl, hb1⟩))
      go_ret
      exact ⟨rfl, bchain hb1 (bchain hb3 hb2)⟩
    | true =>
      rw [hh] at HH
      obtain ⟨⟨h20, _, _⟩, hu100, hustd⟩ := good13_parts hg
      obtain ⟨_, hx100, hxstd⟩ := good13_parts hh
      have HU : Hid (VwT w (.slice ao ts.length cap) (.slice uo u.length uc) (Lv.all ts (seenD u))) := vwT hv hu hg
      have HX : Hid (VwT w (.slice ao ts.length cap) (.slice xo x.length xc) (Lv.all ts (seenD x))) := vwT hv hx hh
      have HV : Hid (txsIn w (.slice ao ts.length cap) ts) := hv
      have SU : Hid (∀ d W, Below w.heap.size w W → Calls Tryz.prog 23 #[.slice uo u.length uc, dV d] W fun e w' => e = .returned (.bool (seenD u d)) ∧ Below W.heap.size W w') := by
        have h : ∀ d W, Below w.heap.size w W → Calls Tryz.prog 23 #[.slice uo u.length uc, dV d] W fun e w' => e = .returned (.bool (seenD u d)) ∧ Below W.heap.size W w' := fun d W hb => T.seen_any _ u d W (hu.on hb) (by omega) hustd
        exact h
      have SX : Hid (∀ d W, Below w.heap.size w W → Calls Tryz.prog 23 #[.slice xo x.length xc, dV d] W fun e w' => e = .returned (.bool (seenD x d)) ∧ Below W.heap.size W w') := by
        have h : ∀ d W, Below w.heap.size w W → Calls Tryz.prog 23 #[.slice xo x.length xc, dV d] W fun e w' => e = .returned (.bool (seenD x d)) ∧ Below W.heap.size W w' := fun d W hb => T.seen_any _ x d W (hx.on hb) (by omega) hxstd
        exact h
      have HA : Hid ((∀ t ∈ ts, seenD u t.d = seenD x t.d) → Lv.all ts (seenD u) = Lv.all ts (seenD x)) := by
        have h := fun h => Vw.all_agree (l := ts) (sn := seenD u) (sn' := seenD x) h
        exact h
      generalize Lv.all ts (seenD u) = iu at *
      generalize Lv.all ts (seenD x) = ix at *
      generalize seenD u = su at *
      generalize seenD x = sx at *
      obtain ⟨n, hn0⟩ : ∃ n, n = ts.length := ⟨_, rfl⟩
      have HN : Hid (n = ts.length) := hn0
      rw [← hn0] at HG HH HU HX HV h20 ⊢
      clear hv hu hx hw hg hh hu100 hustd hx100 hxstd hn0
      generalize u.length = m at *
      generalize x.length = q at *
      go_enter Tryz.func5, Tryz.ntmps5
      go_wp2_with (first
        | (go_at_call 6; refine (HH _ hb1).mono ?_; rintro e w2 ⟨rfl, hb2⟩; have k2 := bchain hb1 hb2)
        | (go_at_call 6; refine HG.mono ?_; rintro e w1 ⟨rfl, hb1⟩))
      clear HG HH
      go_loopw [7] (fun i wr => ∃ k : Nat, k ≤ n ∧ i = .int .i64 k ∧ Hid (∀ t ∈ ts.take k, su t.d = sx t.d) ∧ Below w2.heap.size w2 wr) (fun i _ => n - (intOf i).toNat)
      case atStart => exact ⟨0, by omega, rfl, by simp [Hid], Below.refl _ _⟩
      case round =>
        obtain ⟨k, hk, rfl, HK, hbw⟩ := hrel
        have kr := bchain k2 hbw
        by_cases hkn : k < n
        · have hkx : k < ts.length := by rw [← HN.out]; exact hkn
          obtain ⟨ad, ov, rfl, hX, -⟩ := (HV.out.on kr).get hkx
          have HK2 : Hid (su ts[k].d = sx ts[k].d → ∀ t ∈ ts.take (k + 1), su t.d = sx t.d) := by
            have h : su ts[k].d = sx ts[k].d → ∀ t ∈ ts.take (k + 1), su t.d = sx t.d := fun h0 t ht => by
              rw [List.take_succ_eq_append_getElem hkx, List.mem_append, List.mem_singleton] at ht
              rcases ht with ht | rfl
              · exact HK.out t ht
              · exact h0
            exact h
          generalize ts[k] = t9 at *
          obtain ⟨⟨d0, d1⟩, tu, tt, th, os9⟩ := t9
          have SU2 : ∀ W, Below wr.heap.size wr W → Calls Tryz.prog 23 #[.slice uo m uc, .agg #[.int .i64 d0, .int .i64 d1]] W fun e w' => e = .returned (.bool (su (d0, d1))) ∧ Below W.heap.size W w' := fun W hb => SU.out (d0, d1) W (bchain kr hb)
          have SX2 : ∀ W, Below wr.heap.size wr W → Calls Tryz.prog 23 #[.slice xo q xc, .agg #[.int .i64 d0, .int .i64 d1]] W fun e w' => e = .returned (.bool (sx (d0, d1))) ∧ Below W.heap.size W w' := fun W hb => SX.out (d0, d1) W (bchain kr hb)
          by_cases he : su (d0, d1) = sx (d0, d1)
          · have HK3 : Hid (∀ t ∈ ts.take (k + 1), su t.d = sx t.d) := by
              have h := HK2.out he
              exact h
            rw [← he] at SX2
            generalize su (d0, d1) = b9 at *
            clear HK2 he
            go_wp2
            refine wp_region_held_drew (S := fun W => PaS wr (ad.add (k * 6)) ⟨(d0, d1), tu, tt, th, os9⟩ ov W) (by kernel_rfl) (⟨hX.on (Below.refl _ _).drew, (Below.refl _ _).drew⟩) (fun hH0 => ?_)
            refine held_take (i := 0) (o := { dst := some 25, op := Op.move (Operand.tmp 1), type := 23, pos := "law.go:72", after := #[], guard := none }) (v := .slice uo m uc) (by kernel_rfl) (by kernel_rfl) (by kernel_rfl) (by kernel_rfl) (fun _ _ _ h => h) (by kernel_rfl) (fun _ _ => by kernel_rfl) hH0 ?_
            refine held_take (i := 1) (o := { dst := some 26, op := Op.move (Operand.tmp 0), type := 22, pos := "law.go:72", after := #[], guard := none }) (v := .slice (some ad) n cap) (by kernel_rfl) (by kernel_rfl) (by kernel_rfl) (by kernel_rfl) (fun _ _ _ h => h) (by kernel_rfl) (fun _ _ => by kernel_rfl) hH0 ?_
            refine held_take (i := 2) (o := { dst := some 27, op := Op.move (Operand.tmp 7), type := 3, pos := "law.go:72", after := #[], guard := none }) (v := .int .i64 (k : Int)) (by kernel_rfl) (by kernel_rfl) (by kernel_rfl) (by kernel_rfl) (fun _ _ _ h => h) (by kernel_rfl) (fun _ _ => by kernel_rfl) hH0 ?_
            refine held_take (i := 3) (o := { dst := some 28, op := Op.indexAddr 22 (Operand.tmp 26) (Operand.tmp 27), type := 0, pos := "law.go:72", after := #[{ on := 1, ground := Ground.data }, { on := 2, ground := Ground.data }], guard := none }) (v := .pointer (some ((ad.add (k * 6))))) (by kernel_rfl) (by kernel_rfl) (by kernel_rfl) (by kernel_rfl) (fun _ _ _ h => h) (by kernel_rfl) (fun W _ => ex_i_txns (n := n) (c := cap) (k := k) rfl (by kernel_rfl) (by kernel_rfl) hkn W) hH0 ?_
            refine held_take (i := 4) (o := { dst := some 29, op := Op.fieldAddr 56 (Operand.tmp 28) 0, type := 0, pos := "law.go:72", after := #[{ on := 3, ground := Ground.data }], guard := none }) (v := .pointer (some ((ad.add (k * 6))))) (by kernel_rfl) (by kernel_rfl) (by kernel_rfl) (by kernel_rfl) (fun _ _ _ h => h) (by kernel_rfl) (fun W _ => ex_f_txn_0 (p := ((ad.add (k * 6)))) rfl (by kernel_rfl) W) hH0 ?_
            refine held_take (i := 5) (o := { dst := some 30, op := Op.load 53 (Operand.tmp 29), type := 53, pos := "law.go:72", after := #[{ on := 4, ground := Ground.data }], guard := none }) (v := .agg #[.int .i64 d0, .int .i64 d1]) (by kernel_rfl) (by kernel_rfl) (by kernel_rfl) (by kernel_rfl) (fun _ _ _ h => h) (by kernel_rfl) (fun _ h => ex_l_dot (p := ((ad.add (k * 6)))) rfl (by kernel_rfl) (h.t.c0) (h.t.c1)) hH0 ?_
            refine held_take (i := 7) (o := { dst := some 32, op := Op.move (Operand.tmp 2), type := 23, pos := "law.go:72", after := #[], guard := none }) (v := .slice xo q xc) (by kernel_rfl) (by kernel_rfl) (by kernel_rfl) (by kernel_rfl) (fun _ _ _ h => h) (by kernel_rfl) (fun _ _ => by kernel_rfl) hH0 ?_
            refine held_take (i := 8) (o := { dst := some 33, op := Op.move (Operand.tmp 0), type := 22, pos := "law.go:72", after := #[], guard := none }) (v := .slice (some ad) n cap) (by kernel_rfl) (by kernel_rfl) (by kernel_rfl) (by kernel_rfl) (fun _ _ _ h => h) (by kernel_rfl) (fun _ _ => by kernel_rfl) hH0 ?_
            refine held_take (i := 9) (o := { dst := some 34, op := Op.move (Operand.tmp 7), type := 3, pos := "law.go:72", after := #[], guard := none }) (v := .int .i64 (k : Int)) (by kernel_rfl) (by kernel_rfl) (by kernel_rfl) (by kernel_rfl) (fun _ _ _ h => h) (by kernel_rfl) (fun _ _ => by kernel_rfl) hH0 ?_
            refine held_take (i := 10) (o := { dst := some 35, op := Op.indexAddr 22 (Operand.tmp 33) (Operand.tmp 34), type := 0, pos := "law.go:72", after := #[{ on := 8, ground := Ground.data }, { on := 9, ground := Ground.data }], guard := none }) (v := .pointer (some ((ad.add (k * 6))))) (by kernel_rfl) (by kernel_rfl) (by kernel_rfl) (by kernel_rfl) (fun _ _ _ h => h) (by kernel_rfl) (fun W _ => ex_i_txns (n := n) (c := cap) (k := k) rfl (by kernel_rfl) (by kernel_rfl) hkn W) hH0 ?_
            refine held_take (i := 11) (o := { dst := some 36, op := Op.fieldAddr 56 (Operand.tmp 35) 0, type := 0, pos := "law.go:72", after := #[{ on := 10, ground := Ground.data }], guard := none }) (v := .pointer (some ((ad.add (k * 6))))) (by kernel_rfl) (by kernel_rfl) (by kernel_rfl) (by kernel_rfl) (fun _ _ _ h => h) (by kernel_rfl) (fun W _ => ex_f_txn_0 (p := ((ad.add (k * 6)))) rfl (by kernel_rfl) W) hH0 ?_
            refine held_take (i := 12) (o := { dst := some 37, op := Op.load 53 (Operand.tmp 36), type := 53, pos := "law.go:72", after := #[{ on := 11, ground := Ground.data }], guard := none }) (v := .agg #[.int .i64 d0, .int .i64 d1]) (by kernel_rfl) (by kernel_rfl) (by kernel_rfl) (by kernel_rfl) (fun _ _ _ h => h) (by kernel_rfl) (fun _ h => ex_l_dot (p := ((ad.add (k * 6)))) rfl (by kernel_rfl) (h.t.c0) (h.t.c1)) hH0 ?_
            refine held_callX (i := 6) (o := { dst := some 31, op := Op.call { callee := Callee.value (Operand.func 23), args := #[Operand.tmp 25, Operand.tmp 30], argTypes := #[23, 53] }, type := 4, pos := "law.go:72", after := #[{ on := 0, ground := Ground.data }, { on := 5, ground := Ground.data }], guard := none }) (F := 23) (vs := #[.slice uo m uc, .agg #[.int .i64 d0, .int .i64 d1]]) (by kernel_rfl) (by kernel_rfl) (by kernel_rfl) (fun _ => by kernel_rfl) (SU2 _ hH0.below) ?_
            rintro e w1 ⟨rfl, hb1⟩
            have hH1 := hH0.on hb1
            refine ⟨.bool b9, rfl, hH1, ?_⟩
            refine held_callX (i := 13) (o := { dst := some 38, op := Op.call { callee := Callee.value (Operand.func 23), args := #[Operand.tmp 32, Operand.tmp 37], argTypes := #[23, 53] }, type := 4, pos := "law.go:72", after := #[{ on := 7, ground := Ground.data }, { on := 12, ground := Ground.data }, { on := 6, ground := Ground.chain }], guard := none }) (F := 23) (vs := #[.slice xo q xc, .agg #[.int .i64 d0, .int .i64 d1]]) (by kernel_rfl) (by kernel_rfl) (by kernel_rfl) (fun _ => by kernel_rfl) (SX2 _ hH1.below) ?_
            rintro e w2 ⟨rfl, hb2⟩
            have hH2 := hH1.on hb2
            refine ⟨.bool b9, rfl, hH2, ?_⟩
            refine held_take (i := 14) (o := { dst := some 39, op := Op.binOp BinOp.neq 4 (Operand.tmp 31) (Operand.tmp 38) 4, type := 4, pos := "law.go:72", after := #[{ on := 6, ground := Ground.data }, { on := 13, ground := Ground.data }], guard := none }) (v := .bool false) (by kernel_rfl) (by kernel_rfl) (by kernel_rfl) (by kernel_rfl) (fun _ _ _ h => h) (by kernel_rfl) (fun W _ => exec_bin rfl (by kernel_rfl) (by kernel_rfl) (fun _ => by kernel_rfl) (neqb_same b9) W) hH2 ?_
            refine wpAnyH_done (by kernel_rfl) ?_ _
            simp only [Act.put, List.setIfInBounds_toArray, List.set_cons_zero, List.set_cons_succ]
            go_wp2
            go_roundw
            case rel => exact ⟨k + 1, by omega, by go_num, HK3, bchain hbw hH2.below⟩
            case measure => simp [intOf]; omega
          · generalize su (d0, d1) = b9 at *
            generalize sx (d0, d1) = c9 at *
            clear HK2
            go_wp2
            refine wp_region_held_drew (S := fun W => PaS wr (ad.add (k * 6)) ⟨(d0, d1), tu, tt, th, os9⟩ ov W) (by kernel_rfl) (⟨hX.on (Below.refl _ _).drew, (Below.refl _ _).drew⟩) (fun hH0 => ?_)
            refine held_take (i := 0) (o := { dst := some 25, op := Op.move (Operand.tmp 1), type := 23, pos := "law.go:72", after := #[], guard := none }) (v := .slice uo m uc) (by kernel_rfl) (by kernel_rfl) (by kernel_rfl) (by kernel_rfl) (fun _ _ _ h => h) (by kernel_rfl) (fun _ _ => by kernel_rfl) hH0 ?_
            refine held_take (i := 1) (o := { dst := some 26, op := Op.move (Operand.tmp 0), type := 22, pos := "law.go:72", after := #[], guard := none }) (v := .slice (some ad) n cap) (by kernel_rfl) (by kernel_rfl) (by kernel_rfl) (by kernel_rfl) (fun _ _ _ h => h) (by kernel_rfl) (fun _ _ => by kernel_rfl) hH0 ?_
            refine held_take (i := 2) (o := { dst := some 27, op := Op.move (Operand.tmp 7), type := 3, pos := "law.go:72", after := #[], guard := none }) (v := .int .i64 (k : Int)) (by kernel_rfl) (by kernel_rfl) (by kernel_rfl) (by kernel_rfl) (fun _ _ _ h => h) (by kernel_rfl) (fun _ _ => by kernel_rfl) hH0 ?_
            refine held_take (i := 3) (o := { dst := some 28, op := Op.indexAddr 22 (Operand.tmp 26) (Operand.tmp 27), type := 0, pos := "law.go:72", after := #[{ on := 1, ground := Ground.data }, { on := 2, ground := Ground.data }], guard := none }) (v := .pointer (some ((ad.add (k * 6))))) (by kernel_rfl) (by kernel_rfl) (by kernel_rfl) (by kernel_rfl) (fun _ _ _ h => h) (by kernel_rfl) (fun W _ => ex_i_txns (n := n) (c := cap) (k := k) rfl (by kernel_rfl) (by kernel_rfl) hkn W) hH0 ?_
            refine held_take (i := 4) (o := { dst := some 29, op := Op.fieldAddr 56 (Operand.tmp 28) 0, type := 0, pos := "law.go:72", after := #[{ on := 3, ground := Ground.data }], guard := none }) (v := .pointer (some ((ad.add (k * 6))))) (by kernel_rfl) (by kernel_rfl) (by kernel_rfl) (by kernel_rfl) (fun _ _ _ h => h) (by kernel_rfl) (fun W _ => ex_f_txn_0 (p := ((ad.add (k * 6)))) rfl (by kernel_rfl) W) hH0 ?_
            refine held_take (i := 5) (o := { dst := some 30, op := Op.load 53 (Operand.tmp 29), type := 53, pos := "law.go:72", after := #[{ on := 4, ground := Ground.data }], guard := none }) (v := .agg #[.int .i64 d0, .int .i64 d1]) (by kernel_rfl) (by kernel_rfl) (by kernel_rfl) (by kernel_rfl) (fun _ _ _ h => h) (by kernel_rfl) (fun _ h => ex_l_dot (p := ((ad.add (k * 6)))) rfl (by kernel_rfl) (h.t.c0) (h.t.c1)) hH0 ?_
            refine held_take (i := 7) (o := { dst := some 32, op := Op.move (Operand.tmp 2), type := 23, pos := "law.go:72", after := #[], guard := none }) (v := .slice xo q xc) (by kernel_rfl) (by kernel_rfl) (by kernel_rfl) (by kernel_rfl) (fun _ _ _ h => h) (by kernel_rfl) (fun _ _ => by kernel_rfl) hH0 ?_
            refine held_take (i := 8) (o := { dst := some 33, op := Op.move (Operand.tmp 0), type := 22, pos := "law.go:72", after := #[], guard := none }) (v := .slice (some ad) n cap) (by kernel_rfl) (by kernel_rfl) (by kernel_rfl) (by kernel_rfl) (fun _ _ _ h => h) (by kernel_rfl) (fun _ _ => by kernel_rfl) hH0 ?_
            refine held_take (i := 9) (o := { dst := some 34, op := Op.move (Operand.tmp 7), type := 3, pos := "law.go:72", after := #[], guard := none }) (v := .int .i64 (k : Int)) (by kernel_rfl) (by kernel_rfl) (by kernel_rfl) (by kernel_rfl) (fun _ _ _ h => h) (by kernel_rfl) (fun _ _ => by kernel_rfl) hH0 ?_
            refine held_take (i := 10) (o := { dst := some 35, op := Op.indexAddr 22 (Operand.tmp 33) (Operand.tmp 34), type := 0, pos := "law.go:72", after := #[{ on := 8, ground := Ground.data }, { on := 9, ground := Ground.data }], guard := none }) (v := .pointer (some ((ad.add (k * 6))))) (by kernel_rfl) (by kernel_rfl) (by kernel_rfl) (by kernel_rfl) (fun _ _ _ h => h) (by kernel_rfl) (fun W _ => ex_i_txns (n := n) (c := cap) (k := k) rfl (by kernel_rfl) (by kernel_rfl) hkn W) hH0 ?_
            refine held_take (i := 11) (o := { dst := some 36, op := Op.fieldAddr 56 (Operand.tmp 35) 0, type := 0, pos := "law.go:72", after := #[{ on := 10, ground := Ground.data }], guard := none }) (v := .pointer (some ((ad.add (k * 6))))) (by kernel_rfl) (by kernel_rfl) (by kernel_rfl) (by kernel_rfl) (fun _ _ _ h => h) (by kernel_rfl) (fun W _ => ex_f_txn_0 (p := ((ad.add (k * 6)))) rfl (by kernel_rfl) W) hH0 ?_
            refine held_take (i := 12) (o := { dst := some 37, op := Op.load 53 (Operand.tmp 36), type := 53, pos := "law.go:72", after := #[{ on := 11, ground := Ground.data }], guard := none }) (v := .agg #[.int .i64 d0, .int .i64 d1]) (by kernel_rfl) (by kernel_rfl) (by kernel_rfl) (by kernel_rfl) (fun _ _ _ h => h) (by kernel_rfl) (fun _ h => ex_l_dot (p := ((ad.add (k * 6)))) rfl (by kernel_rfl) (h.t.c0) (h.t.c1)) hH0 ?_
            refine held_callX (i := 6) (o := { dst := some 31, op := Op.call { callee := Callee.value (Operand.func 23), args := #[Operand.tmp 25, Operand.tmp 30], argTypes := #[23, 53] }, type := 4, pos := "law.go:72", after := #[{ on := 0, ground := Ground.data }, { on := 5, ground := Ground.data }], guard := none }) (F := 23) (vs := #[.slice uo m uc, .agg #[.int .i64 d0, .int .i64 d1]]) (by kernel_rfl) (by kernel_rfl) (by kernel_rfl) (fun _ => by kernel_rfl) (SU2 _ hH0.below) ?_
            rintro e w1 ⟨rfl, hb1⟩
            have hH1 := hH0.on hb1
            refine ⟨.bool b9, rfl, hH1, ?_⟩
            refine held_callX (i := 13) (o := { dst := some 38, op := Op.call { callee := Callee.value (Operand.func 23), args := #[Operand.tmp 32, Operand.tmp 37], argTypes := #[23, 53] }, type := 4, pos := "law.go:72", after := #[{ on := 7, ground := Ground.data }, { on := 12, ground := Ground.data }, { on := 6, ground := Ground.chain }], guard := none }) (F := 23) (vs := #[.slice xo q xc, .agg #[.int .i64 d0, .int .i64 d1]]) (by kernel_rfl) (by kernel_rfl) (by kernel_rfl) (fun _ => by kernel_rfl) (SX2 _ hH1.below) ?_
            rintro e w2 ⟨rfl, hb2⟩
            have hH2 := hH1.on hb2
            refine ⟨.bool c9, rfl, hH2, ?_⟩
            refine held_take (i := 14) (o := { dst := some 39, op := Op.binOp BinOp.neq 4 (Operand.tmp 31) (Operand.tmp 38) 4, type := 4, pos := "law.go:72", after := #[{ on := 6, ground := Ground.data }, { on := 13, ground := Ground.data }], guard := none }) (v := .bool true) (by kernel_rfl) (by kernel_rfl) (by kernel_rfl) (by kernel_rfl) (fun _ _ _ h => h) (by kernel_rfl) (fun W _ => exec_bin rfl (by kernel_rfl) (by kernel_rfl) (fun _ => by kernel_rfl) (neqb_not he) W) hH2 ?_
            refine wpAnyH_done (by kernel_rfl) ?_ _
            simp only [Act.put, List.setIfInBounds_toArray, List.set_cons_zero, List.set_cons_succ]
            go_wp2_with (go_at_call 8; refine (awake_any _ (hkp.on (bchain kr hH2.below))).mono ?_; rintro e w9 ⟨rfl, hb9⟩)
            go_ret
            exact ⟨rfl, bchain kr (bchain hH2.below hb9)⟩
        · have hall : ∀ t ∈ ts, su t.d = sx t.d := by
            have h := HK.out
            rw [List.take_of_length_le (by rw [← HN.out]; omega)] at h
            exact h
          obtain rfl := HA.out hall
          have HF : Hid (FineI iu) := HU.out.fine
          have HC20 : Hid (∀ va vb W, EntsAt (Vw.of iu) W va → EntsAt (Vw.of iu) W vb → Calls Tryz.prog 20 #[va, vb] W fun e w' => e = .returned (.bool true) ∧ Below W.heap.size W w') := by
            have h : ∀ va vb W, EntsAt (Vw.of iu) W va → EntsAt (Vw.of iu) W vb → Calls Tryz.prog 20 #[va, vb] W fun e w' => e = .returned (.bool true) ∧ Below W.heap.size W w' := fun va vb W a b => (esC (fine_of HU.out.fine (by have := HU.out.len; omega)) (of_few HU.out.len)).c20 a b
            exact h
          clear hall SU SX HK HA
          go_wp2_with (first
            | (go_at_call 8; refine (awake_any _ (hkp.on (bchain kr j5))).mono ?_; rintro e v6 ⟨rfl, hc6⟩)
            | (go_at_call 20; refine (HC20.out _ _ _ (hE2.on (bchain hc3 hc4)) hE4).mono ?_; rintro e v5 ⟨rfl, hc5⟩; have j5 := bchain j4 hc5)
            | (go_at_call 11; refine (of_at hX3 HF.out).mono ?_; rintro e v4 ⟨e4, rfl, hE4, hc4⟩; have j4 := bchain j3 hc4)
            | (go_at_call 9; refine (HX.out.all _ (bchain kr j2)).mono ?_; rintro e v3 ⟨r3, rfl, hX3, hc3⟩; have j3 := bchain j2 hc3)
            | (go_at_call 11; refine (of_at hX1 HF.out).mono ?_; rintro e v2 ⟨e2, rfl, hE2, hc2⟩; have j2 := bchain hc1 hc2)
            | (go_at_call 9; refine (HU.out.all _ kr).mono ?_; rintro e v1 ⟨r1, rfl, hX1, hc1⟩))
          go_ret
          exact ⟨rfl, bchain kr (bchain j5 hc6)⟩
end Go.Proofs.YthlhopdlkkeohaaGreatDoor.O

