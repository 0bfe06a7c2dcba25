/- The chapter's example: a = 1 2 · Loads of entries; what the program's calls tell of the transactions' items, gathered for the walks. -/
import Derived.Test.YthlhopdlkkeohaaGreatDoorEFinesAll
import Derived.Test.YthlhopdlkkeohaaGreatDoorOpSameAll
/- The chapter's example: a = 1 2. -/
namespace Go.Proofs.YthlhopdlkkeohaaGreatDoor.O
open Go.RowKit

theorem strs_one (w : World) (a : List UInt8) : U.strsAt (w.alloc (.cells #[.string ⟨a.toArray⟩] 9)) (.slice (some ⟨w.heap.size, 0, none⟩) 1 1) [a] := by
  refine ⟨_, 1, rfl, Nat.le_refl _, fun k hk => ⟨_, rfl, ?_⟩⟩
  match k, hk with
  | 0, _ => simp [Addr.add]
  | k + 1, h => simp at h
theorem ops_two (w : World) (a b : Os.Op) (pa sa pb sb : Value) (ha : U.strsAt w pa a.p) (hb : U.strsAt w pb b.p) (la : refsIn w sa a.l) (lb : refsIn w sb b.l) :
    opsIn (w.alloc (.cells #[.int .i64 a.k, pa, .int .i64 a.vk, .int .i64 a.vn, .string ⟨a.vs.toArray⟩, .int .i64 a.n, sa, .int .i64 b.k, pb, .int .i64 b.vk, .int .i64 b.vn, .string ⟨b.vs.toArray⟩, .int .i64 b.n, sb] 65)) (.slice (some ⟨w.heap.size, 0, none⟩) 2 2) [a, b] := by
  have k0 := below_new w (.cells #[.int .i64 a.k, pa, .int .i64 a.vk, .int .i64 a.vn, .string ⟨a.vs.toArray⟩, .int .i64 a.n, sa, .int .i64 b.k, pb, .int .i64 b.vk, .int .i64 b.vn, .string ⟨b.vs.toArray⟩, .int .i64 b.n, sb] 65)
  refine ⟨_, 2, rfl, Nat.le_refl _, fun e => by simp at e, fun k hk => ?_⟩
  match k, hk with
  | 0, _ => exact ⟨_, pa, sa, rfl, ⟨by simp [Addr.add], by simp [Addr.add], by simp [Addr.add], by simp [Addr.add], by simp [Addr.add], by simp [Addr.add], by simp [Addr.add]⟩, U.strsAt_below ha k0 (Nat.le_refl _), la.on k0⟩
  | 1, _ => exact ⟨_, pb, sb, rfl, ⟨by simp [Addr.add], by simp [Addr.add], by simp [Addr.add], by simp [Addr.add], by simp [Addr.add], by simp [Addr.add], by simp [Addr.add]⟩, U.strsAt_below hb k0 (Nat.le_refl _), lb.on k0⟩
  | k + 2, h => exact absurd h (by simp)
theorem txs_one (w : World) (a : Tx.Txn) (ova : Value) (ha : opsIn w ova a.ops) :
    txsIn (w.alloc (.cells #[.int .i64 a.d.1, .int .i64 a.d.2, .int .i64 a.u, .int .i64 a.t, .bool a.thin, ova] 56)) (.slice (some ⟨w.heap.size, 0, none⟩) 1 1) [a] := by
  have k0 := below_new w (.cells #[.int .i64 a.d.1, .int .i64 a.d.2, .int .i64 a.u, .int .i64 a.t, .bool a.thin, ova] 56)
  refine ⟨_, 1, rfl, Nat.le_refl _, fun e => by simp at e, fun k hk => ?_⟩
  match k, hk with
  | 0, _ => exact ⟨_, ova, rfl, ⟨by simp [Addr.add], by simp [Addr.add], by simp [Addr.add], by simp [Addr.add], by simp [Addr.add], by simp [Addr.add]⟩, ha.on k0⟩
  | k + 1, h => exact absurd h (by simp)
abbrev vxO1 : Os.Op := ⟨1, [[97]], 1, 2, [], 0, []⟩
abbrev vxO2 : Os.Op := ⟨1, [[97]], 1, 1, [], 0, []⟩
abbrev vxT : Tx.Txn := ⟨(0, 1), 0, 1, false, [vxO1, vxO2]⟩
abbrev vxIts : List Lv.Item := [⟨((0, 1), 0), vxO1, 1⟩, ⟨((0, 1), 1), vxO2, 1⟩]
theorem vx_all : Lv.all [vxT] (seenD []) = vxIts := by rfl
theorem vx_few : Few13 [vxT] := fun t ht => by
  rw [List.mem_singleton.1 ht]
  exact ⟨by decide, fun o ho => by
    simp only [List.mem_cons, List.not_mem_nil, or_false] at ho
    rcases ho with rfl | rfl <;> exact ⟨by decide, fun x hx => by simp at hx⟩⟩
theorem vx_dots : ∀ t ∈ [vxT], (Lit.int .i64 t.d.1).wf = true ∧ (Lit.int .i64 t.d.2).wf = true := fun t ht => by
  rw [List.mem_singleton.1 ht]
  exact ⟨by decide, by decide⟩
theorem vx_fine : FineI vxIts := fun i hi => by
  simp only [vxIts, List.mem_cons, List.not_mem_nil, or_false] at hi
  rcases hi with rfl | rfl <;> exact ⟨by decide +kernel, by decide +kernel, by decide +kernel⟩
theorem vx_text : linesE (Vw.of vxIts) = [97, 32, 61, 32, 49, 32, 50, 10] := by decide +kernel
theorem vx_its {w : World} {r : Value} {xs : List IE} (h1 : itsE w r xs) (h2 : xs.map (·.1) = vxIts) : ItsAt vxIts w r := by
  refine ⟨xs, h1, h2, fun x hx => ?_, ?_⟩
  · have hm : x.1 ∈ vxIts := by rw [← h2]; exact List.mem_map.2 ⟨x, hx, rfl⟩
    exact (vx_fine _ hm).2.1
  · have h := congrArg List.length h2
    rw [List.length_map] at h
    rw [h]
    decide
theorem vx_len : (Vw.of vxIts).length ≤ 100000 := Nat.le_trans (Vw.of_len _) (by decide)
abbrev vxOps (pv : Value) : Obj := .cells #[.int .i64 1, pv, .int .i64 1, .int .i64 2, .string ⟨#[]⟩, .int .i64 0, .slice none 0 0, .int .i64 1, pv, .int .i64 1, .int .i64 1, .string ⟨#[]⟩, .int .i64 0, .slice none 0 0] 65
abbrev vxTxn (b : Nat) : Obj := .cells #[.int .i64 0, .int .i64 1, .int .i64 0, .int .i64 1, .bool false, .slice (some ⟨b, 0, none⟩) 2 2] 56
theorem vx_calls (w : World) (pv : Value) (hp : U.strsAt w pv [[97]]) : Calls Tryz.prog 9 #[.slice (some ⟨w.heap.size + 1, 0, none⟩) 1 1, .slice none 0 0] ((w.alloc (vxOps pv)).alloc (vxTxn w.heap.size)) fun e w' => ∃ r, e = .returned r ∧ Hid (ItsAt vxIts w' r) ∧ Below w.heap.size w w' := by
  have O2 := ops_two w vxO1 vxO2 pv (.slice none 0 0) pv (.slice none 0 0) hp hp (refsIn_nil _) (refsIn_nil _)
  have T3 := txs_one (w.alloc (vxOps pv)) vxT (.slice (some ⟨w.heap.size, 0, none⟩) 2 2) O2
  rw [World.size_alloc] at T3
  refine (all_any _ (.slice none 0 0) [vxT] [] _ T3 (T.cntsIn_nil _) (by decide) vx_few vx_dots (by simp) Ct.std_nil).mono ?_
  rintro e w' ⟨r, xs, e1, h1, h2, h3⟩
  rw [vx_all] at h2
  exact ⟨r, e1, vx_its h1 h2, bchain (below_new2 _ _ _) h3⟩
theorem vx_told {w : World} {r : Value} (hk : N.Keeps w) (h : EntsAt (Vw.of vxIts) w r) : Calls Tryz.prog 18 #[r] w fun e w' => e = .returned (.string ⟨#[97, 32, 61, 32, 49, 32, 50, 10]⟩) ∧ Below w.heap.size w w' := by
  have a := text_at hk h (fine_of vx_fine (by decide)) vx_len
  rw [vx_text] at a
  exact a

set_option maxRecDepth 20000 in
theorem num_any (n : Int) (w : World) : Calls Tryz.prog 26 #[.int .i64 n] w fun e w' => e = .returned (.agg #[.int .i64 1, .int .i64 n, .string ⟨#[]⟩]) ∧ Below w.heap.size w w' := by
  go_enter Tryz.func26, Tryz.ntmps26
  go_wp2
  refine bodyPost_ret (v := .agg #[.int .i64 1, .int .i64 n, .string ⟨#[]⟩]) (by simp [results, Tryz.results26, go_sem]) rfl ⟨rfl, below_new _ _⟩

set_option maxRecDepth 20000 in
set_option maxHeartbeats 4000000 in
theorem awake_any (w : World) (hk : N.Keeps w) : Calls Tryz.prog 8 #[] w fun e w' => e = .returned (.bool true) ∧ Below w.heap.size w w' := by
  have b0 := below_new w (.cells #[.string ⟨#[97]⟩] 9)
  have p0 := strs_one w [97]
  have HV : Hid (FineI vxIts) := vx_fine
  go_enter Tryz.func8, Tryz.ntmps8
  go_wp2_with (first
    | (go_at_call 26; refine (num_any 2 _).mono ?_; rintro e w1 ⟨rfl, hb1⟩; have p1 := U.strsAt_below p0 hb1 (Nat.le_refl _); have k1 := bchain b0 hb1)
    | (go_at_call 26; refine (num_any 1 _).mono ?_; rintro e w2 ⟨rfl, hb2⟩; have p2 := U.strsAt_below p1 hb2 (Nat.le_refl _); have k2 := bchain k1 hb2)
    | (go_at_call 9; refine (vx_calls w2 _ p2).mono ?_; rintro e w3 ⟨r3, rfl, h3, hb3⟩; have k3 := bchain k2 hb3)
    | (go_at_call 11; refine (of_at h3.out HV.out).mono ?_; rintro e w4 ⟨r4, rfl, h4, hb4⟩; have k4 := bchain k3 hb4)
    | (go_at_call 18; refine (vx_told (hk.on k4) h4).mono ?_; rintro e w5 ⟨rfl, hb5⟩))
  go_ret
  exact ⟨rfl, bchain k4 hb5⟩
end Go.Proofs.YthlhopdlkkeohaaGreatDoor.O
/- Loads of entries; what the program's calls tell of the transactions' items, gathered for the walks. -/
namespace Go.Proofs.YthlhopdlkkeohaaGreatDoor.O
open Go.RowKit
section
variable {o : Oper} {a : Act} {w : World} {x : Operand} {p : Addr}
theorem ex_l_ent {v0 v1 v2 v3 : Value} (ho : o.op = .load 38 x) (hx : a.eval x = .pointer (some p)) (h0 : w.cell? p = some v0) (h1 : w.cell? ⟨p.block, p.off + 1, none⟩ = some v1) (h2 : w.cell? ⟨p.block, p.off + 2, none⟩ = some v2) (h3 : w.cell? ⟨p.block, p.off + 3, none⟩ = some v3) : (execOp a.eval o).run Tryz.prog w = .ok (.value (.agg #[v0, v1, v2, v3])) w := by
  unfold execOp
  simp only [ho, hx, Sem.run_bind]
  go_simp
end
theorem neqs_same (x : ByteArray) (w : World) : (binOp .neq 9 (.string x) (.string x)).run Tryz.prog w = .ok (.bool false) w := by go_simp
theorem neqb_not {a b : Bool} (h : a ≠ b) (w : World) : (binOp .neq 4 (.bool a) (.bool b)).run Tryz.prog w = .ok (.bool true) w := by
  cases a <;> cases b <;> first | exact absurd rfl h | go_simp

/-- What live.All tells of transactions that may be, and of right counts. -/
structure VwT (w : World) (v vu : Value) (its : List Lv.Item) : Prop where
  all : AllC 9 w v vu its
  fine : FineI its
  len : its.length ≤ 100000
theorem vwT {v vu : Value} {ts : List Tx.Txn} {u : List U} {w : World} (hv : txsIn w v ts) (hu : T.cntsIn w vu u) (hg : good13 ts u = true) : VwT w v vu (Lv.all ts (seenD u)) := by
  obtain ⟨⟨h20, hr, hok⟩, h100, hstd⟩ := good13_parts hg
  refine ⟨allC hv hu (by omega) hok (by omega) hstd, all_fine hok, ?_⟩
  have h := Lv.allBy_len (B := 1000) (l := ts) (cov := Lv.covered ts (seenD u)) (sn := seenD u) fun t ht => (okT_few (hok t ht)).1
  unfold Lv.all
  omega
/-- What the calls tell of entries. -/
structure EsC (es : List Vw.Entry) (n : Nat) (TX : ByteArray) : Prop where
  len : es.length = n
  few : n ≤ 100000
  fine : ∀ e ∈ es, EFine e
  c18 : ∀ {va W}, N.Keeps W → EntsAt es W va → Calls Tryz.prog 18 #[va] W fun e w' => e = .returned (.string TX) ∧ Below W.heap.size W w'
  c20 : ∀ {va vb W}, EntsAt es W va → EntsAt es W vb → Calls Tryz.prog 20 #[va, vb] W fun e w' => e = .returned (.bool true) ∧ Below W.heap.size W w'
theorem esC {es : List Vw.Entry} (hf : ∀ e ∈ es, EFine e) (hn : es.length ≤ 100000) : EsC es es.length ⟨(linesE es).toArray⟩ :=
  ⟨rfl, hn, hf, fun hk ha => text_at hk ha hf hn, fun ha hb => same_at ha hb hf hn⟩
/-- What the calls tell of items. -/
structure ItC (w : World) (vp : Value) (its : List Lv.Item) (es : List Vw.Entry) (n : Nat) (p : List (List UInt8)) (z : Int) (l0 : List Rg.Va) (n0 : Int) : Prop where
  c11 : ∀ {r W}, ItsAt its W r → Calls Tryz.prog 11 #[r] W fun e w' => ∃ ea ec, e = .returned (.slice ea n ec) ∧ EntsAt es w' (.slice ea n ec) ∧ Below W.heap.size W w'
  c13 : ∀ {r W}, ItsAt its W r → Below w.heap.size w W → Calls Tryz.prog 13 #[r, vp, .int .i64 z] W fun e w' => ∃ pa pn pc ra rk, e = .returned (entV (.slice pa pn pc) z (.slice ra l0.length rk) n0) ∧ EOk w' (⟨p, z, l0, n0⟩, .slice pa pn pc, .slice ra l0.length rk) ∧ Below W.heap.size W w'
theorem itC11 {its : List Lv.Item} {r : Value} {W : World} (hf : FineI its) (h : ItsAt its W r) : Calls Tryz.prog 11 #[r] W fun e w' => ∃ ea ec, e = .returned (.slice ea (Vw.of its).length ec) ∧ EntsAt (Vw.of its) w' (.slice ea (Vw.of its).length ec) ∧ Below W.heap.size W w' :=
  (of_at h hf).mono fun e w' ⟨q, e1, e2, e3⟩ => by
    obtain ⟨ea, ec, rfl⟩ := e2.slice
    exact ⟨ea, ec, e1, e2, e3⟩
theorem itC {w : World} {vp : Value} {its : List Lv.Item} {p : List (List UInt8)} (hf : FineI its) (hp : U.strsAt w vp p) (hn : p.length ≤ 1000000) (z : Int) : ItC w vp its (Vw.of its) (Vw.of its).length p z (Vw.at' its p z).l (Vw.at' its p z).n where
  c11 h := itC11 hf h
  c13 h hb := (at_at h hf (U.strsAt_below hp hb (Nat.le_refl _)) hn).mono fun e w' ⟨pa, pn, pc, ra, rn, rk, e1, e2, e3, e4⟩ => by
    subst e3
    exact ⟨pa, pn, pc, ra, rk, e1, e2, e4⟩
theorem few_short {p : List (List UInt8)} (h : Pt.short p = true) : U.Few p := Pt.short_iff h
theorem of_few {its : List Lv.Item} (h : its.length ≤ 100000) : (Vw.of its).length ≤ 100000 := Nat.le_trans (Vw.of_len _) h
end Go.Proofs.YthlhopdlkkeohaaGreatDoor.O
