/- The walk of reg's Latest · The walk of the document's Latest · What reg tells, both sides, by the items alone. -/
import Derived.Test.YtmnjeffpfmfbiaaVMax
import Derived.Test.YtmnjeffpfmfbiaaEx
import Derived.Test.YtmnjeffpfmfbiaaCoversAll
/- The walk of reg's Latest. -/
namespace Go.Proofs.Ytmnjeffpfmfbiaa.O
open Go.RowKit

/-- The value that was put last; the zero one. -/
def latV (l : List Lv.Item) : Rg.Va := match Rg.last l with | none => (0, 0, []) | some i => Rg.valOf i
theorem latV_nil : latV [] = (0, 0, []) := rfl
theorem latV_cons (b : IE) (r : List IE) : latV ((b :: r).map (·.1)) = Rg.valOf (lastE b r).1 := by
  rw [lastE_map]; rfl
/-- A variable holds this value. -/
def VVar (w : World) (b : Nat) (x : Rg.Va) : Prop := w.heap[b]? = some (.cells (vcell x).toArray 33 (0, 0))
theorem VVar.cells {w : World} {b : Nat} {x : Rg.Va} (h : VVar w b x) : ∀ j v, (vcell x)[j]? = some v → w.cell? ((⟨b, 0, none⟩ : Addr).add j) = some v := fun j v hv => by
  rw [zero_add9, cell_of_row _ b j _ 33 (0, 0) h]
  simpa using hv
theorem VVar.at {w : World} {b : Nat} {x : Rg.Va} (h : VVar w b x) : VcAt w ⟨b, 0, none⟩ x := VcAt.of h.cells
theorem VVar.on {w w' : World} {b : Nat} {x : Rg.Va} (h : VVar w b x) (hb : Below w.heap.size w w') : VVar w' b x := (hb.block b (Array.getElem?_eq_some_iff.1 h).1).trans h
theorem VVar.set {w : World} {b : Nat} {x : Rg.Va} (h : VVar w b x) (y : Rg.Va) : VVar (w.setRow b (vcell y).toArray) b y := setRow_heap w b _ _ 33 (0, 0) h
theorem VVar.new (w : World) (x : Rg.Va) : VVar (w.alloc (vO x)) w.heap.size x := heap_alloc_new w _

set_option maxRecDepth 20000 in
set_option maxHeartbeats 2000000 in
theorem latest_any (v vp : Value) (xs : List IE) (p : List (List UInt8)) (w : World) (hv : itsE w v xs) (hp : U.strsAt w vp p) (hn : xs.length ≤ 1000000) (hs : ShortI xs) :
    Calls Try.prog 10 #[v, vp] w fun e w' => e = .returned (.tuple #[vV (latV ((xs.filter fun x => isAt p 1 x.1).map (·.1))), .bool (!(xs.filter fun x => isAt p 1 x.1).isEmpty)]) ∧ Below w.heap.size w w' := by
  obtain ⟨W0, hW0⟩ : ∃ W0, W0 = w.alloc (vO (0, 0, [])) := ⟨_, rfl⟩
  have B0 : Below w.heap.size w W0 := by rw [hW0]; exact below_new _ _
  have V0 : VVar W0 w.heap.size (0, 0, []) := by rw [hW0]; exact VVar.new w _
  have HC := puts_any v vp xs p W0 (hv.on B0) (U.strsAt_below hp B0 (Nat.le_refl _)) hn hs
  have hn1 : (xs.filter fun x => isAt p 1 x.1).length ≤ 1000000 := Nat.le_trans (List.length_filter_le _ _) hn
  have hok : ∀ x ∈ (xs.filter fun x => isAt p 1 x.1), IOk w x := fun x hx => hv.2 x (List.mem_filter.1 hx).1
  clear hv hp hs hn
  generalize (xs.filter fun x => isAt p 1 x.1) = ys at *
  match ys, hn1, hok, HC with
  | [], hn1, hok, HC =>
    rw [show latV (List.map (·.1) ([] : List IE)) = (0, 0, []) from rfl, show (!([] : List IE).isEmpty) = false from rfl]
    clear hok
    go_enter Try.func10, Try.ntmps10
    have hs1 : (Try.prog.info? 33).map (·.size) = some (vcell (0, 0, [])).length := vsize33 rfl
    go_wp2_with (first
      | (go_at_call 27; rw [← hW0]; refine HC.mono ?_; rintro e w1 ⟨r, rfl, hr, hb1⟩; obtain ⟨ao, cap, rfl⟩ := hr.slice; have V1 := V0.on hb1; obtain ⟨r0, r1, r2⟩ := (V1.set (0, 0, [])).at; simp only [Nat.zero_add] at r1 r2)
      | (refine store_var rfl 33 _ _ rfl w.heap.size (vcell (0, 0, [])) _ 33 rfl rfl V1 hs1 rfl (vcell_one _) ?_)
      | go_in)
    refine bodyPost_ret (v := .tuple #[.agg #[.int .i64 0, .int .i64 0, .string ⟨#[]⟩], .bool false]) (by simp [results, Try.results10, go_sem, r0, r1, r2]) rfl ⟨rfl, below_setRow9 (bchain B0 hb1) (Nat.le_refl _) _⟩
  | b :: r, hn1, hok, HC =>
    rw [latV_cons, show (!(b :: r).isEmpty) = true from rfl]
    have hM : lastE b r ∈ b :: r := by
      rcases lastE_mem r b with e | e
      · rw [e]; simp
      · exact List.mem_cons_of_mem _ e
    have hL := hok _ hM
    have HMx := fun ao cap W (hW : itsE W (.slice ao (b :: r).length cap) (b :: r)) => maxFunc_any ao cap b r W hW hn1
    have hn0 : 0 < (b :: r).length := by simp
    have hne : ((((b :: r).length : Nat) : Int) == 0) = false := beq_eq_false_iff_ne.2 (by omega)
    obtain ⟨n, hn9⟩ : ∃ n, n = (b :: r).length := ⟨_, rfl⟩
    have HN : Hid (n = (b :: r).length) := hn9
    rw [← hn9] at hn0 hne
    have HMy : Hid (∀ ao cap W, itsE W (.slice ao n cap) (b :: r) → Calls Try.prog 28 #[.slice ao n cap, .func (.func 29) #[] #[]] W fun e w' => e = .returned (.agg (icell (lastE b r)).toArray) ∧ Below W.heap.size W w') := by rw [hn9]; exact HMx
    clear hn9 HMx hn1
    generalize lastE b r = L at *
    obtain ⟨it, pv, sv⟩ := L
    obtain ⟨pa, pn, pc, rfl⟩ := strs_slice hL.1
    obtain ⟨sa, sn, sc, rfl⟩ := refs_slice hL.2
    have HMz : Hid (∀ ao cap W, itsE W (.slice ao n cap) (b :: r) → Calls Try.prog 28 #[.slice ao n cap, .func (.func 29) #[] #[]] W fun e w' => e = .returned (.agg #[.int .i64 it.x.1.1, .int .i64 it.x.1.2, .int .i64 it.x.2, .int .i64 it.o.k, .slice pa pn pc, .int .i64 it.o.vk, .int .i64 it.o.vn, .string ⟨it.o.vs.toArray⟩, .int .i64 it.o.n, .slice sa sn sc, .int .i64 it.t]) ∧ Below W.heap.size W w') := by
      have h := HMy.out
      exact h
    clear hok hM hL HMy
    have hs1 : (Try.prog.info? 33).map (·.size) = some (vcell (Rg.valOf it)).length := vsize33 rfl
    go_enter Try.func10, Try.ntmps10
    go_wp2_with (first
      | (go_at_call 28; refine (HMz.out _ _ _ HR.out).mono ?_; rintro e w2 ⟨rfl, hb2⟩; have V2 := (V1.on hb2).on (below_new w2 (.cells #[.int .i64 it.x.1.1, .int .i64 it.x.1.2, .int .i64 it.x.2, .int .i64 it.o.k, .slice pa pn pc, .int .i64 it.o.vk, .int .i64 it.o.vn, .string ⟨it.o.vs.toArray⟩, .int .i64 it.o.n, .slice sa sn sc, .int .i64 it.t] 68)); have hB3 := bchain (bchain B0 hb1) (bchain hb2 (below_new w2 (.cells #[.int .i64 it.x.1.1, .int .i64 it.x.1.2, .int .i64 it.x.2, .int .i64 it.o.k, .slice pa pn pc, .int .i64 it.o.vk, .int .i64 it.o.vn, .string ⟨it.o.vs.toArray⟩, .int .i64 it.o.n, .slice sa sn sc, .int .i64 it.t] 68))); obtain ⟨r0, r1, r2⟩ := (V2.set (Rg.valOf it)).at; simp only [Nat.zero_add] at r1 r2)
      | (go_at_call 27; rw [← hW0]; refine HC.mono ?_; rintro e w1 ⟨r9, rfl, hr, hb1⟩; obtain ⟨ao, cap, e9⟩ := hr.slice; subst e9; rw [← HN.out] at hr ⊢; have HR : Hid (itsE w1 (.slice ao n cap) (b :: r)) := hr; have V1 := V0.on hb1; clear hr)
      | (refine store_var rfl 33 _ _ rfl w.heap.size (vcell (Rg.valOf it)) _ 33 rfl rfl V2 hs1 rfl (vcell_one _) ?_)
      | go_in)
    refine bodyPost_ret (v := .tuple #[.agg #[.int .i64 (Rg.valOf it).1, .int .i64 (Rg.valOf it).2.1, .string ⟨(Rg.valOf it).2.2.toArray⟩], .bool true]) (by simp [results, Try.results10, go_sem, r0, r1, r2]) rfl ⟨rfl, below_setRow9 hB3 (Nat.le_refl _) _⟩
end Go.Proofs.Ytmnjeffpfmfbiaa.O
/- The walk of the document's Latest. -/
namespace Go.Proofs.Ytmnjeffpfmfbiaa.O
open Go.RowKit

/-- An item in a slice, and one in a variable. -/
structure LtS (w : World) (p : Addr) (x : IE) (b : Nat) (y : IE) (W : World) : Prop where
  px : IcAt W p x
  pm : IcAt W ⟨b, 0, none⟩ y
  below : Below w.heap.size w W
theorem LtS.on {w : World} {p : Addr} {x : IE} {b : Nat} {y : IE} {W W' : World} (h : LtS w p x b y W) (hb : Below W.heap.size W W') : LtS w p x b y W' := ⟨h.px.on hb, h.pm.on hb, bchain h.below hb⟩
theorem eqi_yes {a b : Int} (h : a = b) (w : World) : (binOp .eql 3 (.int .i64 a) (.int .i64 b)).run Try.prog w = .ok (.bool true) w := by subst h; go_simp
theorem eqi_no {a b : Int} (h : a ≠ b) (w : World) : (binOp .eql 3 (.int .i64 a) (.int .i64 b)).run Try.prog w = .ok (.bool false) w := by
  have : (a == b) = false := beq_eq_false_iff_ne.2 h
  go_simp
/-- The last one of so many, step by step. -/
theorem la_facts (b : IE) (r xs : List IE) (hxs : xs = b :: r) : ∃ la : Nat → IE, la 1 = b ∧ la xs.length = lastE b r ∧ (∀ k (h : k < xs.length), la (k + 1) = if Rg.later xs[k].1 (la k).1 = true then xs[k] else la k) ∧ ∀ k, la k ∈ xs := by
  subst hxs
  refine ⟨fun k => lastE b ((b :: r).take k), ?_, ?_, fun k h => lastE_step b (b :: r) h, fun k => ?_⟩
  · show lastE b (List.take 1 (b :: r)) = b
    rw [List.take_succ_cons, List.take_zero, lastE_self]; rfl
  · show lastE b ((b :: r).take (b :: r).length) = _
    rw [List.take_length, lastE_self]
  · show lastE b ((b :: r).take k) ∈ b :: r
    rcases lastE_mem ((b :: r).take k) b with e | e
    · rw [e]; simp
    · exact List.mem_of_mem_take e
theorem later_time {a b : Lv.Item} (h : b.t < a.t) : Rg.later a b = true := Rg.later_iff.2 (.inl h)
theorem later_not {a b : Lv.Item} (h : a.t < b.t) : Rg.later a b = false := by
  unfold Rg.later
  exact decide_eq_false (by rintro (k | ⟨k, _⟩) <;> omega)
theorem later_tie {a b : Lv.Item} (h : a.t = b.t) : Rg.later a b = decide (0 < Os.comp a.x b.x) := by
  unfold Rg.later
  exact decide_eq_decide.2 ⟨by rintro (k | ⟨_, k⟩); (· omega); (· exact k), fun k => .inr ⟨h, k⟩⟩

set_option maxRecDepth 20000 in
set_option maxHeartbeats 4000000 in
theorem refLatest_any (v vp : Value) (xs : List IE) (p : List (List UInt8)) (w : World) (hv : itsE w v xs) (hp : U.strsAt w vp p) (hn : xs.length ≤ 1000000) (hpn : p.length ≤ 2000000) (hs : ShortI xs) :
    Calls Try.prog 11 #[v, vp] w fun e w' => e = .returned (.tuple #[vV (latV ((xs.filter fun x => isAt p 1 x.1).map (·.1))), .bool (!(xs.filter fun x => isAt p 1 x.1).isEmpty)]) ∧ Below w.heap.size w w' := by
  obtain ⟨W0, hW0⟩ : ∃ W0, W0 = w.alloc (vO (0, 0, [])) := ⟨_, rfl⟩
  have B0 : Below w.heap.size w W0 := by rw [hW0]; exact below_new _ _
  have V0 : VVar W0 w.heap.size (0, 0, []) := by rw [hW0]; exact VVar.new w _
  have hW1 : w.heap.size < W0.heap.size := by rw [hW0]; simp
  have HC := refAt_any v vp xs p 1 W0 (hv.on B0) (U.strsAt_below hp B0 (Nat.le_refl _)) hn hpn hs
  have hn1 : (xs.filter fun x => isAt p 1 x.1).length ≤ 1000000 := Nat.le_trans (List.length_filter_le _ _) hn
  have hok : ∀ x ∈ (xs.filter fun x => isAt p 1 x.1), IOk w x := fun x hx => hv.2 x (List.mem_filter.1 hx).1
  clear hv hp hs hn
  generalize (xs.filter fun x => isAt p 1 x.1) = ys at *
  match ys, hn1, hok, HC with
  | [], hn1, hok, HC =>
    rw [show latV (List.map (·.1) ([] : List IE)) = (0, 0, []) from rfl, show (!([] : List IE).isEmpty) = false from rfl]
    clear hok
    go_enter Try.func11, Try.ntmps11
    have hs1 : (Try.prog.info? 33).map (·.size) = some (vcell (0, 0, [])).length := vsize33 rfl
    go_wp2_with (first
      | (go_at_call 33; rw [← hW0]; refine HC.mono ?_; rintro e wz ⟨r, rfl, hr, hb1⟩; obtain ⟨ao, cap, rfl⟩ := hr.slice; have V1 := V0.on hb1; obtain ⟨r0, r1, r2⟩ := (V1.set (0, 0, [])).at; simp only [Nat.zero_add] at r1 r2)
      | (refine store_var rfl 33 _ _ rfl w.heap.size (vcell (0, 0, [])) _ 33 rfl rfl V1 hs1 rfl (vcell_one _) ?_)
      | go_in)
    refine bodyPost_ret (v := .tuple #[.agg #[.int .i64 0, .int .i64 0, .string ⟨#[]⟩], .bool false]) (by simp [results, Try.results11, go_sem, r0, r1, r2]) rfl ⟨rfl, below_setRow9 (bchain B0 hb1) (Nat.le_refl _) _⟩
  | b :: r, hn1, hok, HC =>
    rw [latV_cons, show (!(b :: r).isEmpty) = true from rfl]
    obtain ⟨xs', hxs⟩ : ∃ xs', xs' = b :: r := ⟨_, rfl⟩
    have hb0 : Hid (∃ h : 0 < xs'.length, xs'[0] = b) := by have h : ∃ h : 0 < xs'.length, xs'[0] = b := ⟨by rw [hxs]; simp, by subst hxs; rfl⟩; exact h
    obtain ⟨la, l1, l2, l3, l4⟩ := la_facts b r xs' hxs
    have HL : Hid (la 1 = b ∧ (∀ k (h : k < xs'.length), la (k + 1) = if Rg.later xs'[k].1 (la k).1 = true then xs'[k] else la k) ∧ ∀ k, la k ∈ xs') := by
      have h : la 1 = b ∧ (∀ k (h : k < xs'.length), la (k + 1) = if Rg.later xs'[k].1 (la k).1 = true then xs'[k] else la k) ∧ ∀ k, la k ∈ xs' := ⟨l1, l3, l4⟩
      exact h
    rw [← l2]
    rw [← hxs] at HC hok hn1
    obtain ⟨n, hn9⟩ : ∃ n, n = xs'.length := ⟨_, rfl⟩
    have HN : Hid (n = xs'.length) := hn9
    rw [← hn9] at hn1 ⊢
    have hn0 : 0 < n := by rw [hn9]; exact hb0.out.1
    have hne : ((n : Int) == 0) = false := beq_eq_false_iff_ne.2 (by omega)
    clear hn9 l1 l2 l3 l4 hxs
    have HOk : Hid (∀ x ∈ xs', IOk w x) := hok
    clear hok
    have hbi := HOk.out b (by rw [← hb0.out.2]; exact List.getElem_mem _)
    obtain ⟨bt, bp, bs⟩ := b
    obtain ⟨pa, pn, pc, rfl⟩ := strs_slice hbi.1
    obtain ⟨sa, sn, sc, rfl⟩ := refs_slice hbi.2
    have hone0 := icell_one hbi
    clear hbi
    go_enter Try.func11, Try.ntmps11
    go_wp2_with (first
      | (go_at_call 33; rw [← hW0]; refine HC.mono ?_; rintro e wz ⟨r9, rfl, hr, hb1⟩; obtain ⟨ao, cap, e9⟩ := hr.slice; subst e9; rw [← HN.out] at hr ⊢; have HV : Hid (itsE wz (.slice ao n cap) xs') := hr; have V1 := V0.on hb1; obtain ⟨ad, e9, -, hX, -⟩ := hr.get hb0.out.1; subst e9; rw [show ad.add (0 * 11) = ad by simp [Addr.add], hb0.out.2] at hX; obtain ⟨c0, c1, c2, c3, c4, c5, c6, c7, c8, c9, c10⟩ := hX; clear hr)
      | go_in)
    have M0 : IVar (wz.alloc (.cells #[.int .i64 bt.x.1.1, .int .i64 bt.x.1.2, .int .i64 bt.x.2, .int .i64 bt.o.k, .slice pa pn pc, .int .i64 bt.o.vk, .int .i64 bt.o.vn, .string ⟨bt.o.vs.toArray⟩, .int .i64 bt.o.n, .slice sa sn sc, .int .i64 bt.t] 71)) wz.heap.size (la 1) 71 := by rw [HL.out.1]; exact heap_alloc_new wz _
    have V2 : VVar (wz.alloc (.cells #[.int .i64 bt.x.1.1, .int .i64 bt.x.1.2, .int .i64 bt.x.2, .int .i64 bt.o.k, .slice pa pn pc, .int .i64 bt.o.vk, .int .i64 bt.o.vn, .string ⟨bt.o.vs.toArray⟩, .int .i64 bt.o.n, .slice sa sn sc, .int .i64 bt.t] 71)) w.heap.size (0, 0, []) := V1.on (below_new wz _)
    have hBn : Below wz.heap.size wz (wz.alloc (.cells #[.int .i64 bt.x.1.1, .int .i64 bt.x.1.2, .int .i64 bt.x.2, .int .i64 bt.o.k, .slice pa pn pc, .int .i64 bt.o.vk, .int .i64 bt.o.vn, .string ⟨bt.o.vs.toArray⟩, .int .i64 bt.o.n, .slice sa sn sc, .int .i64 bt.t] 71)) := below_new wz _
    have hRM : Hid (w.heap.size < wz.heap.size) := by have h := Nat.lt_of_lt_of_le hW1 hb1.size; exact h
    go_loopw [8] (fun i wr => ∃ k : Nat, 1 ≤ k ∧ k ≤ n ∧ i = .int .i64 k ∧ VVar wr w.heap.size (0, 0, []) ∧ IVar wr wz.heap.size (la k) 71 ∧ Below wz.heap.size wz wr) (fun i _ => n - (intOf i).toNat)
    case atStart => exact ⟨1, by omega, by omega, rfl, V2, M0, hBn⟩
    case round =>
      clear M0 V2 hBn V1 c0 c1 c2 c3 c4 c5 c6 c7 c8 c9 c10 hone0 hne
      obtain ⟨k, hk1, hk, rfl, hR, hM, hbw⟩ := hrel
      have hMi := (HV.out.on hbw).2 _ (HL.out.2.2 k)
      by_cases hkn : k < n
      · have hkx : k < xs'.length := by rw [← HN.out]; exact hkn
        obtain ⟨ad', e9, -, hX, hXi⟩ := (HV.out.on hbw).get hkx
        cases e9
        have HS : Hid (la (k + 1) = if Rg.later xs'[k].1 (la k).1 = true then xs'[k] else la k) := by have h := HL.out.2.1 k hkx; exact h
        have HY : ∀ W, Below wr.heap.size wr W → IcAt W (ad.add (k * 11)) xs'[k] := fun W hW => hX.on hW
        have hone := icell_one hXi
        have hi0 : (0 : Int) ≤ (k : Int) := by omega
        have hi1 : (k : Int) < (n : Int) := by omega
        generalize xs'[k] = Y at *
        generalize la k = M at *
        obtain ⟨m, pm, sm⟩ := M
        obtain ⟨y, py, sy⟩ := Y
        obtain ⟨mp, mn, mc, rfl⟩ := strs_slice hMi.1
        obtain ⟨ms, mo, md, rfl⟩ := refs_slice hMi.2
        obtain ⟨yp, yn, yc, rfl⟩ := strs_slice hXi.1
        obtain ⟨ys', yo, yd, rfl⟩ := refs_slice hXi.2
        have hLS : LtS wr (ad.add (k * 11)) (y, .slice yp yn yc, .slice ys' yo yd) wz.heap.size (m, .slice mp mn mc, .slice ms mo md) wr.drew := ⟨hX.on (Below.refl _ _).drew, hM.at.on (Below.refl _ _).drew, (Below.refl _ _).drew⟩
        clear hMi hXi
        by_cases ht : m.t < y.t
        · have hq : Hid (Rg.later y m = true) := by have h := later_time ht; exact h
          go_wp2
          refine wp_region_held_drew (S := fun W => LtS wr (ad.add (k * 11)) (y, .slice yp yn yc, .slice ys' yo yd) wz.heap.size (m, .slice mp mn mc, .slice ms mo md) W) (by kernel_rfl) (hLS) (fun hH0 => ?_)
          refine held_take (i := 0) (o := { dst := some 25, op := Op.move (Operand.tmp 6), type := 30, pos := "ref.go:50", after := #[], guard := none }) (v := .slice (some ad) n cap) (by kernel_rfl) (by kernel_rfl) (by kernel_rfl) (by kernel_rfl) (fun _ _ _ h => h) (by kernel_rfl) (fun _ _ => by kernel_rfl) hH0 ?_
          refine held_take (i := 1) (o := { dst := some 26, op := Op.move (Operand.tmp 8), type := 3, pos := "ref.go:50", after := #[], guard := none }) (v := .int .i64 (k : Int)) (by kernel_rfl) (by kernel_rfl) (by kernel_rfl) (by kernel_rfl) (fun _ _ _ h => h) (by kernel_rfl) (fun _ _ => by kernel_rfl) hH0 ?_
          refine held_take (i := 2) (o := { dst := some 27, op := Op.indexAddr 30 (Operand.tmp 25) (Operand.tmp 26), type := 0, pos := "ref.go:50", after := #[{ on := 0, ground := Ground.data }, { on := 1, ground := Ground.data }], guard := none }) (v := .pointer (some (ad.add (k * 11)))) (by kernel_rfl) (by kernel_rfl) (by kernel_rfl) (by kernel_rfl) (fun _ _ _ h => h) (by kernel_rfl) (fun W _ => ex_i_ritems (n := n) (c := cap) (k := k) rfl (by kernel_rfl) (by kernel_rfl) hkn W) hH0 ?_
          refine held_take (i := 3) (o := { dst := some 28, op := Op.fieldAddr 71 (Operand.tmp 27) 2, type := 0, pos := "ref.go:50", after := #[{ on := 2, ground := Ground.data }], guard := none }) (v := .pointer (some ⟨(ad.add (k * 11)).block, (ad.add (k * 11)).off + 10, none⟩)) (by kernel_rfl) (by kernel_rfl) (by kernel_rfl) (by kernel_rfl) (fun _ _ _ h => h) (by kernel_rfl) (fun W _ => ex_f_ritem_2 (p := (ad.add (k * 11))) rfl (by kernel_rfl) W) hH0 ?_
          refine held_take (i := 4) (o := { dst := some 29, op := Op.load 3 (Operand.tmp 28), type := 3, pos := "ref.go:50", after := #[{ on := 3, ground := Ground.data }], guard := none }) (v := .int .i64 y.t) (by kernel_rfl) (by kernel_rfl) (by kernel_rfl) (by kernel_rfl) (fun _ _ _ h => h) (by kernel_rfl) (fun _ h => ex_l1_int (p := ⟨(ad.add (k * 11)).block, (ad.add (k * 11)).off + 10, none⟩) rfl (by kernel_rfl) (h.px.c10)) hH0 ?_
          refine held_take (i := 5) (o := { dst := some 30, op := Op.fieldAddr 71 (Operand.tmp 7) 2, type := 0, pos := "ref.go:50", after := #[], guard := none }) (v := .pointer (some ⟨wz.heap.size, 0 + 10, none⟩)) (by kernel_rfl) (by kernel_rfl) (by kernel_rfl) (by kernel_rfl) (fun _ _ _ h => h) (by kernel_rfl) (fun W _ => ex_f_ritem_2 (p := ⟨wz.heap.size, 0, none⟩) rfl (by kernel_rfl) W) hH0 ?_
          refine held_take (i := 6) (o := { dst := some 31, op := Op.load 3 (Operand.tmp 30), type := 3, pos := "ref.go:50", after := #[{ on := 5, ground := Ground.data }], guard := none }) (v := .int .i64 m.t) (by kernel_rfl) (by kernel_rfl) (by kernel_rfl) (by kernel_rfl) (fun _ _ _ h => h) (by kernel_rfl) (fun _ h => ex_l1_int (p := ⟨wz.heap.size, 0 + 10, none⟩) rfl (by kernel_rfl) (h.pm.c10)) hH0 ?_
          refine held_take (i := 7) (o := { dst := some 32, op := Op.binOp BinOp.gtr 3 (Operand.tmp 29) (Operand.tmp 31) 3, type := 4, pos := "ref.go:50", after := #[{ on := 4, ground := Ground.data }, { on := 6, ground := Ground.data }], guard := none }) (v := .bool true) (by kernel_rfl) (by kernel_rfl) (by kernel_rfl) (by kernel_rfl) (fun _ _ _ h => h) (by kernel_rfl) (fun W _ => exec_bin rfl (by kernel_rfl) (by kernel_rfl) (fun _ => by kernel_rfl) (gtr_yes ht) W) hH0 ?_
          refine held_take (i := 8) (o := { dst := some 33, op := Op.move (Operand.tmp 32), type := 4, pos := "ref.go:50", after := #[{ on := 7, ground := Ground.data }], guard := none }) (v := .bool true) (by kernel_rfl) (by kernel_rfl) (by kernel_rfl) (by kernel_rfl) (fun _ _ _ h => h) (by kernel_rfl) (fun _ _ => by kernel_rfl) hH0 ?_
          refine held_skip (i := 9) (o := { dst := some 34, op := Op.move (Operand.tmp 6), type := 30, pos := "ref.go:50", after := #[{ on := 8, ground := Ground.guard }], guard := some (8, false) }) (by kernel_rfl) (by kernel_rfl) (by kernel_rfl) (by kernel_rfl) (fun _ _ _ h => h) (by kernel_rfl) hH0 ?_
          refine held_skip (i := 10) (o := { dst := some 35, op := Op.move (Operand.tmp 8), type := 3, pos := "ref.go:50", after := #[{ on := 8, ground := Ground.guard }], guard := some (8, false) }) (by kernel_rfl) (by kernel_rfl) (by kernel_rfl) (by kernel_rfl) (fun _ _ _ h => h) (by kernel_rfl) hH0 ?_
          refine held_skip (i := 11) (o := { dst := some 36, op := Op.indexAddr 30 (Operand.tmp 34) (Operand.tmp 35), type := 0, pos := "ref.go:50", after := #[{ on := 9, ground := Ground.data }, { on := 10, ground := Ground.data }, { on := 8, ground := Ground.guard }], guard := some (8, false) }) (by kernel_rfl) (by kernel_rfl) (by kernel_rfl) (by kernel_rfl) (fun _ _ _ h => h) (by kernel_rfl) hH0 ?_
          refine held_skip (i := 12) (o := { dst := some 37, op := Op.fieldAddr 71 (Operand.tmp 36) 2, type := 0, pos := "ref.go:50", after := #[{ on := 11, ground := Ground.data }, { on := 8, ground := Ground.guard }], guard := some (8, false) }) (by kernel_rfl) (by kernel_rfl) (by kernel_rfl) (by kernel_rfl) (fun _ _ _ h => h) (by kernel_rfl) hH0 ?_
          refine held_skip (i := 13) (o := { dst := some 38, op := Op.load 3 (Operand.tmp 37), type := 3, pos := "ref.go:50", after := #[{ on := 12, ground := Ground.data }, { on := 8, ground := Ground.guard }], guard := some (8, false) }) (by kernel_rfl) (by kernel_rfl) (by kernel_rfl) (by kernel_rfl) (fun _ _ _ h => h) (by kernel_rfl) hH0 ?_
          refine held_skip (i := 14) (o := { dst := some 39, op := Op.fieldAddr 71 (Operand.tmp 7) 2, type := 0, pos := "ref.go:50", after := #[{ on := 8, ground := Ground.guard }], guard := some (8, false) }) (by kernel_rfl) (by kernel_rfl) (by kernel_rfl) (by kernel_rfl) (fun _ _ _ h => h) (by kernel_rfl) hH0 ?_
          refine held_skip (i := 15) (o := { dst := some 40, op := Op.load 3 (Operand.tmp 39), type := 3, pos := "ref.go:50", after := #[{ on := 14, ground := Ground.data }, { on := 8, ground := Ground.guard }], guard := some (8, false) }) (by kernel_rfl) (by kernel_rfl) (by kernel_rfl) (by kernel_rfl) (fun _ _ _ h => h) (by kernel_rfl) hH0 ?_
          refine held_skip (i := 16) (o := { dst := some 41, op := Op.binOp BinOp.eql 3 (Operand.tmp 38) (Operand.tmp 40) 3, type := 4, pos := "ref.go:50", after := #[{ on := 13, ground := Ground.data }, { on := 15, ground := Ground.data }, { on := 8, ground := Ground.guard }], guard := some (8, false) }) (by kernel_rfl) (by kernel_rfl) (by kernel_rfl) (by kernel_rfl) (fun _ _ _ h => h) (by kernel_rfl) hH0 ?_
          refine held_skip (i := 17) (o := { dst := some 42, op := Op.move (Operand.tmp 41), type := 4, pos := "ref.go:50", after := #[{ on := 16, ground := Ground.data }, { on := 8, ground := Ground.chain }, { on := 8, ground := Ground.guard }], guard := some (8, false) }) (by kernel_rfl) (by kernel_rfl) (by kernel_rfl) (by kernel_rfl) (fun _ _ _ h => h) (by kernel_rfl) hH0 ?_
          refine held_skip (i := 18) (o := { dst := some 43, op := Op.move (Operand.tmp 6), type := 30, pos := "ref.go:50", after := #[{ on := 17, ground := Ground.guard }], guard := some (17, true) }) (by kernel_rfl) (by kernel_rfl) (by kernel_rfl) (by kernel_rfl) (fun _ _ _ h => h) (by kernel_rfl) hH0 ?_
          refine held_skip (i := 19) (o := { dst := some 44, op := Op.move (Operand.tmp 8), type := 3, pos := "ref.go:50", after := #[{ on := 17, ground := Ground.guard }], guard := some (17, true) }) (by kernel_rfl) (by kernel_rfl) (by kernel_rfl) (by kernel_rfl) (fun _ _ _ h => h) (by kernel_rfl) hH0 ?_
          refine held_skip (i := 20) (o := { dst := some 45, op := Op.indexAddr 30 (Operand.tmp 43) (Operand.tmp 44), type := 0, pos := "ref.go:50", after := #[{ on := 18, ground := Ground.data }, { on := 19, ground := Ground.data }, { on := 17, ground := Ground.guard }], guard := some (17, true) }) (by kernel_rfl) (by kernel_rfl) (by kernel_rfl) (by kernel_rfl) (fun _ _ _ h => h) (by kernel_rfl) hH0 ?_
          refine held_skip (i := 21) (o := { dst := some 46, op := Op.fieldAddr 71 (Operand.tmp 45) 0, type := 0, pos := "ref.go:50", after := #[{ on := 20, ground := Ground.data }, { on := 17, ground := Ground.guard }], guard := some (17, true) }) (by kernel_rfl) (by kernel_rfl) (by kernel_rfl) (by kernel_rfl) (fun _ _ _ h => h) (by kernel_rfl) hH0 ?_
          refine held_skip (i := 22) (o := { dst := some 47, op := Op.load 62 (Operand.tmp 46), type := 62, pos := "ref.go:50", after := #[{ on := 21, ground := Ground.data }, { on := 17, ground := Ground.guard }], guard := some (17, true) }) (by kernel_rfl) (by kernel_rfl) (by kernel_rfl) (by kernel_rfl) (fun _ _ _ h => h) (by kernel_rfl) hH0 ?_
          refine held_skip (i := 23) (o := { dst := some 48, op := Op.fieldAddr 71 (Operand.tmp 7) 0, type := 0, pos := "ref.go:50", after := #[{ on := 17, ground := Ground.guard }], guard := some (17, true) }) (by kernel_rfl) (by kernel_rfl) (by kernel_rfl) (by kernel_rfl) (fun _ _ _ h => h) (by kernel_rfl) hH0 ?_
          refine held_skip (i := 24) (o := { dst := some 49, op := Op.load 62 (Operand.tmp 48), type := 62, pos := "ref.go:50", after := #[{ on := 23, ground := Ground.data }, { on := 17, ground := Ground.guard }], guard := some (17, true) }) (by kernel_rfl) (by kernel_rfl) (by kernel_rfl) (by kernel_rfl) (fun _ _ _ h => h) (by kernel_rfl) hH0 ?_
          refine held_skip (i := 25) (o := { dst := some 50, op := Op.call { callee := Callee.value (Operand.func 34), args := #[Operand.tmp 47, Operand.tmp 49], argTypes := #[62, 62] }, type := 3, pos := "ref.go:50", after := #[{ on := 22, ground := Ground.data }, { on := 24, ground := Ground.data }, { on := 17, ground := Ground.chain }, { on := 17, ground := Ground.guard }], guard := some (17, true) }) (by kernel_rfl) (by kernel_rfl) (by kernel_rfl) (by kernel_rfl) (fun _ _ _ h => h) (by kernel_rfl) hH0 ?_
          refine held_skip (i := 26) (o := { dst := some 51, op := Op.binOp BinOp.gtr 3 (Operand.tmp 50) (Operand.const (Value.int IntKind.i64 0)) 3, type := 4, pos := "ref.go:50", after := #[{ on := 25, ground := Ground.data }, { on := 17, ground := Ground.guard }], guard := some (17, true) }) (by kernel_rfl) (by kernel_rfl) (by kernel_rfl) (by kernel_rfl) (fun _ _ _ h => h) (by kernel_rfl) hH0 ?_
          refine held_skip (i := 27) (o := { dst := some 52, op := Op.pick (Operand.tmp 42) (Operand.tmp 51) (Operand.const (Value.bool false)), type := 4, pos := "ref.go:50", after := #[{ on := 17, ground := Ground.data }, { on := 26, ground := Ground.data }, { on := 8, ground := Ground.guard }], guard := some (8, false) }) (by kernel_rfl) (by kernel_rfl) (by kernel_rfl) (by kernel_rfl) (fun _ _ _ h => h) (by kernel_rfl) hH0 ?_
          refine held_take (i := 28) (o := { dst := some 53, op := Op.pick (Operand.tmp 33) (Operand.const (Value.bool true)) (Operand.tmp 52), type := 4, pos := "ref.go:50", after := #[{ on := 8, ground := Ground.data }, { on := 27, ground := Ground.data }], guard := none }) (v := .bool true) (by kernel_rfl) (by kernel_rfl) (by kernel_rfl) (by kernel_rfl) (fun _ _ _ h => h) (by kernel_rfl) (fun _ _ => by kernel_rfl) hH0 ?_
          refine wpAnyH_done (by kernel_rfl) ?_ _
          simp only [Act.put, List.setIfInBounds_toArray, List.set_cons_zero, List.set_cons_succ]
          have hbx := hH0.below
          have hb1 : Below wz.heap.size wz wr.drew := bchain hbw hbx
          have hR1 := hR.on hbx
          have hM1 := hM.on hbx
          obtain ⟨c0, c1, c2, c3, c4, c5, c6, c7, c8, c9, c10⟩ := HY wr.drew hbx
          have hs1 : (Try.prog.info? 71).map (·.size) = some (icell (y, .slice yp yn yc, .slice ys' yo yd)).length := isize81 rfl
          have HS' : Hid (la (k + 1) = (y, .slice yp yn yc, .slice ys' yo yd)) := by have h := HS.out.trans (if_pos hq.out); exact h
          have hlow := hRM.out
          go_wp2_with (first
            | (refine store_var rfl 71 _ _ rfl wz.heap.size (icell (y, .slice yp yn yc, .slice ys' yo yd)) _ 71 rfl rfl hM1 hs1 rfl hone ?_)
            | go_in)
          go_roundw
          case rel =>
            have hR2 : VVar (wr.drew.setRow wz.heap.size (icell (y, .slice yp yn yc, .slice ys' yo yd)).toArray) w.heap.size (0, 0, []) := (setRow_other wr.drew _ _ _ (by omega)).trans hR1
            have hM2 : IVar (wr.drew.setRow wz.heap.size (icell (y, .slice yp yn yc, .slice ys' yo yd)).toArray) wz.heap.size (la (k + 1)) 71 := by rw [HS'.out]; exact hM1.set _
            exact ⟨k + 1, by omega, by omega, by go_num, hR2, hM2, below_setRow9 hb1 (Nat.le_refl _) _⟩
          case measure => simp [intOf]; omega
        · by_cases ht2 : y.t < m.t
          · have hq : Hid (Rg.later y m = false) := by have h := later_not ht2; exact h
            go_wp2
            refine wp_region_held_drew (S := fun W => LtS wr (ad.add (k * 11)) (y, .slice yp yn yc, .slice ys' yo yd) wz.heap.size (m, .slice mp mn mc, .slice ms mo md) W) (by kernel_rfl) (hLS) (fun hH0 => ?_)
            refine held_take (i := 0) (o := { dst := some 25, op := Op.move (Operand.tmp 6), type := 30, pos := "ref.go:50", after := #[], guard := none }) (v := .slice (some ad) n cap) (by kernel_rfl) (by kernel_rfl) (by kernel_rfl) (by kernel_rfl) (fun _ _ _ h => h) (by kernel_rfl) (fun _ _ => by kernel_rfl) hH0 ?_
            refine held_take (i := 1) (o := { dst := some 26, op := Op.move (Operand.tmp 8), type := 3, pos := "ref.go:50", after := #[], guard := none }) (v := .int .i64 (k : Int)) (by kernel_rfl) (by kernel_rfl) (by kernel_rfl) (by kernel_rfl) (fun _ _ _ h => h) (by kernel_rfl) (fun _ _ => by kernel_rfl) hH0 ?_
            refine held_take (i := 2) (o := { dst := some 27, op := Op.indexAddr 30 (Operand.tmp 25) (Operand.tmp 26), type := 0, pos := "ref.go:50", after := #[{ on := 0, ground := Ground.data }, { on := 1, ground := Ground.data }], guard := none }) (v := .pointer (some (ad.add (k * 11)))) (by kernel_rfl) (by kernel_rfl) (by kernel_rfl) (by kernel_rfl) (fun _ _ _ h => h) (by kernel_rfl) (fun W _ => ex_i_ritems (n := n) (c := cap) (k := k) rfl (by kernel_rfl) (by kernel_rfl) hkn W) hH0 ?_
            refine held_take (i := 3) (o := { dst := some 28, op := Op.fieldAddr 71 (Operand.tmp 27) 2, type := 0, pos := "ref.go:50", after := #[{ on := 2, ground := Ground.data }], guard := none }) (v := .pointer (some ⟨(ad.add (k * 11)).block, (ad.add (k * 11)).off + 10, none⟩)) (by kernel_rfl) (by kernel_rfl) (by kernel_rfl) (by kernel_rfl) (fun _ _ _ h => h) (by kernel_rfl) (fun W _ => ex_f_ritem_2 (p := (ad.add (k * 11))) rfl (by kernel_rfl) W) hH0 ?_
            refine held_take (i := 4) (o := { dst := some 29, op := Op.load 3 (Operand.tmp 28), type := 3, pos := "ref.go:50", after := #[{ on := 3, ground := Ground.data }], guard := none }) (v := .int .i64 y.t) (by kernel_rfl) (by kernel_rfl) (by kernel_rfl) (by kernel_rfl) (fun _ _ _ h => h) (by kernel_rfl) (fun _ h => ex_l1_int (p := ⟨(ad.add (k * 11)).block, (ad.add (k * 11)).off + 10, none⟩) rfl (by kernel_rfl) (h.px.c10)) hH0 ?_
            refine held_take (i := 5) (o := { dst := some 30, op := Op.fieldAddr 71 (Operand.tmp 7) 2, type := 0, pos := "ref.go:50", after := #[], guard := none }) (v := .pointer (some ⟨wz.heap.size, 0 + 10, none⟩)) (by kernel_rfl) (by kernel_rfl) (by kernel_rfl) (by kernel_rfl) (fun _ _ _ h => h) (by kernel_rfl) (fun W _ => ex_f_ritem_2 (p := ⟨wz.heap.size, 0, none⟩) rfl (by kernel_rfl) W) hH0 ?_
            refine held_take (i := 6) (o := { dst := some 31, op := Op.load 3 (Operand.tmp 30), type := 3, pos := "ref.go:50", after := #[{ on := 5, ground := Ground.data }], guard := none }) (v := .int .i64 m.t) (by kernel_rfl) (by kernel_rfl) (by kernel_rfl) (by kernel_rfl) (fun _ _ _ h => h) (by kernel_rfl) (fun _ h => ex_l1_int (p := ⟨wz.heap.size, 0 + 10, none⟩) rfl (by kernel_rfl) (h.pm.c10)) hH0 ?_
            refine held_take (i := 7) (o := { dst := some 32, op := Op.binOp BinOp.gtr 3 (Operand.tmp 29) (Operand.tmp 31) 3, type := 4, pos := "ref.go:50", after := #[{ on := 4, ground := Ground.data }, { on := 6, ground := Ground.data }], guard := none }) (v := .bool false) (by kernel_rfl) (by kernel_rfl) (by kernel_rfl) (by kernel_rfl) (fun _ _ _ h => h) (by kernel_rfl) (fun W _ => exec_bin rfl (by kernel_rfl) (by kernel_rfl) (fun _ => by kernel_rfl) (gtr_no (a := y.t) (b := m.t) (by omega)) W) hH0 ?_
            refine held_take (i := 8) (o := { dst := some 33, op := Op.move (Operand.tmp 32), type := 4, pos := "ref.go:50", after := #[{ on := 7, ground := Ground.data }], guard := none }) (v := .bool false) (by kernel_rfl) (by kernel_rfl) (by kernel_rfl) (by kernel_rfl) (fun _ _ _ h => h) (by kernel_rfl) (fun _ _ => by kernel_rfl) hH0 ?_
            refine held_take (i := 9) (o := { dst := some 34, op := Op.move (Operand.tmp 6), type := 30, pos := "ref.go:50", after := #[{ on := 8, ground := Ground.guard }], guard := some (8, false) }) (v := .slice (some ad) n cap) (by kernel_rfl) (by kernel_rfl) (by kernel_rfl) (by kernel_rfl) (fun _ _ _ h => h) (by kernel_rfl) (fun _ _ => by kernel_rfl) hH0 ?_
            refine held_take (i := 10) (o := { dst := some 35, op := Op.move (Operand.tmp 8), type := 3, pos := "ref.go:50", after := #[{ on := 8, ground := Ground.guard }], guard := some (8, false) }) (v := .int .i64 (k : Int)) (by kernel_rfl) (by kernel_rfl) (by kernel_rfl) (by kernel_rfl) (fun _ _ _ h => h) (by kernel_rfl) (fun _ _ => by kernel_rfl) hH0 ?_
            refine held_take (i := 11) (o := { dst := some 36, op := Op.indexAddr 30 (Operand.tmp 34) (Operand.tmp 35), type := 0, pos := "ref.go:50", after := #[{ on := 9, ground := Ground.data }, { on := 10, ground := Ground.data }, { on := 8, ground := Ground.guard }], guard := some (8, false) }) (v := .pointer (some (ad.add (k * 11)))) (by kernel_rfl) (by kernel_rfl) (by kernel_rfl) (by kernel_rfl) (fun _ _ _ h => h) (by kernel_rfl) (fun W _ => ex_i_ritems (n := n) (c := cap) (k := k) rfl (by kernel_rfl) (by kernel_rfl) hkn W) hH0 ?_
            refine held_take (i := 12) (o := { dst := some 37, op := Op.fieldAddr 71 (Operand.tmp 36) 2, type := 0, pos := "ref.go:50", after := #[{ on := 11, ground := Ground.data }, { on := 8, ground := Ground.guard }], guard := some (8, false) }) (v := .pointer (some ⟨(ad.add (k * 11)).block, (ad.add (k * 11)).off + 10, none⟩)) (by kernel_rfl) (by kernel_rfl) (by kernel_rfl) (by kernel_rfl) (fun _ _ _ h => h) (by kernel_rfl) (fun W _ => ex_f_ritem_2 (p := (ad.add (k * 11))) rfl (by kernel_rfl) W) hH0 ?_
            refine held_take (i := 13) (o := { dst := some 38, op := Op.load 3 (Operand.tmp 37), type := 3, pos := "ref.go:50", after := #[{ on := 12, ground := Ground.data }, { on := 8, ground := Ground.guard }], guard := some (8, false) }) (v := .int .i64 y.t) (by kernel_rfl) (by kernel_rfl) (by kernel_rfl) (by kernel_rfl) (fun _ _ _ h => h) (by kernel_rfl) (fun _ h => ex_l1_int (p := ⟨(ad.add (k * 11)).block, (ad.add (k * 11)).off + 10, none⟩) rfl (by kernel_rfl) (h.px.c10)) hH0 ?_
            refine held_take (i := 14) (o := { dst := some 39, op := Op.fieldAddr 71 (Operand.tmp 7) 2, type := 0, pos := "ref.go:50", after := #[{ on := 8, ground := Ground.guard }], guard := some (8, false) }) (v := .pointer (some ⟨wz.heap.size, 0 + 10, none⟩)) (by kernel_rfl) (by kernel_rfl) (by kernel_rfl) (by kernel_rfl) (fun _ _ _ h => h) (by kernel_rfl) (fun W _ => ex_f_ritem_2 (p := ⟨wz.heap.size, 0, none⟩) rfl (by kernel_rfl) W) hH0 ?_
            refine held_take (i := 15) (o := { dst := some 40, op := Op.load 3 (Operand.tmp 39), type := 3, pos := "ref.go:50", after := #[{ on := 14, ground := Ground.data }, { on := 8, ground := Ground.guard }], guard := some (8, false) }) (v := .int .i64 m.t) (by kernel_rfl) (by kernel_rfl) (by kernel_rfl) (by kernel_rfl) (fun _ _ _ h => h) (by kernel_rfl) (fun _ h => ex_l1_int (p := ⟨wz.heap.size, 0 + 10, none⟩) rfl (by kernel_rfl) (h.pm.c10)) hH0 ?_
            refine held_take (i := 16) (o := { dst := some 41, op := Op.binOp BinOp.eql 3 (Operand.tmp 38) (Operand.tmp 40) 3, type := 4, pos := "ref.go:50", after := #[{ on := 13, ground := Ground.data }, { on := 15, ground := Ground.data }, { on := 8, ground := Ground.guard }], guard := some (8, false) }) (v := .bool false) (by kernel_rfl) (by kernel_rfl) (by kernel_rfl) (by kernel_rfl) (fun _ _ _ h => h) (by kernel_rfl) (fun W _ => exec_bin rfl (by kernel_rfl) (by kernel_rfl) (fun _ => by kernel_rfl) (eqi_no (a := y.t) (b := m.t) (by omega)) W) hH0 ?_
            refine held_take (i := 17) (o := { dst := some 42, op := Op.move (Operand.tmp 41), type := 4, pos := "ref.go:50", after := #[{ on := 16, ground := Ground.data }, { on := 8, ground := Ground.chain }, { on := 8, ground := Ground.guard }], guard := some (8, false) }) (v := .bool false) (by kernel_rfl) (by kernel_rfl) (by kernel_rfl) (by kernel_rfl) (fun _ _ _ h => h) (by kernel_rfl) (fun _ _ => by kernel_rfl) hH0 ?_
            refine held_skip (i := 18) (o := { dst := some 43, op := Op.move (Operand.tmp 6), type := 30, pos := "ref.go:50", after := #[{ on := 17, ground := Ground.guard }], guard := some (17, true) }) (by kernel_rfl) (by kernel_rfl) (by kernel_rfl) (by kernel_rfl) (fun _ _ _ h => h) (by kernel_rfl) hH0 ?_
            refine held_skip (i := 19) (o := { dst := some 44, op := Op.move (Operand.tmp 8), type := 3, pos := "ref.go:50", after := #[{ on := 17, ground := Ground.guard }], guard := some (17, true) }) (by kernel_rfl) (by kernel_rfl) (by kernel_rfl) (by kernel_rfl) (fun _ _ _ h => h) (by kernel_rfl) hH0 ?_
            refine held_skip (i := 20) (o := { dst := some 45, op := Op.indexAddr 30 (Operand.tmp 43) (Operand.tmp 44), type := 0, pos := "ref.go:50", after := #[{ on := 18, ground := Ground.data }, { on := 19, ground := Ground.data }, { on := 17, ground := Ground.guard }], guard := some (17, true) }) (by kernel_rfl) (by kernel_rfl) (by kernel_rfl) (by kernel_rfl) (fun _ _ _ h => h) (by kernel_rfl) hH0 ?_
            refine held_skip (i := 21) (o := { dst := some 46, op := Op.fieldAddr 71 (Operand.tmp 45) 0, type := 0, pos := "ref.go:50", after := #[{ on := 20, ground := Ground.data }, { on := 17, ground := Ground.guard }], guard := some (17, true) }) (by kernel_rfl) (by kernel_rfl) (by kernel_rfl) (by kernel_rfl) (fun _ _ _ h => h) (by kernel_rfl) hH0 ?_
            refine held_skip (i := 22) (o := { dst := some 47, op := Op.load 62 (Operand.tmp 46), type := 62, pos := "ref.go:50", after := #[{ on := 21, ground := Ground.data }, { on := 17, ground := Ground.guard }], guard := some (17, true) }) (by kernel_rfl) (by kernel_rfl) (by kernel_rfl) (by kernel_rfl) (fun _ _ _ h => h) (by kernel_rfl) hH0 ?_
            refine held_skip (i := 23) (o := { dst := some 48, op := Op.fieldAddr 71 (Operand.tmp 7) 0, type := 0, pos := "ref.go:50", after := #[{ on := 17, ground := Ground.guard }], guard := some (17, true) }) (by kernel_rfl) (by kernel_rfl) (by kernel_rfl) (by kernel_rfl) (fun _ _ _ h => h) (by kernel_rfl) hH0 ?_
            refine held_skip (i := 24) (o := { dst := some 49, op := Op.load 62 (Operand.tmp 48), type := 62, pos := "ref.go:50", after := #[{ on := 23, ground := Ground.data }, { on := 17, ground := Ground.guard }], guard := some (17, true) }) (by kernel_rfl) (by kernel_rfl) (by kernel_rfl) (by kernel_rfl) (fun _ _ _ h => h) (by kernel_rfl) hH0 ?_
            refine held_skip (i := 25) (o := { dst := some 50, op := Op.call { callee := Callee.value (Operand.func 34), args := #[Operand.tmp 47, Operand.tmp 49], argTypes := #[62, 62] }, type := 3, pos := "ref.go:50", after := #[{ on := 22, ground := Ground.data }, { on := 24, ground := Ground.data }, { on := 17, ground := Ground.chain }, { on := 17, ground := Ground.guard }], guard := some (17, true) }) (by kernel_rfl) (by kernel_rfl) (by kernel_rfl) (by kernel_rfl) (fun _ _ _ h => h) (by kernel_rfl) hH0 ?_
            refine held_skip (i := 26) (o := { dst := some 51, op := Op.binOp BinOp.gtr 3 (Operand.tmp 50) (Operand.const (Value.int IntKind.i64 0)) 3, type := 4, pos := "ref.go:50", after := #[{ on := 25, ground := Ground.data }, { on := 17, ground := Ground.guard }], guard := some (17, true) }) (by kernel_rfl) (by kernel_rfl) (by kernel_rfl) (by kernel_rfl) (fun _ _ _ h => h) (by kernel_rfl) hH0 ?_
            refine held_take (i := 27) (o := { dst := some 52, op := Op.pick (Operand.tmp 42) (Operand.tmp 51) (Operand.const (Value.bool false)), type := 4, pos := "ref.go:50", after := #[{ on := 17, ground := Ground.data }, { on := 26, ground := Ground.data }, { on := 8, ground := Ground.guard }], guard := some (8, false) }) (v := .bool false) (by kernel_rfl) (by kernel_rfl) (by kernel_rfl) (by kernel_rfl) (fun _ _ _ h => h) (by kernel_rfl) (fun _ _ => by kernel_rfl) hH0 ?_
            refine held_take (i := 28) (o := { dst := some 53, op := Op.pick (Operand.tmp 33) (Operand.const (Value.bool true)) (Operand.tmp 52), type := 4, pos := "ref.go:50", after := #[{ on := 8, ground := Ground.data }, { on := 27, ground := Ground.data }], guard := none }) (v := .bool false) (by kernel_rfl) (by kernel_rfl) (by kernel_rfl) (by kernel_rfl) (fun _ _ _ h => h) (by kernel_rfl) (fun _ _ => by kernel_rfl) hH0 ?_
            refine wpAnyH_done (by kernel_rfl) ?_ _
            simp only [Act.put, List.setIfInBounds_toArray, List.set_cons_zero, List.set_cons_succ]
            have hbx := hH0.below
            have hb1 : Below wz.heap.size wz wr.drew := bchain hbw hbx
            have HS' : Hid (la (k + 1) = (m, .slice mp mn mc, .slice ms mo md)) := by have h := HS.out.trans (if_neg (by rw [hq.out]; exact Bool.noConfusion)); exact h
            go_wp2
            go_roundw
            case rel =>
              have hM2 : IVar wr.drew wz.heap.size (la (k + 1)) 71 := by rw [HS'.out]; exact hM.on hbx
              exact ⟨k + 1, by omega, by omega, by go_num, hR.on hbx, hM2, hb1⟩
            case measure => simp [intOf]; omega
          · have hte : y.t = m.t := by omega
            have HC := fun W => D.refRefs_any y.x.1.1 y.x.1.2 y.x.2 m.x.1.1 m.x.1.2 m.x.2 W
            have hz : Hid (Rg.later y m = decide (0 < Dt.two (Dt.comp y.x.1.1 y.x.1.2 m.x.1.1 m.x.1.2) (Dt.compareInt y.x.2 m.x.2))) := by have h := later_tie hte; exact h
            generalize Dt.two (Dt.comp y.x.1.1 y.x.1.2 m.x.1.1 m.x.1.2) (Dt.compareInt y.x.2 m.x.2) = z at *
            by_cases hz1 : 0 < z
            · have hq : Hid (Rg.later y m = true) := by have h := hz.out.trans (decide_eq_true hz1); exact h
              go_wp2
              refine wp_region_held_drew (S := fun W => LtS wr (ad.add (k * 11)) (y, .slice yp yn yc, .slice ys' yo yd) wz.heap.size (m, .slice mp mn mc, .slice ms mo md) W) (by kernel_rfl) (hLS) (fun hH0 => ?_)
              refine held_take (i := 0) (o := { dst := some 25, op := Op.move (Operand.tmp 6), type := 30, pos := "ref.go:50", after := #[], guard := none }) (v := .slice (some ad) n cap) (by kernel_rfl) (by kernel_rfl) (by kernel_rfl) (by kernel_rfl) (fun _ _ _ h => h) (by kernel_rfl) (fun _ _ => by kernel_rfl) hH0 ?_
              refine held_take (i := 1) (o := { dst := some 26, op := Op.move (Operand.tmp 8), type := 3, pos := "ref.go:50", after := #[], guard := none }) (v := .int .i64 (k : Int)) (by kernel_rfl) (by kernel_rfl) (by kernel_rfl) (by kernel_rfl) (fun _ _ _ h => h) (by kernel_rfl) (fun _ _ => by kernel_rfl) hH0 ?_
              refine held_take (i := 2) (o := { dst := some 27, op := Op.indexAddr 30 (Operand.tmp 25) (Operand.tmp 26), type := 0, pos := "ref.go:50", after := #[{ on := 0, ground := Ground.data }, { on := 1, ground := Ground.data }], guard := none }) (v := .pointer (some (ad.add (k * 11)))) (by kernel_rfl) (by kernel_rfl) (by kernel_rfl) (by kernel_rfl) (fun _ _ _ h => h) (by kernel_rfl) (fun W _ => ex_i_ritems (n := n) (c := cap) (k := k) rfl (by kernel_rfl) (by kernel_rfl) hkn W) hH0 ?_
              refine held_take (i := 3) (o := { dst := some 28, op := Op.fieldAddr 71 (Operand.tmp 27) 2, type := 0, pos := "ref.go:50", after := #[{ on := 2, ground := Ground.data }], guard := none }) (v := .pointer (some ⟨(ad.add (k * 11)).block, (ad.add (k * 11)).off + 10, none⟩)) (by kernel_rfl) (by kernel_rfl) (by kernel_rfl) (by kernel_rfl) (fun _ _ _ h => h) (by kernel_rfl) (fun W _ => ex_f_ritem_2 (p := (ad.add (k * 11))) rfl (by kernel_rfl) W) hH0 ?_
              refine held_take (i := 4) (o := { dst := some 29, op := Op.load 3 (Operand.tmp 28), type := 3, pos := "ref.go:50", after := #[{ on := 3, ground := Ground.data }], guard := none }) (v := .int .i64 y.t) (by kernel_rfl) (by kernel_rfl) (by kernel_rfl) (by kernel_rfl) (fun _ _ _ h => h) (by kernel_rfl) (fun _ h => ex_l1_int (p := ⟨(ad.add (k * 11)).block, (ad.add (k * 11)).off + 10, none⟩) rfl (by kernel_rfl) (h.px.c10)) hH0 ?_
              refine held_take (i := 5) (o := { dst := some 30, op := Op.fieldAddr 71 (Operand.tmp 7) 2, type := 0, pos := "ref.go:50", after := #[], guard := none }) (v := .pointer (some ⟨wz.heap.size, 0 + 10, none⟩)) (by kernel_rfl) (by kernel_rfl) (by kernel_rfl) (by kernel_rfl) (fun _ _ _ h => h) (by kernel_rfl) (fun W _ => ex_f_ritem_2 (p := ⟨wz.heap.size, 0, none⟩) rfl (by kernel_rfl) W) hH0 ?_
              refine held_take (i := 6) (o := { dst := some 31, op := Op.load 3 (Operand.tmp 30), type := 3, pos := "ref.go:50", after := #[{ on := 5, ground := Ground.data }], guard := none }) (v := .int .i64 m.t) (by kernel_rfl) (by kernel_rfl) (by kernel_rfl) (by kernel_rfl) (fun _ _ _ h => h) (by kernel_rfl) (fun _ h => ex_l1_int (p := ⟨wz.heap.size, 0 + 10, none⟩) rfl (by kernel_rfl) (h.pm.c10)) hH0 ?_
              refine held_take (i := 7) (o := { dst := some 32, op := Op.binOp BinOp.gtr 3 (Operand.tmp 29) (Operand.tmp 31) 3, type := 4, pos := "ref.go:50", after := #[{ on := 4, ground := Ground.data }, { on := 6, ground := Ground.data }], guard := none }) (v := .bool false) (by kernel_rfl) (by kernel_rfl) (by kernel_rfl) (by kernel_rfl) (fun _ _ _ h => h) (by kernel_rfl) (fun W _ => exec_bin rfl (by kernel_rfl) (by kernel_rfl) (fun _ => by kernel_rfl) (gtr_no (a := y.t) (b := m.t) (by omega)) W) hH0 ?_
              refine held_take (i := 8) (o := { dst := some 33, op := Op.move (Operand.tmp 32), type := 4, pos := "ref.go:50", after := #[{ on := 7, ground := Ground.data }], guard := none }) (v := .bool false) (by kernel_rfl) (by kernel_rfl) (by kernel_rfl) (by kernel_rfl) (fun _ _ _ h => h) (by kernel_rfl) (fun _ _ => by kernel_rfl) hH0 ?_
              refine held_take (i := 9) (o := { dst := some 34, op := Op.move (Operand.tmp 6), type := 30, pos := "ref.go:50", after := #[{ on := 8, ground := Ground.guard }], guard := some (8, false) }) (v := .slice (some ad) n cap) (by kernel_rfl) (by kernel_rfl) (by kernel_rfl) (by kernel_rfl) (fun _ _ _ h => h) (by kernel_rfl) (fun _ _ => by kernel_rfl) hH0 ?_
              refine held_take (i := 10) (o := { dst := some 35, op := Op.move (Operand.tmp 8), type := 3, pos := "ref.go:50", after := #[{ on := 8, ground := Ground.guard }], guard := some (8, false) }) (v := .int .i64 (k : Int)) (by kernel_rfl) (by kernel_rfl) (by kernel_rfl) (by kernel_rfl) (fun _ _ _ h => h) (by kernel_rfl) (fun _ _ => by kernel_rfl) hH0 ?_
              refine held_take (i := 11) (o := { dst := some 36, op := Op.indexAddr 30 (Operand.tmp 34) (Operand.tmp 35), type := 0, pos := "ref.go:50", after := #[{ on := 9, ground := Ground.data }, { on := 10, ground := Ground.data }, { on := 8, ground := Ground.guard }], guard := some (8, false) }) (v := .pointer (some (ad.add (k * 11)))) (by kernel_rfl) (by kernel_rfl) (by kernel_rfl) (by kernel_rfl) (fun _ _ _ h => h) (by kernel_rfl) (fun W _ => ex_i_ritems (n := n) (c := cap) (k := k) rfl (by kernel_rfl) (by kernel_rfl) hkn W) hH0 ?_
              refine held_take (i := 12) (o := { dst := some 37, op := Op.fieldAddr 71 (Operand.tmp 36) 2, type := 0, pos := "ref.go:50", after := #[{ on := 11, ground := Ground.data }, { on := 8, ground := Ground.guard }], guard := some (8, false) }) (v := .pointer (some ⟨(ad.add (k * 11)).block, (ad.add (k * 11)).off + 10, none⟩)) (by kernel_rfl) (by kernel_rfl) (by kernel_rfl) (by kernel_rfl) (fun _ _ _ h => h) (by kernel_rfl) (fun W _ => ex_f_ritem_2 (p := (ad.add (k * 11))) rfl (by kernel_rfl) W) hH0 ?_
              refine held_take (i := 13) (o := { dst := some 38, op := Op.load 3 (Operand.tmp 37), type := 3, pos := "ref.go:50", after := #[{ on := 12, ground := Ground.data }, { on := 8, ground := Ground.guard }], guard := some (8, false) }) (v := .int .i64 y.t) (by kernel_rfl) (by kernel_rfl) (by kernel_rfl) (by kernel_rfl) (fun _ _ _ h => h) (by kernel_rfl) (fun _ h => ex_l1_int (p := ⟨(ad.add (k * 11)).block, (ad.add (k * 11)).off + 10, none⟩) rfl (by kernel_rfl) (h.px.c10)) hH0 ?_
              refine held_take (i := 14) (o := { dst := some 39, op := Op.fieldAddr 71 (Operand.tmp 7) 2, type := 0, pos := "ref.go:50", after := #[{ on := 8, ground := Ground.guard }], guard := some (8, false) }) (v := .pointer (some ⟨wz.heap.size, 0 + 10, none⟩)) (by kernel_rfl) (by kernel_rfl) (by kernel_rfl) (by kernel_rfl) (fun _ _ _ h => h) (by kernel_rfl) (fun W _ => ex_f_ritem_2 (p := ⟨wz.heap.size, 0, none⟩) rfl (by kernel_rfl) W) hH0 ?_
              refine held_take (i := 15) (o := { dst := some 40, op := Op.load 3 (Operand.tmp 39), type := 3, pos := "ref.go:50", after := #[{ on := 14, ground := Ground.data }, { on := 8, ground := Ground.guard }], guard := some (8, false) }) (v := .int .i64 m.t) (by kernel_rfl) (by kernel_rfl) (by kernel_rfl) (by kernel_rfl) (fun _ _ _ h => h) (by kernel_rfl) (fun _ h => ex_l1_int (p := ⟨wz.heap.size, 0 + 10, none⟩) rfl (by kernel_rfl) (h.pm.c10)) hH0 ?_
              refine held_take (i := 16) (o := { dst := some 41, op := Op.binOp BinOp.eql 3 (Operand.tmp 38) (Operand.tmp 40) 3, type := 4, pos := "ref.go:50", after := #[{ on := 13, ground := Ground.data }, { on := 15, ground := Ground.data }, { on := 8, ground := Ground.guard }], guard := some (8, false) }) (v := .bool true) (by kernel_rfl) (by kernel_rfl) (by kernel_rfl) (by kernel_rfl) (fun _ _ _ h => h) (by kernel_rfl) (fun W _ => exec_bin rfl (by kernel_rfl) (by kernel_rfl) (fun _ => by kernel_rfl) (eqi_yes hte) W) hH0 ?_
              refine held_take (i := 17) (o := { dst := some 42, op := Op.move (Operand.tmp 41), type := 4, pos := "ref.go:50", after := #[{ on := 16, ground := Ground.data }, { on := 8, ground := Ground.chain }, { on := 8, ground := Ground.guard }], guard := some (8, false) }) (v := .bool true) (by kernel_rfl) (by kernel_rfl) (by kernel_rfl) (by kernel_rfl) (fun _ _ _ h => h) (by kernel_rfl) (fun _ _ => by kernel_rfl) hH0 ?_
              refine held_take (i := 18) (o := { dst := some 43, op := Op.move (Operand.tmp 6), type := 30, pos := "ref.go:50", after := #[{ on := 17, ground := Ground.guard }], guard := some (17, true) }) (v := .slice (some ad) n cap) (by kernel_rfl) (by kernel_rfl) (by kernel_rfl) (by kernel_rfl) (fun _ _ _ h => h) (by kernel_rfl) (fun _ _ => by kernel_rfl) hH0 ?_
              refine held_take (i := 19) (o := { dst := some 44, op := Op.move (Operand.tmp 8), type := 3, pos := "ref.go:50", after := #[{ on := 17, ground := Ground.guard }], guard := some (17, true) }) (v := .int .i64 (k : Int)) (by kernel_rfl) (by kernel_rfl) (by kernel_rfl) (by kernel_rfl) (fun _ _ _ h => h) (by kernel_rfl) (fun _ _ => by kernel_rfl) hH0 ?_
              refine held_take (i := 20) (o := { dst := some 45, op := Op.indexAddr 30 (Operand.tmp 43) (Operand.tmp 44), type := 0, pos := "ref.go:50", after := #[{ on := 18, ground := Ground.data }, { on := 19, ground := Ground.data }, { on := 17, ground := Ground.guard }], guard := some (17, true) }) (v := .pointer (some (ad.add (k * 11)))) (by kernel_rfl) (by kernel_rfl) (by kernel_rfl) (by kernel_rfl) (fun _ _ _ h => h) (by kernel_rfl) (fun W _ => ex_i_ritems (n := n) (c := cap) (k := k) rfl (by kernel_rfl) (by kernel_rfl) hkn W) hH0 ?_
              refine held_take (i := 21) (o := { dst := some 46, op := Op.fieldAddr 71 (Operand.tmp 45) 0, type := 0, pos := "ref.go:50", after := #[{ on := 20, ground := Ground.data }, { on := 17, ground := Ground.guard }], guard := some (17, true) }) (v := .pointer (some (ad.add (k * 11)))) (by kernel_rfl) (by kernel_rfl) (by kernel_rfl) (by kernel_rfl) (fun _ _ _ h => h) (by kernel_rfl) (fun W _ => ex_f_ritem_0 (p := (ad.add (k * 11))) rfl (by kernel_rfl) W) hH0 ?_
              refine held_take (i := 22) (o := { dst := some 47, op := Op.load 62 (Operand.tmp 46), type := 62, pos := "ref.go:50", after := #[{ on := 21, ground := Ground.data }, { on := 17, ground := Ground.guard }], guard := some (17, true) }) (v := .agg #[.int .i64 y.x.1.1, .int .i64 y.x.1.2, .int .i64 y.x.2]) (by kernel_rfl) (by kernel_rfl) (by kernel_rfl) (by kernel_rfl) (fun _ _ _ h => h) (by kernel_rfl) (fun _ h => ex_l_ref (p := (ad.add (k * 11))) rfl (by kernel_rfl) (h.px.c0) (h.px.c1) (h.px.c2)) hH0 ?_
              refine held_take (i := 23) (o := { dst := some 48, op := Op.fieldAddr 71 (Operand.tmp 7) 0, type := 0, pos := "ref.go:50", after := #[{ on := 17, ground := Ground.guard }], guard := some (17, true) }) (v := .pointer (some ⟨wz.heap.size, 0, none⟩)) (by kernel_rfl) (by kernel_rfl) (by kernel_rfl) (by kernel_rfl) (fun _ _ _ h => h) (by kernel_rfl) (fun W _ => ex_f_ritem_0 (p := ⟨wz.heap.size, 0, none⟩) rfl (by kernel_rfl) W) hH0 ?_
              refine held_take (i := 24) (o := { dst := some 49, op := Op.load 62 (Operand.tmp 48), type := 62, pos := "ref.go:50", after := #[{ on := 23, ground := Ground.data }, { on := 17, ground := Ground.guard }], guard := some (17, true) }) (v := .agg #[.int .i64 m.x.1.1, .int .i64 m.x.1.2, .int .i64 m.x.2]) (by kernel_rfl) (by kernel_rfl) (by kernel_rfl) (by kernel_rfl) (fun _ _ _ h => h) (by kernel_rfl) (fun _ h => ex_l_ref (p := ⟨wz.heap.size, 0, none⟩) rfl (by kernel_rfl) (h.pm.c0) (h.pm.c1) (h.pm.c2)) hH0 ?_
              refine held_callX (i := 25) (o := { dst := some 50, op := Op.call { callee := Callee.value (Operand.func 34), args := #[Operand.tmp 47, Operand.tmp 49], argTypes := #[62, 62] }, type := 3, pos := "ref.go:50", after := #[{ on := 22, ground := Ground.data }, { on := 24, ground := Ground.data }, { on := 17, ground := Ground.chain }, { on := 17, ground := Ground.guard }], guard := some (17, true) }) (F := 34) (vs := #[.agg #[.int .i64 y.x.1.1, .int .i64 y.x.1.2, .int .i64 y.x.2], .agg #[.int .i64 m.x.1.1, .int .i64 m.x.1.2, .int .i64 m.x.2]]) (by kernel_rfl) (by kernel_rfl) (by kernel_rfl) (fun _ => by kernel_rfl) (HC _) ?_
              rintro e w1 ⟨rfl, hb1⟩
              have hH1 := hH0.on hb1
              refine ⟨.int .i64 z, rfl, hH1, ?_⟩
              refine held_take (i := 26) (o := { dst := some 51, op := Op.binOp BinOp.gtr 3 (Operand.tmp 50) (Operand.const (Value.int IntKind.i64 0)) 3, type := 4, pos := "ref.go:50", after := #[{ on := 25, ground := Ground.data }, { on := 17, ground := Ground.guard }], guard := some (17, true) }) (v := .bool true) (by kernel_rfl) (by kernel_rfl) (by kernel_rfl) (by kernel_rfl) (fun _ _ _ h => h) (by kernel_rfl) (fun W _ => exec_bin rfl (by kernel_rfl) (by kernel_rfl) (fun _ => by kernel_rfl) (gtr_yes hz1) W) hH1 ?_
              refine held_take (i := 27) (o := { dst := some 52, op := Op.pick (Operand.tmp 42) (Operand.tmp 51) (Operand.const (Value.bool false)), type := 4, pos := "ref.go:50", after := #[{ on := 17, ground := Ground.data }, { on := 26, ground := Ground.data }, { on := 8, ground := Ground.guard }], guard := some (8, false) }) (v := .bool true) (by kernel_rfl) (by kernel_rfl) (by kernel_rfl) (by kernel_rfl) (fun _ _ _ h => h) (by kernel_rfl) (fun _ _ => by kernel_rfl) hH1 ?_
              refine held_take (i := 28) (o := { dst := some 53, op := Op.pick (Operand.tmp 33) (Operand.const (Value.bool true)) (Operand.tmp 52), type := 4, pos := "ref.go:50", after := #[{ on := 8, ground := Ground.data }, { on := 27, ground := Ground.data }], guard := none }) (v := .bool true) (by kernel_rfl) (by kernel_rfl) (by kernel_rfl) (by kernel_rfl) (fun _ _ _ h => h) (by kernel_rfl) (fun _ _ => by kernel_rfl) hH1 ?_
              refine wpAnyH_done (by kernel_rfl) ?_ _
              simp only [Act.put, List.setIfInBounds_toArray, List.set_cons_zero, List.set_cons_succ]
              have hbx := hH1.below
              clear hte
              have hb1 : Below wz.heap.size wz w1 := bchain hbw hbx
              have hR1 := hR.on hbx
              have hM1 := hM.on hbx
              obtain ⟨c0, c1, c2, c3, c4, c5, c6, c7, c8, c9, c10⟩ := HY w1 hbx
              have hs1 : (Try.prog.info? 71).map (·.size) = some (icell (y, .slice yp yn yc, .slice ys' yo yd)).length := isize81 rfl
              have HS' : Hid (la (k + 1) = (y, .slice yp yn yc, .slice ys' yo yd)) := by have h := HS.out.trans (if_pos hq.out); exact h
              have hlow := hRM.out
              go_wp2_with (first
                | (refine store_var rfl 71 _ _ rfl wz.heap.size (icell (y, .slice yp yn yc, .slice ys' yo yd)) _ 71 rfl rfl hM1 hs1 rfl hone ?_)
                | go_in)
              go_roundw
              case rel =>
                have hR2 : VVar (w1.setRow wz.heap.size (icell (y, .slice yp yn yc, .slice ys' yo yd)).toArray) w.heap.size (0, 0, []) := (setRow_other w1 _ _ _ (by omega)).trans hR1
                have hM2 : IVar (w1.setRow wz.heap.size (icell (y, .slice yp yn yc, .slice ys' yo yd)).toArray) wz.heap.size (la (k + 1)) 71 := by rw [HS'.out]; exact hM1.set _
                exact ⟨k + 1, by omega, by omega, by go_num, hR2, hM2, below_setRow9 hb1 (Nat.le_refl _) _⟩
              case measure => simp [intOf]; omega
            · have hq : Hid (Rg.later y m = false) := by have h := hz.out.trans (decide_eq_false hz1); exact h
              have hzn : z ≤ 0 := by omega
              go_wp2
              refine wp_region_held_drew (S := fun W => LtS wr (ad.add (k * 11)) (y, .slice yp yn yc, .slice ys' yo yd) wz.heap.size (m, .slice mp mn mc, .slice ms mo md) W) (by kernel_rfl) (hLS) (fun hH0 => ?_)
              refine held_take (i := 0) (o := { dst := some 25, op := Op.move (Operand.tmp 6), type := 30, pos := "ref.go:50", after := #[], guard := none }) (v := .slice (some ad) n cap) (by kernel_rfl) (by kernel_rfl) (by kernel_rfl) (by kernel_rfl) (fun _ _ _ h => h) (by kernel_rfl) (fun _ _ => by kernel_rfl) hH0 ?_
              refine held_take (i := 1) (o := { dst := some 26, op := Op.move (Operand.tmp 8), type := 3, pos := "ref.go:50", after := #[], guard := none }) (v := .int .i64 (k : Int)) (by kernel_rfl) (by kernel_rfl) (by kernel_rfl) (by kernel_rfl) (fun _ _ _ h => h) (by kernel_rfl) (fun _ _ => by kernel_rfl) hH0 ?_
              refine held_take (i := 2) (o := { dst := some 27, op := Op.indexAddr 30 (Operand.tmp 25) (Operand.tmp 26), type := 0, pos := "ref.go:50", after := #[{ on := 0, ground := Ground.data }, { on := 1, ground := Ground.data }], guard := none }) (v := .pointer (some (ad.add (k * 11)))) (by kernel_rfl) (by kernel_rfl) (by kernel_rfl) (by kernel_rfl) (fun _ _ _ h => h) (by kernel_rfl) (fun W _ => ex_i_ritems (n := n) (c := cap) (k := k) rfl (by kernel_rfl) (by kernel_rfl) hkn W) hH0 ?_
              refine held_take (i := 3) (o := { dst := some 28, op := Op.fieldAddr 71 (Operand.tmp 27) 2, type := 0, pos := "ref.go:50", after := #[{ on := 2, ground := Ground.data }], guard := none }) (v := .pointer (some ⟨(ad.add (k * 11)).block, (ad.add (k * 11)).off + 10, none⟩)) (by kernel_rfl) (by kernel_rfl) (by kernel_rfl) (by kernel_rfl) (fun _ _ _ h => h) (by kernel_rfl) (fun W _ => ex_f_ritem_2 (p := (ad.add (k * 11))) rfl (by kernel_rfl) W) hH0 ?_
              refine held_take (i := 4) (o := { dst := some 29, op := Op.load 3 (Operand.tmp 28), type := 3, pos := "ref.go:50", after := #[{ on := 3, ground := Ground.data }], guard := none }) (v := .int .i64 y.t) (by kernel_rfl) (by kernel_rfl) (by kernel_rfl) (by kernel_rfl) (fun _ _ _ h => h) (by kernel_rfl) (fun _ h => ex_l1_int (p := ⟨(ad.add (k * 11)).block, (ad.add (k * 11)).off + 10, none⟩) rfl (by kernel_rfl) (h.px.c10)) hH0 ?_
              refine held_take (i := 5) (o := { dst := some 30, op := Op.fieldAddr 71 (Operand.tmp 7) 2, type := 0, pos := "ref.go:50", after := #[], guard := none }) (v := .pointer (some ⟨wz.heap.size, 0 + 10, none⟩)) (by kernel_rfl) (by kernel_rfl) (by kernel_rfl) (by kernel_rfl) (fun _ _ _ h => h) (by kernel_rfl) (fun W _ => ex_f_ritem_2 (p := ⟨wz.heap.size, 0, none⟩) rfl (by kernel_rfl) W) hH0 ?_
              refine held_take (i := 6) (o := { dst := some 31, op := Op.load 3 (Operand.tmp 30), type := 3, pos := "ref.go:50", after := #[{ on := 5, ground := Ground.data }], guard := none }) (v := .int .i64 m.t) (by kernel_rfl) (by kernel_rfl) (by kernel_rfl) (by kernel_rfl) (fun _ _ _ h => h) (by kernel_rfl) (fun _ h => ex_l1_int (p := ⟨wz.heap.size, 0 + 10, none⟩) rfl (by kernel_rfl) (h.pm.c10)) hH0 ?_
              refine held_take (i := 7) (o := { dst := some 32, op := Op.binOp BinOp.gtr 3 (Operand.tmp 29) (Operand.tmp 31) 3, type := 4, pos := "ref.go:50", after := #[{ on := 4, ground := Ground.data }, { on := 6, ground := Ground.data }], guard := none }) (v := .bool false) (by kernel_rfl) (by kernel_rfl) (by kernel_rfl) (by kernel_rfl) (fun _ _ _ h => h) (by kernel_rfl) (fun W _ => exec_bin rfl (by kernel_rfl) (by kernel_rfl) (fun _ => by kernel_rfl) (gtr_no (a := y.t) (b := m.t) (by omega)) W) hH0 ?_
              refine held_take (i := 8) (o := { dst := some 33, op := Op.move (Operand.tmp 32), type := 4, pos := "ref.go:50", after := #[{ on := 7, ground := Ground.data }], guard := none }) (v := .bool false) (by kernel_rfl) (by kernel_rfl) (by kernel_rfl) (by kernel_rfl) (fun _ _ _ h => h) (by kernel_rfl) (fun _ _ => by kernel_rfl) hH0 ?_
              refine held_take (i := 9) (o := { dst := some 34, op := Op.move (Operand.tmp 6), type := 30, pos := "ref.go:50", after := #[{ on := 8, ground := Ground.guard }], guard := some (8, false) }) (v := .slice (some ad) n cap) (by kernel_rfl) (by kernel_rfl) (by kernel_rfl) (by kernel_rfl) (fun _ _ _ h => h) (by kernel_rfl) (fun _ _ => by kernel_rfl) hH0 ?_
              refine held_take (i := 10) (o := { dst := some 35, op := Op.move (Operand.tmp 8), type := 3, pos := "ref.go:50", after := #[{ on := 8, ground := Ground.guard }], guard := some (8, false) }) (v := .int .i64 (k : Int)) (by kernel_rfl) (by kernel_rfl) (by kernel_rfl) (by kernel_rfl) (fun _ _ _ h => h) (by kernel_rfl) (fun _ _ => by kernel_rfl) hH0 ?_
              refine held_take (i := 11) (o := { dst := some 36, op := Op.indexAddr 30 (Operand.tmp 34) (Operand.tmp 35), type := 0, pos := "ref.go:50", after := #[{ on := 9, ground := Ground.data }, { on := 10, ground := Ground.data }, { on := 8, ground := Ground.guard }], guard := some (8, false) }) (v := .pointer (some (ad.add (k * 11)))) (by kernel_rfl) (by kernel_rfl) (by kernel_rfl) (by kernel_rfl) (fun _ _ _ h => h) (by kernel_rfl) (fun W _ => ex_i_ritems (n := n) (c := cap) (k := k) rfl (by kernel_rfl) (by kernel_rfl) hkn W) hH0 ?_
              refine held_take (i := 12) (o := { dst := some 37, op := Op.fieldAddr 71 (Operand.tmp 36) 2, type := 0, pos := "ref.go:50", after := #[{ on := 11, ground := Ground.data }, { on := 8, ground := Ground.guard }], guard := some (8, false) }) (v := .pointer (some ⟨(ad.add (k * 11)).block, (ad.add (k * 11)).off + 10, none⟩)) (by kernel_rfl) (by kernel_rfl) (by kernel_rfl) (by kernel_rfl) (fun _ _ _ h => h) (by kernel_rfl) (fun W _ => ex_f_ritem_2 (p := (ad.add (k * 11))) rfl (by kernel_rfl) W) hH0 ?_
              refine held_take (i := 13) (o := { dst := some 38, op := Op.load 3 (Operand.tmp 37), type := 3, pos := "ref.go:50", after := #[{ on := 12, ground := Ground.data }, { on := 8, ground := Ground.guard }], guard := some (8, false) }) (v := .int .i64 y.t) (by kernel_rfl) (by kernel_rfl) (by kernel_rfl) (by kernel_rfl) (fun _ _ _ h => h) (by kernel_rfl) (fun _ h => ex_l1_int (p := ⟨(ad.add (k * 11)).block, (ad.add (k * 11)).off + 10, none⟩) rfl (by kernel_rfl) (h.px.c10)) hH0 ?_
              refine held_take (i := 14) (o := { dst := some 39, op := Op.fieldAddr 71 (Operand.tmp 7) 2, type := 0, pos := "ref.go:50", after := #[{ on := 8, ground := Ground.guard }], guard := some (8, false) }) (v := .pointer (some ⟨wz.heap.size, 0 + 10, none⟩)) (by kernel_rfl) (by kernel_rfl) (by kernel_rfl) (by kernel_rfl) (fun _ _ _ h => h) (by kernel_rfl) (fun W _ => ex_f_ritem_2 (p := ⟨wz.heap.size, 0, none⟩) rfl (by kernel_rfl) W) hH0 ?_
              refine held_take (i := 15) (o := { dst := some 40, op := Op.load 3 (Operand.tmp 39), type := 3, pos := "ref.go:50", after := #[{ on := 14, ground := Ground.data }, { on := 8, ground := Ground.guard }], guard := some (8, false) }) (v := .int .i64 m.t) (by kernel_rfl) (by kernel_rfl) (by kernel_rfl) (by kernel_rfl) (fun _ _ _ h => h) (by kernel_rfl) (fun _ h => ex_l1_int (p := ⟨wz.heap.size, 0 + 10, none⟩) rfl (by kernel_rfl) (h.pm.c10)) hH0 ?_
              refine held_take (i := 16) (o := { dst := some 41, op := Op.binOp BinOp.eql 3 (Operand.tmp 38) (Operand.tmp 40) 3, type := 4, pos := "ref.go:50", after := #[{ on := 13, ground := Ground.data }, { on := 15, ground := Ground.data }, { on := 8, ground := Ground.guard }], guard := some (8, false) }) (v := .bool true) (by kernel_rfl) (by kernel_rfl) (by kernel_rfl) (by kernel_rfl) (fun _ _ _ h => h) (by kernel_rfl) (fun W _ => exec_bin rfl (by kernel_rfl) (by kernel_rfl) (fun _ => by kernel_rfl) (eqi_yes hte) W) hH0 ?_
              refine held_take (i := 17) (o := { dst := some 42, op := Op.move (Operand.tmp 41), type := 4, pos := "ref.go:50", after := #[{ on := 16, ground := Ground.data }, { on := 8, ground := Ground.chain }, { on := 8, ground := Ground.guard }], guard := some (8, false) }) (v := .bool true) (by kernel_rfl) (by kernel_rfl) (by kernel_rfl) (by kernel_rfl) (fun _ _ _ h => h) (by kernel_rfl) (fun _ _ => by kernel_rfl) hH0 ?_
              refine held_take (i := 18) (o := { dst := some 43, op := Op.move (Operand.tmp 6), type := 30, pos := "ref.go:50", after := #[{ on := 17, ground := Ground.guard }], guard := some (17, true) }) (v := .slice (some ad) n cap) (by kernel_rfl) (by kernel_rfl) (by kernel_rfl) (by kernel_rfl) (fun _ _ _ h => h) (by kernel_rfl) (fun _ _ => by kernel_rfl) hH0 ?_
              refine held_take (i := 19) (o := { dst := some 44, op := Op.move (Operand.tmp 8), type := 3, pos := "ref.go:50", after := #[{ on := 17, ground := Ground.guard }], guard := some (17, true) }) (v := .int .i64 (k : Int)) (by kernel_rfl) (by kernel_rfl) (by kernel_rfl) (by kernel_rfl) (fun _ _ _ h => h) (by kernel_rfl) (fun _ _ => by kernel_rfl) hH0 ?_
              refine held_take (i := 20) (o := { dst := some 45, op := Op.indexAddr 30 (Operand.tmp 43) (Operand.tmp 44), type := 0, pos := "ref.go:50", after := #[{ on := 18, ground := Ground.data }, { on := 19, ground := Ground.data }, { on := 17, ground := Ground.guard }], guard := some (17, true) }) (v := .pointer (some (ad.add (k * 11)))) (by kernel_rfl) (by kernel_rfl) (by kernel_rfl) (by kernel_rfl) (fun _ _ _ h => h) (by kernel_rfl) (fun W _ => ex_i_ritems (n := n) (c := cap) (k := k) rfl (by kernel_rfl) (by kernel_rfl) hkn W) hH0 ?_
              refine held_take (i := 21) (o := { dst := some 46, op := Op.fieldAddr 71 (Operand.tmp 45) 0, type := 0, pos := "ref.go:50", after := #[{ on := 20, ground := Ground.data }, { on := 17, ground := Ground.guard }], guard := some (17, true) }) (v := .pointer (some (ad.add (k * 11)))) (by kernel_rfl) (by kernel_rfl) (by kernel_rfl) (by kernel_rfl) (fun _ _ _ h => h) (by kernel_rfl) (fun W _ => ex_f_ritem_0 (p := (ad.add (k * 11))) rfl (by kernel_rfl) W) hH0 ?_
              refine held_take (i := 22) (o := { dst := some 47, op := Op.load 62 (Operand.tmp 46), type := 62, pos := "ref.go:50", after := #[{ on := 21, ground := Ground.data }, { on := 17, ground := Ground.guard }], guard := some (17, true) }) (v := .agg #[.int .i64 y.x.1.1, .int .i64 y.x.1.2, .int .i64 y.x.2]) (by kernel_rfl) (by kernel_rfl) (by kernel_rfl) (by kernel_rfl) (fun _ _ _ h => h) (by kernel_rfl) (fun _ h => ex_l_ref (p := (ad.add (k * 11))) rfl (by kernel_rfl) (h.px.c0) (h.px.c1) (h.px.c2)) hH0 ?_
              refine held_take (i := 23) (o := { dst := some 48, op := Op.fieldAddr 71 (Operand.tmp 7) 0, type := 0, pos := "ref.go:50", after := #[{ on := 17, ground := Ground.guard }], guard := some (17, true) }) (v := .pointer (some ⟨wz.heap.size, 0, none⟩)) (by kernel_rfl) (by kernel_rfl) (by kernel_rfl) (by kernel_rfl) (fun _ _ _ h => h) (by kernel_rfl) (fun W _ => ex_f_ritem_0 (p := ⟨wz.heap.size, 0, none⟩) rfl (by kernel_rfl) W) hH0 ?_
              refine held_take (i := 24) (o := { dst := some 49, op := Op.load 62 (Operand.tmp 48), type := 62, pos := "ref.go:50", after := #[{ on := 23, ground := Ground.data }, { on := 17, ground := Ground.guard }], guard := some (17, true) }) (v := .agg #[.int .i64 m.x.1.1, .int .i64 m.x.1.2, .int .i64 m.x.2]) (by kernel_rfl) (by kernel_rfl) (by kernel_rfl) (by kernel_rfl) (fun _ _ _ h => h) (by kernel_rfl) (fun _ h => ex_l_ref (p := ⟨wz.heap.size, 0, none⟩) rfl (by kernel_rfl) (h.pm.c0) (h.pm.c1) (h.pm.c2)) hH0 ?_
              refine held_callX (i := 25) (o := { dst := some 50, op := Op.call { callee := Callee.value (Operand.func 34), args := #[Operand.tmp 47, Operand.tmp 49], argTypes := #[62, 62] }, type := 3, pos := "ref.go:50", after := #[{ on := 22, ground := Ground.data }, { on := 24, ground := Ground.data }, { on := 17, ground := Ground.chain }, { on := 17, ground := Ground.guard }], guard := some (17, true) }) (F := 34) (vs := #[.agg #[.int .i64 y.x.1.1, .int .i64 y.x.1.2, .int .i64 y.x.2], .agg #[.int .i64 m.x.1.1, .int .i64 m.x.1.2, .int .i64 m.x.2]]) (by kernel_rfl) (by kernel_rfl) (by kernel_rfl) (fun _ => by kernel_rfl) (HC _) ?_
              rintro e w1 ⟨rfl, hb1⟩
              have hH1 := hH0.on hb1
              refine ⟨.int .i64 z, rfl, hH1, ?_⟩
              refine held_take (i := 26) (o := { dst := some 51, op := Op.binOp BinOp.gtr 3 (Operand.tmp 50) (Operand.const (Value.int IntKind.i64 0)) 3, type := 4, pos := "ref.go:50", after := #[{ on := 25, ground := Ground.data }, { on := 17, ground := Ground.guard }], guard := some (17, true) }) (v := .bool false) (by kernel_rfl) (by kernel_rfl) (by kernel_rfl) (by kernel_rfl) (fun _ _ _ h => h) (by kernel_rfl) (fun W _ => exec_bin rfl (by kernel_rfl) (by kernel_rfl) (fun _ => by kernel_rfl) (gtr_no hzn) W) hH1 ?_
              refine held_take (i := 27) (o := { dst := some 52, op := Op.pick (Operand.tmp 42) (Operand.tmp 51) (Operand.const (Value.bool false)), type := 4, pos := "ref.go:50", after := #[{ on := 17, ground := Ground.data }, { on := 26, ground := Ground.data }, { on := 8, ground := Ground.guard }], guard := some (8, false) }) (v := .bool false) (by kernel_rfl) (by kernel_rfl) (by kernel_rfl) (by kernel_rfl) (fun _ _ _ h => h) (by kernel_rfl) (fun _ _ => by kernel_rfl) hH1 ?_
              refine held_take (i := 28) (o := { dst := some 53, op := Op.pick (Operand.tmp 33) (Operand.const (Value.bool true)) (Operand.tmp 52), type := 4, pos := "ref.go:50", after := #[{ on := 8, ground := Ground.data }, { on := 27, ground := Ground.data }], guard := none }) (v := .bool false) (by kernel_rfl) (by kernel_rfl) (by kernel_rfl) (by kernel_rfl) (fun _ _ _ h => h) (by kernel_rfl) (fun _ _ => by kernel_rfl) hH1 ?_
              refine wpAnyH_done (by kernel_rfl) ?_ _
              simp only [Act.put, List.setIfInBounds_toArray, List.set_cons_zero, List.set_cons_succ]
              have hbx := hH1.below
              have hb1 : Below wz.heap.size wz w1 := bchain hbw hbx
              have HS' : Hid (la (k + 1) = (m, .slice mp mn mc, .slice ms mo md)) := by have h := HS.out.trans (if_neg (by rw [hq.out]; exact Bool.noConfusion)); exact h
              go_wp2
              go_roundw
              case rel =>
                have hM2 : IVar w1 wz.heap.size (la (k + 1)) 71 := by rw [HS'.out]; exact hM.on hbx
                exact ⟨k + 1, by omega, by omega, by go_num, hR.on hbx, hM2, hb1⟩
              case measure => simp [intOf]; omega
      · obtain rfl : k = n := by omega
        obtain ⟨M, hMe⟩ : ∃ M, M = la k := ⟨_, rfl⟩
        have HMe : Hid (M = la k) := hMe
        rw [← hMe] at hM hMi
        clear hMe
        obtain ⟨m, pm, sm⟩ := M
        obtain ⟨mp, mn, mc, rfl⟩ := strs_slice hMi.1
        obtain ⟨ms, mo, md, rfl⟩ := refs_slice hMi.2
        obtain ⟨d0, d1, d2, d3, d4, d5, d6, d7, d8, d9, d10⟩ := hM.at
        simp only [Nat.zero_add] at d1 d2 d3 d4 d5 d6 d7 d8 d9 d10
        obtain ⟨r0, r1, r2⟩ := (hR.set (Rg.valOf m)).at
        simp only [Nat.zero_add] at r1 r2
        have hs1 : (Try.prog.info? 33).map (·.size) = some (vcell (Rg.valOf m)).length := vsize33 rfl
        have hfin := below_setRow9 (bchain (bchain B0 hb1) hbw) (Nat.le_refl w.heap.size) (vcell (Rg.valOf m)).toArray
        clear hMi
        go_wp2_with (first
          | (refine store_var rfl 33 _ _ rfl w.heap.size (vcell (Rg.valOf m)) _ 33 rfl rfl hR hs1 rfl (vcell_one _) ?_)
          | go_in)
        refine bodyPost_ret (v := .tuple #[.agg #[.int .i64 (Rg.valOf m).1, .int .i64 (Rg.valOf m).2.1, .string ⟨(Rg.valOf m).2.2.toArray⟩], .bool true]) (by simp [results, Try.results11, go_sem, r0, r1, r2]) rfl ⟨by rw [← HMe.out], hfin⟩
end Go.Proofs.Ytmnjeffpfmfbiaa.O
/- What reg tells, both sides, by the items alone. -/
namespace Go.Proofs.Ytmnjeffpfmfbiaa.O
open Go.RowKit

theorem filt_map (P : Lv.Item → Bool) : ∀ l : List IE, (l.filter fun x => P x.1).map (·.1) = (l.map (·.1)).filter P := fun l => by
  rw [List.filter_map]
  rfl
/-- A register's values. -/
def regV (its : List Lv.Item) (p : List (List UInt8)) : List Rg.Va := Rg.vals ((Lv.atLeaf its p 1).map Rg.valOf)
/-- The one that was put last. -/
def regL (its : List Lv.Item) (p : List (List UInt8)) : Rg.Va := latV (Lv.atLeaf its p 1)
def regB (its : List Lv.Item) (p : List (List UInt8)) : Bool := !(Lv.atLeaf its p 1).isEmpty
theorem at_its {xs : List IE} {its : List Lv.Item} (h : xs.map (·.1) = its) (p : List (List UInt8)) : (xs.filter fun x => isAt p 1 x.1).map (·.1) = Lv.atLeaf its p 1 := by
  rw [filt_map, h]
  rfl
theorem vof_its {xs : List IE} {its : List Lv.Item} (h : xs.map (·.1) = its) (p : List (List UInt8)) : Rg.vals (vof (xs.filter fun x => isAt p 1 x.1)) = regV its p := by
  unfold regV
  rw [← at_its h p, List.map_map]
  rfl
theorem lat_its {xs : List IE} {its : List Lv.Item} (h : xs.map (·.1) = its) (p : List (List UInt8)) : latV ((xs.filter fun x => isAt p 1 x.1).map (·.1)) = regL its p := by
  unfold regL
  rw [at_its h p]
theorem emp_its {xs : List IE} {its : List Lv.Item} (h : xs.map (·.1) = its) (p : List (List UInt8)) : (!(xs.filter fun x => isAt p 1 x.1).isEmpty) = regB its p := by
  unfold regB
  rw [← at_its h p]
  cases xs.filter fun x => isAt p 1 x.1 <;> rfl
section
variable {v vp : Value} {xs : List IE} {its : List Lv.Item} {p : List (List UInt8)} {w : World}
theorem values_its (hv : itsE w v xs) (he : xs.map (·.1) = its) (hp : U.strsAt w vp p) (hn : xs.length ≤ 1000000) (hs : ShortI xs) : Calls Try.prog 14 #[v, vp] w fun e w' => ∃ r, e = .returned r ∧ valsIn w' r (regV its p) ∧ Below w.heap.size w w' := by
  rw [← vof_its he p]; exact values_any v vp xs p w hv hp hn hs
theorem conflict_its (hv : itsE w v xs) (he : xs.map (·.1) = its) (hp : U.strsAt w vp p) (hn : xs.length ≤ 1000000) (hs : ShortI xs) : Calls Try.prog 15 #[v, vp] w fun e w' => e = .returned (.bool (decide (1 < (regV its p).length))) ∧ Below w.heap.size w w' := by
  rw [← vof_its he p]; exact conflict_any v vp xs p w hv hp hn hs
theorem latest_its (hv : itsE w v xs) (he : xs.map (·.1) = its) (hp : U.strsAt w vp p) (hn : xs.length ≤ 1000000) (hs : ShortI xs) : Calls Try.prog 10 #[v, vp] w fun e w' => e = .returned (.tuple #[vV (regL its p), .bool (regB its p)]) ∧ Below w.heap.size w w' := by
  rw [← lat_its he p, ← emp_its he p]; exact latest_any v vp xs p w hv hp hn hs
theorem refValues_its (hv : itsE w v xs) (he : xs.map (·.1) = its) (hp : U.strsAt w vp p) (hn : xs.length ≤ 1000000) (hpn : p.length ≤ 2000000) (hs : ShortI xs) : Calls Try.prog 12 #[v, vp] w fun e w' => ∃ r, e = .returned r ∧ valsIn w' r (regV its p) ∧ Below w.heap.size w w' := by
  rw [← vof_its he p]; exact refValues_any v vp xs p w hv hp hn hpn hs
theorem refLatest_its (hv : itsE w v xs) (he : xs.map (·.1) = its) (hp : U.strsAt w vp p) (hn : xs.length ≤ 1000000) (hpn : p.length ≤ 2000000) (hs : ShortI xs) : Calls Try.prog 11 #[v, vp] w fun e w' => e = .returned (.tuple #[vV (regL its p), .bool (regB its p)]) ∧ Below w.heap.size w w' := by
  rw [← lat_its he p, ← emp_its he p]; exact refLatest_any v vp xs p w hv hp hn hpn hs
end
theorem regV_len (its : List Lv.Item) (p : List (List UInt8)) : (regV its p).length ≤ its.length := by
  unfold regV
  refine Nat.le_trans (Rg.vals_len _) ?_
  rw [List.length_map]
  exact List.length_filter_le _ _
end Go.Proofs.Ytmnjeffpfmfbiaa.O
