/- The walk of slices.MaxFunc over items, and of Latest, both sides. -/
import Derived.Test.YtmnjeffpfmfbiaaVInsAll
import Derived.Test.YtmnjeffpfmfbiaaRefsDAll
namespace Go.Proofs.Ytmnjeffpfmfbiaa.O
open Go.RowKit

/-- A variable gets a value of many cells. -/
theorem store_var {P : Program} {ops : Array Oper} {rest : List Oper} {o : Oper} {a : Act} {w : World} {Q : Exit → Act → World → Prop} (hgd : o.guard = none) (ty : TypeId) (x y : Operand) (ho : o.op = .store ty x y) (b : Nat) (cs : List Value) (old : Array Value) (T : TypeId) (hx : a.eval x = .pointer (some ⟨b, 0, none⟩)) (hy : a.eval y = .agg cs.toArray)
    (hg : w.heap[b]? = some (.cells old T (0, 0))) (hi : (P.info? ty).map (·.size) = some cs.length) (hold : old.size = cs.length) (h1 : ∀ v ∈ cs, v.oneCell' = true) (h : wpList P ops Q rest (a.put o.dst undef) (w.setRow b cs.toArray)) : wpList P ops Q (o :: rest) a w :=
  wpList_plain hgd fun _ hK => wp_store_row ty x y ho b cs.toArray hx hy T old hg (by simpa using hi) (by simpa using hold) (all_oneCell_toArray h1) (hK _ _ h)
/-- A variable holds this item. -/
def IVar (w : World) (b : Nat) (x : IE) (T : TypeId) : Prop := w.heap[b]? = some (.cells (icell x).toArray T (0, 0))
theorem IVar.cells {w : World} {b : Nat} {x : IE} {T : TypeId} (h : IVar w b x T) : ∀ j v, (icell x)[j]? = some v → w.cell? ((⟨b, 0, none⟩ : Addr).add j) = some v := fun j v hv => by
  rw [zero_add9, cell_of_row _ b j _ T (0, 0) h]
  simpa using hv
theorem IVar.at {w : World} {b : Nat} {x : IE} {T : TypeId} (h : IVar w b x T) : IcAt w ⟨b, 0, none⟩ x := IcAt.of h.cells
theorem IVar.on {w w' : World} {b : Nat} {x : IE} {T : TypeId} (h : IVar w b x T) (hb : Below w.heap.size w w') : IVar w' b x T := (hb.block b (Array.getElem?_eq_some_iff.1 h).1).trans h
theorem IVar.set {w : World} {b : Nat} {x : IE} {T : TypeId} (h : IVar w b x T) (y : IE) : IVar (w.setRow b (icell y).toArray) b y T := setRow_heap w b _ _ T (0, 0) h
theorem below_setRow9 {B : Nat} {a w : World} (h : Below B a w) {b : Nat} (hb : B ≤ b) (cs : Array Value) : Below B a (w.setRow b cs) :=
  ⟨h.os, h.tape, h.output, by rw [setRow_size]; exact h.size, fun k hk => (setRow_other w b k cs (by omega)).trans (h.block k hk)⟩
abbrev izeroO (T : TypeId) : Obj := .cells #[.int .i64 0, .int .i64 0, .int .i64 0, .int .i64 0, .slice none 0 0, .int .i64 0, .int .i64 0, .string ⟨#[]⟩, .int .i64 0, .slice none 0 0, .int .i64 0] T

set_option maxRecDepth 20000 in
set_option maxHeartbeats 4000000 in
theorem maxFunc_any (ao : Option Addr) (cap : Nat) (b : IE) (r : List IE) (w : World) (hv : itsE w (.slice ao (b :: r).length cap) (b :: r)) (hn : (b :: r).length ≤ 1000000) :
    Calls Try.prog 28 #[.slice ao (b :: r).length cap, .func (.func 29) #[] #[]] w fun e w' => e = .returned (.agg (icell (lastE b r)).toArray) ∧ Below w.heap.size w w' := by
  obtain ⟨xs, hxs⟩ : ∃ xs, xs = b :: r := ⟨_, rfl⟩
  obtain ⟨n, hn0⟩ : ∃ n, n = xs.length := ⟨_, rfl⟩
  obtain ⟨la, hla⟩ : ∃ la : Nat → IE, la = fun k => lastE b (xs.take k) := ⟨_, rfl⟩
  have HL : Hid (la 1 = b ∧ la n = lastE b r ∧ (∀ k (h : k < xs.length), la (k + 1) = if Rg.later xs[k].1 (la k).1 = true then xs[k] else la k) ∧ ∀ k, la k ∈ xs) := by
    have h : la 1 = b ∧ la n = lastE b r ∧ (∀ k (h : k < xs.length), la (k + 1) = if Rg.later xs[k].1 (la k).1 = true then xs[k] else la k) ∧ ∀ k, la k ∈ xs := by
      refine ⟨?_, ?_, fun k h => ?_, fun k => ?_⟩
      · rw [hla, hxs]
        show lastE b (List.take 1 (b :: r)) = b
        rw [List.take_succ_cons, List.take_zero, lastE_self]; rfl
      · rw [hla, hn0]
        show lastE b (xs.take xs.length) = _
        rw [List.take_length, hxs, lastE_self]
      · rw [hla]; exact lastE_step b xs h
      · rw [hla]
        show lastE b (xs.take k) ∈ xs
        rcases lastE_mem (xs.take k) b with e | e
        · rw [e, hxs]; simp
        · exact List.mem_of_mem_take e
    exact h
  have hx0 : Hid (∃ h : 0 < xs.length, xs[0] = b) := by have h : ∃ h : 0 < xs.length, xs[0] = b := ⟨by rw [hxs]; simp, by subst hxs; rfl⟩; exact h
  have hpos : 0 < n := by rw [hn0]; exact hx0.out.1
  rw [← hxs] at hv hn ⊢
  rw [← HL.out.2.1]
  have HN : Hid (n = xs.length) := hn0
  rw [← hn0] at hv hn ⊢
  have HV : Hid (itsE w (.slice ao n cap) xs) := hv
  clear hn0 hxs hv hla
  have B0 := below_new w (izeroO 68)
  obtain ⟨ad, rfl, -, hX, hXi⟩ := (HV.out.on B0).get hx0.out.1
  rw [show ad.add (0 * 11) = ad by simp [Addr.add], hx0.out.2] at hX
  rw [hx0.out.2] at hXi
  have R0 : IVar (w.alloc (izeroO 68)) w.heap.size (⟨((0, 0), 0), ⟨0, [], 0, 0, [], 0, []⟩, 0⟩, .slice none 0 0, .slice none 0 0) 68 := heap_alloc_new w _
  have hB1 := below_new2 w (izeroO 68) (.cells (icell b).toArray 68)
  have e1 : (w.alloc (izeroO 68)).heap.size = w.heap.size + 1 := by simp
  have M0 : IVar ((w.alloc (izeroO 68)).alloc (.cells (icell b).toArray 68)) (w.alloc (izeroO 68)).heap.size b 68 := heap_alloc_new _ _
  rw [e1] at M0
  have R1 := R0.on (below_new _ (.cells (icell b).toArray 68))
  have M9 : IVar ((w.alloc (izeroO 68)).alloc (.cells (icell b).toArray 68)) (w.heap.size + 1) (la 1) 68 := by rw [HL.out.1]; exact M0
  obtain ⟨bt, bp, bs⟩ := b
  obtain ⟨pa, pn, pc, rfl⟩ := strs_slice hXi.1
  obtain ⟨sa, sn, sc, rfl⟩ := refs_slice hXi.2
  obtain ⟨c0, c1, c2, c3, c4, c5, c6, c7, c8, c9, c10⟩ := hX
  have HR1 : Hid (IVar ((w.alloc (izeroO 68)).alloc (.cells (icell (bt, .slice pa pn pc, .slice sa sn sc)).toArray 68)) w.heap.size (⟨((0, 0), 0), ⟨0, [], 0, 0, [], 0, []⟩, 0⟩, .slice none 0 0, .slice none 0 0) 68) := R1
  have HM0 : Hid (IVar ((w.alloc (izeroO 68)).alloc (.cells (icell (bt, .slice pa pn pc, .slice sa sn sc)).toArray 68)) (w.heap.size + 1) (la 1) 68) := M9
  clear R0 R1 M0 M9 e1 B0
  go_enter Try.func28, Try.ntmps28
  go_wp2
  go_loopw [6] (fun i wr => ∃ k : Nat, 1 ≤ k ∧ k ≤ n ∧ i = .int .i64 k ∧ Hid (IVar wr w.heap.size (⟨((0, 0), 0), ⟨0, [], 0, 0, [], 0, []⟩, 0⟩, .slice none 0 0, .slice none 0 0) 68) ∧ Hid (IVar wr (w.heap.size + 1) (la k) 68) ∧ Below w.heap.size w wr) (fun i _ => n - (intOf i).toNat)
  case atStart => exact ⟨1, by omega, by omega, rfl, HR1, HM0, hB1⟩
  case round =>
    clear HR1 HM0 hB1 c0 c1 c2 c3 c4 c5 c6 c7 c8 c9 c10 hXi
    obtain ⟨k, hk1, hk, rfl, HR, HM, hbw⟩ := hrel
    have hR := HR.out
    have hM := HM.out
    clear HR HM
    have hMi := (HV.out.on hbw).2 _ (HL.out.2.2.2 k)
    by_cases hkn : k < n
    · have hkx : k < xs.length := by rw [← HN.out]; exact hkn
      obtain ⟨ad', e9, hXc, hX, hXi⟩ := (HV.out.on hbw).get hkx
      cases e9
      have HS : Hid (la (k + 1) = if Rg.later xs[k].1 (la k).1 = true then xs[k] else la k) := by have h := HL.out.2.2.1 k hkx; exact h
      have HY : ∀ W, Below wr.heap.size wr W → IcAt W (ad.add (k * 11)) xs[k] := fun W hW => hX.on hW
      have hone := icell_one hXi
      have hi0 : (0 : Int) ≤ (k : Int) := by omega
      have hi1 : (k : Int) < (n : Int) := by omega
      generalize xs[k] = Y at *
      generalize la k = M at *
      obtain ⟨m, pm, sm⟩ := M
      obtain ⟨y, py, sy⟩ := Y
      obtain ⟨mp, mn, mc, rfl⟩ := strs_slice hMi.1
      obtain ⟨ms, mo, md, rfl⟩ := refs_slice hMi.2
      obtain ⟨yp, yn, yc, rfl⟩ := strs_slice hXi.1
      obtain ⟨ys, yo, yd, rfl⟩ := refs_slice hXi.2
      have HC := fun W => later_any y m yp yn yc ys yo yd mp mn mc ms mo md W
      have hz := Rg.lcomp_later y m
      obtain ⟨c0, c1, c2, c3, c4, c5, c6, c7, c8, c9, c10⟩ := hX
      obtain ⟨d0, d1, d2, d3, d4, d5, d6, d7, d8, d9, d10⟩ := hM.at
      simp only [Nat.zero_add] at d1 d2 d3 d4 d5 d6 d7 d8 d9 d10
      generalize Rg.lcomp y m = z at *
      clear hMi hXi
      cases hq : Rg.later y m with
      | true =>
        rw [hq] at hz
        have hzp : 0 < z := hz.2 rfl
        have HS' : Hid (la (k + 1) = (y, .slice yp yn yc, .slice ys yo yd)) := by have h := HS.out.trans (if_pos hq); exact h
        clear hz HS
        go_wp2_with fail
        go_region_held3 (fun w' => w'.cell? (ad.add (k * 11)) = some (.int .i64 y.x.1.1) ∧ w'.cell? ⟨(ad.add (k * 11)).block, (ad.add (k * 11)).off + 1, none⟩ = some (.int .i64 y.x.1.2) ∧ w'.cell? ⟨(ad.add (k * 11)).block, (ad.add (k * 11)).off + 2, none⟩ = some (.int .i64 y.x.2) ∧ w'.cell? ⟨(ad.add (k * 11)).block, (ad.add (k * 11)).off + 3, none⟩ = some (.int .i64 y.o.k) ∧ w'.cell? ⟨(ad.add (k * 11)).block, (ad.add (k * 11)).off + 4, none⟩ = some (.slice yp yn yc) ∧ w'.cell? ⟨(ad.add (k * 11)).block, (ad.add (k * 11)).off + 5, none⟩ = some (.int .i64 y.o.vk) ∧ w'.cell? ⟨(ad.add (k * 11)).block, (ad.add (k * 11)).off + 6, none⟩ = some (.int .i64 y.o.vn) ∧ w'.cell? ⟨(ad.add (k * 11)).block, (ad.add (k * 11)).off + 7, none⟩ = some (.string ⟨y.o.vs.toArray⟩) ∧ w'.cell? ⟨(ad.add (k * 11)).block, (ad.add (k * 11)).off + 8, none⟩ = some (.int .i64 y.o.n) ∧ w'.cell? ⟨(ad.add (k * 11)).block, (ad.add (k * 11)).off + 9, none⟩ = some (.slice ys yo yd) ∧ w'.cell? ⟨(ad.add (k * 11)).block, (ad.add (k * 11)).off + 10, none⟩ = some (.int .i64 y.t) ∧ w'.cell? ⟨w.heap.size + 1, 0, none⟩ = some (.int .i64 m.x.1.1) ∧ w'.cell? ⟨w.heap.size + 1, 1, none⟩ = some (.int .i64 m.x.1.2) ∧ w'.cell? ⟨w.heap.size + 1, 2, none⟩ = some (.int .i64 m.x.2) ∧ w'.cell? ⟨w.heap.size + 1, 3, none⟩ = some (.int .i64 m.o.k) ∧ w'.cell? ⟨w.heap.size + 1, 4, none⟩ = some (.slice mp mn mc) ∧ w'.cell? ⟨w.heap.size + 1, 5, none⟩ = some (.int .i64 m.o.vk) ∧ w'.cell? ⟨w.heap.size + 1, 6, none⟩ = some (.int .i64 m.o.vn) ∧ w'.cell? ⟨w.heap.size + 1, 7, none⟩ = some (.string ⟨m.o.vs.toArray⟩) ∧ w'.cell? ⟨w.heap.size + 1, 8, none⟩ = some (.int .i64 m.o.n) ∧ w'.cell? ⟨w.heap.size + 1, 9, none⟩ = some (.slice ms mo md) ∧ w'.cell? ⟨w.heap.size + 1, 10, none⟩ = some (.int .i64 m.t))
          (first | go_keep | (refine ⟨keep_cell hb ?_, keep_cell hb ?_, keep_cell hb ?_, keep_cell hb ?_, keep_cell hb ?_, keep_cell hb ?_, keep_cell hb ?_, keep_cell hb ?_, keep_cell hb ?_, keep_cell hb ?_, keep_cell hb ?_, keep_cell hb ?_, keep_cell hb ?_, keep_cell hb ?_, keep_cell hb ?_, keep_cell hb ?_, keep_cell hb ?_, keep_cell hb ?_, keep_cell hb ?_, keep_cell hb ?_, keep_cell hb ?_, keep_cell hb ?_⟩ <;> go_keep))
          (first | (go_at_call 29; refine (HC _).mono ?_; rintro e w1 ⟨rfl, hb⟩))
        have hb1 : Below w.heap.size w w1 := bchain hbw.drew hb
        have hbx : Below wr.heap.size wr w1 := bchain (Below.refl _ wr).drew hb
        have hR1 := hR.on hbx
        have hM1 := hM.on hbx
        clear c0 c1 c2 c3 c4 c5 c6 c7 c8 c9 c10 d0 d1 d2 d3 d4 d5 d6 d7 d8 d9 d10
        obtain ⟨c0, c1, c2, c3, c4, c5, c6, c7, c8, c9, c10⟩ := HY w1 hbx
        have hs1 : (Try.prog.info? 68).map (·.size) = some (icell (y, .slice yp yn yc, .slice ys yo yd)).length := isize56 rfl
        go_wp2_with (first
          | (refine store_var rfl 68 _ _ rfl (w.heap.size + 1) (icell (y, .slice yp yn yc, .slice ys yo yd)) _ 68 rfl rfl hM1 hs1 rfl hone ?_)
          | go_in)
        go_roundw
        case rel =>
          have hR2 : IVar (w1.setRow (w.heap.size + 1) (icell (y, .slice yp yn yc, .slice ys yo yd)).toArray) w.heap.size (⟨((0, 0), 0), ⟨0, [], 0, 0, [], 0, []⟩, 0⟩, .slice none 0 0, .slice none 0 0) 68 := (setRow_other w1 _ _ _ (by omega)).trans hR1
          have hM2 : IVar (w1.setRow (w.heap.size + 1) (icell (y, .slice yp yn yc, .slice ys yo yd)).toArray) (w.heap.size + 1) (la (k + 1)) 68 := by rw [HS'.out]; exact hM1.set _
          exact ⟨k + 1, by omega, by omega, by go_num, hR2, hM2, below_setRow9 hb1 (by omega) _⟩
        case measure => simp [intOf]; omega
      | false =>
        rw [hq] at hz
        have hz0 : ¬ 0 < z := fun h => by have := hz.1 h; cases this
        have hzn : z ≤ 0 := by omega
        have HS' : Hid (la (k + 1) = (m, .slice mp mn mc, .slice ms mo md)) := by have h := HS.out.trans (if_neg (by rw [hq]; exact Bool.noConfusion)); exact h
        clear hz hz0 HS
        go_wp2_with fail
        go_region_held3 (fun w' => w'.cell? (ad.add (k * 11)) = some (.int .i64 y.x.1.1) ∧ w'.cell? ⟨(ad.add (k * 11)).block, (ad.add (k * 11)).off + 1, none⟩ = some (.int .i64 y.x.1.2) ∧ w'.cell? ⟨(ad.add (k * 11)).block, (ad.add (k * 11)).off + 2, none⟩ = some (.int .i64 y.x.2) ∧ w'.cell? ⟨(ad.add (k * 11)).block, (ad.add (k * 11)).off + 3, none⟩ = some (.int .i64 y.o.k) ∧ w'.cell? ⟨(ad.add (k * 11)).block, (ad.add (k * 11)).off + 4, none⟩ = some (.slice yp yn yc) ∧ w'.cell? ⟨(ad.add (k * 11)).block, (ad.add (k * 11)).off + 5, none⟩ = some (.int .i64 y.o.vk) ∧ w'.cell? ⟨(ad.add (k * 11)).block, (ad.add (k * 11)).off + 6, none⟩ = some (.int .i64 y.o.vn) ∧ w'.cell? ⟨(ad.add (k * 11)).block, (ad.add (k * 11)).off + 7, none⟩ = some (.string ⟨y.o.vs.toArray⟩) ∧ w'.cell? ⟨(ad.add (k * 11)).block, (ad.add (k * 11)).off + 8, none⟩ = some (.int .i64 y.o.n) ∧ w'.cell? ⟨(ad.add (k * 11)).block, (ad.add (k * 11)).off + 9, none⟩ = some (.slice ys yo yd) ∧ w'.cell? ⟨(ad.add (k * 11)).block, (ad.add (k * 11)).off + 10, none⟩ = some (.int .i64 y.t) ∧ w'.cell? ⟨w.heap.size + 1, 0, none⟩ = some (.int .i64 m.x.1.1) ∧ w'.cell? ⟨w.heap.size + 1, 1, none⟩ = some (.int .i64 m.x.1.2) ∧ w'.cell? ⟨w.heap.size + 1, 2, none⟩ = some (.int .i64 m.x.2) ∧ w'.cell? ⟨w.heap.size + 1, 3, none⟩ = some (.int .i64 m.o.k) ∧ w'.cell? ⟨w.heap.size + 1, 4, none⟩ = some (.slice mp mn mc) ∧ w'.cell? ⟨w.heap.size + 1, 5, none⟩ = some (.int .i64 m.o.vk) ∧ w'.cell? ⟨w.heap.size + 1, 6, none⟩ = some (.int .i64 m.o.vn) ∧ w'.cell? ⟨w.heap.size + 1, 7, none⟩ = some (.string ⟨m.o.vs.toArray⟩) ∧ w'.cell? ⟨w.heap.size + 1, 8, none⟩ = some (.int .i64 m.o.n) ∧ w'.cell? ⟨w.heap.size + 1, 9, none⟩ = some (.slice ms mo md) ∧ w'.cell? ⟨w.heap.size + 1, 10, none⟩ = some (.int .i64 m.t))
          (first | go_keep | (refine ⟨keep_cell hb ?_, keep_cell hb ?_, keep_cell hb ?_, keep_cell hb ?_, keep_cell hb ?_, keep_cell hb ?_, keep_cell hb ?_, keep_cell hb ?_, keep_cell hb ?_, keep_cell hb ?_, keep_cell hb ?_, keep_cell hb ?_, keep_cell hb ?_, keep_cell hb ?_, keep_cell hb ?_, keep_cell hb ?_, keep_cell hb ?_, keep_cell hb ?_, keep_cell hb ?_, keep_cell hb ?_, keep_cell hb ?_, keep_cell hb ?_⟩ <;> go_keep))
          (first | (go_at_call 29; refine (HC _).mono ?_; rintro e w1 ⟨rfl, hb⟩))
        have hb1 : Below w.heap.size w w1 := bchain hbw.drew hb
        have hbx : Below wr.heap.size wr w1 := bchain (Below.refl _ wr).drew hb
        have hR1 := hR.on hbx
        have hM1 := hM.on hbx
        go_wp2
        go_roundw
        case rel =>
          have hM2 : IVar w1 (w.heap.size + 1) (la (k + 1)) 68 := by rw [HS'.out]; exact hM1
          exact ⟨k + 1, by omega, by omega, by go_num, hR1, hM2, hb1⟩
        case measure => simp [intOf]; omega
    · obtain rfl : k = n := by omega
      have hone := icell_one hMi
      obtain ⟨M, hMe⟩ : ∃ M, M = la k := ⟨_, rfl⟩
      have HMe : Hid (M = la k) := hMe
      rw [← hMe] at hM hMi hone
      clear hMe
      obtain ⟨m, pm, sm⟩ := M
      obtain ⟨mp, mn, mc, rfl⟩ := strs_slice hMi.1
      obtain ⟨ms, mo, md, rfl⟩ := refs_slice hMi.2
      obtain ⟨d0, d1, d2, d3, d4, d5, d6, d7, d8, d9, d10⟩ := hM.at
      simp only [Nat.zero_add] at d1 d2 d3 d4 d5 d6 d7 d8 d9 d10
      have hs1 : (Try.prog.info? 68).map (·.size) = some (icell (m, .slice mp mn mc, .slice ms mo md)).length := isize56 rfl
      have hfin := (hR.set (m, .slice mp mn mc, .slice ms mo md)).at
      obtain ⟨r0, r1, r2, r3, r4, r5, r6, r7, r8, r9, r10⟩ := hfin
      simp only [Nat.zero_add] at r1 r2 r3 r4 r5 r6 r7 r8 r9 r10
      clear hMi
      go_wp2_with (first
        | (refine store_var rfl 68 _ _ rfl w.heap.size (icell (m, .slice mp mn mc, .slice ms mo md)) _ 68 rfl rfl hR hs1 rfl hone ?_)
        | go_in)
      refine bodyPost_ret (v := .agg #[.int .i64 m.x.1.1, .int .i64 m.x.1.2, .int .i64 m.x.2, .int .i64 m.o.k, .slice mp mn mc, .int .i64 m.o.vk, .int .i64 m.o.vn, .string ⟨m.o.vs.toArray⟩, .int .i64 m.o.n, .slice ms mo md, .int .i64 m.t]) (by simp [results, Try.results28, go_sem, r0, r1, r2, r3, r4, r5, r6, r7, r8, r9, r10]) rfl ⟨by rw [← HMe.out]; rfl, below_setRow9 hbw (Nat.le_refl _) _⟩
end Go.Proofs.Ytmnjeffpfmfbiaa.O
