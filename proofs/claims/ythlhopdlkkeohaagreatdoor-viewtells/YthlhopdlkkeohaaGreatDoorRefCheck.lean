/- The walk of the document's Check. -/
import Derived.Test.YthlhopdlkkeohaaGreatDoorRightsAll
namespace Go.Proofs.YthlhopdlkkeohaaGreatDoor.O
open Go.RowKit

set_option maxRecDepth 20000 in
set_option maxHeartbeats 4000000 in
theorem refCheck_1 (pv : Value) (vk vn : Int) (vs : List UInt8) (n : Int) (sv : Value) (p : List (List UInt8)) (l : List U) (w : World)
    (hx : p.length ≤ 1000000) (hz : ∀ x ∈ p, x.length ≤ 2000000) (hv : vs.length ≤ 2000000) (hll : l.length ≤ 1000000) (hp : U.strsAt w pv p) (hs : refsIn w sv l) :
    Calls Tryz.prog 103 #[opV 1 pv vk vn vs n sv] w fun e w' => e = .returned (.int .i64 (Os.check ⟨1, p, vk, vn, vs, n, l⟩ : Nat)) ∧ Below w.heap.size w w' := by
  have C31 := fun W (hb : Below w.heap.size w W) => U.refCheck_any pv p W (by omega) hz (U.strsAt_below hp hb (Nat.le_refl _))
  have C14 := fun W (hb : Below w.heap.size w W) => refRefs_list sv l W (hs.on hb) hll
  have C32 := fun w => V.refRight_any vk vn vs w hv
  obtain ⟨bo, cs, rfl, -, -, -⟩ := hs
  obtain ⟨m, hm⟩ : ∃ m, m = l.length := ⟨_, rfl⟩
  rw [← hm] at C14 hll ⊢
  have HM : Hid (m = l.length) := hm
  clear hm
  have B0 := below_new w (opO 1 pv vk vn vs n (.slice bo m cs))
  have O0 := OAt.new w 1 pv vk vn vs n (.slice bo m cs)
  have HK : Hid (¬ ((⟨1, p, vk, vn, vs, n, l⟩ : Os.Op).k < 1 ∨ 5 < (⟨1, p, vk, vn, vs, n, l⟩ : Os.Op).k)) := by
    have h : ¬ ((⟨1, p, vk, vn, vs, n, l⟩ : Os.Op).k < 1 ∨ 5 < (⟨1, p, vk, vn, vs, n, l⟩ : Os.Op).k) := by show ¬ ((1 : Int) < 1 ∨ (5 : Int) < 1); omega
    exact h
  clear hp hz hv hx
  by_cases hq : Pt.check p = 0
  rotate_left
  · rw [ck_path (o := ⟨1, p, vk, vn, vs, n, l⟩) HK.out hq]
    show Calls Tryz.prog 103 #[opV 1 pv vk vn vs n (.slice bo m cs)] w fun e w' => e = .returned (.int .i64 (Pt.check p : Nat)) ∧ Below w.heap.size w w'
    generalize Pt.check p = q at *
    have e1 : ((q : Int) != 0) = true := by simp; omega
    clear hq HK
    go_enter Tryz.func103, Tryz.ntmps103
    go_wp2_with (go_at_call 135; refine (C31 _ B0).mono ?_; rintro e w1 ⟨rfl, hb1⟩)
    go_ret
    exact ⟨rfl, bchain B0 hb1⟩
  rw [hq] at C31
  have HQ : Hid (Pt.check p = 0) := hq
  clear hq
  have hrv : Os.rv ⟨1, p, vk, vn, vs, n, l⟩ = Vl.right vk vn vs := by unfold Os.rv; rw [if_pos (by show Os.hv 1 = true; decide)]
  cases hr : Vl.right vk vn vs with
  | false =>
    rw [ck_arg HK.out HQ.out (.inl (hrv.trans hr))]
    rw [hr] at C32
    clear HK HQ hrv hr
    go_enter Tryz.func103, Tryz.ntmps103
    go_wp2_with (first
      | (go_at_call 135; refine (C31 _ B0).mono ?_; rintro e w1 ⟨rfl, hb1⟩; have O1 := (O0.on hb1).on (below_new w1 (valO 0 0 [])); have Z1 := VAt.new w1 0 0 []; obtain ⟨c0, c1, c2, c3, c4, c5, c6⟩ := O1; obtain ⟨z0, z1, z2, y0, y1, y2⟩ := Z1)
      | (go_at_call 136; refine (C32 _).mono ?_; rintro e w2 ⟨rfl, hb2⟩; obtain ⟨c0, c1, c2, c3, c4, c5, c6⟩ := OAt.on (show OAt (w1.alloc (valO 0 0 [])) w.heap.size 1 pv vk vn vs n (.slice bo m cs) from ⟨c0, c1, c2, c3, c4, c5, c6⟩) hb2))
    go_ret
    exact ⟨rfl, (bchain (bchain (bchain B0 hb1) (below_new _ _)) hb2)⟩
  | true =>
  rw [hr] at C32
  have HV : Hid (Os.rv ⟨1, p, vk, vn, vs, n, l⟩ = true) := by have h := hrv.trans hr; exact h
  clear hrv hr
  have hra : Os.ra ⟨1, p, vk, vn, vs, n, l⟩ = decide (n = 0) := by unfold Os.ra; rw [if_neg (by show ¬ Os.ha 1 = true; decide)]
  by_cases hn : n = 0
  rotate_left
  · rw [ck_arg HK.out HQ.out (.inr (.inl (hra.trans (decide_eq_false hn))))]
    have e2 : (n != 0) = true := by simpa using hn
    clear HK HQ HV hra hn
    go_enter Tryz.func103, Tryz.ntmps103
    go_wp2_with (first
      | (go_at_call 135; refine (C31 _ B0).mono ?_; rintro e w1 ⟨rfl, hb1⟩; have O1 := (O0.on hb1).on (below_new w1 (valO 0 0 [])); have Z1 := VAt.new w1 0 0 []; obtain ⟨c0, c1, c2, c3, c4, c5, c6⟩ := O1; obtain ⟨z0, z1, z2, y0, y1, y2⟩ := Z1)
      | (go_at_call 136; refine (C32 _).mono ?_; rintro e w2 ⟨rfl, hb2⟩; obtain ⟨c0, c1, c2, c3, c4, c5, c6⟩ := OAt.on (show OAt (w1.alloc (valO 0 0 [])) w.heap.size 1 pv vk vn vs n (.slice bo m cs) from ⟨c0, c1, c2, c3, c4, c5, c6⟩) hb2))
    go_ret
    exact ⟨rfl, (bchain (bchain (bchain B0 hb1) (below_new _ _)) hb2)⟩
  have HN : Hid (Os.ra ⟨1, p, vk, vn, vs, n, l⟩ = true) := by have h := hra.trans (decide_eq_true hn); exact h
  clear hra
  subst hn
  have HA : Hid (¬ (Os.rv ⟨1, p, vk, vn, vs, 0, l⟩ = false ∨ Os.ra ⟨1, p, vk, vn, vs, 0, l⟩ = false ∨ (Os.hs (⟨1, p, vk, vn, vs, 0, l⟩ : Os.Op).k = false ∧ 0 < (⟨1, p, vk, vn, vs, 0, l⟩ : Os.Op).l.length))) := by
    have h : ¬ (Os.rv ⟨1, p, vk, vn, vs, 0, l⟩ = false ∨ Os.ra ⟨1, p, vk, vn, vs, 0, l⟩ = false ∨ (Os.hs (⟨1, p, vk, vn, vs, 0, l⟩ : Os.Op).k = false ∧ 0 < (⟨1, p, vk, vn, vs, 0, l⟩ : Os.Op).l.length)) := by
      rintro (x | x | x)
      · rw [HV.out] at x; cases x
      · rw [HN.out] at x; cases x
      · exact absurd x.1 (by show ¬ Os.hs 1 = false; decide)
    exact h
  by_cases h6 : 256 < m
  · rw [ck_full (o := ⟨1, p, vk, vn, vs, 0, l⟩) HK.out HQ.out HA.out (by have := HM.out; show 256 < l.length; omega)]
    have h6' : (256 : Int) < (m : Int) := by omega
    clear HK HQ HV HN HA h6
    go_enter Tryz.func103, Tryz.ntmps103
    go_wp2_with (first
      | (go_at_call 135; refine (C31 _ B0).mono ?_; rintro e w1 ⟨rfl, hb1⟩; have O1 := (O0.on hb1).on (below_new w1 (valO 0 0 [])); have Z1 := VAt.new w1 0 0 []; obtain ⟨c0, c1, c2, c3, c4, c5, c6⟩ := O1; obtain ⟨z0, z1, z2, y0, y1, y2⟩ := Z1)
      | (go_at_call 136; refine (C32 _).mono ?_; rintro e w2 ⟨rfl, hb2⟩; obtain ⟨c0, c1, c2, c3, c4, c5, c6⟩ := OAt.on (show OAt (w1.alloc (valO 0 0 [])) w.heap.size 1 pv vk vn vs 0 (.slice bo m cs) from ⟨c0, c1, c2, c3, c4, c5, c6⟩) hb2))
    go_ret
    exact ⟨rfl, (bchain (bchain (bchain B0 hb1) (below_new _ _)) hb2)⟩
  have h6' : ¬ (256 : Int) < (m : Int) := by omega
  cases hu : Os.ups l with
  | false =>
    rw [ck_refs (o := ⟨1, p, vk, vn, vs, 0, l⟩) HK.out HQ.out HA.out (by have := HM.out; show ¬ 256 < l.length; omega) hu]
    rw [hu] at C14
    clear HK HQ HV HN HA h6 hu hll
    go_enter Tryz.func103, Tryz.ntmps103
    go_wp2_with (first
      | (go_at_call 135; refine (C31 _ B0).mono ?_; rintro e w1 ⟨rfl, hb1⟩; have O1 := (O0.on hb1).on (below_new w1 (valO 0 0 [])); have Z1 := VAt.new w1 0 0 []; obtain ⟨c0, c1, c2, c3, c4, c5, c6⟩ := O1; obtain ⟨z0, z1, z2, y0, y1, y2⟩ := Z1)
      | (go_at_call 136; refine (C32 _).mono ?_; rintro e w2 ⟨rfl, hb2⟩; obtain ⟨c0, c1, c2, c3, c4, c5, c6⟩ := OAt.on (show OAt (w1.alloc (valO 0 0 [])) w.heap.size 1 pv vk vn vs 0 (.slice bo m cs) from ⟨c0, c1, c2, c3, c4, c5, c6⟩) hb2)
      | (go_at_call 137; refine (C14 _ (bchain (bchain (bchain B0 hb1) (below_new _ _)) hb2)).mono ?_; rintro e w3 ⟨rfl, hb3⟩))
    go_ret
    exact ⟨rfl, bchain (bchain (bchain (bchain B0 hb1) (below_new _ _)) hb2) hb3⟩
  | true =>
    rw [ck_ok (o := ⟨1, p, vk, vn, vs, 0, l⟩) HK.out HQ.out HA.out (by have := HM.out; show ¬ 256 < l.length; omega) hu]
    rw [hu] at C14
    clear HK HQ HV HN HA h6 hu hll
    go_enter Tryz.func103, Tryz.ntmps103
    go_wp2_with (first
      | (go_at_call 135; refine (C31 _ B0).mono ?_; rintro e w1 ⟨rfl, hb1⟩; have O1 := (O0.on hb1).on (below_new w1 (valO 0 0 [])); have Z1 := VAt.new w1 0 0 []; obtain ⟨c0, c1, c2, c3, c4, c5, c6⟩ := O1; obtain ⟨z0, z1, z2, y0, y1, y2⟩ := Z1)
      | (go_at_call 136; refine (C32 _).mono ?_; rintro e w2 ⟨rfl, hb2⟩; obtain ⟨c0, c1, c2, c3, c4, c5, c6⟩ := OAt.on (show OAt (w1.alloc (valO 0 0 [])) w.heap.size 1 pv vk vn vs 0 (.slice bo m cs) from ⟨c0, c1, c2, c3, c4, c5, c6⟩) hb2)
      | (go_at_call 137; refine (C14 _ (bchain (bchain (bchain B0 hb1) (below_new _ _)) hb2)).mono ?_; rintro e w3 ⟨rfl, hb3⟩))
    go_ret
    exact ⟨rfl, bchain (bchain (bchain (bchain B0 hb1) (below_new _ _)) hb2) hb3⟩
set_option maxRecDepth 20000 in
set_option maxHeartbeats 4000000 in
theorem refCheck_2 (pv : Value) (vk vn : Int) (vs : List UInt8) (n : Int) (sv : Value) (p : List (List UInt8)) (l : List U) (w : World)
    (hx : p.length ≤ 1000000) (hz : ∀ x ∈ p, x.length ≤ 2000000) (hv : vs.length ≤ 2000000) (hll : l.length ≤ 1000000) (hp : U.strsAt w pv p) (hs : refsIn w sv l) :
    Calls Tryz.prog 103 #[opV 2 pv vk vn vs n sv] w fun e w' => e = .returned (.int .i64 (Os.check ⟨2, p, vk, vn, vs, n, l⟩ : Nat)) ∧ Below w.heap.size w w' := by
  have C31 := fun W (hb : Below w.heap.size w W) => U.refCheck_any pv p W (by omega) hz (U.strsAt_below hp hb (Nat.le_refl _))
  have C14 := fun W (hb : Below w.heap.size w W) => refRefs_list sv l W (hs.on hb) hll
  have C32 := fun w => V.refRight_any vk vn vs w hv
  obtain ⟨bo, cs, rfl, -, -, -⟩ := hs
  obtain ⟨m, hm⟩ : ∃ m, m = l.length := ⟨_, rfl⟩
  rw [← hm] at C14 hll ⊢
  have HM : Hid (m = l.length) := hm
  clear hm
  have B0 := below_new w (opO 2 pv vk vn vs n (.slice bo m cs))
  have O0 := OAt.new w 2 pv vk vn vs n (.slice bo m cs)
  have HK : Hid (¬ ((⟨2, p, vk, vn, vs, n, l⟩ : Os.Op).k < 1 ∨ 5 < (⟨2, p, vk, vn, vs, n, l⟩ : Os.Op).k)) := by
    have h : ¬ ((⟨2, p, vk, vn, vs, n, l⟩ : Os.Op).k < 1 ∨ 5 < (⟨2, p, vk, vn, vs, n, l⟩ : Os.Op).k) := by show ¬ ((2 : Int) < 1 ∨ (5 : Int) < 2); omega
    exact h
  clear hp hz hv hx
  by_cases hq : Pt.check p = 0
  rotate_left
  · rw [ck_path (o := ⟨2, p, vk, vn, vs, n, l⟩) HK.out hq]
    show Calls Tryz.prog 103 #[opV 2 pv vk vn vs n (.slice bo m cs)] w fun e w' => e = .returned (.int .i64 (Pt.check p : Nat)) ∧ Below w.heap.size w w'
    generalize Pt.check p = q at *
    have e1 : ((q : Int) != 0) = true := by simp; omega
    clear hq HK
    go_enter Tryz.func103, Tryz.ntmps103
    go_wp2_with (go_at_call 135; refine (C31 _ B0).mono ?_; rintro e w1 ⟨rfl, hb1⟩)
    go_ret
    exact ⟨rfl, bchain B0 hb1⟩
  rw [hq] at C31
  have HQ : Hid (Pt.check p = 0) := hq
  clear hq
  have hrv : Os.rv ⟨2, p, vk, vn, vs, n, l⟩ = Vl.right vk vn vs := by unfold Os.rv; rw [if_pos (by show Os.hv 2 = true; decide)]
  cases hr : Vl.right vk vn vs with
  | false =>
    rw [ck_arg HK.out HQ.out (.inl (hrv.trans hr))]
    rw [hr] at C32
    clear HK HQ hrv hr
    go_enter Tryz.func103, Tryz.ntmps103
    go_wp2_with (first
      | (go_at_call 135; refine (C31 _ B0).mono ?_; rintro e w1 ⟨rfl, hb1⟩; have O1 := (O0.on hb1).on (below_new w1 (valO 0 0 [])); have Z1 := VAt.new w1 0 0 []; obtain ⟨c0, c1, c2, c3, c4, c5, c6⟩ := O1; obtain ⟨z0, z1, z2, y0, y1, y2⟩ := Z1)
      | (go_at_call 136; refine (C32 _).mono ?_; rintro e w2 ⟨rfl, hb2⟩; obtain ⟨c0, c1, c2, c3, c4, c5, c6⟩ := OAt.on (show OAt (w1.alloc (valO 0 0 [])) w.heap.size 2 pv vk vn vs n (.slice bo m cs) from ⟨c0, c1, c2, c3, c4, c5, c6⟩) hb2))
    go_ret
    exact ⟨rfl, (bchain (bchain (bchain B0 hb1) (below_new _ _)) hb2)⟩
  | true =>
  rw [hr] at C32
  have HV : Hid (Os.rv ⟨2, p, vk, vn, vs, n, l⟩ = true) := by have h := hrv.trans hr; exact h
  clear hrv hr
  have hra : Os.ra ⟨2, p, vk, vn, vs, n, l⟩ = decide (n = 0) := by unfold Os.ra; rw [if_neg (by show ¬ Os.ha 2 = true; decide)]
  by_cases hn : n = 0
  rotate_left
  · rw [ck_arg HK.out HQ.out (.inr (.inl (hra.trans (decide_eq_false hn))))]
    have e2 : (n != 0) = true := by simpa using hn
    clear HK HQ HV hra hn
    go_enter Tryz.func103, Tryz.ntmps103
    go_wp2_with (first
      | (go_at_call 135; refine (C31 _ B0).mono ?_; rintro e w1 ⟨rfl, hb1⟩; have O1 := (O0.on hb1).on (below_new w1 (valO 0 0 [])); have Z1 := VAt.new w1 0 0 []; obtain ⟨c0, c1, c2, c3, c4, c5, c6⟩ := O1; obtain ⟨z0, z1, z2, y0, y1, y2⟩ := Z1)
      | (go_at_call 136; refine (C32 _).mono ?_; rintro e w2 ⟨rfl, hb2⟩; obtain ⟨c0, c1, c2, c3, c4, c5, c6⟩ := OAt.on (show OAt (w1.alloc (valO 0 0 [])) w.heap.size 2 pv vk vn vs n (.slice bo m cs) from ⟨c0, c1, c2, c3, c4, c5, c6⟩) hb2))
    go_ret
    exact ⟨rfl, (bchain (bchain (bchain B0 hb1) (below_new _ _)) hb2)⟩
  have HN : Hid (Os.ra ⟨2, p, vk, vn, vs, n, l⟩ = true) := by have h := hra.trans (decide_eq_true hn); exact h
  clear hra
  subst hn
  by_cases h0 : 0 < m
  · rw [ck_arg (o := ⟨2, p, vk, vn, vs, 0, l⟩) HK.out HQ.out (.inr (.inr ⟨(by show Os.hs 2 = false; decide), (by have := HM.out; show 0 < l.length; omega)⟩))]
    have h0' : (0 : Int) < (m : Int) := by omega
    clear HK HQ HV HN h0
    go_enter Tryz.func103, Tryz.ntmps103
    go_wp2_with (first
      | (go_at_call 135; refine (C31 _ B0).mono ?_; rintro e w1 ⟨rfl, hb1⟩; have O1 := (O0.on hb1).on (below_new w1 (valO 0 0 [])); have Z1 := VAt.new w1 0 0 []; obtain ⟨c0, c1, c2, c3, c4, c5, c6⟩ := O1; obtain ⟨z0, z1, z2, y0, y1, y2⟩ := Z1)
      | (go_at_call 136; refine (C32 _).mono ?_; rintro e w2 ⟨rfl, hb2⟩; obtain ⟨c0, c1, c2, c3, c4, c5, c6⟩ := OAt.on (show OAt (w1.alloc (valO 0 0 [])) w.heap.size 2 pv vk vn vs 0 (.slice bo m cs) from ⟨c0, c1, c2, c3, c4, c5, c6⟩) hb2))
    go_ret
    exact ⟨rfl, (bchain (bchain (bchain B0 hb1) (below_new _ _)) hb2)⟩
  have h0' : ¬ (0 : Int) < (m : Int) := by omega
  have HA : Hid (¬ (Os.rv ⟨2, p, vk, vn, vs, 0, l⟩ = false ∨ Os.ra ⟨2, p, vk, vn, vs, 0, l⟩ = false ∨ (Os.hs (⟨2, p, vk, vn, vs, 0, l⟩ : Os.Op).k = false ∧ 0 < (⟨2, p, vk, vn, vs, 0, l⟩ : Os.Op).l.length))) := by
    have h : ¬ (Os.rv ⟨2, p, vk, vn, vs, 0, l⟩ = false ∨ Os.ra ⟨2, p, vk, vn, vs, 0, l⟩ = false ∨ (Os.hs (⟨2, p, vk, vn, vs, 0, l⟩ : Os.Op).k = false ∧ 0 < (⟨2, p, vk, vn, vs, 0, l⟩ : Os.Op).l.length)) := by
      rintro (x | x | x)
      · rw [HV.out] at x; cases x
      · rw [HN.out] at x; cases x
      · have h1 : 0 < l.length := x.2; have := HM.out; omega
    exact h
  by_cases h6 : 256 < m
  · rw [ck_full (o := ⟨2, p, vk, vn, vs, 0, l⟩) HK.out HQ.out HA.out (by have := HM.out; show 256 < l.length; omega)]
    have h6' : (256 : Int) < (m : Int) := by omega
    exfalso; omega
  have h6' : ¬ (256 : Int) < (m : Int) := by omega
  cases hu : Os.ups l with
  | false =>
    rw [ck_refs (o := ⟨2, p, vk, vn, vs, 0, l⟩) HK.out HQ.out HA.out (by have := HM.out; show ¬ 256 < l.length; omega) hu]
    rw [hu] at C14
    clear HK HQ HV HN HA h6 hu hll
    go_enter Tryz.func103, Tryz.ntmps103
    go_wp2_with (first
      | (go_at_call 135; refine (C31 _ B0).mono ?_; rintro e w1 ⟨rfl, hb1⟩; have O1 := (O0.on hb1).on (below_new w1 (valO 0 0 [])); have Z1 := VAt.new w1 0 0 []; obtain ⟨c0, c1, c2, c3, c4, c5, c6⟩ := O1; obtain ⟨z0, z1, z2, y0, y1, y2⟩ := Z1)
      | (go_at_call 136; refine (C32 _).mono ?_; rintro e w2 ⟨rfl, hb2⟩; obtain ⟨c0, c1, c2, c3, c4, c5, c6⟩ := OAt.on (show OAt (w1.alloc (valO 0 0 [])) w.heap.size 2 pv vk vn vs 0 (.slice bo m cs) from ⟨c0, c1, c2, c3, c4, c5, c6⟩) hb2)
      | (go_at_call 137; refine (C14 _ (bchain (bchain (bchain B0 hb1) (below_new _ _)) hb2)).mono ?_; rintro e w3 ⟨rfl, hb3⟩))
    go_ret
    exact ⟨rfl, bchain (bchain (bchain (bchain B0 hb1) (below_new _ _)) hb2) hb3⟩
  | true =>
    rw [ck_ok (o := ⟨2, p, vk, vn, vs, 0, l⟩) HK.out HQ.out HA.out (by have := HM.out; show ¬ 256 < l.length; omega) hu]
    rw [hu] at C14
    clear HK HQ HV HN HA h6 hu hll
    go_enter Tryz.func103, Tryz.ntmps103
    go_wp2_with (first
      | (go_at_call 135; refine (C31 _ B0).mono ?_; rintro e w1 ⟨rfl, hb1⟩; have O1 := (O0.on hb1).on (below_new w1 (valO 0 0 [])); have Z1 := VAt.new w1 0 0 []; obtain ⟨c0, c1, c2, c3, c4, c5, c6⟩ := O1; obtain ⟨z0, z1, z2, y0, y1, y2⟩ := Z1)
      | (go_at_call 136; refine (C32 _).mono ?_; rintro e w2 ⟨rfl, hb2⟩; obtain ⟨c0, c1, c2, c3, c4, c5, c6⟩ := OAt.on (show OAt (w1.alloc (valO 0 0 [])) w.heap.size 2 pv vk vn vs 0 (.slice bo m cs) from ⟨c0, c1, c2, c3, c4, c5, c6⟩) hb2)
      | (go_at_call 137; refine (C14 _ (bchain (bchain (bchain B0 hb1) (below_new _ _)) hb2)).mono ?_; rintro e w3 ⟨rfl, hb3⟩))
    go_ret
    exact ⟨rfl, bchain (bchain (bchain (bchain B0 hb1) (below_new _ _)) hb2) hb3⟩
set_option maxRecDepth 20000 in
set_option maxHeartbeats 4000000 in
theorem refCheck_3 (pv : Value) (vk vn : Int) (vs : List UInt8) (n : Int) (sv : Value) (p : List (List UInt8)) (l : List U) (w : World)
    (hx : p.length ≤ 1000000) (hz : ∀ x ∈ p, x.length ≤ 2000000) (hv : vs.length ≤ 2000000) (hll : l.length ≤ 1000000) (hp : U.strsAt w pv p) (hs : refsIn w sv l) :
    Calls Tryz.prog 103 #[opV 3 pv vk vn vs n sv] w fun e w' => e = .returned (.int .i64 (Os.check ⟨3, p, vk, vn, vs, n, l⟩ : Nat)) ∧ Below w.heap.size w w' := by
  have C31 := fun W (hb : Below w.heap.size w W) => U.refCheck_any pv p W (by omega) hz (U.strsAt_below hp hb (Nat.le_refl _))
  have C14 := fun W (hb : Below w.heap.size w W) => refRefs_list sv l W (hs.on hb) hll
  have C32 := fun w => V.refRight_any vk vn vs w hv
  obtain ⟨bo, cs, rfl, -, -, -⟩ := hs
  obtain ⟨m, hm⟩ : ∃ m, m = l.length := ⟨_, rfl⟩
  rw [← hm] at C14 hll ⊢
  have HM : Hid (m = l.length) := hm
  clear hm
  have B0 := below_new w (opO 3 pv vk vn vs n (.slice bo m cs))
  have O0 := OAt.new w 3 pv vk vn vs n (.slice bo m cs)
  have HK : Hid (¬ ((⟨3, p, vk, vn, vs, n, l⟩ : Os.Op).k < 1 ∨ 5 < (⟨3, p, vk, vn, vs, n, l⟩ : Os.Op).k)) := by
    have h : ¬ ((⟨3, p, vk, vn, vs, n, l⟩ : Os.Op).k < 1 ∨ 5 < (⟨3, p, vk, vn, vs, n, l⟩ : Os.Op).k) := by show ¬ ((3 : Int) < 1 ∨ (5 : Int) < 3); omega
    exact h
  clear hp hz hv hx
  by_cases hq : Pt.check p = 0
  rotate_left
  · rw [ck_path (o := ⟨3, p, vk, vn, vs, n, l⟩) HK.out hq]
    show Calls Tryz.prog 103 #[opV 3 pv vk vn vs n (.slice bo m cs)] w fun e w' => e = .returned (.int .i64 (Pt.check p : Nat)) ∧ Below w.heap.size w w'
    generalize Pt.check p = q at *
    have e1 : ((q : Int) != 0) = true := by simp; omega
    clear hq HK
    go_enter Tryz.func103, Tryz.ntmps103
    go_wp2_with (go_at_call 135; refine (C31 _ B0).mono ?_; rintro e w1 ⟨rfl, hb1⟩)
    go_ret
    exact ⟨rfl, bchain B0 hb1⟩
  rw [hq] at C31
  have HQ : Hid (Pt.check p = 0) := hq
  clear hq
  have hrv : Os.rv ⟨3, p, vk, vn, vs, n, l⟩ = decide (vk = 0 ∧ vn = 0 ∧ vs = []) := by unfold Os.rv; rw [if_neg (by show ¬ Os.hv 3 = true; decide)]
  have hE := fun w => neq_val vk vn vs 0 0 [] w
  by_cases hr : vk = 0 ∧ vn = 0 ∧ vs = []
  rotate_left
  · rw [ck_arg HK.out HQ.out (.inl (hrv.trans (decide_eq_false hr)))]
    rw [decide_eq_false hr] at hE
    simp only [Bool.not_false] at hE
    clear HK HQ hrv hr
    go_enter Tryz.func103, Tryz.ntmps103
    go_wp2_with (go_at_call 135; refine (C31 _ B0).mono ?_; rintro e w1 ⟨rfl, hb1⟩; have O1 := (O0.on hb1).on (below_new w1 (valO 0 0 [])); have Z1 := VAt.new w1 0 0 []; obtain ⟨c0, c1, c2, c3, c4, c5, c6⟩ := O1; obtain ⟨z0, z1, z2, y0, y1, y2⟩ := Z1)
    go_ret
    exact ⟨rfl, (bchain (bchain B0 hb1) (below_new _ _))⟩
  have HV : Hid (Os.rv ⟨3, p, vk, vn, vs, n, l⟩ = true) := by have h := hrv.trans (decide_eq_true hr); exact h
  rw [decide_eq_true hr] at hE
  simp only [Bool.not_true] at hE
  clear hrv hr
  have hra : Os.ra ⟨3, p, vk, vn, vs, n, l⟩ = decide (n ≠ 0 ∧ -2147483647 ≤ n ∧ n ≤ 2147483647) := by unfold Os.ra; rw [if_pos (by show Os.ha 3 = true; decide)]
  by_cases hn : n = 0
  · rw [ck_arg HK.out HQ.out (.inr (.inl (hra.trans (decide_eq_false (by omega)))))]
    subst hn
    clear HK HQ HV hra
    go_enter Tryz.func103, Tryz.ntmps103
    go_wp2_with (go_at_call 135; refine (C31 _ B0).mono ?_; rintro e w1 ⟨rfl, hb1⟩; have O1 := (O0.on hb1).on (below_new w1 (valO 0 0 [])); have Z1 := VAt.new w1 0 0 []; obtain ⟨c0, c1, c2, c3, c4, c5, c6⟩ := O1; obtain ⟨z0, z1, z2, y0, y1, y2⟩ := Z1)
    go_ret
    exact ⟨rfl, (bchain (bchain B0 hb1) (below_new _ _))⟩
  have e2 : (n == 0) = false := beq_eq_false_iff_ne.2 hn
  by_cases hn2 : n ≤ 2147483647
  rotate_left
  · rw [ck_arg HK.out HQ.out (.inr (.inl (hra.trans (decide_eq_false (by omega)))))]
    have hn3 : 2147483647 < n := by omega
    clear HK HQ HV hra hn hn2
    go_enter Tryz.func103, Tryz.ntmps103
    go_wp2_with (go_at_call 135; refine (C31 _ B0).mono ?_; rintro e w1 ⟨rfl, hb1⟩; have O1 := (O0.on hb1).on (below_new w1 (valO 0 0 [])); have Z1 := VAt.new w1 0 0 []; obtain ⟨c0, c1, c2, c3, c4, c5, c6⟩ := O1; obtain ⟨z0, z1, z2, y0, y1, y2⟩ := Z1)
    go_ret
    exact ⟨rfl, (bchain (bchain B0 hb1) (below_new _ _))⟩
  by_cases hn3 : -2147483647 ≤ n
  rotate_left
  · rw [ck_arg HK.out HQ.out (.inr (.inl (hra.trans (decide_eq_false (by omega)))))]
    have hn4 : n < -2147483647 := by omega
    have hn5 : ¬ 2147483647 < n := by omega
    clear HK HQ HV hra hn hn2 hn3
    go_enter Tryz.func103, Tryz.ntmps103
    go_wp2_with (go_at_call 135; refine (C31 _ B0).mono ?_; rintro e w1 ⟨rfl, hb1⟩; have O1 := (O0.on hb1).on (below_new w1 (valO 0 0 [])); have Z1 := VAt.new w1 0 0 []; obtain ⟨c0, c1, c2, c3, c4, c5, c6⟩ := O1; obtain ⟨z0, z1, z2, y0, y1, y2⟩ := Z1)
    go_ret
    exact ⟨rfl, (bchain (bchain B0 hb1) (below_new _ _))⟩
  have HN : Hid (Os.ra ⟨3, p, vk, vn, vs, n, l⟩ = true) := by have h := hra.trans (decide_eq_true ⟨hn, hn3, hn2⟩); exact h
  have hn4 : ¬ n < -2147483647 := by omega
  have hn5 : ¬ 2147483647 < n := by omega
  clear hra hn hn2 hn3
  by_cases h0 : 0 < m
  · rw [ck_arg (o := ⟨3, p, vk, vn, vs, n, l⟩) HK.out HQ.out (.inr (.inr ⟨(by show Os.hs 3 = false; decide), (by have := HM.out; show 0 < l.length; omega)⟩))]
    have h0' : (0 : Int) < (m : Int) := by omega
    clear HK HQ HV HN h0
    go_enter Tryz.func103, Tryz.ntmps103
    go_wp2_with (go_at_call 135; refine (C31 _ B0).mono ?_; rintro e w1 ⟨rfl, hb1⟩; have O1 := (O0.on hb1).on (below_new w1 (valO 0 0 [])); have Z1 := VAt.new w1 0 0 []; obtain ⟨c0, c1, c2, c3, c4, c5, c6⟩ := O1; obtain ⟨z0, z1, z2, y0, y1, y2⟩ := Z1)
    go_ret
    exact ⟨rfl, (bchain (bchain B0 hb1) (below_new _ _))⟩
  have h0' : ¬ (0 : Int) < (m : Int) := by omega
  have HA : Hid (¬ (Os.rv ⟨3, p, vk, vn, vs, n, l⟩ = false ∨ Os.ra ⟨3, p, vk, vn, vs, n, l⟩ = false ∨ (Os.hs (⟨3, p, vk, vn, vs, n, l⟩ : Os.Op).k = false ∧ 0 < (⟨3, p, vk, vn, vs, n, l⟩ : Os.Op).l.length))) := by
    have h : ¬ (Os.rv ⟨3, p, vk, vn, vs, n, l⟩ = false ∨ Os.ra ⟨3, p, vk, vn, vs, n, l⟩ = false ∨ (Os.hs (⟨3, p, vk, vn, vs, n, l⟩ : Os.Op).k = false ∧ 0 < (⟨3, p, vk, vn, vs, n, l⟩ : Os.Op).l.length)) := by
      rintro (x | x | x)
      · rw [HV.out] at x; cases x
      · rw [HN.out] at x; cases x
      · have h1 : 0 < l.length := x.2; have := HM.out; omega
    exact h
  by_cases h6 : 256 < m
  · rw [ck_full (o := ⟨3, p, vk, vn, vs, n, l⟩) HK.out HQ.out HA.out (by have := HM.out; show 256 < l.length; omega)]
    have h6' : (256 : Int) < (m : Int) := by omega
    exfalso; omega
  have h6' : ¬ (256 : Int) < (m : Int) := by omega
  cases hu : Os.ups l with
  | false =>
    rw [ck_refs (o := ⟨3, p, vk, vn, vs, n, l⟩) HK.out HQ.out HA.out (by have := HM.out; show ¬ 256 < l.length; omega) hu]
    rw [hu] at C14
    clear HK HQ HV HN HA h6 hu hll
    go_enter Tryz.func103, Tryz.ntmps103
    go_wp2_with (first
      | (go_at_call 135; refine (C31 _ B0).mono ?_; rintro e w1 ⟨rfl, hb1⟩; have O1 := (O0.on hb1).on (below_new w1 (valO 0 0 [])); have Z1 := VAt.new w1 0 0 []; obtain ⟨c0, c1, c2, c3, c4, c5, c6⟩ := O1; obtain ⟨z0, z1, z2, y0, y1, y2⟩ := Z1)
      | (go_at_call 137; refine (C14 _ (bchain (bchain B0 hb1) (below_new _ _))).mono ?_; rintro e w3 ⟨rfl, hb3⟩))
    go_ret
    exact ⟨rfl, bchain (bchain (bchain B0 hb1) (below_new _ _)) hb3⟩
  | true =>
    rw [ck_ok (o := ⟨3, p, vk, vn, vs, n, l⟩) HK.out HQ.out HA.out (by have := HM.out; show ¬ 256 < l.length; omega) hu]
    rw [hu] at C14
    clear HK HQ HV HN HA h6 hu hll
    go_enter Tryz.func103, Tryz.ntmps103
    go_wp2_with (first
      | (go_at_call 135; refine (C31 _ B0).mono ?_; rintro e w1 ⟨rfl, hb1⟩; have O1 := (O0.on hb1).on (below_new w1 (valO 0 0 [])); have Z1 := VAt.new w1 0 0 []; obtain ⟨c0, c1, c2, c3, c4, c5, c6⟩ := O1; obtain ⟨z0, z1, z2, y0, y1, y2⟩ := Z1)
      | (go_at_call 137; refine (C14 _ (bchain (bchain B0 hb1) (below_new _ _))).mono ?_; rintro e w3 ⟨rfl, hb3⟩))
    go_ret
    exact ⟨rfl, bchain (bchain (bchain B0 hb1) (below_new _ _)) hb3⟩
set_option maxRecDepth 20000 in
set_option maxHeartbeats 4000000 in
theorem refCheck_4 (pv : Value) (vk vn : Int) (vs : List UInt8) (n : Int) (sv : Value) (p : List (List UInt8)) (l : List U) (w : World)
    (hx : p.length ≤ 1000000) (hz : ∀ x ∈ p, x.length ≤ 2000000) (hv : vs.length ≤ 2000000) (hll : l.length ≤ 1000000) (hp : U.strsAt w pv p) (hs : refsIn w sv l) :
    Calls Tryz.prog 103 #[opV 4 pv vk vn vs n sv] w fun e w' => e = .returned (.int .i64 (Os.check ⟨4, p, vk, vn, vs, n, l⟩ : Nat)) ∧ Below w.heap.size w w' := by
  have C31 := fun W (hb : Below w.heap.size w W) => U.refCheck_any pv p W (by omega) hz (U.strsAt_below hp hb (Nat.le_refl _))
  have C14 := fun W (hb : Below w.heap.size w W) => refRefs_list sv l W (hs.on hb) hll
  have C32 := fun w => V.refRight_any vk vn vs w hv
  obtain ⟨bo, cs, rfl, -, -, -⟩ := hs
  obtain ⟨m, hm⟩ : ∃ m, m = l.length := ⟨_, rfl⟩
  rw [← hm] at C14 hll ⊢
  have HM : Hid (m = l.length) := hm
  clear hm
  have B0 := below_new w (opO 4 pv vk vn vs n (.slice bo m cs))
  have O0 := OAt.new w 4 pv vk vn vs n (.slice bo m cs)
  have HK : Hid (¬ ((⟨4, p, vk, vn, vs, n, l⟩ : Os.Op).k < 1 ∨ 5 < (⟨4, p, vk, vn, vs, n, l⟩ : Os.Op).k)) := by
    have h : ¬ ((⟨4, p, vk, vn, vs, n, l⟩ : Os.Op).k < 1 ∨ 5 < (⟨4, p, vk, vn, vs, n, l⟩ : Os.Op).k) := by show ¬ ((4 : Int) < 1 ∨ (5 : Int) < 4); omega
    exact h
  clear hp hz hv hx
  by_cases hq : Pt.check p = 0
  rotate_left
  · rw [ck_path (o := ⟨4, p, vk, vn, vs, n, l⟩) HK.out hq]
    show Calls Tryz.prog 103 #[opV 4 pv vk vn vs n (.slice bo m cs)] w fun e w' => e = .returned (.int .i64 (Pt.check p : Nat)) ∧ Below w.heap.size w w'
    generalize Pt.check p = q at *
    have e1 : ((q : Int) != 0) = true := by simp; omega
    clear hq HK
    go_enter Tryz.func103, Tryz.ntmps103
    go_wp2_with (go_at_call 135; refine (C31 _ B0).mono ?_; rintro e w1 ⟨rfl, hb1⟩)
    go_ret
    exact ⟨rfl, bchain B0 hb1⟩
  rw [hq] at C31
  have HQ : Hid (Pt.check p = 0) := hq
  clear hq
  have hrv : Os.rv ⟨4, p, vk, vn, vs, n, l⟩ = Vl.right vk vn vs := by unfold Os.rv; rw [if_pos (by show Os.hv 4 = true; decide)]
  cases hr : Vl.right vk vn vs with
  | false =>
    rw [ck_arg HK.out HQ.out (.inl (hrv.trans hr))]
    rw [hr] at C32
    clear HK HQ hrv hr
    go_enter Tryz.func103, Tryz.ntmps103
    go_wp2_with (first
      | (go_at_call 135; refine (C31 _ B0).mono ?_; rintro e w1 ⟨rfl, hb1⟩; have O1 := (O0.on hb1).on (below_new w1 (valO 0 0 [])); have Z1 := VAt.new w1 0 0 []; obtain ⟨c0, c1, c2, c3, c4, c5, c6⟩ := O1; obtain ⟨z0, z1, z2, y0, y1, y2⟩ := Z1)
      | (go_at_call 136; refine (C32 _).mono ?_; rintro e w2 ⟨rfl, hb2⟩; obtain ⟨c0, c1, c2, c3, c4, c5, c6⟩ := OAt.on (show OAt (w1.alloc (valO 0 0 [])) w.heap.size 4 pv vk vn vs n (.slice bo m cs) from ⟨c0, c1, c2, c3, c4, c5, c6⟩) hb2))
    go_ret
    exact ⟨rfl, (bchain (bchain (bchain B0 hb1) (below_new _ _)) hb2)⟩
  | true =>
  rw [hr] at C32
  have HV : Hid (Os.rv ⟨4, p, vk, vn, vs, n, l⟩ = true) := by have h := hrv.trans hr; exact h
  clear hrv hr
  have hra : Os.ra ⟨4, p, vk, vn, vs, n, l⟩ = decide (n = 0) := by unfold Os.ra; rw [if_neg (by show ¬ Os.ha 4 = true; decide)]
  by_cases hn : n = 0
  rotate_left
  · rw [ck_arg HK.out HQ.out (.inr (.inl (hra.trans (decide_eq_false hn))))]
    have e2 : (n != 0) = true := by simpa using hn
    clear HK HQ HV hra hn
    go_enter Tryz.func103, Tryz.ntmps103
    go_wp2_with (first
      | (go_at_call 135; refine (C31 _ B0).mono ?_; rintro e w1 ⟨rfl, hb1⟩; have O1 := (O0.on hb1).on (below_new w1 (valO 0 0 [])); have Z1 := VAt.new w1 0 0 []; obtain ⟨c0, c1, c2, c3, c4, c5, c6⟩ := O1; obtain ⟨z0, z1, z2, y0, y1, y2⟩ := Z1)
      | (go_at_call 136; refine (C32 _).mono ?_; rintro e w2 ⟨rfl, hb2⟩; obtain ⟨c0, c1, c2, c3, c4, c5, c6⟩ := OAt.on (show OAt (w1.alloc (valO 0 0 [])) w.heap.size 4 pv vk vn vs n (.slice bo m cs) from ⟨c0, c1, c2, c3, c4, c5, c6⟩) hb2))
    go_ret
    exact ⟨rfl, (bchain (bchain (bchain B0 hb1) (below_new _ _)) hb2)⟩
  have HN : Hid (Os.ra ⟨4, p, vk, vn, vs, n, l⟩ = true) := by have h := hra.trans (decide_eq_true hn); exact h
  clear hra
  subst hn
  have HA : Hid (¬ (Os.rv ⟨4, p, vk, vn, vs, 0, l⟩ = false ∨ Os.ra ⟨4, p, vk, vn, vs, 0, l⟩ = false ∨ (Os.hs (⟨4, p, vk, vn, vs, 0, l⟩ : Os.Op).k = false ∧ 0 < (⟨4, p, vk, vn, vs, 0, l⟩ : Os.Op).l.length))) := by
    have h : ¬ (Os.rv ⟨4, p, vk, vn, vs, 0, l⟩ = false ∨ Os.ra ⟨4, p, vk, vn, vs, 0, l⟩ = false ∨ (Os.hs (⟨4, p, vk, vn, vs, 0, l⟩ : Os.Op).k = false ∧ 0 < (⟨4, p, vk, vn, vs, 0, l⟩ : Os.Op).l.length)) := by
      rintro (x | x | x)
      · rw [HV.out] at x; cases x
      · rw [HN.out] at x; cases x
      · exact absurd x.1 (by show ¬ Os.hs 4 = false; decide)
    exact h
  by_cases h6 : 256 < m
  · rw [ck_full (o := ⟨4, p, vk, vn, vs, 0, l⟩) HK.out HQ.out HA.out (by have := HM.out; show 256 < l.length; omega)]
    have h6' : (256 : Int) < (m : Int) := by omega
    clear HK HQ HV HN HA h6
    go_enter Tryz.func103, Tryz.ntmps103
    go_wp2_with (first
      | (go_at_call 135; refine (C31 _ B0).mono ?_; rintro e w1 ⟨rfl, hb1⟩; have O1 := (O0.on hb1).on (below_new w1 (valO 0 0 [])); have Z1 := VAt.new w1 0 0 []; obtain ⟨c0, c1, c2, c3, c4, c5, c6⟩ := O1; obtain ⟨z0, z1, z2, y0, y1, y2⟩ := Z1)
      | (go_at_call 136; refine (C32 _).mono ?_; rintro e w2 ⟨rfl, hb2⟩; obtain ⟨c0, c1, c2, c3, c4, c5, c6⟩ := OAt.on (show OAt (w1.alloc (valO 0 0 [])) w.heap.size 4 pv vk vn vs 0 (.slice bo m cs) from ⟨c0, c1, c2, c3, c4, c5, c6⟩) hb2))
    go_ret
    exact ⟨rfl, (bchain (bchain (bchain B0 hb1) (below_new _ _)) hb2)⟩
  have h6' : ¬ (256 : Int) < (m : Int) := by omega
  cases hu : Os.ups l with
  | false =>
    rw [ck_refs (o := ⟨4, p, vk, vn, vs, 0, l⟩) HK.out HQ.out HA.out (by have := HM.out; show ¬ 256 < l.length; omega) hu]
    rw [hu] at C14
    clear HK HQ HV HN HA h6 hu hll
    go_enter Tryz.func103, Tryz.ntmps103
    go_wp2_with (first
      | (go_at_call 135; refine (C31 _ B0).mono ?_; rintro e w1 ⟨rfl, hb1⟩; have O1 := (O0.on hb1).on (below_new w1 (valO 0 0 [])); have Z1 := VAt.new w1 0 0 []; obtain ⟨c0, c1, c2, c3, c4, c5, c6⟩ := O1; obtain ⟨z0, z1, z2, y0, y1, y2⟩ := Z1)
      | (go_at_call 136; refine (C32 _).mono ?_; rintro e w2 ⟨rfl, hb2⟩; obtain ⟨c0, c1, c2, c3, c4, c5, c6⟩ := OAt.on (show OAt (w1.alloc (valO 0 0 [])) w.heap.size 4 pv vk vn vs 0 (.slice bo m cs) from ⟨c0, c1, c2, c3, c4, c5, c6⟩) hb2)
      | (go_at_call 137; refine (C14 _ (bchain (bchain (bchain B0 hb1) (below_new _ _)) hb2)).mono ?_; rintro e w3 ⟨rfl, hb3⟩))
    go_ret
    exact ⟨rfl, bchain (bchain (bchain (bchain B0 hb1) (below_new _ _)) hb2) hb3⟩
  | true =>
    rw [ck_ok (o := ⟨4, p, vk, vn, vs, 0, l⟩) HK.out HQ.out HA.out (by have := HM.out; show ¬ 256 < l.length; omega) hu]
    rw [hu] at C14
    clear HK HQ HV HN HA h6 hu hll
    go_enter Tryz.func103, Tryz.ntmps103
    go_wp2_with (first
      | (go_at_call 135; refine (C31 _ B0).mono ?_; rintro e w1 ⟨rfl, hb1⟩; have O1 := (O0.on hb1).on (below_new w1 (valO 0 0 [])); have Z1 := VAt.new w1 0 0 []; obtain ⟨c0, c1, c2, c3, c4, c5, c6⟩ := O1; obtain ⟨z0, z1, z2, y0, y1, y2⟩ := Z1)
      | (go_at_call 136; refine (C32 _).mono ?_; rintro e w2 ⟨rfl, hb2⟩; obtain ⟨c0, c1, c2, c3, c4, c5, c6⟩ := OAt.on (show OAt (w1.alloc (valO 0 0 [])) w.heap.size 4 pv vk vn vs 0 (.slice bo m cs) from ⟨c0, c1, c2, c3, c4, c5, c6⟩) hb2)
      | (go_at_call 137; refine (C14 _ (bchain (bchain (bchain B0 hb1) (below_new _ _)) hb2)).mono ?_; rintro e w3 ⟨rfl, hb3⟩))
    go_ret
    exact ⟨rfl, bchain (bchain (bchain (bchain B0 hb1) (below_new _ _)) hb2) hb3⟩
set_option maxRecDepth 20000 in
set_option maxHeartbeats 4000000 in
theorem refCheck_5 (pv : Value) (vk vn : Int) (vs : List UInt8) (n : Int) (sv : Value) (p : List (List UInt8)) (l : List U) (w : World)
    (hx : p.length ≤ 1000000) (hz : ∀ x ∈ p, x.length ≤ 2000000) (hv : vs.length ≤ 2000000) (hll : l.length ≤ 1000000) (hp : U.strsAt w pv p) (hs : refsIn w sv l) :
    Calls Tryz.prog 103 #[opV 5 pv vk vn vs n sv] w fun e w' => e = .returned (.int .i64 (Os.check ⟨5, p, vk, vn, vs, n, l⟩ : Nat)) ∧ Below w.heap.size w w' := by
  have C31 := fun W (hb : Below w.heap.size w W) => U.refCheck_any pv p W (by omega) hz (U.strsAt_below hp hb (Nat.le_refl _))
  have C14 := fun W (hb : Below w.heap.size w W) => refRefs_list sv l W (hs.on hb) hll
  have C32 := fun w => V.refRight_any vk vn vs w hv
  obtain ⟨bo, cs, rfl, -, -, -⟩ := hs
  obtain ⟨m, hm⟩ : ∃ m, m = l.length := ⟨_, rfl⟩
  rw [← hm] at C14 hll ⊢
  have HM : Hid (m = l.length) := hm
  clear hm
  have B0 := below_new w (opO 5 pv vk vn vs n (.slice bo m cs))
  have O0 := OAt.new w 5 pv vk vn vs n (.slice bo m cs)
  have HK : Hid (¬ ((⟨5, p, vk, vn, vs, n, l⟩ : Os.Op).k < 1 ∨ 5 < (⟨5, p, vk, vn, vs, n, l⟩ : Os.Op).k)) := by
    have h : ¬ ((⟨5, p, vk, vn, vs, n, l⟩ : Os.Op).k < 1 ∨ 5 < (⟨5, p, vk, vn, vs, n, l⟩ : Os.Op).k) := by show ¬ ((5 : Int) < 1 ∨ (5 : Int) < 5); omega
    exact h
  clear hp hz hv hx
  by_cases hq : Pt.check p = 0
  rotate_left
  · rw [ck_path (o := ⟨5, p, vk, vn, vs, n, l⟩) HK.out hq]
    show Calls Tryz.prog 103 #[opV 5 pv vk vn vs n (.slice bo m cs)] w fun e w' => e = .returned (.int .i64 (Pt.check p : Nat)) ∧ Below w.heap.size w w'
    generalize Pt.check p = q at *
    have e1 : ((q : Int) != 0) = true := by simp; omega
    clear hq HK
    go_enter Tryz.func103, Tryz.ntmps103
    go_wp2_with (go_at_call 135; refine (C31 _ B0).mono ?_; rintro e w1 ⟨rfl, hb1⟩)
    go_ret
    exact ⟨rfl, bchain B0 hb1⟩
  rw [hq] at C31
  have HQ : Hid (Pt.check p = 0) := hq
  clear hq
  have hrv : Os.rv ⟨5, p, vk, vn, vs, n, l⟩ = decide (vk = 0 ∧ vn = 0 ∧ vs = []) := by unfold Os.rv; rw [if_neg (by show ¬ Os.hv 5 = true; decide)]
  have hE := fun w => neq_val vk vn vs 0 0 [] w
  by_cases hr : vk = 0 ∧ vn = 0 ∧ vs = []
  rotate_left
  · rw [ck_arg HK.out HQ.out (.inl (hrv.trans (decide_eq_false hr)))]
    rw [decide_eq_false hr] at hE
    simp only [Bool.not_false] at hE
    clear HK HQ hrv hr
    go_enter Tryz.func103, Tryz.ntmps103
    go_wp2_with (go_at_call 135; refine (C31 _ B0).mono ?_; rintro e w1 ⟨rfl, hb1⟩; have O1 := (O0.on hb1).on (below_new w1 (valO 0 0 [])); have Z1 := VAt.new w1 0 0 []; obtain ⟨c0, c1, c2, c3, c4, c5, c6⟩ := O1; obtain ⟨z0, z1, z2, y0, y1, y2⟩ := Z1)
    go_ret
    exact ⟨rfl, (bchain (bchain B0 hb1) (below_new _ _))⟩
  have HV : Hid (Os.rv ⟨5, p, vk, vn, vs, n, l⟩ = true) := by have h := hrv.trans (decide_eq_true hr); exact h
  rw [decide_eq_true hr] at hE
  simp only [Bool.not_true] at hE
  clear hrv hr
  have hra : Os.ra ⟨5, p, vk, vn, vs, n, l⟩ = decide (n = 0) := by unfold Os.ra; rw [if_neg (by show ¬ Os.ha 5 = true; decide)]
  by_cases hn : n = 0
  rotate_left
  · rw [ck_arg HK.out HQ.out (.inr (.inl (hra.trans (decide_eq_false hn))))]
    have e2 : (n != 0) = true := by simpa using hn
    clear HK HQ HV hra hn
    go_enter Tryz.func103, Tryz.ntmps103
    go_wp2_with (go_at_call 135; refine (C31 _ B0).mono ?_; rintro e w1 ⟨rfl, hb1⟩; have O1 := (O0.on hb1).on (below_new w1 (valO 0 0 [])); have Z1 := VAt.new w1 0 0 []; obtain ⟨c0, c1, c2, c3, c4, c5, c6⟩ := O1; obtain ⟨z0, z1, z2, y0, y1, y2⟩ := Z1)
    go_ret
    exact ⟨rfl, (bchain (bchain B0 hb1) (below_new _ _))⟩
  have HN : Hid (Os.ra ⟨5, p, vk, vn, vs, n, l⟩ = true) := by have h := hra.trans (decide_eq_true hn); exact h
  clear hra
  subst hn
  have HA : Hid (¬ (Os.rv ⟨5, p, vk, vn, vs, 0, l⟩ = false ∨ Os.ra ⟨5, p, vk, vn, vs, 0, l⟩ = false ∨ (Os.hs (⟨5, p, vk, vn, vs, 0, l⟩ : Os.Op).k = false ∧ 0 < (⟨5, p, vk, vn, vs, 0, l⟩ : Os.Op).l.length))) := by
    have h : ¬ (Os.rv ⟨5, p, vk, vn, vs, 0, l⟩ = false ∨ Os.ra ⟨5, p, vk, vn, vs, 0, l⟩ = false ∨ (Os.hs (⟨5, p, vk, vn, vs, 0, l⟩ : Os.Op).k = false ∧ 0 < (⟨5, p, vk, vn, vs, 0, l⟩ : Os.Op).l.length)) := by
      rintro (x | x | x)
      · rw [HV.out] at x; cases x
      · rw [HN.out] at x; cases x
      · exact absurd x.1 (by show ¬ Os.hs 5 = false; decide)
    exact h
  by_cases h6 : 256 < m
  · rw [ck_full (o := ⟨5, p, vk, vn, vs, 0, l⟩) HK.out HQ.out HA.out (by have := HM.out; show 256 < l.length; omega)]
    have h6' : (256 : Int) < (m : Int) := by omega
    clear HK HQ HV HN HA h6
    go_enter Tryz.func103, Tryz.ntmps103
    go_wp2_with (go_at_call 135; refine (C31 _ B0).mono ?_; rintro e w1 ⟨rfl, hb1⟩; have O1 := (O0.on hb1).on (below_new w1 (valO 0 0 [])); have Z1 := VAt.new w1 0 0 []; obtain ⟨c0, c1, c2, c3, c4, c5, c6⟩ := O1; obtain ⟨z0, z1, z2, y0, y1, y2⟩ := Z1)
    go_ret
    exact ⟨rfl, (bchain (bchain B0 hb1) (below_new _ _))⟩
  have h6' : ¬ (256 : Int) < (m : Int) := by omega
  cases hu : Os.ups l with
  | false =>
    rw [ck_refs (o := ⟨5, p, vk, vn, vs, 0, l⟩) HK.out HQ.out HA.out (by have := HM.out; show ¬ 256 < l.length; omega) hu]
    rw [hu] at C14
    clear HK HQ HV HN HA h6 hu hll
    go_enter Tryz.func103, Tryz.ntmps103
    go_wp2_with (first
      | (go_at_call 135; refine (C31 _ B0).mono ?_; rintro e w1 ⟨rfl, hb1⟩; have O1 := (O0.on hb1).on (below_new w1 (valO 0 0 [])); have Z1 := VAt.new w1 0 0 []; obtain ⟨c0, c1, c2, c3, c4, c5, c6⟩ := O1; obtain ⟨z0, z1, z2, y0, y1, y2⟩ := Z1)
      | (go_at_call 137; refine (C14 _ (bchain (bchain B0 hb1) (below_new _ _))).mono ?_; rintro e w3 ⟨rfl, hb3⟩))
    go_ret
    exact ⟨rfl, bchain (bchain (bchain B0 hb1) (below_new _ _)) hb3⟩
  | true =>
    rw [ck_ok (o := ⟨5, p, vk, vn, vs, 0, l⟩) HK.out HQ.out HA.out (by have := HM.out; show ¬ 256 < l.length; omega) hu]
    rw [hu] at C14
    clear HK HQ HV HN HA h6 hu hll
    go_enter Tryz.func103, Tryz.ntmps103
    go_wp2_with (first
      | (go_at_call 135; refine (C31 _ B0).mono ?_; rintro e w1 ⟨rfl, hb1⟩; have O1 := (O0.on hb1).on (below_new w1 (valO 0 0 [])); have Z1 := VAt.new w1 0 0 []; obtain ⟨c0, c1, c2, c3, c4, c5, c6⟩ := O1; obtain ⟨z0, z1, z2, y0, y1, y2⟩ := Z1)
      | (go_at_call 137; refine (C14 _ (bchain (bchain B0 hb1) (below_new _ _))).mono ?_; rintro e w3 ⟨rfl, hb3⟩))
    go_ret
    exact ⟨rfl, bchain (bchain (bchain B0 hb1) (below_new _ _)) hb3⟩

set_option maxRecDepth 20000 in
set_option maxHeartbeats 2000000 in
theorem refCheck_any (k : Int) (pv : Value) (vk vn : Int) (vs : List UInt8) (n : Int) (sv : Value) (p : List (List UInt8)) (l : List U) (w : World)
    (hx : p.length ≤ 1000000) (hz : ∀ x ∈ p, x.length ≤ 2000000) (hv : vs.length ≤ 2000000) (hll : l.length ≤ 1000000) (hp : U.strsAt w pv p) (hs : refsIn w sv l) :
    Calls Tryz.prog 103 #[opV k pv vk vn vs n sv] w fun e w' => e = .returned (.int .i64 (Os.check ⟨k, p, vk, vn, vs, n, l⟩ : Nat)) ∧ Below w.heap.size w w' := by
  by_cases h0 : k < 1
  · rw [ck_kind (o := ⟨k, p, vk, vn, vs, n, l⟩) (.inl h0)]
    have B0 := below_new w (opO k pv vk vn vs n sv)
    clear hx hz hv hll hp hs
    go_enter Tryz.func103, Tryz.ntmps103
    go_wp2
    go_ret
    exact ⟨rfl, B0⟩
  by_cases h5 : 5 < k
  · rw [ck_kind (o := ⟨k, p, vk, vn, vs, n, l⟩) (.inr h5)]
    have B0 := below_new w (opO k pv vk vn vs n sv)
    clear hx hz hv hll hp hs
    go_enter Tryz.func103, Tryz.ntmps103
    go_wp2
    go_ret
    exact ⟨rfl, B0⟩
  have hk : k = 1 ∨ k = 2 ∨ k = 3 ∨ k = 4 ∨ k = 5 := by omega
  rcases hk with rfl | rfl | rfl | rfl | rfl
  · exact refCheck_1 pv vk vn vs n sv p l w hx hz hv hll hp hs
  · exact refCheck_2 pv vk vn vs n sv p l w hx hz hv hll hp hs
  · exact refCheck_3 pv vk vn vs n sv p l w hx hz hv hll hp hs
  · exact refCheck_4 pv vk vn vs n sv p l w hx hz hv hll hp hs
  · exact refCheck_5 pv vk vn vs n sv p l w hx hz hv hll hp hs
end Go.Proofs.YthlhopdlkkeohaaGreatDoor.O
