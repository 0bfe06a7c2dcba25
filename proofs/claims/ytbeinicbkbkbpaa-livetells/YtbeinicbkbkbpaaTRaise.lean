/- The walks of Seen and Raise, both sides. -/
import Derived.Test.YtbeinicbkbkbpaaTRightsAll
namespace Go.Proofs.Ytbeinicbkbkbpaa.T
open Go.Proofs.Ytbeinicbkbkbpaa.D
open Go.RowKit Go.Shelf

/-- Does a count count? -/
def seenZ (z : Int) : Bool := (z % 2 == 0)
theorem seenZ_not (z : Int) : seenZ (z + 1) = !seenZ z := by
  unfold seenZ
  rcases Int.emod_two_eq z with e | e
  · have : (z + 1) % 2 = 1 := by omega
    rw [e, this]; rfl
  · have : (z + 1) % 2 = 0 := by omega
    rw [e, this]; rfl
theorem seen_any (v : Value) (l : List U) (d : D) (w : World) (hv : cntsIn w v l) (hn : l.length ≤ 1000000) (hp : Ct.Std l) :
    Calls Try.prog 66 #[v, dV d] w fun e w' => e = .returned (.bool (seenZ (Ct.get l d))) ∧ Below w.heap.size w w' := by
  obtain ⟨W0, hW0⟩ : ∃ W0, W0 = w.alloc (.cells #[.int .i64 d.1, .int .i64 d.2] 44) := ⟨_, rfl⟩
  have hB0 : Below w.heap.size w W0 := by rw [hW0]; exact below_new _ _
  have HC := get_any v l d W0 (hv.on hB0) hn hp
  have hr := Ct.get_range hp d
  clear hv hp
  generalize Ct.get l d = z at *
  go_enter Try.func66, Try.ntmps66
  go_wp2_with (go_at_call 52; rw [← hW0]; refine HC.mono ?_; rintro e w1 ⟨rfl, hb1⟩)
  go_ret
  exact ⟨rfl, bchain hB0 hb1⟩
theorem refSeen_any (v : Value) (l : List U) (d : D) (w : World) (hv : cntsIn w v l) (hn : l.length ≤ 1000000) (hp : Ct.Std l) :
    Calls Try.prog 22 #[v, dV d] w fun e w' => e = .returned (.bool (seenZ (Ct.get l d))) ∧ Below w.heap.size w w' := by
  obtain ⟨W0, hW0⟩ : ∃ W0, W0 = w.alloc (.cells #[.int .i64 d.1, .int .i64 d.2] 44) := ⟨_, rfl⟩
  have hB0 : Below w.heap.size w W0 := by rw [hW0]; exact below_new _ _
  have HC := refGet_any v l d W0 hn (hv.on hB0)
  have hr := Ct.get_range hp d
  clear hv hp
  generalize Ct.get l d = z at *
  go_enter Try.func22, Try.ntmps22
  go_wp2_with (go_at_call 50; rw [← hW0]; refine HC.mono ?_; rintro e w1 ⟨rfl, hb1⟩)
  go_ret
  exact ⟨rfl, bchain hB0 hb1⟩

/-- A variable holds this count. -/
def UAt (w : World) (b : Nat) (u : U) : Prop := w.heap[b]? = some (.cells #[.int .i64 u.1.1, .int .i64 u.1.2, .int .i64 u.2] 59 (0, 0))
theorem UAt.on {w w' : World} {b : Nat} {u : U} (h : UAt w b u) (hb : Below w.heap.size w w') : UAt w' b u := (hb.block b (Array.getElem?_eq_some_iff.1 h).1).trans h
theorem UAt.new (w : World) (u : U) : UAt (w.alloc (.cells #[.int .i64 u.1.1, .int .i64 u.1.2, .int .i64 u.2] 59)) w.heap.size u := heap_alloc_new w _
theorem UAt.at {w : World} {b : Nat} {u : U} (h : UAt w b u) : CAt w ⟨b, 0, none⟩ u := ⟨by rw [cell_of_row _ b 0 _ 59 (0, 0) h]; rfl, by rw [cell_of_row _ b 1 _ 59 (0, 0) h]; rfl, by rw [cell_of_row _ b 2 _ 59 (0, 0) h]; rfl⟩
theorem UAt.frozen {w : World} {b : Nat} {u : U} (h : UAt w b u) (k : Nat) : w.frozen? ⟨b, k, none⟩ = false := frozen_of_row w b k _ 59 h

/-- What is told of a raised count: the count, the error. -/
def raised (l : List U) (d : D) : U × Int := if Dt.right d.1 d.2 = true then (if 64 ≤ Ct.get l d then (((0, 0), 0), 14) else ((d, Ct.get l d + 1), 0)) else (((0, 0), 0), 2)
/-- Three cells that were stored. -/
theorem stored3 {W : World} {b : Nat} {u : U} (h : CAt W ⟨b, 0, none⟩ u) (x y z : Value) :
    (((W.setCell ⟨b, 0, none⟩ x).setCell ⟨b, 1, none⟩ y).setCell ⟨b, 2, none⟩ z).cell? ⟨b, 0, none⟩ = some x ∧ (((W.setCell ⟨b, 0, none⟩ x).setCell ⟨b, 1, none⟩ y).setCell ⟨b, 2, none⟩ z).cell? ⟨b, 1, none⟩ = some y ∧
      (((W.setCell ⟨b, 0, none⟩ x).setCell ⟨b, 1, none⟩ y).setCell ⟨b, 2, none⟩ z).cell? ⟨b, 2, none⟩ = some z := by
  obtain ⟨h0, h1, h2⟩ := h
  simp only [Nat.zero_add] at h1 h2
  refine ⟨?_, ?_, ?_⟩
  · rw [World.cell?_setCell_other _ _ _ _ (by simp), World.cell?_setCell_other _ _ _ _ (by simp), World.cell?_setCell_same _ _ _ h0]
  · rw [World.cell?_setCell_other _ _ _ _ (by simp), World.cell?_setCell_same _ _ _ ((World.cell?_setCell_other _ _ _ _ (by simp)).trans h1)]
  · rw [World.cell?_setCell_same _ _ _ ((World.cell?_setCell_other _ _ _ _ (by simp)).trans ((World.cell?_setCell_other _ _ _ _ (by simp)).trans h2))]
theorem below_set3 {B : Nat} {a w : World} (h : Below B a w) {g : Nat} (hg : B ≤ g) (i j k : Nat) (x y z : Value) : Below B a (((w.setCell ⟨g, i, none⟩ x).setCell ⟨g, j, none⟩ y).setCell ⟨g, k, none⟩ z) :=
  ((h.setCell (p := ⟨g, i, none⟩) hg x).setCell (p := ⟨g, j, none⟩) hg y).setCell (p := ⟨g, k, none⟩) hg z
theorem ret_two {x y : Value} {X Y : Value} (h : x = X) (k : y = Y) : Ending.returned (.tuple #[x, y]) = .returned (.tuple #[X, Y]) := by rw [h, k]

set_option maxRecDepth 20000 in
theorem raise_any (v : Value) (l : List U) (d : D) (w : World) (hv : cntsIn w v l) (hn : l.length ≤ 1000000) (hp : Ct.Std l) :
    Calls Try.prog 23 #[v, dV d] w fun e w' => e = .returned (.tuple #[uV (raised l d).1, .int .i64 (raised l d).2]) ∧ Below w.heap.size w w' := by
  obtain ⟨W0, hW0⟩ : ∃ W0, W0 = (w.alloc (.cells #[.int .i64 d.1, .int .i64 d.2] 44)).alloc (.cells #[.int .i64 0, .int .i64 0, .int .i64 0] 59) := ⟨_, rfl⟩
  have hB0 : Below w.heap.size w W0 := by rw [hW0]; exact below_new2 _ _ _
  have HR : ∀ w, Calls Try.prog 51 #[dV d] w fun e w' => e = .returned (.bool (Dt.right d.1 d.2)) ∧ Below w.heap.size w w' := right_any d.1 d.2
  have HC := fun W (hb : Below w.heap.size w W) => get_any v l d W (hv.on hb) hn hp
  have hr := Ct.get_range hp d
  have hd0 : DAt W0 w.heap.size d := by rw [hW0]; exact (DAt.new w d).on (below_new _ _)
  have hu0 : UAt W0 (w.heap.size + 1) ((0, 0), 0) := by rw [hW0]; have h := UAt.new (w.alloc (.cells #[.int .i64 d.1, .int .i64 d.2] 44)) ((0, 0), 0); simpa using h
  unfold raised
  clear hv hp
  generalize Ct.get l d = z at *
  cases hq : Dt.right d.1 d.2 with
  | false =>
    rw [hq] at HR
    rw [if_neg (by decide)]
    go_enter Try.func23, Try.ntmps23
    go_wp2_with (go_at_call 51; rw [← hW0]; refine (HR _).mono ?_; rintro e w1 ⟨rfl, hb1⟩; have hu1 := hu0.on hb1; have hd1 := hd0.on hb1; obtain ⟨c0, c1, c2⟩ := hu1.at; obtain ⟨e0, e1⟩ := hd1; have f0 := hu1.frozen 0; have f1 := hu1.frozen 1; have f2 := hu1.frozen 2)
    have e01 := stored3 hu1.at (.int .i64 0) (.int .i64 0) (.int .i64 0)
    refine bodyPost_ret (v := .tuple #[uV ((0, 0), 0), .int .i64 2]) (by simp [results, Try.results23, go_sem, e01.1, e01.2.1, e01.2.2]) rfl ⟨rfl, ?_⟩
    exact below_set3 (bchain hB0 hb1) (by omega) _ _ _ _ _ _
  | true =>
    rw [hq] at HR
    rw [if_pos rfl]
    by_cases hz : 64 ≤ z
    · rw [if_pos hz]
      have hz' : decide (64 ≤ z) = true := decide_eq_true hz
      go_enter Try.func23, Try.ntmps23
      go_wp2_with (first | (go_at_call 51; rw [← hW0]; refine (HR _).mono ?_; rintro e w1 ⟨rfl, hb1⟩; have hu1 := hu0.on hb1; have hd1 := hd0.on hb1; obtain ⟨c0, c1, c2⟩ := hu1.at; obtain ⟨e0, e1⟩ := hd1; have f0 := hu1.frozen 0; have f1 := hu1.frozen 1; have f2 := hu1.frozen 2) | (go_at_call 52; refine (HC w1 (bchain hB0 hb1)).mono ?_; rintro e w2 ⟨rfl, hb2⟩; have hu2 := hu1.on hb2; have hd2 := hd0.on (bchain hb1 hb2); obtain ⟨c0, c1, c2⟩ := hu2.at; obtain ⟨e0, e1⟩ := hd2; have f0 := hu2.frozen 0; have f1 := hu2.frozen 1; have f2 := hu2.frozen 2))
      have e01 := stored3 hu2.at (.int .i64 0) (.int .i64 0) (.int .i64 0)
      refine bodyPost_ret (v := .tuple #[uV ((0, 0), 0), .int .i64 14]) (by simp [results, Try.results23, go_sem, e01.1, e01.2.1, e01.2.2]) rfl ⟨rfl, ?_⟩
      exact below_set3 (bchain hB0 (bchain hb1 hb2)) (by omega) _ _ _ _ _ _
    · rw [if_neg hz]
      have hz' : decide (64 ≤ z) = false := decide_eq_false hz
      go_enter Try.func23, Try.ntmps23
      go_wp2_with (first | (go_at_call 51; rw [← hW0]; refine (HR _).mono ?_; rintro e w1 ⟨rfl, hb1⟩; have hu1 := hu0.on hb1; have hd1 := hd0.on hb1; obtain ⟨c0, c1, c2⟩ := hu1.at; obtain ⟨e0, e1⟩ := hd1; have f0 := hu1.frozen 0; have f1 := hu1.frozen 1; have f2 := hu1.frozen 2) | (go_at_call 52; refine (HC w1 (bchain hB0 hb1)).mono ?_; rintro e w2 ⟨rfl, hb2⟩; have hu2 := hu1.on hb2; have hd2 := hd0.on (bchain hb1 hb2); obtain ⟨c0, c1, c2⟩ := hu2.at; obtain ⟨e0, e1⟩ := hd2; have f0 := hu2.frozen 0; have f1 := hu2.frozen 1; have f2 := hu2.frozen 2))
      have e01 := stored3 hu2.at (.int .i64 d.1) (.int .i64 d.2) (.int .i64 (z + 1))
      refine bodyPost_ret (v := .tuple #[uV (d, z + 1), .int .i64 0]) (by simp [results, Try.results23, go_sem, e01.1, e01.2.1, e01.2.2]) rfl ⟨rfl, ?_⟩
      exact below_set3 (bchain hB0 (bchain hb1 hb2)) (by omega) _ _ _ _ _ _

section
variable {md : Region.Mode} {ops : Array Oper} {Q : Exit → Act → World → Prop} {S : World → Prop} {i : Nat} {o : Oper} {fuel : Nat} {listed : Array Bool} {a : Act} {w : World}
abbrev uC (u : U) : Array Value := #[.int .i64 u.1.1, .int .i64 u.1.2, .int .i64 u.2]
theorem UAt.row {w : World} {b : Nat} {u : U} (h : UAt w b u) (u' : U) : UAt (w.setRow b (uC u')) b u' := setRow_heap w b _ _ 59 (0, 0) h
theorem sinfo26 (u : U) : (Try.prog.info? 59).map (·.size) = some (uC u).size := by kernel_rfl
/-- A count is stored whole. -/
theorem held_storeU (ho : ops[i]? = some o) (hr : Region.ready md ops listed = [i]) (hw : Region.wanted o (yielded ops a.tmps) = true) (x y : Operand) (hop : o.op = .store 59 x y)
    (b : Nat) (u u' : U) (hx : a.eval x = .pointer (some ⟨b, 0, none⟩)) (hy : a.eval y = uV u) (h : UAt w b u') (hS : S (w.setRow b (uC u)))
    (hk : wpAnyH Try.prog md ops Q S fuel (listed.setIfInBounds i true) (a.put o.dst undef) (w.setRow b (uC u))) : wpAnyH Try.prog md ops Q S (fuel + 1) listed a w :=
  wpAnyH_ready hr (by simp) (AllReadyH.cons ho (fun K hK => by
    rw [if_pos hw]
    exact wp_store_row 59 x y hop b (uC u) hx hy 59 _ h (sinfo26 u) rfl (by kernel_rfl) (hK.out _ _ hS (fun _ => hk))) AllReadyH.nil)
end
/-- What holds while the raised count is told. -/
structure RS (w : World) (d : D) (W : World) : Prop where
  dot : DAt W w.heap.size d
  cnt : ∃ u, UAt W (w.heap.size + 1) u
  below : Below w.heap.size w W
theorem RS.on {w : World} {d : D} {W W' : World} (h : RS w d W) (hb : Below W.heap.size W W') : RS w d W' := ⟨h.dot.on hb, let ⟨u, hu⟩ := h.cnt; ⟨u, hu.on hb⟩, bchain h.below hb⟩
theorem below_setRow {B : Nat} {a w : World} (h : Below B a w) {b : Nat} (hb : B ≤ b) (cs : Array Value) : Below B a (w.setRow b cs) :=
  ⟨h.os, h.tape, h.output, by rw [setRow_size]; exact h.size, fun k hk => (setRow_other w b k cs (by omega)).trans (h.block k hk)⟩
theorem RS.stored {w : World} {d : D} {W : World} (h : RS w d W) (u : U) : RS w d (W.setRow (w.heap.size + 1) (uC u)) := by
  obtain ⟨u', hu⟩ := h.cnt
  refine ⟨?_, ⟨u, hu.row u⟩, below_setRow h.below (by omega) _⟩
  exact ⟨(World.cell?_of_block (setRow_other W _ _ _ (by simp))).trans h.dot.1, (World.cell?_of_block (setRow_other W _ _ _ (by simp))).trans h.dot.2⟩
theorem add_one_fits (z : Int) (h0 : 0 ≤ z) (h1 : z ≤ 64) (w : World) : (binOp .add 3 (.int .i64 z) (.int .i64 1)).run Try.prog w = .ok (.int .i64 (z + 1)) w := by
  have h : IntKind.i64.wrap (z + 1) = z + 1 := by simp [IntKind.wrap, IntKind.bits, IntKind.signed]; omega
  go_simp
end Go.Proofs.Ytbeinicbkbkbpaa.T
