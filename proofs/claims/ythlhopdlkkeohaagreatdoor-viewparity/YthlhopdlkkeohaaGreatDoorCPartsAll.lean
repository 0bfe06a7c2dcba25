/- The walks of total's incs, Parts, Sum and Count · The walk of the document's Parts · What Parts, Sum and Count tell, both sides, by the items alone · The walk of the document's At of a view: what is at a leaf. -/
import Derived.Test.YthlhopdlkkeohaaGreatDoorAtP2All
import Derived.Test.YthlhopdlkkeohaaGreatDoorLinesAll
import Derived.Test.YthlhopdlkkeohaaGreatDoorViewsAll
import Derived.OwnWalk
import Derived.Test.YthlhopdlkkeohaaGreatDoorVValsAll
/- The walks of total's incs, Parts, Sum and Count. -/
namespace Go.Proofs.YthlhopdlkkeohaaGreatDoor.O.C
open Go.RowKit

theorem incs_any (v vp : Value) (xs : List IE) (p : List (List UInt8)) (w : World) (hv : itsE w v xs) (hp : U.strsAt w vp p) (hn : xs.length ≤ 1000000) (hs : ShortI xs) :
    Calls Tryz.prog 125 #[v, vp] w fun e w' => ∃ r, e = .returned r ∧ itsE w' r (xs.filter fun x => isAt p 3 x.1) ∧ Below w.heap.size w w' := by
  have HC := at_any v vp xs p 3 w hv hp hn hs
  clear hv hp hs
  go_enter Tryz.func125, Tryz.ntmps125
  go_wp2_with (go_at_call 120; refine HC.mono ?_; rintro e w1 ⟨r, rfl, hr, hb1⟩)
  go_ret
  exact ⟨_, rfl, hr, hb1⟩

/-- Items whose amounts may be. -/
def SmallN (xs : List IE) : Prop := ∀ x ∈ xs, -2147483647 ≤ x.1.o.n ∧ x.1.o.n ≤ 2147483647
/-- What items count up, and down. -/
def upE (ys : List IE) : Int := Li.ups (ys.map fun y => y.1.o.n)
def dnE (ys : List IE) : Int := Li.downs (ys.map fun y => y.1.o.n)
theorem upE_step {ys : List IE} {k : Nat} (hk : k < ys.length) : upE (ys.take (k + 1)) = upE (ys.take k) + if 0 < ys[k].1.o.n then ys[k].1.o.n else 0 := by
  unfold upE
  rw [List.map_take, Li.ups_step _ (by simpa using hk), List.map_take]
  simp only [List.getElem_map]
theorem dnE_step {ys : List IE} {k : Nat} (hk : k < ys.length) : dnE (ys.take (k + 1)) = dnE (ys.take k) + if ys[k].1.o.n < 0 then -ys[k].1.o.n else 0 := by
  unfold dnE
  rw [List.map_take, Li.downs_step _ (by simpa using hk), List.map_take]
  simp only [List.getElem_map]
theorem e_range {ys : List IE} (h : SmallN ys) (hn : ys.length ≤ 1000000) : 0 ≤ upE ys ∧ upE ys ≤ 2147483647000000 ∧ 0 ≤ dnE ys ∧ dnE ys ≤ 2147483647000000 := by
  have h1 := Li.ups_range 2147483647 (by decide) (ys.map fun y => y.1.o.n) fun n hm => by
    obtain ⟨y, hy, rfl⟩ := List.mem_map.1 hm
    exact h y hy
  rw [List.length_map] at h1
  have h2 : (ys.length : Int) * 2147483647 ≤ 1000000 * 2147483647 := Int.mul_le_mul_of_nonneg_right (by omega) (by decide)
  generalize (ys.length : Int) * 2147483647 = q at *
  unfold upE dnE
  omega
theorem SmallN.take {ys : List IE} (h : SmallN ys) (k : Nat) : SmallN (ys.take k) := fun x hx => h x (List.mem_of_mem_take hx)
theorem SmallN.filter {ys : List IE} (h : SmallN ys) (f : IE → Bool) : SmallN (ys.filter f) := fun x hx => h x (List.mem_filter.1 hx).1
theorem take_len {ys : List IE} (hn : ys.length ≤ 1000000) (k : Nat) : (ys.take k).length ≤ 1000000 := by rw [List.length_take]; omega

theorem ret_ab {a b a' b' : Int} (h1 : a = a') (h2 : b = b') : Ending.returned (.tuple #[.int .i64 a, .int .i64 b]) = .returned (.tuple #[.int .i64 a', .int .i64 b']) := by rw [h1, h2]

set_option maxRecDepth 20000 in
set_option maxHeartbeats 2000000 in
theorem parts_any (v vp : Value) (xs : List IE) (p : List (List UInt8)) (w : World) (hv : itsE w v xs) (hp : U.strsAt w vp p) (hn : xs.length ≤ 1000000) (hs : ShortI xs) (hz : SmallN xs) :
    Calls Tryz.prog 85 #[v, vp] w fun e w' => e = .returned (.tuple #[.int .i64 (upE (xs.filter fun y => isAt p 3 y.1)), .int .i64 (dnE (xs.filter fun y => isAt p 3 y.1))]) ∧ Below w.heap.size w w' := by
  have HC := incs_any v vp xs p w hv hp hn hs
  have hn1 : (xs.filter fun y => isAt p 3 y.1).length ≤ 1000000 := Nat.le_trans (List.length_filter_le _ _) hn
  have hz1 : Hid (SmallN (xs.filter fun y => isAt p 3 y.1)) := hz.filter _
  clear hv hp hs hn hz
  generalize (xs.filter fun y => isAt p 3 y.1) = ys at *
  go_enter Tryz.func85, Tryz.ntmps85
  go_wp2_with (go_at_call 125; refine HC.mono ?_; rintro e w1 ⟨r, rfl, hr, hb1⟩; obtain ⟨ao, cap, rfl⟩ := hr.slice; have HV : Hid (itsE w1 (.slice ao ys.length cap) ys) := hr; obtain ⟨n, hn0⟩ : ∃ n, n = ys.length := ⟨_, rfl⟩; have HN : Hid (n = ys.length) := hn0; have HL : Hid (ys.length ≤ 1000000) := hn1; rw [← hn0] at HV hn1 ⊢; clear hr hn0)
  clear HC
  go_loopw [6, 7, 9, 14] (fun up dn _ i wr => ∃ (k : Nat) (a b : Int), k ≤ n ∧ i = .int .i64 k ∧ up = .int .i64 a ∧ dn = .int .i64 b ∧ Hid (a = upE (ys.take k)) ∧ Hid (b = dnE (ys.take k)) ∧ Below w1.heap.size w1 wr) (fun _ _ _ i _ => n - (intOf i).toNat)
  case atStart => exact ⟨0, 0, 0, by omega, rfl, rfl, rfl, rfl, rfl, Below.refl _ _⟩
  case round =>
    obtain ⟨k, a, b, hk, rfl, rfl, rfl, HA, HB, hbw⟩ := hrel
    by_cases hkn : k < n
    · have hkx : k < ys.length := by rw [← HN.out]; exact hkn
      obtain ⟨ad, rfl, -, hX, hXi⟩ := (HV.out.on hbw).get hkx
      have hr := e_range (hz1.out.take k) (take_len HL.out k)
      rw [← HA.out, ← HB.out] at hr
      have hr1 := hz1.out _ (List.getElem_mem hkx)
      have HU := upE_step hkx
      have HD := dnE_step hkx
      rw [← HA.out] at HU
      rw [← HB.out] at HD
      by_cases he : 0 < ys[k].1.o.n
      · rw [if_pos he] at HU
        rw [if_neg (by omega)] at HD
        have HU1 : Hid (a + ys[k].1.o.n = upE (ys.take (k + 1))) := HU.symm
        have HD1 : Hid (b = dnE (ys.take (k + 1))) := by rw [HD]; show b = b + 0; omega
        have hw1 : IntKind.i64.wrap (a + ys[k].1.o.n) = a + ys[k].1.o.n := U.wrap_i64 (by omega) (by omega)
        clear HU HD hr hr1
        generalize ys[k] = y at *
        obtain ⟨it, pv, sv⟩ := y
        obtain ⟨pa, pn, pc, rfl⟩ := strs_slice hXi.1
        obtain ⟨sa, sn, sc, rfl⟩ := refs_slice hXi.2
        obtain ⟨c0, c1, c2, c3, c4, c5, c6, c7, c8, c9, c10⟩ := hX
        have bA := below_new wr (.cells (icell (it, .slice pa pn pc, .slice sa sn sc)).toArray 76)
        clear HA HB hXi
        go_wp2
        go_roundw
        case rel => exact ⟨k + 1, a + it.o.n, b, by omega, by go_num, rfl, rfl, HU1, HD1, bchain hbw bA⟩
        case measure => simp [intOf]; omega
      · rw [if_neg he] at HU
        have HU1 : Hid (a = upE (ys.take (k + 1))) := by rw [HU]; show a = a + 0; omega
        have HD1 : Hid (b - ys[k].1.o.n = dnE (ys.take (k + 1))) := by
          have h : b - ys[k].1.o.n = dnE (ys.take (k + 1)) := by rw [HD]; split <;> omega
          exact h
        have hw1 : IntKind.i64.wrap (b - ys[k].1.o.n) = b - ys[k].1.o.n := U.wrap_i64 (by omega) (by omega)
        clear HU HD hr hr1
        generalize ys[k] = y at *
        obtain ⟨it, pv, sv⟩ := y
        obtain ⟨pa, pn, pc, rfl⟩ := strs_slice hXi.1
        obtain ⟨sa, sn, sc, rfl⟩ := refs_slice hXi.2
        obtain ⟨c0, c1, c2, c3, c4, c5, c6, c7, c8, c9, c10⟩ := hX
        have bA := below_new wr (.cells (icell (it, .slice pa pn pc, .slice sa sn sc)).toArray 76)
        clear HA HB hXi
        go_wp2
        go_roundw
        case rel => exact ⟨k + 1, a, b - it.o.n, by omega, by go_num, rfl, rfl, HU1, HD1, bchain hbw bA⟩
        case measure => simp [intOf]; omega
    · have e : ys.take k = ys := List.take_of_length_le (by rw [← HN.out]; omega)
      rw [e] at HA HB
      go_wp2
      go_ret2
      exact ⟨ret_ab HA.out HB.out, bchain hb1 hbw⟩

set_option maxRecDepth 20000 in
set_option maxHeartbeats 2000000 in
theorem sum_any (v vp : Value) (xs : List IE) (p : List (List UInt8)) (w : World) (hv : itsE w v xs) (hp : U.strsAt w vp p) (hn : xs.length ≤ 1000000) (hs : ShortI xs) (hz : SmallN xs) :
    Calls Tryz.prog 41 #[v, vp] w fun e w' => e = .returned (.int .i64 (upE (xs.filter fun y => isAt p 3 y.1) - dnE (xs.filter fun y => isAt p 3 y.1))) ∧ Below w.heap.size w w' := by
  have HC := parts_any v vp xs p w hv hp hn hs hz
  have hr := e_range (hz.filter fun y => isAt p 3 y.1) (Nat.le_trans (List.length_filter_le _ _) hn)
  clear hv hp hs hn hz
  generalize upE (xs.filter fun y => isAt p 3 y.1) = a at *
  generalize dnE (xs.filter fun y => isAt p 3 y.1) = b at *
  have hw1 : IntKind.i64.wrap (a - b) = a - b := U.wrap_i64 (by omega) (by omega)
  clear hr
  go_enter Tryz.func41, Tryz.ntmps41
  go_wp2_with (go_at_call 85; refine HC.mono ?_; rintro e w1 ⟨rfl, hb1⟩)
  go_ret
  exact ⟨rfl, hb1⟩

end Go.Proofs.YthlhopdlkkeohaaGreatDoor.O.C
/- The walk of the document's Parts. -/
namespace Go.Proofs.YthlhopdlkkeohaaGreatDoor.O.C
open Go.RowKit

theorem ret_three {a b c a' b' c' : Int} (h1 : a = a') (h2 : b = b') (h3 : c = c') : Ending.returned (.tuple #[.int .i64 a, .int .i64 b, .int .i64 c]) = .returned (.tuple #[.int .i64 a', .int .i64 b', .int .i64 c']) := by rw [h1, h2, h3]
end Go.Proofs.YthlhopdlkkeohaaGreatDoor.O.C
/- What Parts, Sum and Count tell, both sides, by the items alone. -/
namespace Go.Proofs.YthlhopdlkkeohaaGreatDoor.O.C
open Go.RowKit

theorem filt_map (P : Lv.Item → Bool) : ∀ l : List IE, (l.filter fun x => P x.1).map (·.1) = (l.map (·.1)).filter P := fun l => by
  rw [List.filter_map]
  rfl
theorem ns_its {xs : List IE} {its : List Lv.Item} (h : xs.map (·.1) = its) (p : List (List UInt8)) : (xs.filter fun y => isAt p 3 y.1).map (fun y => y.1.o.n) = Tr.nums its p := by
  have h1 := congrArg (List.map fun i : Lv.Item => i.o.n) (filt_map (isAt p 3) xs)
  rw [h, List.map_map] at h1
  exact h1
theorem len_its {xs : List IE} {its : List Lv.Item} (h : xs.map (·.1) = its) (p : List (List UInt8)) : (xs.filter fun y => isAt p 3 y.1).length = (Tr.nums its p).length := by rw [← ns_its h p, List.length_map]
/-- What is counted up, and down, at a path. -/
def upI (its : List Lv.Item) (p : List (List UInt8)) : Int := Li.ups (Tr.nums its p)
def dnI (its : List Lv.Item) (p : List (List UInt8)) : Int := Li.downs (Tr.nums its p)
def cnI (its : List Lv.Item) (p : List (List UInt8)) : Int := ((Tr.nums its p).length : Int)
section
variable {v vp : Value} {xs : List IE} {its : List Lv.Item} {p : List (List UInt8)} {w : World}
theorem up_its (he : xs.map (·.1) = its) : upE (xs.filter fun y => isAt p 3 y.1) = upI its p := by unfold upE upI; rw [ns_its he]
theorem dn_its (he : xs.map (·.1) = its) : dnE (xs.filter fun y => isAt p 3 y.1) = dnI its p := by unfold dnE dnI; rw [ns_its he]
theorem cn_its (he : xs.map (·.1) = its) : ((xs.filter fun y => isAt p 3 y.1).length : Int) = cnI its p := by unfold cnI; rw [len_its he]
theorem sum_its (hv : itsE w v xs) (he : xs.map (·.1) = its) (hp : U.strsAt w vp p) (hn : xs.length ≤ 1000000) (hs : ShortI xs) (hz : SmallN xs) : Calls Tryz.prog 41 #[v, vp] w fun e w' => e = .returned (.int .i64 (upI its p - dnI its p)) ∧ Below w.heap.size w w' := by
  rw [← up_its he, ← dn_its he]; exact sum_any v vp xs p w hv hp hn hs hz
end
end Go.Proofs.YthlhopdlkkeohaaGreatDoor.O.C
/- The walk of the document's At of a view: what is at a leaf. -/
namespace Go.Proofs.YthlhopdlkkeohaaGreatDoor.O
open Go.RowKit

theorem sum_up (its : List Lv.Item) (p : List (List UInt8)) : Vw.sum its p = C.upI its p - C.dnI its p := Li.sum_ups _
/-- A variable that holds an entry. -/
structure EVar (w : World) (b : Nat) (pv : Value) (k : Int) (lv : Value) (n : Int) : Prop where
  c0 : w.cell? ⟨b, 0, none⟩ = some pv
  c1 : w.cell? ⟨b, 1, none⟩ = some (.int .i64 k)
  c2 : w.cell? ⟨b, 2, none⟩ = some lv
  c3 : w.cell? ⟨b, 3, none⟩ = some (.int .i64 n)
  f0 : w.frozen? ⟨b, 0, none⟩ = false
  f1 : w.frozen? ⟨b, 1, none⟩ = false
  f2 : w.frozen? ⟨b, 2, none⟩ = false
  f3 : w.frozen? ⟨b, 3, none⟩ = false
abbrev entO (pv : Value) (k : Int) (lv : Value) (n : Int) (T : TypeId) : Obj := .cells #[pv, .int .i64 k, lv, .int .i64 n] T
theorem EVar.new (w : World) (pv : Value) (k : Int) (lv : Value) (n : Int) (T : TypeId) : EVar (w.alloc (entO pv k lv n T)) w.heap.size pv k lv n := ⟨by simp, by simp, by simp, by simp, by simp, by simp, by simp, by simp⟩
theorem EVar.lt {w : World} {b : Nat} {pv : Value} {k : Int} {lv : Value} {n : Int} (h : EVar w b pv k lv n) : b < w.heap.size := World.block_lt_of_cell? w ⟨b, 0, none⟩ h.c0
theorem EVar.blk {w w' : World} {b : Nat} {pv : Value} {k : Int} {lv : Value} {n : Int} (h : EVar w b pv k lv n) (hb : w'.heap[b]? = w.heap[b]?) : EVar w' b pv k lv n :=
  ⟨(World.cell?_of_block hb).trans h.c0, (World.cell?_of_block hb).trans h.c1, (World.cell?_of_block hb).trans h.c2, (World.cell?_of_block hb).trans h.c3, (World.frozen?_of_block hb).trans h.f0, (World.frozen?_of_block hb).trans h.f1, (World.frozen?_of_block hb).trans h.f2, (World.frozen?_of_block hb).trans h.f3⟩
theorem EVar.on {w w' : World} {b : Nat} {pv : Value} {k : Int} {lv : Value} {n : Int} (h : EVar w b pv k lv n) (hb : Below w.heap.size w w') : EVar w' b pv k lv n := h.blk (hb.block b h.lt)
theorem EVar.other {w : World} {b : Nat} {pv : Value} {k : Int} {lv : Value} {n : Int} (h : EVar w b pv k lv n) (o : Obj) : EVar (w.alloc o) b pv k lv n := h.on ((Below.refl _ _).alloc (Nat.le_refl _) _)
/-- The four cells of a result, stored one behind the other. -/
abbrev set4 (w : World) (b : Nat) (pv : Value) (k : Int) (lv : Value) (n : Int) : World := (((w.setCell ⟨b, 0, none⟩ pv).setCell ⟨b, 1, none⟩ (.int .i64 k)).setCell ⟨b, 2, none⟩ lv).setCell ⟨b, 3, none⟩ (.int .i64 n)
theorem set4_cells {w : World} {b : Nat} {pv' : Value} {k' : Int} {lv' : Value} {n' : Int} (h : EVar w b pv' k' lv' n') (pv : Value) (k : Int) (lv : Value) (n : Int) :
    (set4 w b pv k lv n).cell? ⟨b, 0, none⟩ = some pv ∧ (set4 w b pv k lv n).cell? ⟨b, 1, none⟩ = some (.int .i64 k) ∧ (set4 w b pv k lv n).cell? ⟨b, 2, none⟩ = some lv ∧ (set4 w b pv k lv n).cell? ⟨b, 3, none⟩ = some (.int .i64 n) := by
  have o : ∀ (W : World) (i j : Nat) (x : Value), i ≠ j → (W.setCell ⟨b, i, none⟩ x).cell? ⟨b, j, none⟩ = W.cell? ⟨b, j, none⟩ := fun W i j x hij => World.cell?_setCell_other _ _ _ _ (by simp <;> omega)
  have c3 := o ((w.setCell ⟨b, 0, none⟩ pv).setCell ⟨b, 1, none⟩ (.int .i64 k)) 2 3 lv (by decide)
  have d3 := o (w.setCell ⟨b, 0, none⟩ pv) 1 3 (.int .i64 k) (by decide)
  have e3 := o w 0 3 pv (by decide)
  have c2 := o (w.setCell ⟨b, 0, none⟩ pv) 1 2 (.int .i64 k) (by decide)
  have d2 := o w 0 2 pv (by decide)
  have c1 := o w 0 1 pv (by decide)
  refine ⟨?_, ?_, ?_, ?_⟩
  · rw [o _ 3 0 _ (by decide), o _ 2 0 _ (by decide), o _ 1 0 _ (by decide)]
    exact World.cell?_setCell_same _ _ _ h.c0
  · rw [o _ 3 1 _ (by decide), o _ 2 1 _ (by decide)]
    exact World.cell?_setCell_same _ _ _ (c1.trans h.c1)
  · rw [o _ 3 2 _ (by decide)]
    exact World.cell?_setCell_same _ _ _ (c2.trans (d2.trans h.c2))
  · exact World.cell?_setCell_same _ _ _ (c3.trans (d3.trans (e3.trans h.c3)))
theorem below_set4 {A w : World} {b : Nat} (h : Below A.heap.size A w) (hb : A.heap.size ≤ b) (pv : Value) (k : Int) (lv : Value) (n : Int) : Below A.heap.size A (set4 w b pv k lv n) := (((h.setCell hb _).setCell hb _).setCell hb _).setCell hb _
theorem EVar.setOther {w : World} {b : Nat} {pv : Value} {k : Int} {lv : Value} {n : Int} (h : EVar w b pv k lv n) {q : Addr} (hq : q.block ≠ b) (v : Value) : EVar (w.setCell q v) b pv k lv n :=
  h.blk (Below.heap_setCell w q v b (Ne.symm hq))
theorem set4_block (w : World) (b : Nat) (pv : Value) (k : Int) (lv : Value) (n : Int) {g : Nat} (hg : g ≠ b) : (set4 w b pv k lv n).heap[g]? = w.heap[g]? :=
  ((Below.heap_setCell _ _ _ g hg).trans (Below.heap_setCell _ _ _ g hg)).trans ((Below.heap_setCell _ _ _ g hg).trans (Below.heap_setCell _ _ _ g hg))
theorem ret_ent {pv lv : Value} {k n n' : Int} (h : n = n') : Ending.returned (entV pv k lv n) = .returned (entV pv k lv n') := by rw [h]

abbrev z0 : Value := .slice none 0 0
/-- The result and the variable, as they stand ahead of the calls, and behind one. -/
structure Two (w : World) (pv : Value) (k : Int) (W : World) : Prop where
  below : Below w.heap.size w W
  v6 : EVar W w.heap.size z0 0 z0 0
  v7 : EVar W (w.heap.size + 1) pv k z0 0
  h6 : W.heap[w.heap.size]? = some (entO z0 0 z0 0 42)
  h7 : W.heap[w.heap.size + 1]? = some (entO pv k z0 0 42)
theorem Two.new (w : World) (pv : Value) (k : Int) : Two w pv k ((w.alloc (entO z0 0 z0 0 42)).alloc (entO pv k z0 0 42)) := by
  have V7 := EVar.new (w.alloc (entO z0 0 z0 0 42)) pv k z0 0 42
  have H7 := heap_alloc_new (w.alloc (entO z0 0 z0 0 42)) (entO pv k z0 0 42)
  rw [World.size_alloc] at V7 H7
  exact ⟨below_new2 _ _ _, (EVar.new w z0 0 z0 0 42).other _, V7, ((below_new (w.alloc (entO z0 0 z0 0 42)) _).block _ (by rw [World.size_alloc]; omega)).trans (heap_alloc_new w _), H7⟩
theorem Two.on {w W W' : World} {pv : Value} {k : Int} (h : Two w pv k W) (hb : Below W.heap.size W W') : Two w pv k W' :=
  ⟨bchain h.below hb, h.v6.on hb, h.v7.on hb, (hb.block _ h.v6.lt).trans h.h6, (hb.block _ h.v7.lt).trans h.h7⟩
theorem own_keep {w w' : World} {B s n : Nat} {e : TypeId} {v : Value} {xs : List Value} (h : w.ownsRow B e s v n xs) (hk : ∀ g, v.ownBlock = some g → w'.heap[g]? = w.heap[g]?) : w'.ownsRow B e s v n xs := by
  refine ⟨h.1, ?_⟩
  rcases h.2 with hn | ⟨q, cap, cur, hv, hbq, hq, r⟩
  · exact Or.inl hn
  · exact Or.inr ⟨q, cap, cur, hv, hbq, (hk q (by rw [hv]; rfl)).trans hq, r⟩
end Go.Proofs.YthlhopdlkkeohaaGreatDoor.O
