/- The walks of the program's Compare and Refs, and of the document's · The walks of both dot Codes, and of dot.Read over a reader whose text begins with a dot's bytes · The calls of the library that the program makes and that lie proved over any program: the builder's String: laid at this program · The walks of the builder's methods: copyCheck, WriteByte, WriteString, WriteRune, Reset: what each puts behind what the builder holds, and that nothing else is touched. -/
import Derived.Test.YthlhopdlkkeohaaGreatDoorOpsAll
import Derived.Deep.RegionHeld3
import Derived.Shelf.Strings.BuilderK
import Derived.Test.YthlhopdlkkeohaaGreatDoorChecked
import Derived.WalkKit
/- The walks of the program's Compare and Refs, and of the document's. -/
namespace Go.Proofs.YthlhopdlkkeohaaGreatDoor.D
open Go.RowKit

theorem cmp_any (x y : Int) (w : World) : Calls Tryz.prog 123 #[.int .i64 x, .int .i64 y] w fun e w' => e = .returned (.int .i64 (Dt.compareInt x y)) ∧ w' = w := by
  rcases Dt.compareInt_cases x y with ⟨h, e⟩ | ⟨h, e⟩ | ⟨h, e⟩ <;> rw [e] <;> clear e
  · go_enter Tryz.func123, Tryz.ntmps123
    go_wp2
    go_ret
    exact ⟨rfl, rfl⟩
  · subst h
    go_enter Tryz.func123, Tryz.ntmps123
    go_wp2
    go_ret
    exact ⟨rfl, rfl⟩
  · have h' : ¬ x < y := by omega
    go_enter Tryz.func123, Tryz.ntmps123
    go_wp2
    go_ret
    exact ⟨rfl, rfl⟩

set_option maxRecDepth 20000 in
/-- Of two numbers the first that is not 0. -/
theorem or_two (b : Nat) (x y : Int) (w : World) (h0 : w.cell? ⟨b, 0, none⟩ = some (.int .i64 x)) (h1 : w.cell? ⟨b, 1, none⟩ = some (.int .i64 y)) :
    Calls Tryz.prog 122 #[.slice (some ⟨b, 0, none⟩) 2 2] w fun e w' => e = .returned (.int .i64 (Dt.two x y)) ∧ w' = w := by
  by_cases hx : x = 0
  · subst hx
    rw [show Dt.two 0 y = y from rfl]
    by_cases hy : y = 0
    · subst hy
      go_enter Tryz.func122, Tryz.ntmps122
      go_wp2
      go_loop [8] (fun i => ∃ k : Nat, k ≤ 2 ∧ i = .int .i64 k) (fun i => 2 - (intOf i).toNat)
      case atStart => exact ⟨0, by omega, rfl⟩
      case round =>
        obtain ⟨k, hk, rfl⟩ := hrel
        match k, hk with
        | 0, _ =>
          go_wp2
          go_round
          case rel => exact ⟨1, by omega, rfl⟩
          case measure => simp [intOf]
        | 1, _ =>
          go_wp2
          go_round
          case rel => exact ⟨2, by omega, rfl⟩
          case measure => simp [intOf]
        | 2, _ =>
          go_wp2
          go_ret
          exact ⟨rfl, rfl⟩
    · have hyb : (y != 0) = true := by simpa using hy
      go_enter Tryz.func122, Tryz.ntmps122
      go_wp2
      go_loop [8] (fun i => ∃ k : Nat, k ≤ 1 ∧ i = .int .i64 k) (fun i => 2 - (intOf i).toNat)
      case atStart => exact ⟨0, by omega, rfl⟩
      case round =>
        obtain ⟨k, hk, rfl⟩ := hrel
        match k, hk with
        | 0, _ =>
          go_wp2
          go_round
          case rel => exact ⟨1, by omega, rfl⟩
          case measure => simp [intOf]
        | 1, _ =>
          go_wp2
          go_ret
          exact ⟨rfl, rfl⟩
  · rw [show Dt.two x y = x by unfold Dt.two; rw [if_neg hx]]
    have hxb : (x != 0) = true := by simpa using hx
    go_enter Tryz.func122, Tryz.ntmps122
    go_wp2
    go_loop [8] (fun i => i = .int .i64 0) (fun _ => 0)
    case atStart => rfl
    case round =>
      subst hrel
      go_wp2
      go_ret
      exact ⟨rfl, rfl⟩

theorem or_new (W : World) (o p : Obj) (x y : Int) : Calls Tryz.prog 122 #[.slice (some ⟨W.heap.size + 1 + 1, 0, none⟩) 2 2] (((W.alloc o).alloc p).alloc (.cells #[.int .i64 x, .int .i64 y] 3)).drew
    fun e w' => e = .returned (.int .i64 (Dt.two x y)) ∧ w' = (((W.alloc o).alloc p).alloc (.cells #[.int .i64 x, .int .i64 y] 3)).drew := by
  have e : ((W.alloc o).alloc p).heap.size = W.heap.size + 1 + 1 := by simp
  rw [← e]
  generalize (W.alloc o).alloc p = V at *
  exact or_two _ x y _ (by simp) (by simp)

set_option maxRecDepth 20000 in
theorem comp_exact (r n r' n' : Int) (w : World) : Calls Tryz.prog 99 #[dotV r n, dotV r' n'] w fun e w' => e = .returned (.int .i64 (Dt.comp r n r' n')) ∧ ∃ a b c, w' = (((w.alloc a).alloc b).alloc c).drew := by
  go_enter Tryz.func99, Tryz.ntmps99
  go_wp2_with fail
  go_region_held3 (fun w' => w'.cell? ⟨w.heap.size, 0, none⟩ = some (.int .i64 r) ∧ w'.cell? ⟨w.heap.size, 1, none⟩ = some (.int .i64 n) ∧ w'.cell? ⟨w.heap.size + 1, 0, none⟩ = some (.int .i64 r') ∧ w'.cell? ⟨w.heap.size + 1, 1, none⟩ = some (.int .i64 n')) (go_keep)
    (first | (go_at_call 123; refine (cmp_any _ _ _).mono ?_; rintro e w1 ⟨rfl, rfl⟩) | (go_at_call 122; refine (or_new _ _ _ _ _).mono ?_; rintro e w1 ⟨rfl, rfl⟩))
  go_wp2
  go_ret
  exact ⟨rfl, _, _, _, rfl⟩
theorem comp_any (r n r' n' : Int) (w : World) : Calls Tryz.prog 99 #[dotV r n, dotV r' n'] w fun e w' => e = .returned (.int .i64 (Dt.comp r n r' n')) ∧ Below w.heap.size w w' :=
  (comp_exact r n r' n' w).mono fun _ _ ⟨he, _, _, _, hw⟩ => ⟨he, by rw [hw]; exact (bchain (below_new2 _ _ _) (below_new _ _)).drew⟩


set_option maxRecDepth 20000 in
theorem refRefs_any (r n i r' n' i' : Int) (w : World) : Calls Tryz.prog 173 #[refV r n i, refV r' n' i'] w fun e w' => e = .returned (.int .i64 (Dt.two (Dt.comp r n r' n') (Dt.compareInt i i'))) ∧ Below w.heap.size w w' := by
  have c0 : ((w.alloc (.cells #[.int .i64 r, .int .i64 n, .int .i64 i] 70)).alloc (.cells #[.int .i64 r', .int .i64 n', .int .i64 i'] 70)).cell? ⟨w.heap.size, 0, none⟩ = some (.int .i64 r) := by simp
  have c1 : ((w.alloc (.cells #[.int .i64 r, .int .i64 n, .int .i64 i] 70)).alloc (.cells #[.int .i64 r', .int .i64 n', .int .i64 i'] 70)).cell? ⟨w.heap.size, 1, none⟩ = some (.int .i64 n) := by simp
  have c2 : ((w.alloc (.cells #[.int .i64 r, .int .i64 n, .int .i64 i] 70)).alloc (.cells #[.int .i64 r', .int .i64 n', .int .i64 i'] 70)).cell? ⟨w.heap.size, 2, none⟩ = some (.int .i64 i) := by simp
  have d0 : ((w.alloc (.cells #[.int .i64 r, .int .i64 n, .int .i64 i] 70)).alloc (.cells #[.int .i64 r', .int .i64 n', .int .i64 i'] 70)).cell? ⟨w.heap.size + 1, 0, none⟩ = some (.int .i64 r') := by
    have e : (w.alloc (.cells #[.int .i64 r, .int .i64 n, .int .i64 i] 70)).heap.size = w.heap.size + 1 := by simp
    rw [← e]; generalize w.alloc (.cells #[.int .i64 r, .int .i64 n, .int .i64 i] 70) = V; simp
  have d1 : ((w.alloc (.cells #[.int .i64 r, .int .i64 n, .int .i64 i] 70)).alloc (.cells #[.int .i64 r', .int .i64 n', .int .i64 i'] 70)).cell? ⟨w.heap.size + 1, 1, none⟩ = some (.int .i64 n') := by
    have e : (w.alloc (.cells #[.int .i64 r, .int .i64 n, .int .i64 i] 70)).heap.size = w.heap.size + 1 := by simp
    rw [← e]; generalize w.alloc (.cells #[.int .i64 r, .int .i64 n, .int .i64 i] 70) = V; simp
  have d2 : ((w.alloc (.cells #[.int .i64 r, .int .i64 n, .int .i64 i] 70)).alloc (.cells #[.int .i64 r', .int .i64 n', .int .i64 i'] 70)).cell? ⟨w.heap.size + 1, 2, none⟩ = some (.int .i64 i') := by
    have e : (w.alloc (.cells #[.int .i64 r, .int .i64 n, .int .i64 i] 70)).heap.size = w.heap.size + 1 := by simp
    rw [← e]; generalize w.alloc (.cells #[.int .i64 r, .int .i64 n, .int .i64 i] 70) = V; simp
  by_cases h : Dt.comp r n r' n' = 0
  · rw [show Dt.two (Dt.comp r n r' n') (Dt.compareInt i i') = Dt.compareInt i i' by unfold Dt.two; rw [if_pos h]]
    have HC : ∀ w, Calls Tryz.prog 100 #[dotV r n, dotV r' n'] w fun e w' => e = .returned (.int .i64 0) ∧ Below w.heap.size w w' := fun w => by have := refComp_any r n r' n' w; rw [h] at this; exact this
    clear h
    go_enter Tryz.func173, Tryz.ntmps173
    go_wp2_with (first | (go_at_call 100; refine (HC _).mono ?_; rintro e w1 ⟨rfl, hb⟩; have k2 := keep_cell hb c2; have l2 := keep_cell hb d2) | (go_at_call 134; refine (ints_any _ _ _).mono ?_; rintro e w2 ⟨rfl, rfl⟩))
    go_ret
    exact ⟨rfl, bchain (below_new2 _ _ _) hb⟩
  · have HC : ∀ w, Calls Tryz.prog 100 #[dotV r n, dotV r' n'] w fun e w' => e = .returned (.int .i64 (Dt.comp r n r' n')) ∧ Below w.heap.size w w' := fun w => refComp_any r n r' n' w
    rw [show Dt.two (Dt.comp r n r' n') (Dt.compareInt i i') = Dt.comp r n r' n' by unfold Dt.two; rw [if_neg h]]
    generalize Dt.comp r n r' n' = z at *
    have hz : (z != 0) = true := by simpa using h
    go_enter Tryz.func173, Tryz.ntmps173
    go_wp2_with fail
    refine (HC _).mono ?_
    rintro e w1 ⟨rfl, hb⟩
    have k0 := keep_cell hb c0
    have k1 := keep_cell hb c1
    have l0 := keep_cell hb d0
    have l1 := keep_cell hb d1
    go_wp2_with fail
    refine (HC _).mono ?_
    rintro e w2 ⟨rfl, hb2⟩
    go_wp2
    go_ret
    exact ⟨rfl, bchain (bchain (below_new2 _ _ _) hb) hb2⟩
end Go.Proofs.YthlhopdlkkeohaaGreatDoor.D
/- The walks of both dot Codes, and of dot.Read over a reader whose text begins with a dot's bytes. -/
namespace Go.Proofs.YthlhopdlkkeohaaGreatDoor.D
open Go.RowKit

/-- A dot's bytes. -/
def codeL (r n : Int) : List UInt8 := Pk.enc r.toNat ++ Pk.enc n.toNat
theorem enc_len {n : Int} (h1 : n ≤ 9223372036854775807) : (Pk.enc n.toNat).length ≤ 9 := Pk.enc_len9 (by omega)

end Go.Proofs.YthlhopdlkkeohaaGreatDoor.D
/- The calls of the library that the program makes and that lie proved over any program: the builder's String: laid at this program. -/
namespace Go.Proofs.YthlhopdlkkeohaaGreatDoor
open Go.Shelf Go.RowKit

/-- Which number the library's functions, types and variables have here. -/
def ren : Ren := ⟨fun | 169 => 52 | n => n, fun | 0 => 0 | 3 => 3 | 5 => 5 | 9 => 9 | 37 => 100 | 70 => 99 | 72 => 102 | 127 => 140 | n => n, fun | n => n⟩
theorem lay169 : Lays.n169 Tryz.prog ren := {
  mixed := by kernel_rfl
  f169 := Tryz.func52.trans (congrArg some (by kernel_rfl))
  t0 := Tryz.underlying0, a0 := Tryz.isAgg0, z0 := Tryz.sizeOf0, v0 := Tryz.zeroValue0
  t3 := Tryz.underlying3, a3 := Tryz.isAgg3, z3 := Tryz.sizeOf3, v3 := Tryz.zeroValue3
  t9 := Tryz.underlying9, a9 := Tryz.isAgg9, z9 := Tryz.sizeOf9, v9 := Tryz.zeroValue9
  t37 := Tryz.underlying100, a37 := Tryz.isAgg100, z37 := Tryz.sizeOf100, v37 := Tryz.zeroValue100
  t70 := Tryz.underlying99, a70 := Tryz.isAgg99, z70 := Tryz.sizeOf99, v70 := Tryz.zeroValue99
  t72 := Tryz.underlying102, a72 := Tryz.isAgg102, z72 := Tryz.sizeOf102, v72 := Tryz.zeroValue102
  t127 := Tryz.underlying140, a127 := Tryz.isAgg140, z127 := Tryz.sizeOf140, v127 := Tryz.zeroValue140 }
theorem layX : Builder.Extra Tryz.prog ren := {
  sizeBuilder := by kernel_rfl
  liesBuilder := by kernel_rfl
  t5 := Tryz.underlying5, a5 := Tryz.isAgg5, z5 := Tryz.sizeOf5, v5 := Tryz.zeroValue5
  infoByte := by kernel_rfl
  cellsByte := by kernel_rfl
  sizeByte := by kernel_rfl
  neB5 := by decide }

/-- The builder tells its text. -/
theorem bString (B b : Nat) (l : List UInt8) (w : World) (h : Lib.IsBuilderF 102 5 B b (Lib.byteCells l) w) (hBw : B ≤ w.heap.size) :
    Calls Tryz.prog 52 #[.pointer (some ⟨b, 0, none⟩)] w fun e w' => e = .returned (.string ⟨l.toArray⟩) ∧ (Lib.IsBuilderF 102 5 B b (Lib.byteCells l) w' ∧ Below B w w' ∧ Lib.OthersKept 5 (some b) w w') := Any.Builder_String_any_k lay169 layX B b l w h hBw

end Go.Proofs.YthlhopdlkkeohaaGreatDoor
/- The walks of the builder's methods: copyCheck, WriteByte, WriteString, WriteRune, Reset: what each puts behind what the builder holds, and that nothing else is touched. -/
namespace Go.Proofs.YthlhopdlkkeohaaGreatDoor.U
open Go.RowKit

theorem info44 : (Tryz.prog.info? 102).map (·.size) = some 2 := by kernel_rfl
theorem lies44 : liesAt Tryz.prog Tryz.prog.depth 102 (2 / Tryz.prog.cellsOf 102) 0 102 1 = true := by kernel_rfl
theorem info5 : (Tryz.prog.info? 5).map (fun i => (i.zero, i.size, i.bytes)) = some (some (.int .u8 0), 1, 1) := by kernel_rfl
theorem heap_lt {w : World} {b : Nat} {o : Obj} (h : w.heap[b]? = some o) : b < w.heap.size := (Array.getElem?_eq_some_iff.1 h).1
theorem one_new5 (wr : World) (x : Value) (t : TypeId) : ∀ j u, [x][j]? = some u → (wr.alloc (.cells #[x] t)).cell? ((⟨wr.heap.size, 0, none⟩ : Addr).add j) = some u := by
  intro j u hj
  match j, hj with
  | 0, hj => simp at hj; subst hj; simp [Addr.add]
theorem one_cell5 (n : Int) : ∀ u ∈ [Value.int .u8 n], u.oneCell' = true := by intro u hu; simp at hu; subst hu; rfl

/-- The address at which a builder lies. -/
abbrev at0 (b : Nat) : Value := .pointer (some ⟨b, 0, none⟩)
/-- What a method leaves: the builder holds these bytes; what lay below stands; so does all that is neither the builder nor a row of bytes. -/
def Left (B b : Nat) (bs : List Value) (w w' : World) : Prop := Lib.IsBuilderF 102 5 B b bs w' ∧ Below B w w' ∧ Lib.OthersKept 5 (some b) w w'
/-- A builder's two cells. -/
theorem two_cells {w : World} {B b : Nat} {p : Value} {bs : List Value} (h : Lib.BuilderAtF 102 5 B b p bs w) :
    ∃ u, w.cell? ⟨b, 0, none⟩ = some p ∧ w.cell? ⟨b, 1, none⟩ = some u ∧ w.frozen? ⟨b, 0, none⟩ = false ∧ w.frozen? ⟨b, 1, none⟩ = false ∧ w.ownsRowF B 5 1 u bs.length bs := by
  obtain ⟨_, u, hb, hu, _⟩ := h
  exact ⟨u, by rw [Lib.cell_of_heap hb]; rfl, by rw [Lib.cell_of_heap hb]; rfl, Lib.frozen_of_heap hb 0, Lib.frozen_of_heap hb 1, hu⟩
theorem slice_form {w : World} {B : Nat} {v : Value} {n : Nat} {xs : List Value} (h : w.ownsRowF B 5 1 v n xs) : ∃ ao cap, v = .slice ao n cap := by
  rcases h.2 with ⟨rfl, rfl⟩ | ⟨g, cap, _, _, rfl, _⟩
  · exact ⟨none, 0, rfl⟩
  · exact ⟨_, cap, rfl⟩
/-- Bytes were put behind the builder's row, and the new row is stored: a builder with these bytes. -/
theorem stored {w w2 : World} {B b : Nat} {p u v' : Value} {bs bs' : List Value} (h : Lib.BuilderAtF 102 5 B b p bs w) (hu : w.cell? ⟨b, 1, none⟩ = some u) (hg : w.grownBy w2 u.ownBlock) (hown : w2.ownsRowF B 5 1 v' bs'.length bs') (hB : B ≤ w.heap.size) :
    w2.cell? ⟨b, 0, none⟩ = some p ∧ w2.cell? ⟨b, 1, none⟩ = some u ∧ w2.frozen? ⟨b, 1, none⟩ = false ∧ Lib.BuilderAtF 102 5 B b p bs' (w2.setCell ⟨b, 1, none⟩ v') ∧ Below B w (w2.setCell ⟨b, 1, none⟩ v') ∧ Lib.OthersKept 5 (some b) w (w2.setCell ⟨b, 1, none⟩ v') := by
  obtain ⟨hBb, x, hb, hx, hne⟩ := h
  obtain rfl : x = u := by
    rw [Lib.cell_of_heap hb] at hu
    exact Option.some.inj hu
  have hb2 : w2.heap[b]? = _ := (hg.block b (heap_lt hb) (fun e => hne e.symm)).trans hb
  refine ⟨by rw [Lib.cell_of_heap hb2]; rfl, by rw [Lib.cell_of_heap hb2]; rfl, Lib.frozen_of_heap hb2 1, Lib.BuilderAtF.put hBb hb2 hown (by decide), ?_, ?_⟩
  · exact ((Below.refl B w).grown hg hB (fun k hk => (hx.lt k hk).1)).setCell (p := ⟨b, 1, none⟩) hBb _
  · exact ((Lib.OthersKept.refl 5 (some b) w).grown hg (Lib.ownsRowF_kind hx)).setCell ⟨b, 1, none⟩ rfl _

set_option maxHeartbeats 2000000 in
set_option maxRecDepth 100000 in
theorem copyCheck_used (b : Nat) (w : World) (h0 : w.cell? ⟨b, 0, none⟩ = some (at0 b)) :
    Calls Tryz.prog 92 #[at0 b] w fun e w' => e = .returned (.tuple #[]) ∧ w' = w := by
  obtain ⟨j, hj, _⟩ := Option.map_eq_some_iff.1 info44
  go_enter Tryz.func92, Tryz.ntmps92
  go_wp2
  rw [Lib.run_neq_ptr_same w _ Tryz.underlying99 hj]
  go_wp2
  go_end0
  exact ⟨rfl, rfl⟩

set_option maxHeartbeats 2000000 in
set_option maxRecDepth 100000 in
theorem copyCheck_fresh (b : Nat) (w : World) (h0 : w.cell? ⟨b, 0, none⟩ = some (.pointer none)) (hsh : w.shape? b = some (102, 2)) (hfz : w.frozen? ⟨b, 0, none⟩ = false) :
    Calls Tryz.prog 92 #[at0 b] w fun e w' => e = .returned (.tuple #[]) ∧ w' = w.setCell ⟨b, 0, none⟩ (at0 b) := by
  obtain ⟨j, hj, hjs⟩ := Option.map_eq_some_iff.1 info44
  have hto := Lib.run_to_unsafe w ⟨b, 0, none⟩ Tryz.underlying99 Tryz.underlying176 hj (by rw [hjs]; decide) hsh (Nat.zero_lt_succ 1)
  have hno : (callFunc 132 #[at0 b]).run Tryz.prog w = .ok (.value (at0 b)) w := (run_callFunc_extern Tryz.func132 (by kernel_rfl) (by kernel_rfl) (by kernel_rfl) (e := Extern.AbiNoEscape.same) (by kernel_rfl) #[at0 b] w).trans rfl
  have hfrom := Lib.run_from_unsafe w ⟨b, 0, none⟩ Tryz.underlying176 Tryz.underlying99 hj hsh lies44
  go_enter Tryz.func92, Tryz.ntmps92
  go_wp2
  go_end0
  exact ⟨rfl, rfl⟩

theorem copyCheck_any (B b : Nat) (bs : List Value) (w : World) (h : Lib.IsBuilderF 102 5 B b bs w) :
    Calls Tryz.prog 92 #[at0 b] w fun e w' => e = .returned (.tuple #[]) ∧ Lib.BuilderAtF 102 5 B b (at0 b) bs w' ∧ Below B w w' ∧ Lib.OthersKept 5 (some b) w w' := by
  rcases h with h | h
  · refine (copyCheck_fresh b w h.cell0 h.shape h.frozen0).mono fun e w' ⟨he, hw⟩ => ?_
    subst hw
    exact ⟨he, h.used _, (Below.refl B w).setCell (p := ⟨b, 0, none⟩) h.1 _, (Lib.OthersKept.refl _ _ w).setCell ⟨b, 0, none⟩ rfl _⟩
  · refine (copyCheck_used b w h.cell0).mono fun e w' ⟨he, hw⟩ => ?_
    subst hw
    exact ⟨he, h, Below.refl B _, Lib.OthersKept.refl _ _ _⟩

set_option maxHeartbeats 2000000 in
set_option maxRecDepth 100000 in
theorem writeByte_any (B b : Nat) (bs : List Value) (c : Int) (w : World) (h : Lib.IsBuilderF 102 5 B b bs w) (hlen : bs.length + 1 ≤ 140737488355328) (hBw : B ≤ w.heap.size) :
    Calls Tryz.prog 51 #[at0 b, .int .u8 c] w fun e w' => e = .returned .nilIface ∧ Left B b (bs ++ [.int .u8 c]) w w' := by
  obtain ⟨i0, hi, hz0, hz1, hz2⟩ := info_parts info5
  go_enter Tryz.func51, Tryz.ntmps51
  go_wp2_with (go_at_call 92; refine (copyCheck_any B b bs _ h).mono ?_)
  rintro e w1 ⟨rfl, hA, b1, k1⟩
  obtain ⟨u, c0, c1, _, _, hu⟩ := two_cells hA
  have hs1 := b1.size
  go_wp2_with (at_builtin; refine wpList_append_ownF _ rfl _ _ 100 rfl B 5 i0 (.int .u8 0) 1 1 Tryz.underlying100 hi hz0 hz1 hz2 rfl (by decide) _ _ _ rfl (hu.alloc _) ⟨w1.heap.size, 0, none⟩ 1 1 [.int .u8 c] rfl rfl (one_new5 w1 _ _) (one_cell5 _) ?room ?bytes ?old ?_)
  case room => unfold maxLen; omega
  case bytes => omega
  case old => simp; omega
  intro v' w2 hown hg _
  obtain ⟨d0, d1, f1, R1, R2, R3⟩ := stored (v' := v') (bs' := bs ++ [.int .u8 c]) (hA.alloc _) ((World.cell?_of_block (Lib.alloc_old w1 _ b hA.lt)).trans c1) hg (by simpa using hown) (by simp; omega)
  obtain ⟨ao, cap, rfl⟩ := slice_form hown
  go_wp2
  go_ret
  exact ⟨rfl, .inr R1, b1.trans (((Below.refl B w1).alloc (by omega) _).trans R2), k1.trans (((Lib.OthersKept.refl _ _ w1).alloc _).trans R3)⟩

set_option maxHeartbeats 2000000 in
set_option maxRecDepth 100000 in
theorem writeString_any (B b : Nat) (bs : List Value) (s : ByteArray) (w : World) (h : Lib.IsBuilderF 102 5 B b bs w) (hlen : bs.length + s.size ≤ 140737488355328) (hBw : B ≤ w.heap.size) :
    Calls Tryz.prog 50 #[at0 b, .string s] w fun e w' => e = .returned (.tuple #[.int .i64 s.size, .nilIface]) ∧ Left B b (bs ++ Lib.strCells s) w w' := by
  obtain ⟨i0, hi, hz0, hz1, hz2⟩ := info_parts info5
  go_enter Tryz.func50, Tryz.ntmps50
  go_wp2_with (go_at_call 92; refine (copyCheck_any B b bs _ h).mono ?_)
  rintro e w1 ⟨rfl, hA, b1, k1⟩
  obtain ⟨u, c0, c1, _, _, hu⟩ := two_cells hA
  have hs1 := b1.size
  go_wp2_with (at_builtin; refine Lib.wpList_append_own_stringF _ rfl _ _ 100 9 rfl B 5 i0 Tryz.underlying100 Tryz.underlying9 hi hz0 hz1 hz2 _ _ _ rfl hu s rfl ?room ?bytes ?old ?_)
  case room => unfold maxLen; omega
  case bytes => omega
  case old => omega
  intro v' w2 hown hg _
  obtain ⟨d0, d1, f1, R1, R2, R3⟩ := stored (v' := v') (bs' := bs ++ Lib.strCells s) hA c1 hg (by simpa [Lib.strCells_length] using hown) (by omega)
  obtain ⟨ao, cap, rfl⟩ := slice_form hown
  go_wp2
  go_ret2
  exact ⟨rfl, .inr R1, b1.trans R2, k1.trans R3⟩

theorem sub_same (a b : Nat) : ((a : Int) + (b : Int) - (a : Int)) = (b : Int) := by omega

theorem builder_at {w : World} {B b : Nat} {bs : List Value} (h : Lib.IsBuilderF 102 5 B b bs w) : ∃ p, Lib.BuilderAtF 102 5 B b p bs w := h.elim (fun x => ⟨_, x⟩) (fun x => ⟨_, x⟩)

end Go.Proofs.YthlhopdlkkeohaaGreatDoor.U
