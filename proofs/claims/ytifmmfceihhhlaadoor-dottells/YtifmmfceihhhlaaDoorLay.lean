/- The calls of the library that the program makes and that lie proved over any program: Compare, Itoa, Atoi, IndexByte: laid at this program. -/
import Derived.Shelf.Strconv.Itoa3
import Derived.Shelf.Strconv.ErrVarAll
import Derived.Shelf.Strings.Search1
import Derived.Shelf.Small.Wraps
import Derived.Lib.AppendIntMem
import Derived.Lib.AtoiErrMem
import Derived.Lib.AtoiAllCases
import Derived.Test.YtifmmfceihhhlaaDoorChecked
import Derived.Test.YtifmmfceihhhlaaDoorDots
import Derived.WalkKit
namespace Go.Proofs.YtifmmfceihhhlaaDoor
open Go.Shelf Go.RowKit

/-- Which number the library's functions, types and variables have here. -/
def ren : Ren := ⟨fun | 122 => 33 | 129 => 67 | 171 => 28 | 172 => 36 | 205 => 65 | 215 => 41 | 217 => 59 | 243 => 40 | 244 => 43 | 245 => 44 | 246 => 47 | 247 => 49 | 266 => 71 | 279 => 50 | 280 => 51 | 281 => 52 | 282 => 53 | 283 => 55 | 284 => 56 | 285 => 57 | 286 => 58 | 287 => 63 | 316 => 64 | 317 => 66 | 318 => 68 | 319 => 69 | 320 => 70 | 321 => 73 | 322 => 74 | 337 => 75 | 338 => 76 | n => n, fun | 0 => 0 | 2 => 2 | 3 => 3 | 4 => 4 | 5 => 5 | 9 => 9 | 20 => 20 | 21 => 21 | 37 => 60 | 46 => 61 | 51 => 93 | 53 => 78 | 75 => 54 | 76 => 55 | 80 => 106 | 85 => 71 | 127 => 99 | 143 => 100 | 145 => 102 | 167 => 70 | 168 => 73 | 171 => 77 | 173 => 81 | 175 => 85 | 210 => 89 | 212 => 92 | 213 => 94 | 232 => 104 | 233 => 105 | n => n, fun | 15 => 1 | 16 => 2 | 17 => 3 | 18 => 4 | 19 => 5 | n => n⟩
theorem lay122 : Lays.n122 Tryd.prog ren := {
  mixed := by kernel_rfl
  f122 := Tryd.func33.trans (congrArg some (by kernel_rfl))
  f215 := Tryd.func41.trans (congrArg some (by kernel_rfl))
  t3 := Tryd.underlying3, a3 := Tryd.isAgg3, z3 := Tryd.sizeOf3, v3 := Tryd.zeroValue3
  t4 := Tryd.underlying4, a4 := Tryd.isAgg4, z4 := Tryd.sizeOf4, v4 := Tryd.zeroValue4 }
theorem lay171 : LaysM.n171 Tryd.prog ren := {
  mixed := by kernel_rfl
  f129 := Tryd.func67.trans (congrArg some (by kernel_rfl))
  f171 := Tryd.func28.trans (congrArg some (by kernel_rfl))
  f243 := Tryd.func40.trans (congrArg some (by kernel_rfl))
  f246 := Tryd.func47.trans (congrArg some (by kernel_rfl))
  f283 := Tryd.func55.trans (congrArg some (by kernel_rfl))
  f284 := Tryd.func56.trans (congrArg some (by kernel_rfl))
  f285 := Tryd.func57.trans (congrArg some (by kernel_rfl))
  f286 := Tryd.func58.trans (congrArg some (by kernel_rfl))
  f317 := Tryd.func66.trans (congrArg some (by kernel_rfl))
  f318 := Tryd.func68.trans (congrArg some (by kernel_rfl))
  f319 := Tryd.func69.trans (congrArg some (by kernel_rfl))
  f320 := Tryd.func70.trans (congrArg some (by kernel_rfl))
  f337 := Tryd.func75.trans (congrArg some (by kernel_rfl))
  f338 := Tryd.func76.trans (congrArg some (by kernel_rfl))
  t0 := Tryd.underlying0, a0 := Tryd.isAgg0, z0 := Tryd.sizeOf0, v0 := Tryd.zeroValue0
  t2 := Tryd.underlying2, a2 := Tryd.isAgg2, z2 := Tryd.sizeOf2, v2 := Tryd.zeroValue2
  t3 := Tryd.underlying3, a3 := Tryd.isAgg3, z3 := Tryd.sizeOf3, v3 := Tryd.zeroValue3
  t4 := Tryd.underlying4, a4 := Tryd.isAgg4, z4 := Tryd.sizeOf4, v4 := Tryd.zeroValue4
  t5 := Tryd.underlying5, a5 := Tryd.isAgg5, z5 := Tryd.sizeOf5, v5 := Tryd.zeroValue5
  t9 := Tryd.underlying9, a9 := Tryd.isAgg9, z9 := Tryd.sizeOf9, v9 := Tryd.zeroValue9
  t20 := Tryd.underlying20, a20 := Tryd.isAgg20, z20 := Tryd.sizeOf20, v20 := Tryd.zeroValue20
  t37 := Tryd.underlying60, a37 := Tryd.isAgg60, z37 := Tryd.sizeOf60, v37 := Tryd.zeroValue60
  t46 := Tryd.underlying61, a46 := Tryd.isAgg61, z46 := Tryd.sizeOf61, v46 := Tryd.zeroValue61
  t51 := Tryd.underlying93, a51 := Tryd.isAgg93, z51 := Tryd.sizeOf93, v51 := Tryd.zeroValue93
  t53 := Tryd.underlying78, a53 := Tryd.isAgg78, z53 := Tryd.sizeOf78, v53 := Tryd.zeroValue78
  t171 := Tryd.underlying77, a171 := Tryd.isAgg77, z171 := Tryd.sizeOf77, v171 := Tryd.zeroValue77
  t173 := Tryd.underlying81, a173 := Tryd.isAgg81, z173 := Tryd.sizeOf81, v173 := Tryd.zeroValue81
  t212 := Tryd.underlying92, a212 := Tryd.isAgg92, z212 := Tryd.sizeOf92, v212 := Tryd.zeroValue92
  t213 := Tryd.underlying94, a213 := Tryd.isAgg94, z213 := Tryd.sizeOf94
  t232 := Tryd.underlying104, a232 := Tryd.isAgg104, z232 := Tryd.sizeOf104, v232 := Tryd.zeroValue104
  t233 := Tryd.underlying105, a233 := Tryd.isAgg105, z233 := Tryd.sizeOf105, v233 := Tryd.zeroValue105
  g17 := by kernel_rfl
  g18 := by kernel_rfl
  g19 := by kernel_rfl
  i0 := by kernel_rfl
  i2 := by kernel_rfl
  i3 := by kernel_rfl
  i4 := by kernel_rfl
  i5 := by kernel_rfl
  i9 := by kernel_rfl
  i20 := by kernel_rfl
  i37 := by kernel_rfl
  i46 := by kernel_rfl
  i51 := by kernel_rfl
  i53 := by kernel_rfl
  i171 := by kernel_rfl
  i173 := by kernel_rfl
  i212 := by kernel_rfl
  i232 := by kernel_rfl
  i233 := by kernel_rfl
  m17 := by kernel_rfl
  m18 := by kernel_rfl
  m19 := by kernel_rfl }
theorem lay172 : LaysC.n172 Tryd.prog ren := {
  mixed := by kernel_rfl
  f129 := Tryd.func67.trans (congrArg some (by kernel_rfl))
  f171 := Tryd.func28.trans (congrArg some (by kernel_rfl))
  f172 := Tryd.func36.trans (congrArg some (by kernel_rfl))
  f205 := Tryd.func65.trans (congrArg some (by kernel_rfl))
  f243 := Tryd.func40.trans (congrArg some (by kernel_rfl))
  f244 := Tryd.func43.trans (congrArg some (by kernel_rfl))
  f245 := Tryd.func44.trans (congrArg some (by kernel_rfl))
  f246 := Tryd.func47.trans (congrArg some (by kernel_rfl))
  f247 := Tryd.func49.trans (congrArg some (by kernel_rfl))
  f279 := Tryd.func50.trans (congrArg some (by kernel_rfl))
  f280 := Tryd.func51.trans (congrArg some (by kernel_rfl))
  f281 := Tryd.func52.trans (congrArg some (by kernel_rfl))
  f282 := Tryd.func53.trans (congrArg some (by kernel_rfl))
  f283 := Tryd.func55.trans (congrArg some (by kernel_rfl))
  f284 := Tryd.func56.trans (congrArg some (by kernel_rfl))
  f285 := Tryd.func57.trans (congrArg some (by kernel_rfl))
  f286 := Tryd.func58.trans (congrArg some (by kernel_rfl))
  f287 := Tryd.func63.trans (congrArg some (by kernel_rfl))
  f316 := Tryd.func64.trans (congrArg some (by kernel_rfl))
  f317 := Tryd.func66.trans (congrArg some (by kernel_rfl))
  f318 := Tryd.func68.trans (congrArg some (by kernel_rfl))
  f319 := Tryd.func69.trans (congrArg some (by kernel_rfl))
  f320 := Tryd.func70.trans (congrArg some (by kernel_rfl))
  f321 := Tryd.func73.trans (congrArg some (by kernel_rfl))
  f322 := Tryd.func74.trans (congrArg some (by kernel_rfl))
  f337 := Tryd.func75.trans (congrArg some (by kernel_rfl))
  f338 := Tryd.func76.trans (congrArg some (by kernel_rfl))
  t0 := Tryd.underlying0, a0 := Tryd.isAgg0, z0 := Tryd.sizeOf0, v0 := Tryd.zeroValue0
  t2 := Tryd.underlying2, a2 := Tryd.isAgg2, z2 := Tryd.sizeOf2, v2 := Tryd.zeroValue2
  t3 := Tryd.underlying3, a3 := Tryd.isAgg3, z3 := Tryd.sizeOf3, v3 := Tryd.zeroValue3
  t4 := Tryd.underlying4, a4 := Tryd.isAgg4, z4 := Tryd.sizeOf4, v4 := Tryd.zeroValue4
  t5 := Tryd.underlying5, a5 := Tryd.isAgg5, z5 := Tryd.sizeOf5, v5 := Tryd.zeroValue5
  t9 := Tryd.underlying9, a9 := Tryd.isAgg9, z9 := Tryd.sizeOf9, v9 := Tryd.zeroValue9
  t20 := Tryd.underlying20, a20 := Tryd.isAgg20, z20 := Tryd.sizeOf20, v20 := Tryd.zeroValue20
  t21 := Tryd.underlying21, a21 := Tryd.isAgg21, z21 := Tryd.sizeOf21, v21 := Tryd.zeroValue21
  t37 := Tryd.underlying60, a37 := Tryd.isAgg60, z37 := Tryd.sizeOf60, v37 := Tryd.zeroValue60
  t46 := Tryd.underlying61, a46 := Tryd.isAgg61, z46 := Tryd.sizeOf61, v46 := Tryd.zeroValue61
  t51 := Tryd.underlying93, a51 := Tryd.isAgg93, z51 := Tryd.sizeOf93, v51 := Tryd.zeroValue93
  t53 := Tryd.underlying78, a53 := Tryd.isAgg78, z53 := Tryd.sizeOf78, v53 := Tryd.zeroValue78
  t75 := Tryd.underlying54, a75 := Tryd.isAgg54, z75 := Tryd.sizeOf54, v75 := Tryd.zeroValue54
  t76 := Tryd.underlying55, a76 := Tryd.isAgg55, z76 := Tryd.sizeOf55, v76 := Tryd.zeroValue55
  t85 := Tryd.underlying71, a85 := Tryd.isAgg71, z85 := Tryd.sizeOf71, v85 := Tryd.zeroValue71
  t127 := Tryd.underlying99, a127 := Tryd.isAgg99, z127 := Tryd.sizeOf99, v127 := Tryd.zeroValue99
  t143 := Tryd.underlying100, a143 := Tryd.isAgg100, z143 := Tryd.sizeOf100, v143 := Tryd.zeroValue100
  t145 := Tryd.underlying102, a145 := Tryd.isAgg102, z145 := Tryd.sizeOf102, v145 := Tryd.zeroValue102
  t167 := Tryd.underlying70, a167 := Tryd.isAgg70, z167 := Tryd.sizeOf70, v167 := Tryd.zeroValue70
  t168 := Tryd.underlying73, a168 := Tryd.isAgg73, z168 := Tryd.sizeOf73, v168 := Tryd.zeroValue73
  t171 := Tryd.underlying77, a171 := Tryd.isAgg77, z171 := Tryd.sizeOf77, v171 := Tryd.zeroValue77
  t173 := Tryd.underlying81, a173 := Tryd.isAgg81, z173 := Tryd.sizeOf81, v173 := Tryd.zeroValue81
  t175 := Tryd.underlying85, a175 := Tryd.isAgg85, z175 := Tryd.sizeOf85, v175 := Tryd.zeroValue85
  t210 := Tryd.underlying89, a210 := Tryd.isAgg89, z210 := Tryd.sizeOf89, v210 := Tryd.zeroValue89
  t212 := Tryd.underlying92, a212 := Tryd.isAgg92, z212 := Tryd.sizeOf92, v212 := Tryd.zeroValue92
  t213 := Tryd.underlying94, a213 := Tryd.isAgg94, z213 := Tryd.sizeOf94
  t232 := Tryd.underlying104, a232 := Tryd.isAgg104, z232 := Tryd.sizeOf104, v232 := Tryd.zeroValue104
  t233 := Tryd.underlying105, a233 := Tryd.isAgg105, z233 := Tryd.sizeOf105, v233 := Tryd.zeroValue105
  g15 := by kernel_rfl
  g16 := by kernel_rfl
  g17 := by kernel_rfl
  g18 := by kernel_rfl
  g19 := by kernel_rfl
  t80 := Tryd.underlying106, a80 := Tryd.isAgg106, z80 := Tryd.sizeOf106, v80 := Tryd.zeroValue106
  i0 := by kernel_rfl
  i2 := by kernel_rfl
  i3 := by kernel_rfl
  i4 := by kernel_rfl
  i5 := by kernel_rfl
  i9 := by kernel_rfl
  i20 := by kernel_rfl
  i21 := by kernel_rfl
  i37 := by kernel_rfl
  i46 := by kernel_rfl
  i51 := by kernel_rfl
  i53 := by kernel_rfl
  i75 := by kernel_rfl
  i76 := by kernel_rfl
  i80 := by kernel_rfl
  i85 := by kernel_rfl
  i127 := by kernel_rfl
  i143 := by kernel_rfl
  i145 := by kernel_rfl
  i167 := by kernel_rfl
  i168 := by kernel_rfl
  i171 := by kernel_rfl
  i173 := by kernel_rfl
  i175 := by kernel_rfl
  i210 := by kernel_rfl
  i212 := by kernel_rfl
  i232 := by kernel_rfl
  i233 := by kernel_rfl
  m15 := by kernel_rfl
  m16 := by kernel_rfl
  m17 := by kernel_rfl
  m18 := by kernel_rfl
  m19 := by kernel_rfl
  c0 := by kernel_rfl
  c2 := by kernel_rfl
  c3 := by kernel_rfl
  c4 := by kernel_rfl
  c5 := by kernel_rfl
  c9 := by kernel_rfl
  c20 := by kernel_rfl
  c21 := by kernel_rfl
  c37 := by kernel_rfl
  c46 := by kernel_rfl
  c51 := by kernel_rfl
  c53 := by kernel_rfl
  c75 := by kernel_rfl
  c76 := by kernel_rfl
  c80 := by kernel_rfl
  c85 := by kernel_rfl
  c127 := by kernel_rfl
  c143 := by kernel_rfl
  c145 := by kernel_rfl
  c167 := by kernel_rfl
  c168 := by kernel_rfl
  c171 := by kernel_rfl
  c173 := by kernel_rfl
  c175 := by kernel_rfl
  c210 := by kernel_rfl
  c212 := by kernel_rfl
  c213 := by kernel_rfl
  c232 := by kernel_rfl
  c233 := by kernel_rfl }
theorem lay217 : Lays.n217 Tryd.prog ren := {
  mixed := by kernel_rfl
  f217 := Tryd.func59.trans (congrArg some (by kernel_rfl))
  f266 := Tryd.func71.trans (congrArg some (by kernel_rfl))
  t3 := Tryd.underlying3, a3 := Tryd.isAgg3, z3 := Tryd.sizeOf3, v3 := Tryd.zeroValue3
  t5 := Tryd.underlying5, a5 := Tryd.isAgg5, z5 := Tryd.sizeOf5, v5 := Tryd.zeroValue5
  t9 := Tryd.underlying9, a9 := Tryd.isAgg9, z9 := Tryd.sizeOf9, v9 := Tryd.zeroValue9 }

/-- What the listed variables hold: the table of tens, and two errors. -/
structure Keeps (w : World) : Prop where
  tab : Lib.TabIs Tryd.prog w "internal/strconv.uint64pow10" .u64 Lib.pow10Tab
  syn : ∃ tp p, w.var? Tryd.prog "strconv.ErrSyntax" = some #[.iface tp p]
  rng : ∃ tp p, w.var? Tryd.prog "strconv.ErrRange" = some #[.iface tp p]
theorem var_on {P : Program} {w w' : World} {n : String} {cs : Array Value} (h : w.var? P n = some cs) (hb : Below w.heap.size w w') : w'.var? P n = some cs := by
  unfold World.var? at *
  cases hg : P.globalNamed n with
  | none => simp [hg] at h
  | some g =>
    simp only [hg, Option.bind_some] at h ⊢
    have hlt : g < w.heap.size := by
      rcases Nat.lt_or_ge g w.heap.size with h' | h'
      · exact h'
      · rw [Array.getElem?_eq_none h'] at h; simp at h
    rw [hb.block g hlt]
    exact h
theorem Keeps.on {w w' : World} (h : Keeps w) (hb : Below w.heap.size w w') : Keeps w' := by
  obtain ⟨h1, ⟨a, b, h2⟩, ⟨c, d, h3⟩⟩ := h
  exact ⟨Lib.tabBelow_of_tabIs h1 w' hb, ⟨a, b, var_on h2 hb⟩, ⟨c, d, var_on h3 hb⟩⟩

theorem itoa_any (n : Int) (w : World) (hk : Keeps w) (h0 : -9223372036854775808 ≤ n) (h1 : n ≤ 9223372036854775807) :
    Calls Tryd.prog 28 #[.int .i64 n] w fun e w' => e = .returned (.string ⟨(Lib.itoa n).toArray⟩) ∧ Below w.heap.size w w' := by
  refine (Any.strconv_Itoa lay171 n h0 h1 w hk.tab).mono ?_
  rintro e w' ⟨rfl, k, os, rfl⟩
  exact ⟨rfl, Lib.below_grow _ w (Nat.le_refl _) k os⟩
theorem cmp_any (x y : Int) (w : World) : Calls Tryd.prog 33 #[.int .i64 x, .int .i64 y] w fun e w' => e = .returned (.int .i64 (Lib.compareInt x y)) ∧ w' = w := Any.cmp_Compare_int lay122 x y w
theorem indexByte_any (s : ByteArray) (c : Int) (w : World) : Calls Tryd.prog 59 #[.string s, .int .u8 c] w fun e w' => e = .returned (.int .i64 (Lib.indexByte s.data.toList c.toNat.toUInt8)) ∧ w' = w := Any.stringslite_IndexByte lay217 s c w

/-- What is parsed of any text is a number; of a number's digits it is the number. -/
theorem atoi_any (s : ByteArray) (w : World) (hk : Keeps w) (hs : s.size ≤ 281474976710656) :
    Calls Tryd.prog 36 #[.string s] w fun e w' => ∃ v x, e = .returned (.tuple #[.int .i64 v, x]) ∧ (-9223372036854775808 ≤ v ∧ v ≤ 9223372036854775807) ∧ (∀ u : Nat, u < 9223372036854775808 → s.data.toList = Lib.decDigits u → v = u) ∧ Below w.heap.size w w' := by
  obtain ⟨_, ⟨a, b, h2⟩, ⟨c, d, h3⟩⟩ := hk
  have hd : ∀ u : Nat, u < 9223372036854775808 → s.data.toList = Lib.decDigits u → Lib.atoiAll s.data.toList = .ok (u : Int) := fun u hu e => by rw [e]; exact Dt.atoi_dec u hu
  cases h : Lib.atoiAll s.data.toList with
  | ok v =>
    refine (Any.strconv_Atoi_ok lay172 s (by omega) v h w).mono ?_
    rintro e w' ⟨rfl, hw⟩
    refine ⟨v, _, rfl, Lib.atoiAll_bounds h, fun u hu e => ?_, ?_⟩
    · have := (hd u hu e).symm.trans h
      injection this with this; exact this.symm
    · rcases hw with rfl | ⟨t, rfl⟩
      · exact Below.refl _ _
      · exact Lib.bytesWorld_below w _ t
  | «syntax» =>
    refine (Any.strconv_Atoi_syntax_var lay172 s hs h a b w h2).mono ?_
    rintro e w' ⟨N, rfl, _, _, hb⟩
    exact ⟨0, _, rfl, by omega, fun u hu e => absurd ((hd u hu e).symm.trans h) (by simp), hb⟩
  | range =>
    refine (Any.strconv_Atoi_range_var lay172 s hs h c d w h3).mono ?_
    rintro e w' ⟨N, rfl, _, _, hb⟩
    exact ⟨_, _, rfl, by unfold Lib.atoiSat; split <;> omega, fun u hu e => absurd ((hd u hu e).symm.trans h) (by simp), hb⟩

end Go.Proofs.YtifmmfceihhhlaaDoor
