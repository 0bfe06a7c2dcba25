/- The walk of PathRow: one theorem for each way through it. -/
import Derived.Test.YtcmidcpogcejfaaAwake
import Derived.Test.YtcmidcpogcejfaaComps
namespace Go.Proofs.Ytcmidcpogcejfaa.U
open Go.RowKit

/-- Three lists of short parts, and how they stand. -/
structure Three (w : World) (va vb vc : Value) (xs ys zs : List (List UInt8)) (ab bc ac : Int) : Prop where
  a : strsAt w va xs
  b : strsAt w vb ys
  c : strsAt w vc zs
  sa : Pt.short xs = true
  sb : Pt.short ys = true
  sc : Pt.short zs = true
  ab : Pt.comp xs ys = ab
  bc : Pt.comp ys zs = bc
  ac : Pt.comp xs zs = ac
theorem short_len {xs : List (List UInt8)} (h : Pt.short xs = true) : xs.length ≤ 2000000 := by
  have := (Pt.short_iff h).1
  omega
theorem short_call {v : Value} {xs : List (List UInt8)} {w W : World} (h : strsAt w v xs) (hs : Pt.short xs = true) (hb : Below w.heap.size w W) :
    Calls Try.prog 8 #[v] W fun e w' => e = .returned (.bool true) ∧ Below W.heap.size W w' := by
  have f := Pt.short_iff hs
  have k := short_any v xs W (by have := f.1; omega) (fun x hx => by have := f.2 x hx; omega) (strsAt_below h hb (Nat.le_refl _))
  rw [hs] at k
  exact k
theorem comp_call {v u : Value} {xs ys : List (List UInt8)} {w W : World} {c : Int} (h : strsAt w v xs) (k : strsAt w u ys) (hx : Pt.short xs = true) (hy : Pt.short ys = true) (hc : Pt.comp xs ys = c) (hb : Below w.heap.size w W) :
    Calls Try.prog 12 #[v, u] W fun e w' => e = .returned (.int .i64 c) ∧ Below W.heap.size W w' := by
  have r := compare_any v u xs ys W (short_len hx) (short_len hy) (strsAt_below h hb (Nat.le_refl _)) (strsAt_below k hb (Nat.le_refl _))
  rw [hc] at r
  exact r
theorem under_call {v u : Value} {xs ys : List (List UInt8)} {w W : World} {c : Bool} (h : strsAt w v xs) (k : strsAt w u ys) (hx : Pt.short xs = true) (hy : Pt.short ys = true) (hc : Pt.under xs ys = c) (hb : Below w.heap.size w W) :
    Calls Try.prog 16 #[v, u] W fun e w' => e = .returned (.bool c) ∧ Below W.heap.size W w' := by
  have r := under_any v u xs ys W (short_len hx) (short_len hy) (strsAt_below h hb (Nat.le_refl _)) (strsAt_below k hb (Nat.le_refl _))
  rw [hc] at r
  exact r
theorem same_call {v u : Value} {xs ys : List (List UInt8)} {w W : World} {c : Int} (h : strsAt w v xs) (k : strsAt w u ys) (hx : Pt.short xs = true) (hc : Pt.comp xs ys = c) (hb : Below w.heap.size w W) :
    Calls Try.prog 14 #[v, u] W fun e w' => e = .returned (.bool (c == 0)) ∧ Below W.heap.size W w' := by
  have r := psame_any v u xs ys W (short_len hx) (strsAt_below h hb (Nat.le_refl _)) (strsAt_below k hb (Nat.le_refl _))
  rw [← Pt.comp_iff, hc] at r
  exact r

set_option maxRecDepth 20000 in
set_option maxHeartbeats 2000000 in
theorem row_n_tfx {w : World} {va vb vc : Value} {xs ys zs : List (List UInt8)} {ab bc ac : Int} (H : Three w va vb vc xs ys zs ab bc ac) (hp : ¬ ab ≤ 0) (h1 : Pt.under xs ys = true) (_h0 : ¬ ab < 0) (h2 : Pt.under zs xs = false) :
    Calls Try.prog 7 #[va, vb, vc] w fun e w' => e = .returned (.bool true) ∧ Below w.heap.size w w' := by
  have HT : Pt.comp ys xs = -ab := by rw [Pt.comp_turn, H.ab]
  have hw : IntKind.i64.wrap (-ab) = -ab := by
    have := Pt.comp_cases xs ys
    rw [H.ab] at this
    exact wrap_i64 (by omega) (by omega)
  have b0 := Below.refl w.heap.size w
  go_enter Try.func7, Try.ntmps7
  go_wp2_with fail
  refine (short_call H.a H.sa b0).mono ?_
  rintro e w1 ⟨rfl, d1⟩
  have b1 := bchain b0 d1
  go_wp2_with fail
  refine (short_call H.b H.sb b1).mono ?_
  rintro e w2 ⟨rfl, d2⟩
  have b2 := bchain b1 d2
  go_wp2_with fail
  refine (short_call H.c H.sc b2).mono ?_
  rintro e w3 ⟨rfl, d3⟩
  have b3 := bchain b2 d3
  go_wp2_with fail
  refine (comp_call H.a H.b H.sa H.sb H.ab b3).mono ?_
  rintro e w4 ⟨rfl, d4⟩
  have b4 := bchain b3 d4
  go_wp2_with fail
  refine (comp_call H.b H.c H.sb H.sc H.bc b4).mono ?_
  rintro e w5 ⟨rfl, d5⟩
  have b5 := bchain b4 d5
  go_wp2_with fail
  refine (comp_call H.a H.c H.sa H.sc H.ac b5).mono ?_
  rintro e w6 ⟨rfl, d6⟩
  have b6 := bchain b5 d6
  go_wp2_with fail
  refine (comp_call H.b H.a H.sb H.sa HT b6).mono ?_
  rintro e w7 ⟨rfl, d7⟩
  have b7 := bchain b6 d7
  go_wp2_with fail
  refine (under_call H.a H.b H.sa H.sb h1 b7).mono ?_
  rintro e w8 ⟨rfl, d8⟩
  have b8 := bchain b7 d8
  go_wp2_with fail
  refine (under_call H.c H.a H.sc H.sa h2 b8).mono ?_
  rintro e w9 ⟨rfl, d9⟩
  have b9 := bchain b8 d9
  go_wp2_with fail
  refine (same_call H.a H.b H.sa H.ab b9).mono ?_
  rintro e w10 ⟨rfl, d10⟩
  have b10 := bchain b9 d10
  go_wp2_with fail
  refine (awake_any _).mono ?_
  rintro e w11 ⟨rfl, d11⟩
  go_wp2
  go_ret
  exact ⟨rfl, bchain b10 d11⟩

set_option maxRecDepth 20000 in
set_option maxHeartbeats 2000000 in
theorem row_n_ttf {w : World} {va vb vc : Value} {xs ys zs : List (List UInt8)} {ab bc ac : Int} (H : Three w va vb vc xs ys zs ab bc ac) (hp : ¬ ab ≤ 0) (h1 : Pt.under xs ys = true) (_h0 : ¬ ab < 0) (h2 : Pt.under zs xs = true) (h3 : Pt.under zs ys = false) :
    Calls Try.prog 7 #[va, vb, vc] w fun e w' => e = .returned (.bool true) ∧ Below w.heap.size w w' := by
  have HT : Pt.comp ys xs = -ab := by rw [Pt.comp_turn, H.ab]
  have hw : IntKind.i64.wrap (-ab) = -ab := by
    have := Pt.comp_cases xs ys
    rw [H.ab] at this
    exact wrap_i64 (by omega) (by omega)
  have b0 := Below.refl w.heap.size w
  go_enter Try.func7, Try.ntmps7
  go_wp2_with fail
  refine (short_call H.a H.sa b0).mono ?_
  rintro e w1 ⟨rfl, d1⟩
  have b1 := bchain b0 d1
  go_wp2_with fail
  refine (short_call H.b H.sb b1).mono ?_
  rintro e w2 ⟨rfl, d2⟩
  have b2 := bchain b1 d2
  go_wp2_with fail
  refine (short_call H.c H.sc b2).mono ?_
  rintro e w3 ⟨rfl, d3⟩
  have b3 := bchain b2 d3
  go_wp2_with fail
  refine (comp_call H.a H.b H.sa H.sb H.ab b3).mono ?_
  rintro e w4 ⟨rfl, d4⟩
  have b4 := bchain b3 d4
  go_wp2_with fail
  refine (comp_call H.b H.c H.sb H.sc H.bc b4).mono ?_
  rintro e w5 ⟨rfl, d5⟩
  have b5 := bchain b4 d5
  go_wp2_with fail
  refine (comp_call H.a H.c H.sa H.sc H.ac b5).mono ?_
  rintro e w6 ⟨rfl, d6⟩
  have b6 := bchain b5 d6
  go_wp2_with fail
  refine (comp_call H.b H.a H.sb H.sa HT b6).mono ?_
  rintro e w7 ⟨rfl, d7⟩
  have b7 := bchain b6 d7
  go_wp2_with fail
  refine (under_call H.a H.b H.sa H.sb h1 b7).mono ?_
  rintro e w8 ⟨rfl, d8⟩
  have b8 := bchain b7 d8
  go_wp2_with fail
  refine (under_call H.c H.a H.sc H.sa h2 b8).mono ?_
  rintro e w9 ⟨rfl, d9⟩
  have b9 := bchain b8 d9
  go_wp2_with fail
  refine (under_call H.c H.b H.sc H.sb h3 b9).mono ?_
  rintro e w10 ⟨rfl, d10⟩
  have b10 := bchain b9 d10
  go_wp2_with fail
  refine (same_call H.a H.b H.sa H.ab b10).mono ?_
  rintro e w11 ⟨rfl, d11⟩
  have b11 := bchain b10 d11
  go_wp2_with fail
  refine (awake_any _).mono ?_
  rintro e w12 ⟨rfl, d12⟩
  go_wp2
  go_ret
  exact ⟨rfl, bchain b11 d12⟩

set_option maxRecDepth 20000 in
set_option maxHeartbeats 2000000 in
theorem row_n_ttt {w : World} {va vb vc : Value} {xs ys zs : List (List UInt8)} {ab bc ac : Int} (H : Three w va vb vc xs ys zs ab bc ac) (hp : ¬ ab ≤ 0) (h1 : Pt.under xs ys = true) (_h0 : ¬ ab < 0) (h2 : Pt.under zs xs = true) (h3 : Pt.under zs ys = true) :
    Calls Try.prog 7 #[va, vb, vc] w fun e w' => e = .returned (.bool true) ∧ Below w.heap.size w w' := by
  have HT : Pt.comp ys xs = -ab := by rw [Pt.comp_turn, H.ab]
  have hw : IntKind.i64.wrap (-ab) = -ab := by
    have := Pt.comp_cases xs ys
    rw [H.ab] at this
    exact wrap_i64 (by omega) (by omega)
  have b0 := Below.refl w.heap.size w
  go_enter Try.func7, Try.ntmps7
  go_wp2_with fail
  refine (short_call H.a H.sa b0).mono ?_
  rintro e w1 ⟨rfl, d1⟩
  have b1 := bchain b0 d1
  go_wp2_with fail
  refine (short_call H.b H.sb b1).mono ?_
  rintro e w2 ⟨rfl, d2⟩
  have b2 := bchain b1 d2
  go_wp2_with fail
  refine (short_call H.c H.sc b2).mono ?_
  rintro e w3 ⟨rfl, d3⟩
  have b3 := bchain b2 d3
  go_wp2_with fail
  refine (comp_call H.a H.b H.sa H.sb H.ab b3).mono ?_
  rintro e w4 ⟨rfl, d4⟩
  have b4 := bchain b3 d4
  go_wp2_with fail
  refine (comp_call H.b H.c H.sb H.sc H.bc b4).mono ?_
  rintro e w5 ⟨rfl, d5⟩
  have b5 := bchain b4 d5
  go_wp2_with fail
  refine (comp_call H.a H.c H.sa H.sc H.ac b5).mono ?_
  rintro e w6 ⟨rfl, d6⟩
  have b6 := bchain b5 d6
  go_wp2_with fail
  refine (comp_call H.b H.a H.sb H.sa HT b6).mono ?_
  rintro e w7 ⟨rfl, d7⟩
  have b7 := bchain b6 d7
  go_wp2_with fail
  refine (under_call H.a H.b H.sa H.sb h1 b7).mono ?_
  rintro e w8 ⟨rfl, d8⟩
  have b8 := bchain b7 d8
  go_wp2_with fail
  refine (under_call H.c H.a H.sc H.sa h2 b8).mono ?_
  rintro e w9 ⟨rfl, d9⟩
  have b9 := bchain b8 d9
  go_wp2_with fail
  refine (under_call H.c H.b H.sc H.sb h3 b9).mono ?_
  rintro e w10 ⟨rfl, d10⟩
  have b10 := bchain b9 d10
  go_wp2_with fail
  refine (under_call H.a H.b H.sa H.sb h1 b10).mono ?_
  rintro e w11 ⟨rfl, d11⟩
  have b11 := bchain b10 d11
  go_wp2_with fail
  refine (same_call H.a H.b H.sa H.ab b11).mono ?_
  rintro e w12 ⟨rfl, d12⟩
  have b12 := bchain b11 d12
  go_wp2_with fail
  refine (awake_any _).mono ?_
  rintro e w13 ⟨rfl, d13⟩
  go_wp2
  go_ret
  exact ⟨rfl, bchain b12 d13⟩

set_option maxRecDepth 20000 in
set_option maxHeartbeats 2000000 in
theorem row_n_ffx {w : World} {va vb vc : Value} {xs ys zs : List (List UInt8)} {ab bc ac : Int} (H : Three w va vb vc xs ys zs ab bc ac) (hp : ¬ ab ≤ 0) (h1 : Pt.under xs ys = false) (h2 : Pt.under zs xs = false) :
    Calls Try.prog 7 #[va, vb, vc] w fun e w' => e = .returned (.bool true) ∧ Below w.heap.size w w' := by
  have HT : Pt.comp ys xs = -ab := by rw [Pt.comp_turn, H.ab]
  have hw : IntKind.i64.wrap (-ab) = -ab := by
    have := Pt.comp_cases xs ys
    rw [H.ab] at this
    exact wrap_i64 (by omega) (by omega)
  have b0 := Below.refl w.heap.size w
  go_enter Try.func7, Try.ntmps7
  go_wp2_with fail
  refine (short_call H.a H.sa b0).mono ?_
  rintro e w1 ⟨rfl, d1⟩
  have b1 := bchain b0 d1
  go_wp2_with fail
  refine (short_call H.b H.sb b1).mono ?_
  rintro e w2 ⟨rfl, d2⟩
  have b2 := bchain b1 d2
  go_wp2_with fail
  refine (short_call H.c H.sc b2).mono ?_
  rintro e w3 ⟨rfl, d3⟩
  have b3 := bchain b2 d3
  go_wp2_with fail
  refine (comp_call H.a H.b H.sa H.sb H.ab b3).mono ?_
  rintro e w4 ⟨rfl, d4⟩
  have b4 := bchain b3 d4
  go_wp2_with fail
  refine (comp_call H.b H.c H.sb H.sc H.bc b4).mono ?_
  rintro e w5 ⟨rfl, d5⟩
  have b5 := bchain b4 d5
  go_wp2_with fail
  refine (comp_call H.a H.c H.sa H.sc H.ac b5).mono ?_
  rintro e w6 ⟨rfl, d6⟩
  have b6 := bchain b5 d6
  go_wp2_with fail
  refine (comp_call H.b H.a H.sb H.sa HT b6).mono ?_
  rintro e w7 ⟨rfl, d7⟩
  have b7 := bchain b6 d7
  go_wp2_with fail
  refine (under_call H.a H.b H.sa H.sb h1 b7).mono ?_
  rintro e w8 ⟨rfl, d8⟩
  have b8 := bchain b7 d8
  go_wp2_with fail
  refine (under_call H.c H.a H.sc H.sa h2 b8).mono ?_
  rintro e w9 ⟨rfl, d9⟩
  have b9 := bchain b8 d9
  go_wp2_with fail
  refine (same_call H.a H.b H.sa H.ab b9).mono ?_
  rintro e w10 ⟨rfl, d10⟩
  have b10 := bchain b9 d10
  go_wp2_with fail
  refine (awake_any _).mono ?_
  rintro e w11 ⟨rfl, d11⟩
  go_wp2
  go_ret
  exact ⟨rfl, bchain b10 d11⟩

set_option maxRecDepth 20000 in
set_option maxHeartbeats 2000000 in
theorem row_n_ftf {w : World} {va vb vc : Value} {xs ys zs : List (List UInt8)} {ab bc ac : Int} (H : Three w va vb vc xs ys zs ab bc ac) (hp : ¬ ab ≤ 0) (h1 : Pt.under xs ys = false) (h2 : Pt.under zs xs = true) (h3 : Pt.under zs ys = false) :
    Calls Try.prog 7 #[va, vb, vc] w fun e w' => e = .returned (.bool true) ∧ Below w.heap.size w w' := by
  have HT : Pt.comp ys xs = -ab := by rw [Pt.comp_turn, H.ab]
  have hw : IntKind.i64.wrap (-ab) = -ab := by
    have := Pt.comp_cases xs ys
    rw [H.ab] at this
    exact wrap_i64 (by omega) (by omega)
  have b0 := Below.refl w.heap.size w
  go_enter Try.func7, Try.ntmps7
  go_wp2_with fail
  refine (short_call H.a H.sa b0).mono ?_
  rintro e w1 ⟨rfl, d1⟩
  have b1 := bchain b0 d1
  go_wp2_with fail
  refine (short_call H.b H.sb b1).mono ?_
  rintro e w2 ⟨rfl, d2⟩
  have b2 := bchain b1 d2
  go_wp2_with fail
  refine (short_call H.c H.sc b2).mono ?_
  rintro e w3 ⟨rfl, d3⟩
  have b3 := bchain b2 d3
  go_wp2_with fail
  refine (comp_call H.a H.b H.sa H.sb H.ab b3).mono ?_
  rintro e w4 ⟨rfl, d4⟩
  have b4 := bchain b3 d4
  go_wp2_with fail
  refine (comp_call H.b H.c H.sb H.sc H.bc b4).mono ?_
  rintro e w5 ⟨rfl, d5⟩
  have b5 := bchain b4 d5
  go_wp2_with fail
  refine (comp_call H.a H.c H.sa H.sc H.ac b5).mono ?_
  rintro e w6 ⟨rfl, d6⟩
  have b6 := bchain b5 d6
  go_wp2_with fail
  refine (comp_call H.b H.a H.sb H.sa HT b6).mono ?_
  rintro e w7 ⟨rfl, d7⟩
  have b7 := bchain b6 d7
  go_wp2_with fail
  refine (under_call H.a H.b H.sa H.sb h1 b7).mono ?_
  rintro e w8 ⟨rfl, d8⟩
  have b8 := bchain b7 d8
  go_wp2_with fail
  refine (under_call H.c H.a H.sc H.sa h2 b8).mono ?_
  rintro e w9 ⟨rfl, d9⟩
  have b9 := bchain b8 d9
  go_wp2_with fail
  refine (under_call H.c H.b H.sc H.sb h3 b9).mono ?_
  rintro e w10 ⟨rfl, d10⟩
  have b10 := bchain b9 d10
  go_wp2_with fail
  refine (same_call H.a H.b H.sa H.ab b10).mono ?_
  rintro e w11 ⟨rfl, d11⟩
  have b11 := bchain b10 d11
  go_wp2_with fail
  refine (awake_any _).mono ?_
  rintro e w12 ⟨rfl, d12⟩
  go_wp2
  go_ret
  exact ⟨rfl, bchain b11 d12⟩

set_option maxRecDepth 20000 in
set_option maxHeartbeats 2000000 in
theorem row_n_ftt {w : World} {va vb vc : Value} {xs ys zs : List (List UInt8)} {ab bc ac : Int} (H : Three w va vb vc xs ys zs ab bc ac) (hp : ¬ ab ≤ 0) (h1 : Pt.under xs ys = false) (h2 : Pt.under zs xs = true) (h3 : Pt.under zs ys = true) (h4 : Pt.under ys xs = true) :
    Calls Try.prog 7 #[va, vb, vc] w fun e w' => e = .returned (.bool true) ∧ Below w.heap.size w w' := by
  have HT : Pt.comp ys xs = -ab := by rw [Pt.comp_turn, H.ab]
  have hw : IntKind.i64.wrap (-ab) = -ab := by
    have := Pt.comp_cases xs ys
    rw [H.ab] at this
    exact wrap_i64 (by omega) (by omega)
  have b0 := Below.refl w.heap.size w
  go_enter Try.func7, Try.ntmps7
  go_wp2_with fail
  refine (short_call H.a H.sa b0).mono ?_
  rintro e w1 ⟨rfl, d1⟩
  have b1 := bchain b0 d1
  go_wp2_with fail
  refine (short_call H.b H.sb b1).mono ?_
  rintro e w2 ⟨rfl, d2⟩
  have b2 := bchain b1 d2
  go_wp2_with fail
  refine (short_call H.c H.sc b2).mono ?_
  rintro e w3 ⟨rfl, d3⟩
  have b3 := bchain b2 d3
  go_wp2_with fail
  refine (comp_call H.a H.b H.sa H.sb H.ab b3).mono ?_
  rintro e w4 ⟨rfl, d4⟩
  have b4 := bchain b3 d4
  go_wp2_with fail
  refine (comp_call H.b H.c H.sb H.sc H.bc b4).mono ?_
  rintro e w5 ⟨rfl, d5⟩
  have b5 := bchain b4 d5
  go_wp2_with fail
  refine (comp_call H.a H.c H.sa H.sc H.ac b5).mono ?_
  rintro e w6 ⟨rfl, d6⟩
  have b6 := bchain b5 d6
  go_wp2_with fail
  refine (comp_call H.b H.a H.sb H.sa HT b6).mono ?_
  rintro e w7 ⟨rfl, d7⟩
  have b7 := bchain b6 d7
  go_wp2_with fail
  refine (under_call H.a H.b H.sa H.sb h1 b7).mono ?_
  rintro e w8 ⟨rfl, d8⟩
  have b8 := bchain b7 d8
  go_wp2_with fail
  refine (under_call H.c H.a H.sc H.sa h2 b8).mono ?_
  rintro e w9 ⟨rfl, d9⟩
  have b9 := bchain b8 d9
  go_wp2_with fail
  refine (under_call H.c H.b H.sc H.sb h3 b9).mono ?_
  rintro e w10 ⟨rfl, d10⟩
  have b10 := bchain b9 d10
  go_wp2_with fail
  refine (under_call H.a H.b H.sa H.sb h1 b10).mono ?_
  rintro e w11 ⟨rfl, d11⟩
  have b11 := bchain b10 d11
  go_wp2_with fail
  refine (under_call H.b H.a H.sb H.sa h4 b11).mono ?_
  rintro e w12 ⟨rfl, d12⟩
  have b12 := bchain b11 d12
  go_wp2_with fail
  refine (same_call H.a H.b H.sa H.ab b12).mono ?_
  rintro e w13 ⟨rfl, d13⟩
  have b13 := bchain b12 d13
  go_wp2_with fail
  refine (awake_any _).mono ?_
  rintro e w14 ⟨rfl, d14⟩
  go_wp2
  go_ret
  exact ⟨rfl, bchain b13 d14⟩

set_option maxRecDepth 20000 in
set_option maxHeartbeats 2000000 in
theorem row_q_tfx {w : World} {va vb vc : Value} {xs ys zs : List (List UInt8)} {ab bc ac : Int} (H : Three w va vb vc xs ys zs ab bc ac) (hp : ab ≤ 0) (hq : ¬ bc ≤ 0) (h1 : Pt.under xs ys = true) (h0 : ¬ ab < 0) (h2 : Pt.under zs xs = false) :
    Calls Try.prog 7 #[va, vb, vc] w fun e w' => e = .returned (.bool true) ∧ Below w.heap.size w w' := by
  have HT : Pt.comp ys xs = -ab := by rw [Pt.comp_turn, H.ab]
  have hw : IntKind.i64.wrap (-ab) = -ab := by
    have := Pt.comp_cases xs ys
    rw [H.ab] at this
    exact wrap_i64 (by omega) (by omega)
  have b0 := Below.refl w.heap.size w
  go_enter Try.func7, Try.ntmps7
  go_wp2_with fail
  refine (short_call H.a H.sa b0).mono ?_
  rintro e w1 ⟨rfl, d1⟩
  have b1 := bchain b0 d1
  go_wp2_with fail
  refine (short_call H.b H.sb b1).mono ?_
  rintro e w2 ⟨rfl, d2⟩
  have b2 := bchain b1 d2
  go_wp2_with fail
  refine (short_call H.c H.sc b2).mono ?_
  rintro e w3 ⟨rfl, d3⟩
  have b3 := bchain b2 d3
  go_wp2_with fail
  refine (comp_call H.a H.b H.sa H.sb H.ab b3).mono ?_
  rintro e w4 ⟨rfl, d4⟩
  have b4 := bchain b3 d4
  go_wp2_with fail
  refine (comp_call H.b H.c H.sb H.sc H.bc b4).mono ?_
  rintro e w5 ⟨rfl, d5⟩
  have b5 := bchain b4 d5
  go_wp2_with fail
  refine (comp_call H.a H.c H.sa H.sc H.ac b5).mono ?_
  rintro e w6 ⟨rfl, d6⟩
  have b6 := bchain b5 d6
  go_wp2_with fail
  refine (comp_call H.b H.a H.sb H.sa HT b6).mono ?_
  rintro e w7 ⟨rfl, d7⟩
  have b7 := bchain b6 d7
  go_wp2_with fail
  refine (under_call H.a H.b H.sa H.sb h1 b7).mono ?_
  rintro e w8 ⟨rfl, d8⟩
  have b8 := bchain b7 d8
  go_wp2_with fail
  refine (under_call H.c H.a H.sc H.sa h2 b8).mono ?_
  rintro e w9 ⟨rfl, d9⟩
  have b9 := bchain b8 d9
  go_wp2_with fail
  refine (same_call H.a H.b H.sa H.ab b9).mono ?_
  rintro e w10 ⟨rfl, d10⟩
  have b10 := bchain b9 d10
  go_wp2_with fail
  refine (awake_any _).mono ?_
  rintro e w11 ⟨rfl, d11⟩
  go_wp2
  go_ret
  exact ⟨rfl, bchain b10 d11⟩

set_option maxRecDepth 20000 in
set_option maxHeartbeats 2000000 in
theorem row_q_ttf {w : World} {va vb vc : Value} {xs ys zs : List (List UInt8)} {ab bc ac : Int} (H : Three w va vb vc xs ys zs ab bc ac) (hp : ab ≤ 0) (hq : ¬ bc ≤ 0) (h1 : Pt.under xs ys = true) (h0 : ¬ ab < 0) (h2 : Pt.under zs xs = true) (h3 : Pt.under zs ys = false) :
    Calls Try.prog 7 #[va, vb, vc] w fun e w' => e = .returned (.bool true) ∧ Below w.heap.size w w' := by
  have HT : Pt.comp ys xs = -ab := by rw [Pt.comp_turn, H.ab]
  have hw : IntKind.i64.wrap (-ab) = -ab := by
    have := Pt.comp_cases xs ys
    rw [H.ab] at this
    exact wrap_i64 (by omega) (by omega)
  have b0 := Below.refl w.heap.size w
  go_enter Try.func7, Try.ntmps7
  go_wp2_with fail
  refine (short_call H.a H.sa b0).mono ?_
  rintro e w1 ⟨rfl, d1⟩
  have b1 := bchain b0 d1
  go_wp2_with fail
  refine (short_call H.b H.sb b1).mono ?_
  rintro e w2 ⟨rfl, d2⟩
  have b2 := bchain b1 d2
  go_wp2_with fail
  refine (short_call H.c H.sc b2).mono ?_
  rintro e w3 ⟨rfl, d3⟩
  have b3 := bchain b2 d3
  go_wp2_with fail
  refine (comp_call H.a H.b H.sa H.sb H.ab b3).mono ?_
  rintro e w4 ⟨rfl, d4⟩
  have b4 := bchain b3 d4
  go_wp2_with fail
  refine (comp_call H.b H.c H.sb H.sc H.bc b4).mono ?_
  rintro e w5 ⟨rfl, d5⟩
  have b5 := bchain b4 d5
  go_wp2_with fail
  refine (comp_call H.a H.c H.sa H.sc H.ac b5).mono ?_
  rintro e w6 ⟨rfl, d6⟩
  have b6 := bchain b5 d6
  go_wp2_with fail
  refine (comp_call H.b H.a H.sb H.sa HT b6).mono ?_
  rintro e w7 ⟨rfl, d7⟩
  have b7 := bchain b6 d7
  go_wp2_with fail
  refine (under_call H.a H.b H.sa H.sb h1 b7).mono ?_
  rintro e w8 ⟨rfl, d8⟩
  have b8 := bchain b7 d8
  go_wp2_with fail
  refine (under_call H.c H.a H.sc H.sa h2 b8).mono ?_
  rintro e w9 ⟨rfl, d9⟩
  have b9 := bchain b8 d9
  go_wp2_with fail
  refine (under_call H.c H.b H.sc H.sb h3 b9).mono ?_
  rintro e w10 ⟨rfl, d10⟩
  have b10 := bchain b9 d10
  go_wp2_with fail
  refine (same_call H.a H.b H.sa H.ab b10).mono ?_
  rintro e w11 ⟨rfl, d11⟩
  have b11 := bchain b10 d11
  go_wp2_with fail
  refine (awake_any _).mono ?_
  rintro e w12 ⟨rfl, d12⟩
  go_wp2
  go_ret
  exact ⟨rfl, bchain b11 d12⟩

set_option maxRecDepth 20000 in
set_option maxHeartbeats 2000000 in
theorem row_q_ttt {w : World} {va vb vc : Value} {xs ys zs : List (List UInt8)} {ab bc ac : Int} (H : Three w va vb vc xs ys zs ab bc ac) (hp : ab ≤ 0) (hq : ¬ bc ≤ 0) (h1 : Pt.under xs ys = true) (h0 : ¬ ab < 0) (h2 : Pt.under zs xs = true) (h3 : Pt.under zs ys = true) :
    Calls Try.prog 7 #[va, vb, vc] w fun e w' => e = .returned (.bool true) ∧ Below w.heap.size w w' := by
  have HT : Pt.comp ys xs = -ab := by rw [Pt.comp_turn, H.ab]
  have hw : IntKind.i64.wrap (-ab) = -ab := by
    have := Pt.comp_cases xs ys
    rw [H.ab] at this
    exact wrap_i64 (by omega) (by omega)
  have b0 := Below.refl w.heap.size w
  go_enter Try.func7, Try.ntmps7
  go_wp2_with fail
  refine (short_call H.a H.sa b0).mono ?_
  rintro e w1 ⟨rfl, d1⟩
  have b1 := bchain b0 d1
  go_wp2_with fail
  refine (short_call H.b H.sb b1).mono ?_
  rintro e w2 ⟨rfl, d2⟩
  have b2 := bchain b1 d2
  go_wp2_with fail
  refine (short_call H.c H.sc b2).mono ?_
  rintro e w3 ⟨rfl, d3⟩
  have b3 := bchain b2 d3
  go_wp2_with fail
  refine (comp_call H.a H.b H.sa H.sb H.ab b3).mono ?_
  rintro e w4 ⟨rfl, d4⟩
  have b4 := bchain b3 d4
  go_wp2_with fail
  refine (comp_call H.b H.c H.sb H.sc H.bc b4).mono ?_
  rintro e w5 ⟨rfl, d5⟩
  have b5 := bchain b4 d5
  go_wp2_with fail
  refine (comp_call H.a H.c H.sa H.sc H.ac b5).mono ?_
  rintro e w6 ⟨rfl, d6⟩
  have b6 := bchain b5 d6
  go_wp2_with fail
  refine (comp_call H.b H.a H.sb H.sa HT b6).mono ?_
  rintro e w7 ⟨rfl, d7⟩
  have b7 := bchain b6 d7
  go_wp2_with fail
  refine (under_call H.a H.b H.sa H.sb h1 b7).mono ?_
  rintro e w8 ⟨rfl, d8⟩
  have b8 := bchain b7 d8
  go_wp2_with fail
  refine (under_call H.c H.a H.sc H.sa h2 b8).mono ?_
  rintro e w9 ⟨rfl, d9⟩
  have b9 := bchain b8 d9
  go_wp2_with fail
  refine (under_call H.c H.b H.sc H.sb h3 b9).mono ?_
  rintro e w10 ⟨rfl, d10⟩
  have b10 := bchain b9 d10
  go_wp2_with fail
  refine (under_call H.a H.b H.sa H.sb h1 b10).mono ?_
  rintro e w11 ⟨rfl, d11⟩
  have b11 := bchain b10 d11
  go_wp2_with fail
  refine (same_call H.a H.b H.sa H.ab b11).mono ?_
  rintro e w12 ⟨rfl, d12⟩
  have b12 := bchain b11 d12
  go_wp2_with fail
  refine (awake_any _).mono ?_
  rintro e w13 ⟨rfl, d13⟩
  go_wp2
  go_ret
  exact ⟨rfl, bchain b12 d13⟩

set_option maxRecDepth 20000 in
set_option maxHeartbeats 2000000 in
theorem row_q_ffx {w : World} {va vb vc : Value} {xs ys zs : List (List UInt8)} {ab bc ac : Int} (H : Three w va vb vc xs ys zs ab bc ac) (hp : ab ≤ 0) (hq : ¬ bc ≤ 0) (h1 : Pt.under xs ys = false) (h2 : Pt.under zs xs = false) :
    Calls Try.prog 7 #[va, vb, vc] w fun e w' => e = .returned (.bool true) ∧ Below w.heap.size w w' := by
  have HT : Pt.comp ys xs = -ab := by rw [Pt.comp_turn, H.ab]
  have hw : IntKind.i64.wrap (-ab) = -ab := by
    have := Pt.comp_cases xs ys
    rw [H.ab] at this
    exact wrap_i64 (by omega) (by omega)
  have b0 := Below.refl w.heap.size w
  go_enter Try.func7, Try.ntmps7
  go_wp2_with fail
  refine (short_call H.a H.sa b0).mono ?_
  rintro e w1 ⟨rfl, d1⟩
  have b1 := bchain b0 d1
  go_wp2_with fail
  refine (short_call H.b H.sb b1).mono ?_
  rintro e w2 ⟨rfl, d2⟩
  have b2 := bchain b1 d2
  go_wp2_with fail
  refine (short_call H.c H.sc b2).mono ?_
  rintro e w3 ⟨rfl, d3⟩
  have b3 := bchain b2 d3
  go_wp2_with fail
  refine (comp_call H.a H.b H.sa H.sb H.ab b3).mono ?_
  rintro e w4 ⟨rfl, d4⟩
  have b4 := bchain b3 d4
  go_wp2_with fail
  refine (comp_call H.b H.c H.sb H.sc H.bc b4).mono ?_
  rintro e w5 ⟨rfl, d5⟩
  have b5 := bchain b4 d5
  go_wp2_with fail
  refine (comp_call H.a H.c H.sa H.sc H.ac b5).mono ?_
  rintro e w6 ⟨rfl, d6⟩
  have b6 := bchain b5 d6
  go_wp2_with fail
  refine (comp_call H.b H.a H.sb H.sa HT b6).mono ?_
  rintro e w7 ⟨rfl, d7⟩
  have b7 := bchain b6 d7
  go_wp2_with fail
  refine (under_call H.a H.b H.sa H.sb h1 b7).mono ?_
  rintro e w8 ⟨rfl, d8⟩
  have b8 := bchain b7 d8
  go_wp2_with fail
  refine (under_call H.c H.a H.sc H.sa h2 b8).mono ?_
  rintro e w9 ⟨rfl, d9⟩
  have b9 := bchain b8 d9
  go_wp2_with fail
  refine (same_call H.a H.b H.sa H.ab b9).mono ?_
  rintro e w10 ⟨rfl, d10⟩
  have b10 := bchain b9 d10
  go_wp2_with fail
  refine (awake_any _).mono ?_
  rintro e w11 ⟨rfl, d11⟩
  go_wp2
  go_ret
  exact ⟨rfl, bchain b10 d11⟩

set_option maxRecDepth 20000 in
set_option maxHeartbeats 2000000 in
theorem row_q_ftf {w : World} {va vb vc : Value} {xs ys zs : List (List UInt8)} {ab bc ac : Int} (H : Three w va vb vc xs ys zs ab bc ac) (hp : ab ≤ 0) (hq : ¬ bc ≤ 0) (h1 : Pt.under xs ys = false) (h2 : Pt.under zs xs = true) (h3 : Pt.under zs ys = false) :
    Calls Try.prog 7 #[va, vb, vc] w fun e w' => e = .returned (.bool true) ∧ Below w.heap.size w w' := by
  have HT : Pt.comp ys xs = -ab := by rw [Pt.comp_turn, H.ab]
  have hw : IntKind.i64.wrap (-ab) = -ab := by
    have := Pt.comp_cases xs ys
    rw [H.ab] at this
    exact wrap_i64 (by omega) (by omega)
  have b0 := Below.refl w.heap.size w
  go_enter Try.func7, Try.ntmps7
  go_wp2_with fail
  refine (short_call H.a H.sa b0).mono ?_
  rintro e w1 ⟨rfl, d1⟩
  have b1 := bchain b0 d1
  go_wp2_with fail
  refine (short_call H.b H.sb b1).mono ?_
  rintro e w2 ⟨rfl, d2⟩
  have b2 := bchain b1 d2
  go_wp2_with fail
  refine (short_call H.c H.sc b2).mono ?_
  rintro e w3 ⟨rfl, d3⟩
  have b3 := bchain b2 d3
  go_wp2_with fail
  refine (comp_call H.a H.b H.sa H.sb H.ab b3).mono ?_
  rintro e w4 ⟨rfl, d4⟩
  have b4 := bchain b3 d4
  go_wp2_with fail
  refine (comp_call H.b H.c H.sb H.sc H.bc b4).mono ?_
  rintro e w5 ⟨rfl, d5⟩
  have b5 := bchain b4 d5
  go_wp2_with fail
  refine (comp_call H.a H.c H.sa H.sc H.ac b5).mono ?_
  rintro e w6 ⟨rfl, d6⟩
  have b6 := bchain b5 d6
  go_wp2_with fail
  refine (comp_call H.b H.a H.sb H.sa HT b6).mono ?_
  rintro e w7 ⟨rfl, d7⟩
  have b7 := bchain b6 d7
  go_wp2_with fail
  refine (under_call H.a H.b H.sa H.sb h1 b7).mono ?_
  rintro e w8 ⟨rfl, d8⟩
  have b8 := bchain b7 d8
  go_wp2_with fail
  refine (under_call H.c H.a H.sc H.sa h2 b8).mono ?_
  rintro e w9 ⟨rfl, d9⟩
  have b9 := bchain b8 d9
  go_wp2_with fail
  refine (under_call H.c H.b H.sc H.sb h3 b9).mono ?_
  rintro e w10 ⟨rfl, d10⟩
  have b10 := bchain b9 d10
  go_wp2_with fail
  refine (same_call H.a H.b H.sa H.ab b10).mono ?_
  rintro e w11 ⟨rfl, d11⟩
  have b11 := bchain b10 d11
  go_wp2_with fail
  refine (awake_any _).mono ?_
  rintro e w12 ⟨rfl, d12⟩
  go_wp2
  go_ret
  exact ⟨rfl, bchain b11 d12⟩

set_option maxRecDepth 20000 in
set_option maxHeartbeats 2000000 in
theorem row_q_ftt {w : World} {va vb vc : Value} {xs ys zs : List (List UInt8)} {ab bc ac : Int} (H : Three w va vb vc xs ys zs ab bc ac) (hp : ab ≤ 0) (hq : ¬ bc ≤ 0) (h1 : Pt.under xs ys = false) (h2 : Pt.under zs xs = true) (h3 : Pt.under zs ys = true) (h4 : Pt.under ys xs = true) :
    Calls Try.prog 7 #[va, vb, vc] w fun e w' => e = .returned (.bool true) ∧ Below w.heap.size w w' := by
  have HT : Pt.comp ys xs = -ab := by rw [Pt.comp_turn, H.ab]
  have hw : IntKind.i64.wrap (-ab) = -ab := by
    have := Pt.comp_cases xs ys
    rw [H.ab] at this
    exact wrap_i64 (by omega) (by omega)
  have b0 := Below.refl w.heap.size w
  go_enter Try.func7, Try.ntmps7
  go_wp2_with fail
  refine (short_call H.a H.sa b0).mono ?_
  rintro e w1 ⟨rfl, d1⟩
  have b1 := bchain b0 d1
  go_wp2_with fail
  refine (short_call H.b H.sb b1).mono ?_
  rintro e w2 ⟨rfl, d2⟩
  have b2 := bchain b1 d2
  go_wp2_with fail
  refine (short_call H.c H.sc b2).mono ?_
  rintro e w3 ⟨rfl, d3⟩
  have b3 := bchain b2 d3
  go_wp2_with fail
  refine (comp_call H.a H.b H.sa H.sb H.ab b3).mono ?_
  rintro e w4 ⟨rfl, d4⟩
  have b4 := bchain b3 d4
  go_wp2_with fail
  refine (comp_call H.b H.c H.sb H.sc H.bc b4).mono ?_
  rintro e w5 ⟨rfl, d5⟩
  have b5 := bchain b4 d5
  go_wp2_with fail
  refine (comp_call H.a H.c H.sa H.sc H.ac b5).mono ?_
  rintro e w6 ⟨rfl, d6⟩
  have b6 := bchain b5 d6
  go_wp2_with fail
  refine (comp_call H.b H.a H.sb H.sa HT b6).mono ?_
  rintro e w7 ⟨rfl, d7⟩
  have b7 := bchain b6 d7
  go_wp2_with fail
  refine (under_call H.a H.b H.sa H.sb h1 b7).mono ?_
  rintro e w8 ⟨rfl, d8⟩
  have b8 := bchain b7 d8
  go_wp2_with fail
  refine (under_call H.c H.a H.sc H.sa h2 b8).mono ?_
  rintro e w9 ⟨rfl, d9⟩
  have b9 := bchain b8 d9
  go_wp2_with fail
  refine (under_call H.c H.b H.sc H.sb h3 b9).mono ?_
  rintro e w10 ⟨rfl, d10⟩
  have b10 := bchain b9 d10
  go_wp2_with fail
  refine (under_call H.a H.b H.sa H.sb h1 b10).mono ?_
  rintro e w11 ⟨rfl, d11⟩
  have b11 := bchain b10 d11
  go_wp2_with fail
  refine (under_call H.b H.a H.sb H.sa h4 b11).mono ?_
  rintro e w12 ⟨rfl, d12⟩
  have b12 := bchain b11 d12
  go_wp2_with fail
  refine (same_call H.a H.b H.sa H.ab b12).mono ?_
  rintro e w13 ⟨rfl, d13⟩
  have b13 := bchain b12 d13
  go_wp2_with fail
  refine (awake_any _).mono ?_
  rintro e w14 ⟨rfl, d14⟩
  go_wp2
  go_ret
  exact ⟨rfl, bchain b13 d14⟩

set_option maxRecDepth 20000 in
set_option maxHeartbeats 2000000 in
theorem row_r_tfx {w : World} {va vb vc : Value} {xs ys zs : List (List UInt8)} {ab bc ac : Int} (H : Three w va vb vc xs ys zs ab bc ac) (hp : ab ≤ 0) (hq : bc ≤ 0) (hr : ac ≤ 0) (h1 : Pt.under xs ys = true) (h0 : ¬ ab < 0) (h2 : Pt.under zs xs = false) :
    Calls Try.prog 7 #[va, vb, vc] w fun e w' => e = .returned (.bool true) ∧ Below w.heap.size w w' := by
  have HT : Pt.comp ys xs = -ab := by rw [Pt.comp_turn, H.ab]
  have hw : IntKind.i64.wrap (-ab) = -ab := by
    have := Pt.comp_cases xs ys
    rw [H.ab] at this
    exact wrap_i64 (by omega) (by omega)
  have b0 := Below.refl w.heap.size w
  go_enter Try.func7, Try.ntmps7
  go_wp2_with fail
  refine (short_call H.a H.sa b0).mono ?_
  rintro e w1 ⟨rfl, d1⟩
  have b1 := bchain b0 d1
  go_wp2_with fail
  refine (short_call H.b H.sb b1).mono ?_
  rintro e w2 ⟨rfl, d2⟩
  have b2 := bchain b1 d2
  go_wp2_with fail
  refine (short_call H.c H.sc b2).mono ?_
  rintro e w3 ⟨rfl, d3⟩
  have b3 := bchain b2 d3
  go_wp2_with fail
  refine (comp_call H.a H.b H.sa H.sb H.ab b3).mono ?_
  rintro e w4 ⟨rfl, d4⟩
  have b4 := bchain b3 d4
  go_wp2_with fail
  refine (comp_call H.b H.c H.sb H.sc H.bc b4).mono ?_
  rintro e w5 ⟨rfl, d5⟩
  have b5 := bchain b4 d5
  go_wp2_with fail
  refine (comp_call H.a H.c H.sa H.sc H.ac b5).mono ?_
  rintro e w6 ⟨rfl, d6⟩
  have b6 := bchain b5 d6
  go_wp2_with fail
  refine (comp_call H.b H.a H.sb H.sa HT b6).mono ?_
  rintro e w7 ⟨rfl, d7⟩
  have b7 := bchain b6 d7
  go_wp2_with fail
  refine (under_call H.a H.b H.sa H.sb h1 b7).mono ?_
  rintro e w8 ⟨rfl, d8⟩
  have b8 := bchain b7 d8
  go_wp2_with fail
  refine (under_call H.c H.a H.sc H.sa h2 b8).mono ?_
  rintro e w9 ⟨rfl, d9⟩
  have b9 := bchain b8 d9
  go_wp2_with fail
  refine (same_call H.a H.b H.sa H.ab b9).mono ?_
  rintro e w10 ⟨rfl, d10⟩
  have b10 := bchain b9 d10
  go_wp2_with fail
  refine (awake_any _).mono ?_
  rintro e w11 ⟨rfl, d11⟩
  go_wp2
  go_ret
  exact ⟨rfl, bchain b10 d11⟩

set_option maxRecDepth 20000 in
set_option maxHeartbeats 2000000 in
theorem row_r_ttf {w : World} {va vb vc : Value} {xs ys zs : List (List UInt8)} {ab bc ac : Int} (H : Three w va vb vc xs ys zs ab bc ac) (hp : ab ≤ 0) (hq : bc ≤ 0) (hr : ac ≤ 0) (h1 : Pt.under xs ys = true) (h0 : ¬ ab < 0) (h2 : Pt.under zs xs = true) (h3 : Pt.under zs ys = false) :
    Calls Try.prog 7 #[va, vb, vc] w fun e w' => e = .returned (.bool true) ∧ Below w.heap.size w w' := by
  have HT : Pt.comp ys xs = -ab := by rw [Pt.comp_turn, H.ab]
  have hw : IntKind.i64.wrap (-ab) = -ab := by
    have := Pt.comp_cases xs ys
    rw [H.ab] at this
    exact wrap_i64 (by omega) (by omega)
  have b0 := Below.refl w.heap.size w
  go_enter Try.func7, Try.ntmps7
  go_wp2_with fail
  refine (short_call H.a H.sa b0).mono ?_
  rintro e w1 ⟨rfl, d1⟩
  have b1 := bchain b0 d1
  go_wp2_with fail
  refine (short_call H.b H.sb b1).mono ?_
  rintro e w2 ⟨rfl, d2⟩
  have b2 := bchain b1 d2
  go_wp2_with fail
  refine (short_call H.c H.sc b2).mono ?_
  rintro e w3 ⟨rfl, d3⟩
  have b3 := bchain b2 d3
  go_wp2_with fail
  refine (comp_call H.a H.b H.sa H.sb H.ab b3).mono ?_
  rintro e w4 ⟨rfl, d4⟩
  have b4 := bchain b3 d4
  go_wp2_with fail
  refine (comp_call H.b H.c H.sb H.sc H.bc b4).mono ?_
  rintro e w5 ⟨rfl, d5⟩
  have b5 := bchain b4 d5
  go_wp2_with fail
  refine (comp_call H.a H.c H.sa H.sc H.ac b5).mono ?_
  rintro e w6 ⟨rfl, d6⟩
  have b6 := bchain b5 d6
  go_wp2_with fail
  refine (comp_call H.b H.a H.sb H.sa HT b6).mono ?_
  rintro e w7 ⟨rfl, d7⟩
  have b7 := bchain b6 d7
  go_wp2_with fail
  refine (under_call H.a H.b H.sa H.sb h1 b7).mono ?_
  rintro e w8 ⟨rfl, d8⟩
  have b8 := bchain b7 d8
  go_wp2_with fail
  refine (under_call H.c H.a H.sc H.sa h2 b8).mono ?_
  rintro e w9 ⟨rfl, d9⟩
  have b9 := bchain b8 d9
  go_wp2_with fail
  refine (under_call H.c H.b H.sc H.sb h3 b9).mono ?_
  rintro e w10 ⟨rfl, d10⟩
  have b10 := bchain b9 d10
  go_wp2_with fail
  refine (same_call H.a H.b H.sa H.ab b10).mono ?_
  rintro e w11 ⟨rfl, d11⟩
  have b11 := bchain b10 d11
  go_wp2_with fail
  refine (awake_any _).mono ?_
  rintro e w12 ⟨rfl, d12⟩
  go_wp2
  go_ret
  exact ⟨rfl, bchain b11 d12⟩

set_option maxRecDepth 20000 in
set_option maxHeartbeats 2000000 in
theorem row_r_ttt {w : World} {va vb vc : Value} {xs ys zs : List (List UInt8)} {ab bc ac : Int} (H : Three w va vb vc xs ys zs ab bc ac) (hp : ab ≤ 0) (hq : bc ≤ 0) (hr : ac ≤ 0) (h1 : Pt.under xs ys = true) (h0 : ¬ ab < 0) (h2 : Pt.under zs xs = true) (h3 : Pt.under zs ys = true) :
    Calls Try.prog 7 #[va, vb, vc] w fun e w' => e = .returned (.bool true) ∧ Below w.heap.size w w' := by
  have HT : Pt.comp ys xs = -ab := by rw [Pt.comp_turn, H.ab]
  have hw : IntKind.i64.wrap (-ab) = -ab := by
    have := Pt.comp_cases xs ys
    rw [H.ab] at this
    exact wrap_i64 (by omega) (by omega)
  have b0 := Below.refl w.heap.size w
  go_enter Try.func7, Try.ntmps7
  go_wp2_with fail
  refine (short_call H.a H.sa b0).mono ?_
  rintro e w1 ⟨rfl, d1⟩
  have b1 := bchain b0 d1
  go_wp2_with fail
  refine (short_call H.b H.sb b1).mono ?_
  rintro e w2 ⟨rfl, d2⟩
  have b2 := bchain b1 d2
  go_wp2_with fail
  refine (short_call H.c H.sc b2).mono ?_
  rintro e w3 ⟨rfl, d3⟩
  have b3 := bchain b2 d3
  go_wp2_with fail
  refine (comp_call H.a H.b H.sa H.sb H.ab b3).mono ?_
  rintro e w4 ⟨rfl, d4⟩
  have b4 := bchain b3 d4
  go_wp2_with fail
  refine (comp_call H.b H.c H.sb H.sc H.bc b4).mono ?_
  rintro e w5 ⟨rfl, d5⟩
  have b5 := bchain b4 d5
  go_wp2_with fail
  refine (comp_call H.a H.c H.sa H.sc H.ac b5).mono ?_
  rintro e w6 ⟨rfl, d6⟩
  have b6 := bchain b5 d6
  go_wp2_with fail
  refine (comp_call H.b H.a H.sb H.sa HT b6).mono ?_
  rintro e w7 ⟨rfl, d7⟩
  have b7 := bchain b6 d7
  go_wp2_with fail
  refine (under_call H.a H.b H.sa H.sb h1 b7).mono ?_
  rintro e w8 ⟨rfl, d8⟩
  have b8 := bchain b7 d8
  go_wp2_with fail
  refine (under_call H.c H.a H.sc H.sa h2 b8).mono ?_
  rintro e w9 ⟨rfl, d9⟩
  have b9 := bchain b8 d9
  go_wp2_with fail
  refine (under_call H.c H.b H.sc H.sb h3 b9).mono ?_
  rintro e w10 ⟨rfl, d10⟩
  have b10 := bchain b9 d10
  go_wp2_with fail
  refine (under_call H.a H.b H.sa H.sb h1 b10).mono ?_
  rintro e w11 ⟨rfl, d11⟩
  have b11 := bchain b10 d11
  go_wp2_with fail
  refine (same_call H.a H.b H.sa H.ab b11).mono ?_
  rintro e w12 ⟨rfl, d12⟩
  have b12 := bchain b11 d12
  go_wp2_with fail
  refine (awake_any _).mono ?_
  rintro e w13 ⟨rfl, d13⟩
  go_wp2
  go_ret
  exact ⟨rfl, bchain b12 d13⟩

set_option maxRecDepth 20000 in
set_option maxHeartbeats 2000000 in
theorem row_r_ffx {w : World} {va vb vc : Value} {xs ys zs : List (List UInt8)} {ab bc ac : Int} (H : Three w va vb vc xs ys zs ab bc ac) (hp : ab ≤ 0) (hq : bc ≤ 0) (hr : ac ≤ 0) (h1 : Pt.under xs ys = false) (h2 : Pt.under zs xs = false) :
    Calls Try.prog 7 #[va, vb, vc] w fun e w' => e = .returned (.bool true) ∧ Below w.heap.size w w' := by
  have HT : Pt.comp ys xs = -ab := by rw [Pt.comp_turn, H.ab]
  have hw : IntKind.i64.wrap (-ab) = -ab := by
    have := Pt.comp_cases xs ys
    rw [H.ab] at this
    exact wrap_i64 (by omega) (by omega)
  have b0 := Below.refl w.heap.size w
  go_enter Try.func7, Try.ntmps7
  go_wp2_with fail
  refine (short_call H.a H.sa b0).mono ?_
  rintro e w1 ⟨rfl, d1⟩
  have b1 := bchain b0 d1
  go_wp2_with fail
  refine (short_call H.b H.sb b1).mono ?_
  rintro e w2 ⟨rfl, d2⟩
  have b2 := bchain b1 d2
  go_wp2_with fail
  refine (short_call H.c H.sc b2).mono ?_
  rintro e w3 ⟨rfl, d3⟩
  have b3 := bchain b2 d3
  go_wp2_with fail
  refine (comp_call H.a H.b H.sa H.sb H.ab b3).mono ?_
  rintro e w4 ⟨rfl, d4⟩
  have b4 := bchain b3 d4
  go_wp2_with fail
  refine (comp_call H.b H.c H.sb H.sc H.bc b4).mono ?_
  rintro e w5 ⟨rfl, d5⟩
  have b5 := bchain b4 d5
  go_wp2_with fail
  refine (comp_call H.a H.c H.sa H.sc H.ac b5).mono ?_
  rintro e w6 ⟨rfl, d6⟩
  have b6 := bchain b5 d6
  go_wp2_with fail
  refine (comp_call H.b H.a H.sb H.sa HT b6).mono ?_
  rintro e w7 ⟨rfl, d7⟩
  have b7 := bchain b6 d7
  go_wp2_with fail
  refine (under_call H.a H.b H.sa H.sb h1 b7).mono ?_
  rintro e w8 ⟨rfl, d8⟩
  have b8 := bchain b7 d8
  go_wp2_with fail
  refine (under_call H.c H.a H.sc H.sa h2 b8).mono ?_
  rintro e w9 ⟨rfl, d9⟩
  have b9 := bchain b8 d9
  go_wp2_with fail
  refine (same_call H.a H.b H.sa H.ab b9).mono ?_
  rintro e w10 ⟨rfl, d10⟩
  have b10 := bchain b9 d10
  go_wp2_with fail
  refine (awake_any _).mono ?_
  rintro e w11 ⟨rfl, d11⟩
  go_wp2
  go_ret
  exact ⟨rfl, bchain b10 d11⟩

set_option maxRecDepth 20000 in
set_option maxHeartbeats 2000000 in
theorem row_r_ftf {w : World} {va vb vc : Value} {xs ys zs : List (List UInt8)} {ab bc ac : Int} (H : Three w va vb vc xs ys zs ab bc ac) (hp : ab ≤ 0) (hq : bc ≤ 0) (hr : ac ≤ 0) (h1 : Pt.under xs ys = false) (h2 : Pt.under zs xs = true) (h3 : Pt.under zs ys = false) :
    Calls Try.prog 7 #[va, vb, vc] w fun e w' => e = .returned (.bool true) ∧ Below w.heap.size w w' := by
  have HT : Pt.comp ys xs = -ab := by rw [Pt.comp_turn, H.ab]
  have hw : IntKind.i64.wrap (-ab) = -ab := by
    have := Pt.comp_cases xs ys
    rw [H.ab] at this
    exact wrap_i64 (by omega) (by omega)
  have b0 := Below.refl w.heap.size w
  go_enter Try.func7, Try.ntmps7
  go_wp2_with fail
  refine (short_call H.a H.sa b0).mono ?_
  rintro e w1 ⟨rfl, d1⟩
  have b1 := bchain b0 d1
  go_wp2_with fail
  refine (short_call H.b H.sb b1).mono ?_
  rintro e w2 ⟨rfl, d2⟩
  have b2 := bchain b1 d2
  go_wp2_with fail
  refine (short_call H.c H.sc b2).mono ?_
  rintro e w3 ⟨rfl, d3⟩
  have b3 := bchain b2 d3
  go_wp2_with fail
  refine (comp_call H.a H.b H.sa H.sb H.ab b3).mono ?_
  rintro e w4 ⟨rfl, d4⟩
  have b4 := bchain b3 d4
  go_wp2_with fail
  refine (comp_call H.b H.c H.sb H.sc H.bc b4).mono ?_
  rintro e w5 ⟨rfl, d5⟩
  have b5 := bchain b4 d5
  go_wp2_with fail
  refine (comp_call H.a H.c H.sa H.sc H.ac b5).mono ?_
  rintro e w6 ⟨rfl, d6⟩
  have b6 := bchain b5 d6
  go_wp2_with fail
  refine (comp_call H.b H.a H.sb H.sa HT b6).mono ?_
  rintro e w7 ⟨rfl, d7⟩
  have b7 := bchain b6 d7
  go_wp2_with fail
  refine (under_call H.a H.b H.sa H.sb h1 b7).mono ?_
  rintro e w8 ⟨rfl, d8⟩
  have b8 := bchain b7 d8
  go_wp2_with fail
  refine (under_call H.c H.a H.sc H.sa h2 b8).mono ?_
  rintro e w9 ⟨rfl, d9⟩
  have b9 := bchain b8 d9
  go_wp2_with fail
  refine (under_call H.c H.b H.sc H.sb h3 b9).mono ?_
  rintro e w10 ⟨rfl, d10⟩
  have b10 := bchain b9 d10
  go_wp2_with fail
  refine (same_call H.a H.b H.sa H.ab b10).mono ?_
  rintro e w11 ⟨rfl, d11⟩
  have b11 := bchain b10 d11
  go_wp2_with fail
  refine (awake_any _).mono ?_
  rintro e w12 ⟨rfl, d12⟩
  go_wp2
  go_ret
  exact ⟨rfl, bchain b11 d12⟩

set_option maxRecDepth 20000 in
set_option maxHeartbeats 2000000 in
theorem row_r_ftt {w : World} {va vb vc : Value} {xs ys zs : List (List UInt8)} {ab bc ac : Int} (H : Three w va vb vc xs ys zs ab bc ac) (hp : ab ≤ 0) (hq : bc ≤ 0) (hr : ac ≤ 0) (h1 : Pt.under xs ys = false) (h2 : Pt.under zs xs = true) (h3 : Pt.under zs ys = true) (h4 : Pt.under ys xs = true) :
    Calls Try.prog 7 #[va, vb, vc] w fun e w' => e = .returned (.bool true) ∧ Below w.heap.size w w' := by
  have HT : Pt.comp ys xs = -ab := by rw [Pt.comp_turn, H.ab]
  have hw : IntKind.i64.wrap (-ab) = -ab := by
    have := Pt.comp_cases xs ys
    rw [H.ab] at this
    exact wrap_i64 (by omega) (by omega)
  have b0 := Below.refl w.heap.size w
  go_enter Try.func7, Try.ntmps7
  go_wp2_with fail
  refine (short_call H.a H.sa b0).mono ?_
  rintro e w1 ⟨rfl, d1⟩
  have b1 := bchain b0 d1
  go_wp2_with fail
  refine (short_call H.b H.sb b1).mono ?_
  rintro e w2 ⟨rfl, d2⟩
  have b2 := bchain b1 d2
  go_wp2_with fail
  refine (short_call H.c H.sc b2).mono ?_
  rintro e w3 ⟨rfl, d3⟩
  have b3 := bchain b2 d3
  go_wp2_with fail
  refine (comp_call H.a H.b H.sa H.sb H.ab b3).mono ?_
  rintro e w4 ⟨rfl, d4⟩
  have b4 := bchain b3 d4
  go_wp2_with fail
  refine (comp_call H.b H.c H.sb H.sc H.bc b4).mono ?_
  rintro e w5 ⟨rfl, d5⟩
  have b5 := bchain b4 d5
  go_wp2_with fail
  refine (comp_call H.a H.c H.sa H.sc H.ac b5).mono ?_
  rintro e w6 ⟨rfl, d6⟩
  have b6 := bchain b5 d6
  go_wp2_with fail
  refine (comp_call H.b H.a H.sb H.sa HT b6).mono ?_
  rintro e w7 ⟨rfl, d7⟩
  have b7 := bchain b6 d7
  go_wp2_with fail
  refine (under_call H.a H.b H.sa H.sb h1 b7).mono ?_
  rintro e w8 ⟨rfl, d8⟩
  have b8 := bchain b7 d8
  go_wp2_with fail
  refine (under_call H.c H.a H.sc H.sa h2 b8).mono ?_
  rintro e w9 ⟨rfl, d9⟩
  have b9 := bchain b8 d9
  go_wp2_with fail
  refine (under_call H.c H.b H.sc H.sb h3 b9).mono ?_
  rintro e w10 ⟨rfl, d10⟩
  have b10 := bchain b9 d10
  go_wp2_with fail
  refine (under_call H.a H.b H.sa H.sb h1 b10).mono ?_
  rintro e w11 ⟨rfl, d11⟩
  have b11 := bchain b10 d11
  go_wp2_with fail
  refine (under_call H.b H.a H.sb H.sa h4 b11).mono ?_
  rintro e w12 ⟨rfl, d12⟩
  have b12 := bchain b11 d12
  go_wp2_with fail
  refine (same_call H.a H.b H.sa H.ab b12).mono ?_
  rintro e w13 ⟨rfl, d13⟩
  have b13 := bchain b12 d13
  go_wp2_with fail
  refine (awake_any _).mono ?_
  rintro e w14 ⟨rfl, d14⟩
  go_wp2
  go_ret
  exact ⟨rfl, bchain b13 d14⟩

set_option maxRecDepth 20000 in
theorem row_all {w : World} {va vb vc : Value} {xs ys zs : List (List UInt8)} {ab bc ac : Int} (H : Three w va vb vc xs ys zs ab bc ac) :
    Calls Try.prog 7 #[va, vb, vc] w fun e w' => e = .returned (.bool true) ∧ Below w.heap.size w w' := by
  have hr : ab ≤ 0 → bc ≤ 0 → ac ≤ 0 := fun h1 h2 => by
    rw [← H.ac]
    exact Pt.comp_trans xs ys zs (by rw [H.ab]; exact h1) (by rw [H.bc]; exact h2)
  have h0 : Pt.under xs ys = true → ¬ ab < 0 := fun h => by
    have := Pt.under_behind h
    rw [H.ab] at this
    omega
  have h4 : Pt.under zs xs = true → Pt.under zs ys = true → Pt.under xs ys = false → Pt.under ys xs = true := fun x y z => by
    rcases Pt.under_both x y with k | k
    · rw [k] at z; cases z
    · exact k
  by_cases hp : ab ≤ 0
  · by_cases hq : bc ≤ 0
    · have hr := hr hp hq
      cases h1 : Pt.under xs ys with
      | true =>
        cases h2 : Pt.under zs xs with
        | false => exact row_r_tfx H hp hq hr h1 (h0 h1) h2
        | true =>
          cases h3 : Pt.under zs ys with
          | false => exact row_r_ttf H hp hq hr h1 (h0 h1) h2 h3
          | true => exact row_r_ttt H hp hq hr h1 (h0 h1) h2 h3
      | false =>
        cases h2 : Pt.under zs xs with
        | false => exact row_r_ffx H hp hq hr h1 h2
        | true =>
          cases h3 : Pt.under zs ys with
          | false => exact row_r_ftf H hp hq hr h1 h2 h3
          | true => exact row_r_ftt H hp hq hr h1 h2 h3 (h4 h2 h3 h1)
    · cases h1 : Pt.under xs ys with
      | true =>
        cases h2 : Pt.under zs xs with
        | false => exact row_q_tfx H hp hq h1 (h0 h1) h2
        | true =>
          cases h3 : Pt.under zs ys with
          | false => exact row_q_ttf H hp hq h1 (h0 h1) h2 h3
          | true => exact row_q_ttt H hp hq h1 (h0 h1) h2 h3
      | false =>
        cases h2 : Pt.under zs xs with
        | false => exact row_q_ffx H hp hq h1 h2
        | true =>
          cases h3 : Pt.under zs ys with
          | false => exact row_q_ftf H hp hq h1 h2 h3
          | true => exact row_q_ftt H hp hq h1 h2 h3 (h4 h2 h3 h1)
  · cases h1 : Pt.under xs ys with
    | true =>
      cases h2 : Pt.under zs xs with
      | false => exact row_n_tfx H hp h1 (h0 h1) h2
      | true =>
        cases h3 : Pt.under zs ys with
        | false => exact row_n_ttf H hp h1 (h0 h1) h2 h3
        | true => exact row_n_ttt H hp h1 (h0 h1) h2 h3
    | false =>
      cases h2 : Pt.under zs xs with
      | false => exact row_n_ffx H hp h1 h2
      | true =>
        cases h3 : Pt.under zs ys with
        | false => exact row_n_ftf H hp h1 h2 h3
        | true => exact row_n_ftt H hp h1 h2 h3 (h4 h2 h3 h1)

set_option maxRecDepth 20000 in
set_option maxHeartbeats 2000000 in
theorem pathRow_walk (va vb vc : Value) (xs ys zs : List (List UInt8)) (w : World) (hx : xs.length ≤ maxLen) (hy : ys.length ≤ maxLen) (hz : zs.length ≤ maxLen) (qx : ∀ x ∈ xs, x.length ≤ maxLen) (qy : ∀ x ∈ ys, x.length ≤ maxLen) (qz : ∀ x ∈ zs, x.length ≤ maxLen) (ha : strsAt w va xs) (hb : strsAt w vb ys) (hc : strsAt w vc zs) :
    Calls Try.prog 7 #[va, vb, vc] w fun e w' => e = .returned (.bool true) ∧ Below w.heap.size w w' := by
  have eM : maxLen = 9223372036854775807 := rfl
  rw [eM] at hx hy hz qx qy qz
  have S1 := short_any va xs w hx qx ha
  have S2 := fun w1 (b1 : Below w.heap.size w w1) => short_any vb ys w1 hy qy (strsAt_below hb b1 (Nat.le_refl _))
  have S3 := fun w1 (b1 : Below w.heap.size w w1) => short_any vc zs w1 hz qz (strsAt_below hc b1 (Nat.le_refl _))
  cases s1 : Pt.short xs with
  | false =>
    rw [s1] at S1
    clear qx qy qz s1 S2 S3
    go_enter Try.func7, Try.ntmps7
    go_wp2_with fail
    refine S1.mono ?_
    rintro e w1 ⟨rfl, b1⟩
    go_wp2_with fail
    refine (awake_any _).mono ?_
    rintro e w2 ⟨rfl, b2⟩
    go_wp2
    go_ret
    exact ⟨rfl, bchain b1 b2⟩
  | true =>
    cases s2 : Pt.short ys with
    | false =>
      rw [s1] at S1
      rw [s2] at S2
      clear qx qy qz s1 s2 S3
      go_enter Try.func7, Try.ntmps7
      go_wp2_with fail
      refine S1.mono ?_
      rintro e w1 ⟨rfl, b1⟩
      go_wp2_with fail
      refine (S2 w1 b1).mono ?_
      rintro e w2 ⟨rfl, b2⟩
      go_wp2_with fail
      refine (awake_any _).mono ?_
      rintro e w3 ⟨rfl, b3⟩
      go_wp2
      go_ret
      exact ⟨rfl, bchain (bchain b1 b2) b3⟩
    | true =>
      cases s3 : Pt.short zs with
      | false =>
        rw [s1] at S1
        rw [s2] at S2
        rw [s3] at S3
        clear qx qy qz s1 s2 s3
        go_enter Try.func7, Try.ntmps7
        go_wp2_with fail
        refine S1.mono ?_
        rintro e w1 ⟨rfl, b1⟩
        go_wp2_with fail
        refine (S2 w1 b1).mono ?_
        rintro e w2 ⟨rfl, b2⟩
        go_wp2_with fail
        refine (S3 w2 (bchain b1 b2)).mono ?_
        rintro e w3 ⟨rfl, b3⟩
        go_wp2_with fail
        refine (awake_any _).mono ?_
        rintro e w4 ⟨rfl, b4⟩
        go_wp2
        go_ret
        exact ⟨rfl, bchain (bchain (bchain b1 b2) b3) b4⟩
      | true => exact row_all ⟨ha, hb, hc, s1, s2, s3, rfl, rfl, rfl⟩

end Go.Proofs.Ytcmidcpogcejfaa.U

