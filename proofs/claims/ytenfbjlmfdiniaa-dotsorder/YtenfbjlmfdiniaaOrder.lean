/- The walk of DotsOrder. -/
import Derived.Test.YtenfbjlmfdiniaaRefOf
import Derived.Test.YtenfbjlmfdiniaaRefRight
namespace Go.Proofs.Ytenfbjlmfdiniaa
open Go.RowKit Go.Shelf

/-- What holds while the law's last statement is walked. -/
structure OS (w : World) (sb db : Nat) (ls : List Int) (sl : Value) (ms : List D) (v : Value) (ds : List D) (tv : Value) (ts : List D) (d : D) (W : World) : Prop where
  set : SetAt W sb ls sl
  row : dotsIn W sl ms
  inn : dotsIn W v ds
  trn : dotsIn W tv ts
  dot : DotAt W db d
  below : Below w.heap.size w W
theorem OS.on {w : World} {sb db : Nat} {ls : List Int} {sl : Value} {ms : List D} {v : Value} {ds : List D} {tv : Value} {ts : List D} {d : D} {W W' : World} (h : OS w sb db ls sl ms v ds tv ts d W) (hb : Below W.heap.size W W') : OS w sb db ls sl ms v ds tv ts d W' :=
  ⟨h.set.on hb, h.row.on hb, h.inn.on hb, h.trn.on hb, h.dot.on hb, bchain h.below hb⟩

theorem settled_turn (ds : List D) : settled noughts ds.reverse = settled noughts ds := by
  refine St.Is.eq (settled_is ds.reverse noughts_length noughts_right).1 (settled_is ds noughts_length noughts_right).1 fun d => ?_
  simp
/-- Of the last ones: is the dot there, and right? -/
def there (ds : List D) (d : D) (j : Nat) : Bool := decide (d ∈ ds.drop j) && rightD d
theorem there_all (ds : List D) (d : D) : St.has (settled noughts ds).1 (settled noughts ds).2 d = there ds d 0 := by
  have h := (settled_is ds noughts_length noughts_right).1
  unfold there
  rw [Bool.eq_iff_iff, St.has_iff h.1 d, h.2 d, List.drop_zero, Bool.and_eq_true, decide_eq_true_iff]
  constructor
  · rintro (⟨e1, e2 | e2⟩ | e)
    · have := St.right_at e1
      have hz : St.at' noughts d = 0 := by
        simp only [St.at', noughts, List.getD, List.getElem?_replicate]
        split <;> rfl
      rw [hz] at e2
      omega
    · cases e2
    · exact e
  · exact Or.inr
theorem there_end (ds : List D) (d : D) : there ds d ds.length = false := by simp [there]
theorem there_step (ds : List D) (d : D) (j : Nat) (h : j < ds.length) : there ds d j = (there ds d (j + 1) || (decide (ds[j] = d) && rightD d)) := by
  unfold there
  rw [List.drop_eq_getElem_cons h]
  cases rightD d
  · simp
  · simp only [Bool.and_true, List.mem_cons]
    by_cases e : ds[j] = d
    · subst e; simp
    · simp [e, Ne.symm e]
theorem turn_step (ds : List D) (j : Nat) (h : j < ds.length) : (ds.drop j).reverse = (ds.drop (j + 1)).reverse ++ [ds[j]] := by
  rw [List.drop_eq_getElem_cons h, List.reverse_cons]

set_option maxRecDepth 20000 in
set_option maxHeartbeats 1000000 in
theorem dotsOrder_walk (v : Value) (ds : List D) (d : D) (w : World) (hv : dotsIn w v ds) :
    Calls Try.prog 5 #[v, dV d] w fun e w' => e = .returned (.bool true) ∧ Below w.heap.size w w' := by
  obtain ⟨W0, hW0⟩ : ∃ W0, W0 = w.alloc (.cells #[.int .i64 d.1, .int .i64 d.2] 28) := ⟨_, rfl⟩
  have hB0 : Below w.heap.size w W0 := by rw [hW0]; exact below_new _ _
  have hD0 : DotAt W0 w.heap.size d := by rw [hW0]; exact DotAt.new w d
  have hv0 := hv.on hB0
  obtain ⟨ao, ca, rfl, _, _⟩ := id hv
  by_cases hn : ds.length ≤ 60
  · have hn6 : ¬ (60 : Int) < (ds.length : Int) := by omega
    have hIs := (settled_is ds noughts_length noughts_right).1
    have hmn := (settled_is ds noughts_length noughts_right).2
    have hth := there_all ds d
    have HOf := fun W (h : dotsIn W (.slice ao ds.length ca) ds) => of_any (.slice ao ds.length ca) ds W h (by omega)
    have hRO := fun W (h : dotsIn W (.slice ao ds.length ca) ds) => refOf_any (.slice ao ds.length ca) ds W h (by omega)
    have hTO : ∀ (tv : Value) W, dotsIn W tv ds.reverse → Calls Try.prog 28 #[tv] W fun e w' => ∃ sl, e = .returned (setV (settled noughts ds).1 sl) ∧ dotsIn w' sl (settled noughts ds).2 ∧ Below W.heap.size W w' := fun tv W h => by
      have := of_any tv ds.reverse W h (by simp; omega)
      rw [settled_turn] at this
      exact this
    have hls := hIs.1.len
    generalize settled noughts ds = S at *
    obtain ⟨ls, ms⟩ := S
    simp only at *
    have hRS : ∀ W r sl, dotsIn W sl ms → dotsIn W r ms → Calls Try.prog 14 #[setV ls sl, setV ls r] W fun e w' => e = .returned (.bool true) ∧ Below W.heap.size W w' := fun W r sl h1 h2 => by
      have := refSameSet_any ls ls hls hls sl r ms ms W h1 h2 (by omega)
      simpa using this
    have hSS : ∀ W r sl, dotsIn W sl ms → dotsIn W r ms → Calls Try.prog 26 #[setV ls sl, setV ls r] W fun e w' => e = .returned (.bool true) ∧ Below W.heap.size W w' := fun W r sl h1 h2 => by
      have := sameSet_any ls ls hls hls sl r ms ms W h1 h2 (by omega)
      simpa using this
    have hRR : ∀ W sl, dotsIn W sl ms → Calls Try.prog 11 #[setV ls sl] W fun e w' => e = .returned (.bool true) ∧ Below W.heap.size W w' := fun W sl h => refRight_ok ls sl ms W hIs.1 h (by omega)
    have hHA : ∀ W sl, dotsIn W sl ms → Calls Try.prog 12 #[setV ls sl, dV d] W fun e w' => e = .returned (.bool (there ds d 0)) ∧ Below W.heap.size W w' := fun W sl h => by
      have := hasSet_any ls hls sl ms d W h (by omega) hIs.1.row
      rw [hth] at this
      exact this
    have HH : Hid (∀ W sl, dotsIn W sl ms → Calls Try.prog 12 #[setV ls sl, dV d] W fun e w' => e = .returned (.bool (there ds d 0)) ∧ Below W.heap.size W w') := hHA
    have H1 : Hid (∀ W r sl, dotsIn W sl ms → dotsIn W r ms → Calls Try.prog 14 #[setV ls sl, setV ls r] W fun e w' => e = .returned (.bool true) ∧ Below W.heap.size W w') := hRS
    have H2 : Hid (∀ W r sl, dotsIn W sl ms → dotsIn W r ms → Calls Try.prog 26 #[setV ls sl, setV ls r] W fun e w' => e = .returned (.bool true) ∧ Below W.heap.size W w') := hSS
    have H3 : Hid (∀ W sl, dotsIn W sl ms → Calls Try.prog 11 #[setV ls sl] W fun e w' => e = .returned (.bool true) ∧ Below W.heap.size W w') := hRR
    have H4 : Hid (∀ (tv : Value) W, dotsIn W tv ds.reverse → Calls Try.prog 28 #[tv] W fun e w' => ∃ sl, e = .returned (setV ls sl) ∧ dotsIn w' sl ms ∧ Below W.heap.size W w') := hTO
    have H5 : Hid (∀ W, dotsIn W (.slice ao ds.length ca) ds → Calls Try.prog 29 #[.slice ao ds.length ca] W fun e w' => ∃ sl, e = .returned (setV ls sl) ∧ dotsIn w' sl ms ∧ Below W.heap.size W w') := hRO
    have H6 : Hid (∀ W, dotsIn W (.slice ao ds.length ca) ds → Calls Try.prog 28 #[.slice ao ds.length ca] W fun e w' => ∃ sl, e = .returned (setV ls sl) ∧ dotsIn w' sl ms ∧ Below W.heap.size W w') := HOf
    have HB : Hid (Below w.heap.size w W0) := hB0
    have HD : Hid (DotAt W0 w.heap.size d) := hD0
    have HV : Hid (dotsIn w (.slice ao ds.length ca) ds) := hv
    have HT : Hid (there ds d ds.length = false) := there_end ds d
    obtain ⟨n, hn0⟩ : ∃ n, n = ds.length := ⟨_, rfl⟩
    have HN : Hid (n = ds.length) := hn0
    rw [← hn0] at hn hn6 HT HV H5 H6 ⊢
    have HT0 : Hid (ds.drop n = []) := by have h : ds.drop n = [] := by rw [hn0, List.drop_length]
                                          exact h
    clear hn0 hv hv0 hRS hSS hRR hHA hTO hRO HOf hIs hth hB0 hD0
    obtain ⟨i0, hi, hz, hz1, hz2⟩ := info28
    go_enter Try.func5, Try.ntmps5
    go_wp2
    rw [← hW0]
    clear hW0
    go_loopw [5, 6, 7] (fun r b i wr => ∃ (j : Nat) (z : Int), i = .int .i64 z ∧ z = (j : Int) - 1 ∧ j ≤ n ∧ b = .bool (there ds d j) ∧ Hid (wr.ownsRow W0.heap.size 28 2 r (ds.drop j).reverse.length (dcells (ds.drop j).reverse)) ∧ Below W0.heap.size W0 wr) (fun _ _ i _ => (intOf i + 1).toNat)
    case atStart => exact ⟨n, _, rfl, by go_num, by omega, by rw [HT.out], by rw [HT0.out]; exact World.ownsRow_nil _ _ _ _, Below.refl _ _⟩
    case round =>
      obtain ⟨j, z, rfl, hz9, hj, rfl, HO, hbw⟩ := hrel
      by_cases hj0 : j = 0
      · subst hj0
        obtain rfl : z = -1 := by omega
        clear hz9
        have hown := HO.out
        rw [List.drop_zero] at hown
        have hbwr := bchain HB.out hbw
        have hdr := HD.out.on hbw
        have htv := dotsIn_own hown
        have hvr := HV.out.on hbwr
        have HO1 := H6.out wr hvr
        clear hown HO
        go_wp2_with fail
        refine HO1.mono ?_
        rintro e w1 ⟨sl, rfl, hd1, hb1⟩
        have hZ1 := SetAt.zero w1
        have hs1 := hd1.sl
        have hK1 := kept_set w1 ls sl
        have hKb := kept_below w1 ls sl
        clear HO1
        go_wp2_with (first | (refine store_set rfl _ _ rfl w1.heap.size ls noughts sl (.slice none 0 0) hls noughts_length hs1 rfl rfl hZ1 ?_))
        change Code.wp Try.prog _ _ _ (kept w1 ls sl)
        have hOS : OS w w1.heap.size w.heap.size ls sl ms (.slice ao n ca) ds u5 ds.reverse d (kept w1 ls sl).drew :=
          ⟨hK1, (hd1.on hKb.drew), ((hvr.on hb1).on hKb.drew), ((htv.on hb1).on hKb.drew), ((hdr.on hb1).on hKb.drew), (bchain (bchain hbwr hb1) hKb).drew⟩
        generalize w1.heap.size = sb at *
        generalize kept w1 ls sl = W3 at *
        refine wp_region_held_drew (S := OS w sb w.heap.size ls sl ms (.slice ao n ca) ds u5 ds.reverse d) (by kernel_rfl) (hOS) (fun hH0 => ?_)
        refine held_take (i := 0) (o := { dst := some 42, op := Op.load 26 (Operand.tmp 8), type := 26, pos := "law.go:64", after := #[], guard := none }) (v := setV ls sl) (by kernel_rfl) (by kernel_rfl) (by kernel_rfl) (by kernel_rfl) (fun _ _ _ h => h) (by kernel_rfl) (fun _ h => exec_set rfl hls (by kernel_rfl) h.set) hH0 ?_
        refine held_take (i := 1) (o := { dst := some 43, op := Op.move (Operand.tmp 0), type := 24, pos := "law.go:64", after := #[], guard := none }) (v := .slice ao n ca) (by kernel_rfl) (by kernel_rfl) (by kernel_rfl) (by kernel_rfl) (fun _ _ _ h => h) (by kernel_rfl) (fun _ _ => by kernel_rfl) hH0 ?_
        refine held_callX (i := 2) (o := { dst := some 44, op := Op.call { callee := Callee.value (Operand.func 29), args := #[Operand.tmp 43], argTypes := #[24] }, type := 26, pos := "law.go:64", after := #[{ on := 1, ground := Ground.data }], guard := none }) (F := 29) (vs := #[.slice ao n ca]) (by kernel_rfl) (by kernel_rfl) (by kernel_rfl) (fun _ => by kernel_rfl) (H5.out _ hH0.inn) ?_
        rintro e w1 ⟨r1, rfl, hd1, hb1⟩
        have hH1 := hH0.on hb1
        refine ⟨setV ls r1, rfl, hH1, ?_⟩
        refine held_callX (i := 3) (o := { dst := some 45, op := Op.call { callee := Callee.value (Operand.func 14), args := #[Operand.tmp 42, Operand.tmp 44], argTypes := #[26, 26] }, type := 4, pos := "law.go:64", after := #[{ on := 0, ground := Ground.data }, { on := 2, ground := Ground.data }, { on := 2, ground := Ground.chain }], guard := none }) (F := 14) (vs := #[setV ls sl, setV ls r1]) (by kernel_rfl) (by kernel_rfl) (by kernel_rfl) (fun _ => by kernel_rfl) (H1.out _ _ _ hH1.row hd1) ?_
        rintro e w2 ⟨rfl, hb2⟩
        have hH2 := hH1.on hb2
        refine ⟨.bool true, rfl, hH2, ?_⟩
        refine held_take (i := 4) (o := { dst := some 46, op := Op.move (Operand.tmp 45), type := 4, pos := "law.go:64", after := #[{ on := 3, ground := Ground.data }, { on := 3, ground := Ground.chain }], guard := none }) (v := .bool true) (by kernel_rfl) (by kernel_rfl) (by kernel_rfl) (by kernel_rfl) (fun _ _ _ h => h) (by kernel_rfl) (fun _ _ => by kernel_rfl) hH2 ?_
        refine held_take (i := 5) (o := { dst := some 47, op := Op.load 26 (Operand.tmp 8), type := 26, pos := "law.go:64", after := #[{ on := 4, ground := Ground.guard }], guard := some (4, true) }) (v := setV ls sl) (by kernel_rfl) (by kernel_rfl) (by kernel_rfl) (by kernel_rfl) (fun _ _ _ h => h) (by kernel_rfl) (fun _ h => exec_set rfl hls (by kernel_rfl) h.set) hH2 ?_
        refine held_take (i := 6) (o := { dst := some 48, op := Op.move (Operand.tmp 5), type := 24, pos := "law.go:64", after := #[{ on := 4, ground := Ground.guard }], guard := some (4, true) }) (v := u5) (by kernel_rfl) (by kernel_rfl) (by kernel_rfl) (by kernel_rfl) (fun _ _ _ h => h) (by kernel_rfl) (fun _ _ => by kernel_rfl) hH2 ?_
        refine held_callX (i := 7) (o := { dst := some 49, op := Op.call { callee := Callee.value (Operand.func 28), args := #[Operand.tmp 48], argTypes := #[24] }, type := 26, pos := "law.go:64", after := #[{ on := 6, ground := Ground.data }, { on := 4, ground := Ground.chain }, { on := 4, ground := Ground.guard }], guard := some (4, true) }) (F := 28) (vs := #[u5]) (by kernel_rfl) (by kernel_rfl) (by kernel_rfl) (fun _ => by kernel_rfl) (H4.out u5 _ hH2.trn) ?_
        rintro e w3 ⟨r3, rfl, hd3, hb3⟩
        have hH3 := hH2.on hb3
        refine ⟨setV ls r3, rfl, hH3, ?_⟩
        refine held_callX (i := 8) (o := { dst := some 50, op := Op.call { callee := Callee.value (Operand.func 26), args := #[Operand.tmp 47, Operand.tmp 49], argTypes := #[26, 26] }, type := 4, pos := "law.go:64", after := #[{ on := 5, ground := Ground.data }, { on := 7, ground := Ground.data }, { on := 7, ground := Ground.chain }, { on := 4, ground := Ground.guard }], guard := some (4, true) }) (F := 26) (vs := #[setV ls sl, setV ls r3]) (by kernel_rfl) (by kernel_rfl) (by kernel_rfl) (fun _ => by kernel_rfl) (H2.out _ _ _ hH3.row hd3) ?_
        rintro e w4 ⟨rfl, hb4⟩
        have hH4 := hH3.on hb4
        refine ⟨.bool true, rfl, hH4, ?_⟩
        refine held_take (i := 9) (o := { dst := some 51, op := Op.pick (Operand.tmp 46) (Operand.tmp 50) (Operand.const (Value.bool false)), type := 4, pos := "law.go:64", after := #[{ on := 4, ground := Ground.data }, { on := 8, ground := Ground.data }], guard := none }) (v := .bool true) (by kernel_rfl) (by kernel_rfl) (by kernel_rfl) (by kernel_rfl) (fun _ _ _ h => h) (by kernel_rfl) (fun _ _ => by kernel_rfl) hH4 ?_
        refine held_take (i := 10) (o := { dst := some 52, op := Op.move (Operand.tmp 51), type := 4, pos := "law.go:64", after := #[{ on := 9, ground := Ground.data }, { on := 8, ground := Ground.chain }], guard := none }) (v := .bool true) (by kernel_rfl) (by kernel_rfl) (by kernel_rfl) (by kernel_rfl) (fun _ _ _ h => h) (by kernel_rfl) (fun _ _ => by kernel_rfl) hH4 ?_
        refine held_take (i := 11) (o := { dst := some 53, op := Op.load 26 (Operand.tmp 8), type := 26, pos := "law.go:64", after := #[{ on := 10, ground := Ground.guard }], guard := some (10, true) }) (v := setV ls sl) (by kernel_rfl) (by kernel_rfl) (by kernel_rfl) (by kernel_rfl) (fun _ _ _ h => h) (by kernel_rfl) (fun _ h => exec_set rfl hls (by kernel_rfl) h.set) hH4 ?_
        refine held_callX (i := 12) (o := { dst := some 54, op := Op.call { callee := Callee.value (Operand.func 11), args := #[Operand.tmp 53], argTypes := #[26] }, type := 4, pos := "law.go:64", after := #[{ on := 11, ground := Ground.data }, { on := 10, ground := Ground.chain }, { on := 10, ground := Ground.guard }], guard := some (10, true) }) (F := 11) (vs := #[setV ls sl]) (by kernel_rfl) (by kernel_rfl) (by kernel_rfl) (fun _ => by kernel_rfl) (H3.out _ _ hH4.row) ?_
        rintro e w5 ⟨rfl, hb5⟩
        have hH5 := hH4.on hb5
        refine ⟨.bool true, rfl, hH5, ?_⟩
        refine held_take (i := 13) (o := { dst := some 55, op := Op.pick (Operand.tmp 52) (Operand.tmp 54) (Operand.const (Value.bool false)), type := 4, pos := "law.go:64", after := #[{ on := 10, ground := Ground.data }, { on := 12, ground := Ground.data }], guard := none }) (v := .bool true) (by kernel_rfl) (by kernel_rfl) (by kernel_rfl) (by kernel_rfl) (fun _ _ _ h => h) (by kernel_rfl) (fun _ _ => by kernel_rfl) hH5 ?_
        refine held_take (i := 14) (o := { dst := some 56, op := Op.move (Operand.tmp 55), type := 4, pos := "law.go:64", after := #[{ on := 13, ground := Ground.data }, { on := 12, ground := Ground.chain }], guard := none }) (v := .bool true) (by kernel_rfl) (by kernel_rfl) (by kernel_rfl) (by kernel_rfl) (fun _ _ _ h => h) (by kernel_rfl) (fun _ _ => by kernel_rfl) hH5 ?_
        refine held_take (i := 15) (o := { dst := some 57, op := Op.load 26 (Operand.tmp 8), type := 26, pos := "law.go:64", after := #[{ on := 14, ground := Ground.guard }], guard := some (14, true) }) (v := setV ls sl) (by kernel_rfl) (by kernel_rfl) (by kernel_rfl) (by kernel_rfl) (fun _ _ _ h => h) (by kernel_rfl) (fun _ h => exec_set rfl hls (by kernel_rfl) h.set) hH5 ?_
        refine held_take (i := 16) (o := { dst := some 58, op := Op.load 28 (Operand.tmp 3), type := 28, pos := "law.go:64", after := #[{ on := 14, ground := Ground.guard }], guard := some (14, true) }) (v := dV d) (by kernel_rfl) (by kernel_rfl) (by kernel_rfl) (by kernel_rfl) (fun _ _ _ h => h) (by kernel_rfl) (fun _ h => exec_dot rfl (by kernel_rfl) h.dot.1 h.dot.2) hH5 ?_
        refine held_take (i := 18) (o := { dst := some 60, op := Op.move (Operand.tmp 6), type := 4, pos := "law.go:64", after := #[{ on := 14, ground := Ground.guard }], guard := some (14, true) }) (v := .bool (there ds d 0)) (by kernel_rfl) (by kernel_rfl) (by kernel_rfl) (by kernel_rfl) (fun _ _ _ h => h) (by kernel_rfl) (fun _ _ => by kernel_rfl) hH5 ?_
        refine held_callX (i := 17) (o := { dst := some 59, op := Op.call { callee := Callee.value (Operand.func 12), args := #[Operand.tmp 57, Operand.tmp 58], argTypes := #[26, 28] }, type := 4, pos := "law.go:64", after := #[{ on := 15, ground := Ground.data }, { on := 16, ground := Ground.data }, { on := 14, ground := Ground.chain }, { on := 14, ground := Ground.guard }], guard := some (14, true) }) (F := 12) (vs := #[setV ls sl, dV d]) (by kernel_rfl) (by kernel_rfl) (by kernel_rfl) (fun _ => by kernel_rfl) (HH.out _ _ hH5.row) ?_
        rintro e w6 ⟨rfl, hb6⟩
        have hH6 := hH5.on hb6
        refine ⟨.bool (there ds d 0), rfl, hH6, ?_⟩
        refine held_take (i := 19) (o := { dst := some 61, op := Op.binOp BinOp.eql 4 (Operand.tmp 59) (Operand.tmp 60) 4, type := 4, pos := "law.go:64", after := #[{ on := 17, ground := Ground.data }, { on := 18, ground := Ground.data }, { on := 14, ground := Ground.guard }], guard := some (14, true) }) (v := .bool true) (by kernel_rfl) (by kernel_rfl) (by kernel_rfl) (by kernel_rfl) (fun _ _ _ h => h) (by kernel_rfl) (fun W _ => exec_bin rfl (by kernel_rfl) (by kernel_rfl) (fun _ => by kernel_rfl) (eqb_same (there ds d 0)) W) hH6 ?_
        refine held_take (i := 20) (o := { dst := some 62, op := Op.pick (Operand.tmp 56) (Operand.tmp 61) (Operand.const (Value.bool false)), type := 4, pos := "law.go:64", after := #[{ on := 14, ground := Ground.data }, { on := 19, ground := Ground.data }], guard := none }) (v := .bool true) (by kernel_rfl) (by kernel_rfl) (by kernel_rfl) (by kernel_rfl) (fun _ _ _ h => h) (by kernel_rfl) (fun _ _ => by kernel_rfl) hH6 ?_
        refine held_take (i := 21) (o := { dst := some 63, op := Op.move (Operand.tmp 62), type := 4, pos := "law.go:64", after := #[{ on := 20, ground := Ground.data }, { on := 17, ground := Ground.chain }], guard := none }) (v := .bool true) (by kernel_rfl) (by kernel_rfl) (by kernel_rfl) (by kernel_rfl) (fun _ _ _ h => h) (by kernel_rfl) (fun _ _ => by kernel_rfl) hH6 ?_
        refine held_callX (i := 22) (o := { dst := some 64, op := Op.call { callee := Callee.value (Operand.func 9), args := #[], argTypes := #[] }, type := 4, pos := "law.go:64", after := #[{ on := 21, ground := Ground.chain }, { on := 21, ground := Ground.guard }], guard := some (21, true) }) (F := 9) (vs := #[]) (by kernel_rfl) (by kernel_rfl) (by kernel_rfl) (fun _ => by kernel_rfl) (awake_any _) ?_
        rintro e w7 ⟨rfl, hb7⟩
        have hH7 := hH6.on hb7
        refine ⟨.bool true, rfl, hH7, ?_⟩
        refine held_take (i := 23) (o := { dst := some 65, op := Op.pick (Operand.tmp 63) (Operand.tmp 64) (Operand.const (Value.bool false)), type := 4, pos := "law.go:64", after := #[{ on := 21, ground := Ground.data }, { on := 22, ground := Ground.data }], guard := none }) (v := .bool true) (by kernel_rfl) (by kernel_rfl) (by kernel_rfl) (by kernel_rfl) (fun _ _ _ h => h) (by kernel_rfl) (fun _ _ => by kernel_rfl) hH7 ?_
        refine held_do (i := 24) (o := { dst := some 4, op := Op.assign (Operand.tmp 65), type := 4, pos := "law.go:64", after := #[{ on := 23, ground := Ground.data }, { on := 22, ground := Ground.chain }, { on := 0, ground := Ground.phase }, { on := 1, ground := Ground.phase }, { on := 2, ground := Ground.phase }, { on := 3, ground := Ground.phase }, { on := 4, ground := Ground.phase }, { on := 5, ground := Ground.phase }, { on := 6, ground := Ground.phase }, { on := 7, ground := Ground.phase }, { on := 8, ground := Ground.phase }, { on := 9, ground := Ground.phase }, { on := 10, ground := Ground.phase }, { on := 11, ground := Ground.phase }, { on := 12, ground := Ground.phase }, { on := 13, ground := Ground.phase }, { on := 14, ground := Ground.phase }, { on := 15, ground := Ground.phase }, { on := 16, ground := Ground.phase }, { on := 17, ground := Ground.phase }, { on := 18, ground := Ground.phase }, { on := 19, ground := Ground.phase }, { on := 20, ground := Ground.phase }, { on := 21, ground := Ground.phase }, { on := 22, ground := Ground.phase }, { on := 23, ground := Ground.phase }], guard := none }) (v := .bool true) (by kernel_rfl) (by kernel_rfl) (by kernel_rfl) (by kernel_rfl) hH7 ?_
        refine wpAnyH_done (by kernel_rfl) ?_ _
        simp only [Act.put, List.setIfInBounds_toArray, List.set_cons_zero, List.set_cons_succ]
        go_wp2
        go_ret
        exact ⟨rfl, hH7.below⟩
      · obtain ⟨m, rfl⟩ : ∃ m, j = m + 1 := ⟨j - 1, by omega⟩
        obtain rfl : z = (m : Int) := by omega
        clear hz9
        have hm : m < ds.length := by have := HN.out; omega
        have hts := there_step ds d m hm
        have htn := turn_step ds m hm
        obtain ⟨ad, hao, hcell⟩ : ∃ ad, ao = some ad ∧ ∀ W, Below w.heap.size w W → W.cell? (ad.add (m * 2)) = some (.int .i64 (ds[m]).1) ∧ W.cell? ⟨(ad.add (m * 2)).block, (ad.add (m * 2)).off + 1, none⟩ = some (.int .i64 (ds[m]).2) := by
          obtain ⟨ao2, cap2, e2, _, hc⟩ := HV.out
          obtain ⟨ad, hao, _, _⟩ := hc m hm
          cases e2
          refine ⟨ad, hao, fun W hW => ?_⟩
          obtain ⟨ao3, cap3, e3, _, hc3⟩ := HV.out.on hW
          obtain ⟨ad3, hao3, c3, c4⟩ := hc3 m hm
          cases e3
          rw [hao] at hao3
          cases hao3
          exact ⟨c3, c4⟩
        subst hao
        obtain ⟨c0, c1⟩ := hcell wr (bchain HB.out hbw)
        have hown := HO.out
        have hlen : (ds.drop (m + 1)).reverse.length ≤ 60 := by have := HN.out; simp; omega
        have HTS : Hid (there ds d m = (there ds d (m + 1) || (decide (ds[m] = d) && rightD d))) := hts
        have HTN : Hid ((ds.drop m).reverse = (ds.drop (m + 1)).reverse ++ [ds[m]]) := htn
        have hE := eql_dot ds[m] d
        have HRd := fun W => refRight_any d.1 d.2 W
        have hsr := hbw.size
        have hi0 : (0 : Int) ≤ (m : Int) := by omega
        have hi1 : (m : Int) < (n : Int) := by omega
        clear hts htn HO
        generalize (ds.drop (m + 1)).reverse = acc at *
        generalize there ds d (m + 1) = tb at *
        generalize ds[m] = x at *
        have h63 : acc.length + 1 ≤ maxLen := by unfold maxLen; omega
        have hby : (acc.length + 1) * 16 ≤ 140737488355328 := by omega
        have fin : ∀ (tb' : Bool) {v' : Value} {w6 W : World}, w6.ownsRow W0.heap.size 28 2 v' (acc.length + 1) (dcells acc ++ dcells [x]) → Below W0.heap.size W0 w6 → Below w6.heap.size w6 W → there ds d m = tb' →
            ∃ (j : Nat) (z : Int), Value.int .i64 ((m : Int) - 1) = .int .i64 z ∧ z = (j : Int) - 1 ∧ j ≤ n ∧ Value.bool tb' = .bool (there ds d j) ∧ Hid (W.ownsRow W0.heap.size 28 2 v' (ds.drop j).reverse.length (dcells (ds.drop j).reverse)) ∧ Below W0.heap.size W0 W := fun tb' v' w6 W ho hb6 hbW ht => by
          refine ⟨m, _, rfl, rfl, by omega, by rw [ht], ?_, bchain hb6 hbW⟩
          rw [HTN.out]
          exact own_on (own_snoc ho) hbW
        have FIN : Hid _ := @fin
        clear fin
        cases tb with
        | true =>
          go_wp2_with (at_builtin; refine wpList_append_own _ rfl _ _ 24 rfl W0.heap.size 28 i0 _ 2 16 Try.underlying24 hi hz hz1 hz2 rfl (by decide) _ _ _ rfl (own_on hown (below_new wr _)) ⟨wr.heap.size, 0, none⟩ 1 1 (dcells [x]) rfl rfl (new_row wr x) (dcells_one [x]) h63 hby (by simp; omega) ?_; intro v' w6 hown' hg6 _; have hb6 : Below W0.heap.size W0 w6 := (hbw.alloc hsr _).grown hg6 (by simp; omega) (fun q hq => (hown.lt q hq).1); obtain ⟨g0, g1⟩ := hcell w6 (bchain HB.out hb6); have e0 := (HD.out.on hb6).1; have e1 := (HD.out.on hb6).2)
          go_region
          go_wp2
          go_roundw
          case rel => exact FIN.out true hown' hb6 (Below.refl _ _).drew (by rw [HTS.out]; rfl)
          case measure => first | (simp [intOf]; done) | (simp [intOf]; omega)
        | false =>
          by_cases he : x = d
          · rw [decide_eq_true he] at hE
            have HTS' : Hid (there ds d m = rightD d) := by
              have h := HTS.out
              rw [decide_eq_true he, Bool.false_or, Bool.true_and] at h
              exact h
            have hq : rightD d = Dt.right d.1 d.2 := rfl
            rw [hq] at HTS'
            clear he HTS hq
            generalize Dt.right d.1 d.2 = rb at *
            go_wp2_with (at_builtin; refine wpList_append_own _ rfl _ _ 24 rfl W0.heap.size 28 i0 _ 2 16 Try.underlying24 hi hz hz1 hz2 rfl (by decide) _ _ _ rfl (own_on hown (below_new wr _)) ⟨wr.heap.size, 0, none⟩ 1 1 (dcells [x]) rfl rfl (new_row wr x) (dcells_one [x]) h63 hby (by simp; omega) ?_; intro v' w6 hown' hg6 _; have hb6 : Below W0.heap.size W0 w6 := (hbw.alloc hsr _).grown hg6 (by simp; omega) (fun q hq => (hown.lt q hq).1); obtain ⟨g0, g1⟩ := hcell w6 (bchain HB.out hb6); have e0 := (HD.out.on hb6).1; have e1 := (HD.out.on hb6).2)
            go_region_held3 (fun W => W.cell? (ad.add (m * 2)) = some (.int .i64 x.1) ∧ W.cell? ⟨(ad.add (m * 2)).block, (ad.add (m * 2)).off + 1, none⟩ = some (.int .i64 x.2) ∧ W.cell? ⟨w.heap.size, 0, none⟩ = some (.int .i64 d.1) ∧ W.cell? ⟨w.heap.size, 1, none⟩ = some (.int .i64 d.2) ∧ Below w6.heap.size w6 W)
              (first | exact ⟨g0, g1, e0, e1, (Below.refl _ _).drew⟩ | go_keep | (refine ⟨keep_cell hb ?_, keep_cell hb ?_, keep_cell hb ?_, keep_cell hb ?_, bchain ?_ hb⟩ <;> go_keep))
              (first | (go_at_call 27; refine (HRd _).mono ?_; rintro e w7 ⟨rfl, hb⟩))
            have hb7 : Below w6.heap.size w6 w7 := bchain (Below.refl _ _).drew hb
            go_wp2
            go_roundw
            case rel => exact FIN.out rb hown' hb6 hb7 HTS'.out
            case measure => first | (simp [intOf]; done) | (simp [intOf]; omega)
          · rw [decide_eq_false he] at hE
            have HTS' : Hid (there ds d m = false) := by
              have h := HTS.out
              rw [decide_eq_false he, Bool.false_or, Bool.false_and] at h
              exact h
            clear he HTS
            go_wp2_with (at_builtin; refine wpList_append_own _ rfl _ _ 24 rfl W0.heap.size 28 i0 _ 2 16 Try.underlying24 hi hz hz1 hz2 rfl (by decide) _ _ _ rfl (own_on hown (below_new wr _)) ⟨wr.heap.size, 0, none⟩ 1 1 (dcells [x]) rfl rfl (new_row wr x) (dcells_one [x]) h63 hby (by simp; omega) ?_; intro v' w6 hown' hg6 _; have hb6 : Below W0.heap.size W0 w6 := (hbw.alloc hsr _).grown hg6 (by simp; omega) (fun q hq => (hown.lt q hq).1); obtain ⟨g0, g1⟩ := hcell w6 (bchain HB.out hb6); have e0 := (HD.out.on hb6).1; have e1 := (HD.out.on hb6).2)
            go_region
            go_wp2
            go_roundw
            case rel => exact FIN.out false hown' hb6 (Below.refl _ _).drew HTS'.out
            case measure => first | (simp [intOf]; done) | (simp [intOf]; omega)
  · have hn6 : (60 : Int) < (ds.length : Int) := by omega
    go_enter Try.func5, Try.ntmps5
    go_wp2_with (go_at_call 9; refine (awake_any _).mono ?_; rintro e w1 ⟨rfl, hb1⟩)
    go_ret
    refine ⟨rfl, ?_⟩
    rw [← hW0] at hb1
    exact bchain hB0 hb1
end Go.Proofs.Ytenfbjlmfdiniaa
