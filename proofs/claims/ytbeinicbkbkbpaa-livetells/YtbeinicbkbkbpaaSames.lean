/- The walks of Same over items that are the same: the statement's (of the program's and the document's), and the program's own. -/
import Derived.Test.YtbeinicbkbkbpaaExAll
import Derived.Test.YtbeinicbkbkbpaaOpWrapAll
namespace Go.Proofs.Ytbeinicbkbkbpaa.O
open Go.RowKit

theorem neq_cnt_same (x : U) (w : World) : (binOp .neq 50 (uV x) (uV x)).run Try.prog w = .ok (.bool false) w := by rw [neq_cnt]; simp
theorem eql_cnt_same (x : U) (w : World) : (binOp .eql 50 (uV x) (uV x)).run Try.prog w = .ok (.bool true) w := by rw [eql_cnt]; simp
theorem same_self (o : Os.Op) : Os.same o o = true := by
  rw [same_iff ⟨rfl, rfl, ⟨rfl, rfl, rfl⟩, rfl⟩]
  simp
/-- Two items that are asked whether they are the same. -/
structure SmS (w : World) (p q : Addr) (x y : IE) (W : World) : Prop where
  px : IcAt W p x
  py : IcAt W q y
  below : Below w.heap.size w W
theorem SmS.on {w : World} {p q : Addr} {x y : IE} {W W' : World} (h : SmS w p q x y W) (hb : Below W.heap.size W W') : SmS w p q x y W' := ⟨h.px.on hb, h.py.on hb, bchain h.below hb⟩
/-- Their operations are short. -/
def ShortI (xs : List IE) : Prop := ∀ x ∈ xs, Os.short x.1.o = true
theorem items_at {xs ys : List IE} (h : xs.map (·.1) = ys.map (·.1)) {k : Nat} (hx : k < xs.length) (hy : k < ys.length) : ys[k].1 = xs[k].1 := by
  have e := congrArg (fun l => l[k]?) h
  simp only [List.getElem?_map, List.getElem?_eq_getElem hx, List.getElem?_eq_getElem hy, Option.map_some, Option.some.injEq] at e
  exact e.symm

set_option maxRecDepth 20000 in
set_option maxHeartbeats 2000000 in
theorem sameIR_any (va vb : Value) (xs ys : List IE) (w : World) (ha : itsE w va xs) (hb : itsE w vb ys) (hn : xs.length ≤ 1000000) (hs : ShortI xs) (he : xs.map (·.1) = ys.map (·.1)) :
    Calls Try.prog 13 #[va, vb] w fun e w' => e = .returned (.bool true) ∧ Below w.heap.size w w' := by
  obtain ⟨ao, cx, rfl⟩ := ha.slice
  obtain ⟨bo, cy, rfl⟩ := hb.slice
  have hl : ys.length = xs.length := by have h := congrArg List.length he; rw [List.length_map, List.length_map] at h; exact h.symm
  obtain ⟨n, hn0⟩ : ∃ n, n = xs.length := ⟨_, rfl⟩
  have HN : Hid (n = xs.length) := hn0
  rw [hl] at hb ⊢
  rw [← hn0] at ha hb hn ⊢
  have HA : Hid (itsE w (.slice ao n cx) xs) := ha
  have HB : Hid (itsE w (.slice bo n cy) ys) := hb
  have HL : Hid (ys.length = xs.length) := hl
  have HE : Hid (xs.map (·.1) = ys.map (·.1)) := he
  have HS : Hid (ShortI xs) := hs
  clear hn0 ha hb hl he hs
  go_enter Try.func13, Try.ntmps13
  go_wp2
  go_loopw [5] (fun i wr => ∃ k : Nat, k ≤ n ∧ i = .int .i64 k ∧ Below w.heap.size w wr) (fun i _ => n - (intOf i).toNat)
  case atStart => exact ⟨0, by omega, rfl, Below.refl _ _⟩
  case round =>
    obtain ⟨k, hk, rfl, hbw⟩ := hrel
    by_cases hkn : k < n
    · have hkx : k < xs.length := by rw [← HN.out]; exact hkn
      have hky : k < ys.length := by rw [HL.out]; exact hkx
      obtain ⟨ax, rfl, -, hX, hXi⟩ := (HA.out.on hbw).get hkx
      obtain ⟨ay, rfl, -, hY, hYi⟩ := (HB.out.on hbw).get hky
      have hsh := HS.out _ (List.getElem_mem hkx)
      have e1 := items_at HE.out hkx hky
      obtain ⟨it, pv, sv, hx0⟩ : ∃ it pv sv, xs[k] = (it, pv, sv) := ⟨_, _, _, rfl⟩
      obtain ⟨it', pv', sv', hy0⟩ : ∃ it pv sv, ys[k] = (it, pv, sv) := ⟨_, _, _, rfl⟩
      rw [hx0] at hX hXi hsh e1
      rw [hy0] at hY hYi e1
      obtain rfl : it' = it := e1
      clear hx0 hy0
      obtain ⟨pa, pn, pc, rfl⟩ := strs_slice hXi.1
      obtain ⟨sa, sn, sc, rfl⟩ := refs_slice hXi.2
      obtain ⟨pa', pn', pc', rfl⟩ := strs_slice hYi.1
      obtain ⟨sa', sn', sc', rfl⟩ := refs_slice hYi.2
      have HQ := fun W (hb : Below wr.heap.size wr W) => orsame it'.o (.slice pa pn pc) (.slice sa sn sc) W it'.o (.slice pa' pn' pc') (.slice sa' sn' sc') hsh (hXi.on hb).1 (hXi.on hb).2 (hYi.on hb).1 (hYi.on hb).2
      simp only [same_self] at HQ
      have hSS : SmS wr (ax.add (k * 11)) (ay.add (k * 11)) (it', .slice pa pn pc, .slice sa sn sc) (it', .slice pa' pn' pc', .slice sa' sn' sc') wr.drew := ⟨hX.on (Below.refl _ _).drew, hY.on (Below.refl _ _).drew, (Below.refl _ _).drew⟩
      have hi0 : (0 : Int) ≤ (k : Int) := by omega
      have hi1 : (k : Int) < (n : Int) := by omega
      clear hX hY hXi hYi hsh
      go_wp2
      refine wp_region_held_drew (S := fun W => SmS wr (ax.add (k * 11)) (ay.add (k * 11)) (it', .slice pa pn pc, .slice sa sn sc) (it', .slice pa' pn' pc', .slice sa' sn' sc') W) (by kernel_rfl) (hSS) (fun hH0 => ?_)
      refine held_take (i := 0) (o := { dst := some 17, op := Op.move (Operand.tmp 0), type := 28, pos := "law.go:37", after := #[], guard := none }) (v := .slice (some ax) n cx) (by kernel_rfl) (by kernel_rfl) (by kernel_rfl) (by kernel_rfl) (fun _ _ _ h => h) (by kernel_rfl) (fun _ _ => by kernel_rfl) hH0 ?_
      refine held_take (i := 1) (o := { dst := some 18, op := Op.move (Operand.tmp 5), type := 3, pos := "law.go:37", after := #[], guard := none }) (v := .int .i64 (k : Int)) (by kernel_rfl) (by kernel_rfl) (by kernel_rfl) (by kernel_rfl) (fun _ _ _ h => h) (by kernel_rfl) (fun _ _ => by kernel_rfl) hH0 ?_
      refine held_take (i := 2) (o := { dst := some 19, op := Op.indexAddr 28 (Operand.tmp 17) (Operand.tmp 18), type := 0, pos := "law.go:37", after := #[{ on := 0, ground := Ground.data }, { on := 1, ground := Ground.data }], guard := none }) (v := .pointer (some (ax.add (k * 11)))) (by kernel_rfl) (by kernel_rfl) (by kernel_rfl) (by kernel_rfl) (fun _ _ _ h => h) (by kernel_rfl) (fun W _ => ex_i_items (n := n) (c := cx) (k := k) rfl (by kernel_rfl) (by kernel_rfl) hkn W) hH0 ?_
      refine held_take (i := 3) (o := { dst := some 20, op := Op.fieldAddr 56 (Operand.tmp 19) 0, type := 0, pos := "law.go:37", after := #[{ on := 2, ground := Ground.data }], guard := none }) (v := .pointer (some (ax.add (k * 11)))) (by kernel_rfl) (by kernel_rfl) (by kernel_rfl) (by kernel_rfl) (fun _ _ _ h => h) (by kernel_rfl) (fun W _ => ex_f_item_0 rfl (by kernel_rfl) W) hH0 ?_
      refine held_take (i := 4) (o := { dst := some 21, op := Op.load 50 (Operand.tmp 20), type := 50, pos := "law.go:37", after := #[{ on := 3, ground := Ground.data }], guard := none }) (v := .agg #[.int .i64 it'.x.1.1, .int .i64 it'.x.1.2, .int .i64 it'.x.2]) (by kernel_rfl) (by kernel_rfl) (by kernel_rfl) (by kernel_rfl) (fun _ _ _ h => h) (by kernel_rfl) (fun _ h => ex_l_ref rfl (by kernel_rfl) (h.px.c0) (h.px.c1) (h.px.c2)) hH0 ?_
      refine held_take (i := 5) (o := { dst := some 22, op := Op.move (Operand.tmp 1), type := 30, pos := "law.go:37", after := #[], guard := none }) (v := .slice (some ay) n cy) (by kernel_rfl) (by kernel_rfl) (by kernel_rfl) (by kernel_rfl) (fun _ _ _ h => h) (by kernel_rfl) (fun _ _ => by kernel_rfl) hH0 ?_
      refine held_take (i := 6) (o := { dst := some 23, op := Op.move (Operand.tmp 5), type := 3, pos := "law.go:37", after := #[], guard := none }) (v := .int .i64 (k : Int)) (by kernel_rfl) (by kernel_rfl) (by kernel_rfl) (by kernel_rfl) (fun _ _ _ h => h) (by kernel_rfl) (fun _ _ => by kernel_rfl) hH0 ?_
      refine held_take (i := 7) (o := { dst := some 24, op := Op.indexAddr 30 (Operand.tmp 22) (Operand.tmp 23), type := 0, pos := "law.go:37", after := #[{ on := 5, ground := Ground.data }, { on := 6, ground := Ground.data }], guard := none }) (v := .pointer (some (ay.add (k * 11)))) (by kernel_rfl) (by kernel_rfl) (by kernel_rfl) (by kernel_rfl) (fun _ _ _ h => h) (by kernel_rfl) (fun W _ => ex_i_ritems (n := n) (c := cy) (k := k) rfl (by kernel_rfl) (by kernel_rfl) hkn W) hH0 ?_
      refine held_take (i := 8) (o := { dst := some 25, op := Op.fieldAddr 81 (Operand.tmp 24) 0, type := 0, pos := "law.go:37", after := #[{ on := 7, ground := Ground.data }], guard := none }) (v := .pointer (some (ay.add (k * 11)))) (by kernel_rfl) (by kernel_rfl) (by kernel_rfl) (by kernel_rfl) (fun _ _ _ h => h) (by kernel_rfl) (fun W _ => ex_f_ritem_0 rfl (by kernel_rfl) W) hH0 ?_
      refine held_take (i := 9) (o := { dst := some 26, op := Op.load 50 (Operand.tmp 25), type := 50, pos := "law.go:37", after := #[{ on := 8, ground := Ground.data }], guard := none }) (v := .agg #[.int .i64 it'.x.1.1, .int .i64 it'.x.1.2, .int .i64 it'.x.2]) (by kernel_rfl) (by kernel_rfl) (by kernel_rfl) (by kernel_rfl) (fun _ _ _ h => h) (by kernel_rfl) (fun _ h => ex_l_ref rfl (by kernel_rfl) (h.py.c0) (h.py.c1) (h.py.c2)) hH0 ?_
      refine held_take (i := 10) (o := { dst := some 27, op := Op.binOp BinOp.neq 50 (Operand.tmp 21) (Operand.tmp 26) 50, type := 4, pos := "law.go:37", after := #[{ on := 4, ground := Ground.data }, { on := 9, ground := Ground.data }], guard := none }) (v := .bool false) (by kernel_rfl) (by kernel_rfl) (by kernel_rfl) (by kernel_rfl) (fun _ _ _ h => h) (by kernel_rfl) (fun W _ => exec_bin rfl (by kernel_rfl) (by kernel_rfl) (fun _ => by kernel_rfl) (neq_cnt_same (it'.x)) W) hH0 ?_
      refine held_take (i := 11) (o := { dst := some 28, op := Op.move (Operand.tmp 27), type := 4, pos := "law.go:37", after := #[{ on := 10, ground := Ground.data }], guard := none }) (v := .bool false) (by kernel_rfl) (by kernel_rfl) (by kernel_rfl) (by kernel_rfl) (fun _ _ _ h => h) (by kernel_rfl) (fun _ _ => by kernel_rfl) hH0 ?_
      refine held_take (i := 12) (o := { dst := some 29, op := Op.move (Operand.tmp 0), type := 28, pos := "law.go:37", after := #[{ on := 11, ground := Ground.guard }], guard := some (11, false) }) (v := .slice (some ax) n cx) (by kernel_rfl) (by kernel_rfl) (by kernel_rfl) (by kernel_rfl) (fun _ _ _ h => h) (by kernel_rfl) (fun _ _ => by kernel_rfl) hH0 ?_
      refine held_take (i := 13) (o := { dst := some 30, op := Op.move (Operand.tmp 5), type := 3, pos := "law.go:37", after := #[{ on := 11, ground := Ground.guard }], guard := some (11, false) }) (v := .int .i64 (k : Int)) (by kernel_rfl) (by kernel_rfl) (by kernel_rfl) (by kernel_rfl) (fun _ _ _ h => h) (by kernel_rfl) (fun _ _ => by kernel_rfl) hH0 ?_
      refine held_take (i := 14) (o := { dst := some 31, op := Op.indexAddr 28 (Operand.tmp 29) (Operand.tmp 30), type := 0, pos := "law.go:37", after := #[{ on := 12, ground := Ground.data }, { on := 13, ground := Ground.data }, { on := 11, ground := Ground.guard }], guard := some (11, false) }) (v := .pointer (some (ax.add (k * 11)))) (by kernel_rfl) (by kernel_rfl) (by kernel_rfl) (by kernel_rfl) (fun _ _ _ h => h) (by kernel_rfl) (fun W _ => ex_i_items (n := n) (c := cx) (k := k) rfl (by kernel_rfl) (by kernel_rfl) hkn W) hH0 ?_
      refine held_take (i := 15) (o := { dst := some 32, op := Op.fieldAddr 56 (Operand.tmp 31) 2, type := 0, pos := "law.go:37", after := #[{ on := 14, ground := Ground.data }, { on := 11, ground := Ground.guard }], guard := some (11, false) }) (v := .pointer (some ⟨(ax.add (k * 11)).block, (ax.add (k * 11)).off + 10, none⟩)) (by kernel_rfl) (by kernel_rfl) (by kernel_rfl) (by kernel_rfl) (fun _ _ _ h => h) (by kernel_rfl) (fun W _ => ex_f_item_2 rfl (by kernel_rfl) W) hH0 ?_
      refine held_take (i := 16) (o := { dst := some 33, op := Op.load 3 (Operand.tmp 32), type := 3, pos := "law.go:37", after := #[{ on := 15, ground := Ground.data }, { on := 11, ground := Ground.guard }], guard := some (11, false) }) (v := .int .i64 it'.t) (by kernel_rfl) (by kernel_rfl) (by kernel_rfl) (by kernel_rfl) (fun _ _ _ h => h) (by kernel_rfl) (fun _ h => ex_l1_int rfl (by kernel_rfl) (h.px.c10)) hH0 ?_
      refine held_take (i := 17) (o := { dst := some 34, op := Op.move (Operand.tmp 1), type := 30, pos := "law.go:37", after := #[{ on := 11, ground := Ground.guard }], guard := some (11, false) }) (v := .slice (some ay) n cy) (by kernel_rfl) (by kernel_rfl) (by kernel_rfl) (by kernel_rfl) (fun _ _ _ h => h) (by kernel_rfl) (fun _ _ => by kernel_rfl) hH0 ?_
      refine held_take (i := 18) (o := { dst := some 35, op := Op.move (Operand.tmp 5), type := 3, pos := "law.go:37", after := #[{ on := 11, ground := Ground.guard }], guard := some (11, false) }) (v := .int .i64 (k : Int)) (by kernel_rfl) (by kernel_rfl) (by kernel_rfl) (by kernel_rfl) (fun _ _ _ h => h) (by kernel_rfl) (fun _ _ => by kernel_rfl) hH0 ?_
      refine held_take (i := 19) (o := { dst := some 36, op := Op.indexAddr 30 (Operand.tmp 34) (Operand.tmp 35), type := 0, pos := "law.go:37", after := #[{ on := 17, ground := Ground.data }, { on := 18, ground := Ground.data }, { on := 11, ground := Ground.guard }], guard := some (11, false) }) (v := .pointer (some (ay.add (k * 11)))) (by kernel_rfl) (by kernel_rfl) (by kernel_rfl) (by kernel_rfl) (fun _ _ _ h => h) (by kernel_rfl) (fun W _ => ex_i_ritems (n := n) (c := cy) (k := k) rfl (by kernel_rfl) (by kernel_rfl) hkn W) hH0 ?_
      refine held_take (i := 20) (o := { dst := some 37, op := Op.fieldAddr 81 (Operand.tmp 36) 2, type := 0, pos := "law.go:37", after := #[{ on := 19, ground := Ground.data }, { on := 11, ground := Ground.guard }], guard := some (11, false) }) (v := .pointer (some ⟨(ay.add (k * 11)).block, (ay.add (k * 11)).off + 10, none⟩)) (by kernel_rfl) (by kernel_rfl) (by kernel_rfl) (by kernel_rfl) (fun _ _ _ h => h) (by kernel_rfl) (fun W _ => ex_f_ritem_2 rfl (by kernel_rfl) W) hH0 ?_
      refine held_take (i := 21) (o := { dst := some 38, op := Op.load 3 (Operand.tmp 37), type := 3, pos := "law.go:37", after := #[{ on := 20, ground := Ground.data }, { on := 11, ground := Ground.guard }], guard := some (11, false) }) (v := .int .i64 it'.t) (by kernel_rfl) (by kernel_rfl) (by kernel_rfl) (by kernel_rfl) (fun _ _ _ h => h) (by kernel_rfl) (fun _ h => ex_l1_int rfl (by kernel_rfl) (h.py.c10)) hH0 ?_
      refine held_take (i := 22) (o := { dst := some 39, op := Op.binOp BinOp.neq 3 (Operand.tmp 33) (Operand.tmp 38) 3, type := 4, pos := "law.go:37", after := #[{ on := 16, ground := Ground.data }, { on := 21, ground := Ground.data }, { on := 11, ground := Ground.guard }], guard := some (11, false) }) (v := .bool false) (by kernel_rfl) (by kernel_rfl) (by kernel_rfl) (by kernel_rfl) (fun _ _ _ h => h) (by kernel_rfl) (fun W _ => exec_bin rfl (by kernel_rfl) (by kernel_rfl) (fun _ => by kernel_rfl) (neqi_same (it'.t)) W) hH0 ?_
      refine held_take (i := 23) (o := { dst := some 40, op := Op.pick (Operand.tmp 28) (Operand.const (Value.bool true)) (Operand.tmp 39), type := 4, pos := "law.go:37", after := #[{ on := 11, ground := Ground.data }, { on := 22, ground := Ground.data }], guard := none }) (v := .bool false) (by kernel_rfl) (by kernel_rfl) (by kernel_rfl) (by kernel_rfl) (fun _ _ _ h => h) (by kernel_rfl) (fun _ _ => by kernel_rfl) hH0 ?_
      refine held_take (i := 24) (o := { dst := some 41, op := Op.move (Operand.tmp 40), type := 4, pos := "law.go:37", after := #[{ on := 23, ground := Ground.data }, { on := 11, ground := Ground.chain }], guard := none }) (v := .bool false) (by kernel_rfl) (by kernel_rfl) (by kernel_rfl) (by kernel_rfl) (fun _ _ _ h => h) (by kernel_rfl) (fun _ _ => by kernel_rfl) hH0 ?_
      refine held_take (i := 25) (o := { dst := some 42, op := Op.move (Operand.tmp 0), type := 28, pos := "law.go:37", after := #[{ on := 24, ground := Ground.guard }], guard := some (24, false) }) (v := .slice (some ax) n cx) (by kernel_rfl) (by kernel_rfl) (by kernel_rfl) (by kernel_rfl) (fun _ _ _ h => h) (by kernel_rfl) (fun _ _ => by kernel_rfl) hH0 ?_
      refine held_take (i := 26) (o := { dst := some 43, op := Op.move (Operand.tmp 5), type := 3, pos := "law.go:37", after := #[{ on := 24, ground := Ground.guard }], guard := some (24, false) }) (v := .int .i64 (k : Int)) (by kernel_rfl) (by kernel_rfl) (by kernel_rfl) (by kernel_rfl) (fun _ _ _ h => h) (by kernel_rfl) (fun _ _ => by kernel_rfl) hH0 ?_
      refine held_take (i := 27) (o := { dst := some 44, op := Op.indexAddr 28 (Operand.tmp 42) (Operand.tmp 43), type := 0, pos := "law.go:37", after := #[{ on := 25, ground := Ground.data }, { on := 26, ground := Ground.data }, { on := 24, ground := Ground.guard }], guard := some (24, false) }) (v := .pointer (some (ax.add (k * 11)))) (by kernel_rfl) (by kernel_rfl) (by kernel_rfl) (by kernel_rfl) (fun _ _ _ h => h) (by kernel_rfl) (fun W _ => ex_i_items (n := n) (c := cx) (k := k) rfl (by kernel_rfl) (by kernel_rfl) hkn W) hH0 ?_
      refine held_take (i := 28) (o := { dst := some 45, op := Op.fieldAddr 56 (Operand.tmp 44) 1, type := 0, pos := "law.go:37", after := #[{ on := 27, ground := Ground.data }, { on := 24, ground := Ground.guard }], guard := some (24, false) }) (v := .pointer (some ⟨(ax.add (k * 11)).block, (ax.add (k * 11)).off + 3, none⟩)) (by kernel_rfl) (by kernel_rfl) (by kernel_rfl) (by kernel_rfl) (fun _ _ _ h => h) (by kernel_rfl) (fun W _ => ex_f_item_1 rfl (by kernel_rfl) W) hH0 ?_
      refine held_take (i := 29) (o := { dst := some 46, op := Op.load 54 (Operand.tmp 45), type := 54, pos := "law.go:37", after := #[{ on := 28, ground := Ground.data }, { on := 24, ground := Ground.guard }], guard := some (24, false) }) (v := .agg #[.int .i64 it'.o.k, .slice pa pn pc, .int .i64 it'.o.vk, .int .i64 it'.o.vn, .string ⟨it'.o.vs.toArray⟩, .int .i64 it'.o.n, .slice sa sn sc]) (by kernel_rfl) (by kernel_rfl) (by kernel_rfl) (by kernel_rfl) (fun _ _ _ h => h) (by kernel_rfl) (fun _ h => ex_l_op rfl (by kernel_rfl) (h.px.c3) (h.px.c4) (h.px.c5) (h.px.c6) (h.px.c7) (h.px.c8) (h.px.c9)) hH0 ?_
      refine held_take (i := 30) (o := { dst := some 47, op := Op.move (Operand.tmp 1), type := 30, pos := "law.go:37", after := #[{ on := 24, ground := Ground.guard }], guard := some (24, false) }) (v := .slice (some ay) n cy) (by kernel_rfl) (by kernel_rfl) (by kernel_rfl) (by kernel_rfl) (fun _ _ _ h => h) (by kernel_rfl) (fun _ _ => by kernel_rfl) hH0 ?_
      refine held_take (i := 31) (o := { dst := some 48, op := Op.move (Operand.tmp 5), type := 3, pos := "law.go:37", after := #[{ on := 24, ground := Ground.guard }], guard := some (24, false) }) (v := .int .i64 (k : Int)) (by kernel_rfl) (by kernel_rfl) (by kernel_rfl) (by kernel_rfl) (fun _ _ _ h => h) (by kernel_rfl) (fun _ _ => by kernel_rfl) hH0 ?_
      refine held_take (i := 32) (o := { dst := some 49, op := Op.indexAddr 30 (Operand.tmp 47) (Operand.tmp 48), type := 0, pos := "law.go:37", after := #[{ on := 30, ground := Ground.data }, { on := 31, ground := Ground.data }, { on := 24, ground := Ground.guard }], guard := some (24, false) }) (v := .pointer (some (ay.add (k * 11)))) (by kernel_rfl) (by kernel_rfl) (by kernel_rfl) (by kernel_rfl) (fun _ _ _ h => h) (by kernel_rfl) (fun W _ => ex_i_ritems (n := n) (c := cy) (k := k) rfl (by kernel_rfl) (by kernel_rfl) hkn W) hH0 ?_
      refine held_take (i := 33) (o := { dst := some 50, op := Op.fieldAddr 81 (Operand.tmp 49) 1, type := 0, pos := "law.go:37", after := #[{ on := 32, ground := Ground.data }, { on := 24, ground := Ground.guard }], guard := some (24, false) }) (v := .pointer (some ⟨(ay.add (k * 11)).block, (ay.add (k * 11)).off + 3, none⟩)) (by kernel_rfl) (by kernel_rfl) (by kernel_rfl) (by kernel_rfl) (fun _ _ _ h => h) (by kernel_rfl) (fun W _ => ex_f_ritem_1 rfl (by kernel_rfl) W) hH0 ?_
      refine held_take (i := 34) (o := { dst := some 51, op := Op.load 54 (Operand.tmp 50), type := 54, pos := "law.go:37", after := #[{ on := 33, ground := Ground.data }, { on := 24, ground := Ground.guard }], guard := some (24, false) }) (v := .agg #[.int .i64 it'.o.k, .slice pa' pn' pc', .int .i64 it'.o.vk, .int .i64 it'.o.vn, .string ⟨it'.o.vs.toArray⟩, .int .i64 it'.o.n, .slice sa' sn' sc']) (by kernel_rfl) (by kernel_rfl) (by kernel_rfl) (by kernel_rfl) (fun _ _ _ h => h) (by kernel_rfl) (fun _ h => ex_l_op rfl (by kernel_rfl) (h.py.c3) (h.py.c4) (h.py.c5) (h.py.c6) (h.py.c7) (h.py.c8) (h.py.c9)) hH0 ?_
      refine held_callX (i := 35) (o := { dst := some 52, op := Op.call { callee := Callee.value (Operand.func 37), args := #[Operand.tmp 46, Operand.tmp 51], argTypes := #[54, 54] }, type := 4, pos := "law.go:37", after := #[{ on := 29, ground := Ground.data }, { on := 34, ground := Ground.data }, { on := 24, ground := Ground.chain }, { on := 24, ground := Ground.guard }], guard := some (24, false) }) (F := 37) (vs := #[.agg #[.int .i64 it'.o.k, .slice pa pn pc, .int .i64 it'.o.vk, .int .i64 it'.o.vn, .string ⟨it'.o.vs.toArray⟩, .int .i64 it'.o.n, .slice sa sn sc], .agg #[.int .i64 it'.o.k, .slice pa' pn' pc', .int .i64 it'.o.vk, .int .i64 it'.o.vn, .string ⟨it'.o.vs.toArray⟩, .int .i64 it'.o.n, .slice sa' sn' sc']]) (by kernel_rfl) (by kernel_rfl) (by kernel_rfl) (fun _ => by kernel_rfl) (HQ _ hH0.below) ?_
      rintro e w1 ⟨rfl, hb1⟩
      have hH1 := hH0.on hb1
      refine ⟨.bool true, rfl, hH1, ?_⟩
      refine held_take (i := 36) (o := { dst := some 53, op := Op.unOp UnOp.not 4 (Operand.tmp 52), type := 4, pos := "law.go:37", after := #[{ on := 35, ground := Ground.data }, { on := 24, ground := Ground.guard }], guard := some (24, false) }) (v := .bool false) (by kernel_rfl) (by kernel_rfl) (by kernel_rfl) (by kernel_rfl) (fun _ _ _ h => h) (by kernel_rfl) (fun W _ => exec_un rfl (by kernel_rfl) (not_of true) W) hH1 ?_
      refine held_take (i := 37) (o := { dst := some 54, op := Op.pick (Operand.tmp 41) (Operand.const (Value.bool true)) (Operand.tmp 53), type := 4, pos := "law.go:37", after := #[{ on := 24, ground := Ground.data }, { on := 36, ground := Ground.data }], guard := none }) (v := .bool false) (by kernel_rfl) (by kernel_rfl) (by kernel_rfl) (by kernel_rfl) (fun _ _ _ h => h) (by kernel_rfl) (fun _ _ => by kernel_rfl) hH1 ?_
      refine wpAnyH_done (by kernel_rfl) ?_ _
      simp only [Act.put, List.setIfInBounds_toArray, List.set_cons_zero, List.set_cons_succ]
      go_wp2
      go_roundw
      case rel => exact ⟨k + 1, by omega, by go_num, bchain hbw hH1.below⟩
      case measure => simp [intOf]; omega
    · go_wp2
      go_ret
      exact ⟨rfl, hbw⟩

set_option maxRecDepth 20000 in
set_option maxHeartbeats 2000000 in
theorem sameItem_any (it : Lv.Item) (pv sv pv' sv' : Value) (w : World) (hsh : Os.short it.o = true) (hX : IOk w (it, pv, sv)) (hY : IOk w (it, pv', sv')) :
    Calls Try.prog 49 #[.agg (icell (it, pv, sv)).toArray, .agg (icell (it, pv', sv')).toArray] w fun e w' => e = .returned (.bool true) ∧ Below w.heap.size w w' := by
  obtain ⟨pa, pn, pc, rfl⟩ := strs_slice hX.1
  obtain ⟨sa, sn, sc, rfl⟩ := refs_slice hX.2
  obtain ⟨pa', pn', pc', rfl⟩ := strs_slice hY.1
  obtain ⟨sa', sn', sc', rfl⟩ := refs_slice hY.2
  have B0 := below_new2 w (.cells (icell (it, .slice pa pn pc, .slice sa sn sc)).toArray 56) (.cells (icell (it, .slice pa' pn' pc', .slice sa' sn' sc')).toArray 56)
  have HQ := fun W (hb : Below w.heap.size w W) => osame it.o (.slice pa pn pc) (.slice sa sn sc) W it.o (.slice pa' pn' pc') (.slice sa' sn' sc') hsh (hX.on hb).1 (hX.on hb).2 (hY.on hb).1 (hY.on hb).2
  simp only [same_self] at HQ
  have hE := eql_cnt_same it.x
  have hE2 : (it.t == it.t) = true := by simp
  clear hX hY hsh
  show Calls Try.prog 49 #[.agg #[.int .i64 it.x.1.1, .int .i64 it.x.1.2, .int .i64 it.x.2, .int .i64 it.o.k, .slice pa pn pc, .int .i64 it.o.vk, .int .i64 it.o.vn, .string ⟨it.o.vs.toArray⟩, .int .i64 it.o.n, .slice sa sn sc, .int .i64 it.t], .agg #[.int .i64 it.x.1.1, .int .i64 it.x.1.2, .int .i64 it.x.2, .int .i64 it.o.k, .slice pa' pn' pc', .int .i64 it.o.vk, .int .i64 it.o.vn, .string ⟨it.o.vs.toArray⟩, .int .i64 it.o.n, .slice sa' sn' sc', .int .i64 it.t]] w _
  go_enter Try.func49, Try.ntmps49
  go_wp2_with (go_at_call 71; refine (HQ _ B0).mono ?_; rintro e w1 ⟨rfl, hb1⟩)
  go_ret
  exact ⟨rfl, bchain B0 hb1⟩
end Go.Proofs.Ytbeinicbkbkbpaa.O
