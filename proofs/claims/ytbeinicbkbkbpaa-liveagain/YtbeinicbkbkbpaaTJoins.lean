/- The walks of the program's Join and Put. -/
import Derived.Test.YtbeinicbkbkbpaaTRight
import Derived.Test.YtbeinicbkbkbpaaTAppend
namespace Go.Proofs.Ytbeinicbkbkbpaa.T
open Go.Proofs.Ytbeinicbkbkbpaa.D
open Go.RowKit Go.Shelf

section
variable {P : Program} {md : Region.Mode} {ops : Array Oper} {Q : Exit → Act → World → Prop} {S : World → Prop} {i : Nat} {o : Oper} {v : Value} {fuel : Nat} {listed : Array Bool} {a : Act} {w w' : World}
theorem held_doW (ho : ops[i]? = some o) (hr : Region.ready md ops listed = [i]) (hw : Region.wanted o (yielded ops a.tmps) = true) (he : (execOp a.eval o).run P w = .ok .skip w') (hS : S w')
    (h : wpAnyH P md ops Q S fuel (listed.setIfInBounds i true) (a.put o.dst undef) w') : wpAnyH P md ops Q S (fuel + 1) listed a w :=
  wpAnyH_ready hr (by simp) (AllReadyH.cons ho (fun K hK => by
    rw [if_pos hw, Oper.wp, he]
    exact hK.out _ _ hS (fun _ => h)) AllReadyH.nil)
theorem exec_idx0 {x : Operand} {ad : Addr} {n c : Nat} {y : Operand} (ho : o.op = .indexAddr 23 x y) (hx : a.eval x = .slice (some ad) n c) (hy : a.eval y = .int .i64 0) (hk : 0 < n) (w : World) :
    (execOp a.eval o).run Try.prog w = .ok (.value (.pointer (some ad))) w := by
  have h1 : (0 : Int) < (n : Int) := by omega
  unfold execOp
  simp only [ho, hx, hy, Sem.run_bind]
  go_simp
theorem exec_max {x y : Operand} {m n : Int} (ho : o.op = .call { callee := .builtin .max, args := #[x, y], argTypes := #[3, 3] }) (hx : a.eval x = .int .i64 m) (hy : a.eval y = .int .i64 n) (w : World) :
    (execOp a.eval o).run Try.prog w = .ok (.value (.int .i64 (max m n))) w := by
  have e : (if n > m then n else m) = max m n := by split <;> omega
  unfold execOp
  simp only [ho, Sem.run_bind, resolve, List.map_toArray, List.map_cons, List.map_nil, hx, hy, Sem.run_pure, Result.andThen_ok, invoke]
  show (do pure (.value (← Builtin.max_ #[3, 3] o.type #[.int .i64 m, .int .i64 n])) : Sem Next).run Try.prog w = _
  simp only [Sem.run_bind, run_max_int2, Result.andThen_ok, Sem.run_pure, e]
theorem exec_stN {x y : Operand} {b : Nat} {u : U} {z : Int} (ho : o.op = .store 3 x y) (hx : a.eval x = .pointer (some ⟨b, 0 + 2, none⟩)) (hy : a.eval y = .int .i64 z) (h : CAt w ⟨b, 0, none⟩ u) (hf : w.frozen? ⟨b, 2, none⟩ = false) :
    (execOp a.eval o).run Try.prog w = .ok .skip (w.setCell ⟨b, 2, none⟩ (.int .i64 z)) := by
  obtain ⟨_, _, h2⟩ := h
  simp only [Nat.zero_add] at hx h2
  unfold execOp
  simp only [ho, hx, hy, Sem.run_bind]
  go_simp
end
/-- How long a slice is. -/
def slen : Value → Nat
  | .slice _ n _ => n
  | _ => 0
theorem cntsIn.slen {w : World} {v : Value} {l : List U} (h : cntsIn w v l) : slen v = l.length := by
  obtain ⟨ao, cap, rfl, _⟩ := h
  rfl
theorem cntsIn.rest {w : World} {ad : Addr} {n cap : Nat} {u : U} {l : List U} (h : cntsIn w (.slice (some ad) n cap) (u :: l)) : cntsIn w (.slice (if cap = 1 then some ad else some ⟨ad.block, ad.off + 3, none⟩) (n - 1) (cap - 1)) l := by
  by_cases e : cap = 1
  · rw [if_pos e]
    subst e
    obtain ⟨ao, c, hv, hm, _, _⟩ := h
    cases hv
    cases l with
    | nil => exact cntsIn_none w ad 0
    | cons y l => simp at hm
  · rw [if_neg e]
    have h2 := h.tail
    rwa [show ad.add 3 = ⟨ad.block, ad.off + 3, none⟩ from rfl] at h2
/-- Where the join stands. -/
structure JI (w : World) (N : Nat) (J : List U) (va vb r : Value) (wr : World) (a b acc : List U) : Prop where
  fst : cntsIn w va a
  snd : cntsIn w vb b
  own : wr.ownsRow w.heap.size 59 3 r acc.length (ucells acc)
  tells : acc ++ Ct.join a b = J
  few : acc.length + (a.length + b.length) ≤ N
  below : Below w.heap.size w wr

set_option maxRecDepth 20000 in
set_option maxHeartbeats 2000000 in
theorem join_any (va vb : Value) (a b : List U) (w : World) (ha : cntsIn w va a) (hb : cntsIn w vb b) (hn : a.length + b.length ≤ 1000000) :
    Calls Try.prog 54 #[va, vb] w fun e w' => ∃ r, e = .returned r ∧ w'.ownsRow w.heap.size 59 3 r (Ct.join a b).length (ucells (Ct.join a b)) ∧ Below w.heap.size w w' := by
  obtain ⟨i0, hi, hz, hz1, hz2⟩ := info26
  obtain ⟨J, hJ⟩ : ∃ J, J = Ct.join a b := ⟨_, rfl⟩
  rw [← hJ]
  have HA : Hid (cntsIn w va a) := ha
  have HB : Hid (cntsIn w vb b) := hb
  have HJ : Hid (J = Ct.join a b) := hJ
  clear hJ
  obtain ⟨ao, ca, rfl, _, _, h9⟩ := ha
  obtain ⟨bo, cb, rfl, _, _, h8⟩ := hb
  clear h8 h9
  obtain ⟨na, hna⟩ : ∃ n, n = a.length := ⟨_, rfl⟩
  obtain ⟨nb, hnb⟩ : ∃ n, n = b.length := ⟨_, rfl⟩
  have HL : Hid (na = a.length ∧ nb = b.length) := ⟨hna, hnb⟩
  rw [← hna] at hn HA ⊢
  rw [← hnb] at hn HB ⊢
  clear hna hnb
  go_enter Try.func54, Try.ntmps54
  go_wp2_with (at_make; go_loud (refine wpList_make_own _ rfl _ _ 23 rfl w.heap.size 59 i0 _ 3 Try.underlying23 hi hz hz1 _ _ _ (na + nb) rfl rfl (by omega) (by rw [hz2]; omega) (by unfold maxLen; omega) (Nat.le_refl _) ?_); intro w1 hown hgrow)
  have hbw0 : Below w.heap.size w w1 := (Below.refl _ _).grown hgrow (Nat.le_refl _) (fun k hk => by cases hk)
  go_loopw [0, 1, 5, 6, 7] (fun x y r _ _ wr => ∃ a' b' acc, Hid (JI w (na + nb) J x y r wr a' b' acc)) (fun x y _ _ _ _ => slen x + slen y)
  case atStart =>
    refine ⟨a, b, [], ?_⟩
    have h : JI w (na + nb) J (.slice ao na ca) (.slice bo nb cb) (.slice (some ⟨w.heap.size, 0, none⟩) 0 (na + nb)) w1 a b [] := ⟨HA.out, HB.out, hown, HJ.out.symm, by have := HL.out; simp; omega, hbw0⟩
    exact h
  case round =>
    clear hown hgrow hbw0
    obtain ⟨a', b', acc, HI⟩ := hrel
    obtain ⟨fst, snd, own, tells, few, below⟩ := HI.out
    have hB := below.size
    have hall : ∀ {r2 : Value} {w3 : World} {l : List U}, w3.ownsRow w.heap.size 59 3 r2 l.length (ucells l) → l = acc ++ Ct.join a' b' → w3.ownsRow w.heap.size 59 3 r2 J.length (ucells J) := fun h e => by rw [← tells, ← e]; exact h
    cases a' with
    | nil =>
      obtain ⟨ao1, c1, rfl, _, _, h9⟩ := id fst
      clear h9
      obtain ⟨bo1, d1, rfl, _, _, h9⟩ := id snd
      clear h9
      have f1 : acc.length + ([] : List U).length ≤ 2000000 := by simp at few ⊢; omega
      have f2 : (acc ++ ([] : List U)).length + b'.length ≤ 2000000 := by simp at few ⊢; omega
      clear tells
      go_wp2_with (at_builtin; first | (refine append_cnts rfl _ _ rfl w.heap.size hB _ acc rfl own _ [] rfl (fst.on below) f1 ?_; intro r1 w2 own1 below1; have hB2 := Nat.le_trans hB below1.size) | (refine append_cnts rfl _ _ rfl w.heap.size hB2 _ (acc ++ []) rfl own1 _ b' rfl (snd.on (below.trans below1)) f2 ?_; intro r2 w3 own2 below2))
      go_ret
      exact ⟨_, rfl, hall own2 (by rw [Ct.nil_join]; simp), (below.trans below1).trans below2⟩
    | cons x a' =>
      cases b' with
      | nil =>
        obtain ⟨ao1, c1, rfl, _, _, h9⟩ := id fst
        clear h9
        obtain ⟨bo1, d1, rfl, _, _, h9⟩ := id snd
        clear h9
        have f1 : acc.length + (x :: a').length ≤ 2000000 := by simp at few ⊢; omega
        have f2 : (acc ++ x :: a').length + ([] : List U).length ≤ 2000000 := by simp at few ⊢; omega
        have f3 : (0 : Int) < (((x :: a').length : Nat) : Int) := by simp only [List.length_cons]; omega
        clear tells few
        have HF : Hid (acc.length + (x :: a').length ≤ 2000000 ∧ (acc ++ x :: a').length + ([] : List U).length ≤ 2000000) := ⟨f1, f2⟩
        clear f1 f2
        obtain ⟨m, hm⟩ : ∃ m, m = (x :: a').length := ⟨_, rfl⟩
        rw [← hm] at fst f3 ⊢
        clear hm
        go_wp2_with (at_builtin; first | (refine append_cnts rfl _ _ rfl w.heap.size hB _ acc rfl own _ (x :: a') rfl (fst.on below) HF.out.1 ?_; intro r1 w2 own1 below1; have hB2 := Nat.le_trans hB below1.size) | (refine append_cnts rfl _ _ rfl w.heap.size hB2 _ (acc ++ x :: a') rfl own1 _ [] rfl (snd.on (below.trans below1)) HF.out.2 ?_; intro r2 w3 own2 below2))
        go_ret
        exact ⟨_, rfl, hall own2 (by rw [Ct.join_nil]; simp), (below.trans below1).trans below2⟩
      | cons y b' =>
        obtain ⟨ao1, c1, rfl, _, _, h9⟩ := id fst
        clear h9
        obtain ⟨bo1, d1, rfl, _, _, h9⟩ := id snd
        clear h9
        obtain ⟨ad, rfl, hx⟩ := fst.head
        obtain ⟨bd, rfl, hy⟩ := snd.head
        have ft := fst.rest
        have st := snd.rest
        obtain ⟨m, hm⟩ : ∃ m, m = (x :: a').length := ⟨_, rfl⟩
        obtain ⟨k, hk⟩ : ∃ k, k = (y :: b').length := ⟨_, rfl⟩
        have HF : Hid (m = a'.length + 1 ∧ k = b'.length + 1) := by have h : m = a'.length + 1 ∧ k = b'.length + 1 := ⟨hm, hk⟩; exact h
        have f3 : (0 : Int) < (m : Int) := by have := HF.out; omega
        have f4 : (0 : Int) < (k : Int) := by have := HF.out; omega
        have f5 : m ≤ 1000000 := by have := HF.out; simp at few; omega
        have f6 : k ≤ 1000000 := by have := HF.out; simp at few; omega
        rw [← hm] at fst ft ⊢
        rw [← hk] at snd st ⊢
        have HFst : Hid (cntsIn w (.slice (some ad) m c1) (x :: a')) := fst
        have HSnd : Hid (cntsIn w (.slice (some bd) k d1) (y :: b')) := snd
        have HT : Hid (acc ++ Ct.join (x :: a') (y :: b') = J) := tells
        clear hm hk tells hall fst snd
        have HQ := fun W => comp_any x.1.1 x.1.2 y.1.1 y.1.2 W
        obtain ⟨x0, x1, x2⟩ := hx.on below
        obtain ⟨y0, y1, y2⟩ := hy.on below
        rcases Dt.comp_cases x.1.1 x.1.2 y.1.1 y.1.2 with ⟨h, e⟩ | ⟨h1, h2, e⟩ | ⟨h, e⟩
        · have h : Ct.lt x.1 y.1 := h
          rw [e] at HQ
          clear e
          go_wp2
          go_region_held3 (fun W => W.cell? ad = some (.int .i64 x.1.1) ∧ W.cell? ⟨ad.block, ad.off + 1, none⟩ = some (.int .i64 x.1.2) ∧ W.cell? bd = some (.int .i64 y.1.1) ∧ W.cell? ⟨bd.block, bd.off + 1, none⟩ = some (.int .i64 y.1.2) ∧ Below wr.heap.size wr W)
            (first | exact ⟨x0, x1, y0, y1, (Below.refl _ _).drew⟩ | go_keep | (refine ⟨keep_cell hb ?_, keep_cell hb ?_, keep_cell hb ?_, keep_cell hb ?_, bchain ?_ hb⟩ <;> go_keep))
            (first | (go_at_call 74; refine (HQ _).mono ?_; rintro e w2 ⟨rfl, hb⟩))
          have hbx : Below wr.heap.size wr w2 := bchain (Below.refl _ _).drew hb
          obtain ⟨x0, x1, x2⟩ := (hx.on below).on hbx
          obtain ⟨y0, y1, y2⟩ := (hy.on below).on hbx
          have f7 : acc.length + [x].length ≤ 2000000 := by simp at few ⊢; omega
          have own2 := own_on (own_on own hbx) (below_new2 w2 (.cells #[.int .i64 x.1.1, .int .i64 x.1.2, .int .i64 x.2] 59) (.cells #[.int .i64 x.1.1, .int .i64 x.1.2, .int .i64 x.2] 59))
          have hone := cntsIn_one (w2.alloc (.cells #[.int .i64 x.1.1, .int .i64 x.1.2, .int .i64 x.2] 59)) x
          have hsz : (w2.alloc (.cells #[.int .i64 x.1.1, .int .i64 x.1.2, .int .i64 x.2] 59)).heap.size = w2.heap.size + 1 := by simp
          rw [hsz] at hone
          have below2 : Below w.heap.size w ((w2.alloc (.cells #[.int .i64 x.1.1, .int .i64 x.1.2, .int .i64 x.2] 59)).alloc (.cells #[.int .i64 x.1.1, .int .i64 x.1.2, .int .i64 x.2] 59)) := below.trans ((bchain hbx (below_new2 _ _ _)).mono hB)
          go_wp2_with (at_builtin; refine append_cnts rfl _ _ rfl w.heap.size below2.size _ acc rfl own2 _ [x] rfl hone f7 ?_; intro r3 w3 own3 below3)
          go_roundw
          case rel =>
            refine ⟨a', y :: b', acc ++ [x], ?_⟩
            have h : JI w (na + nb) J _ _ r3 w3 a' (y :: b') (acc ++ [x]) := ⟨ft, HSnd.out, own3, by rw [← HT.out, Ct.join_lt h, List.append_assoc]; rfl, by simp at few ⊢; omega, below2.trans below3⟩
            exact h
          case measure => simp only [slen]; omega
        · have HEQ : Hid (x.1 = y.1) := by have h : x.1 = y.1 := Prod.ext h1 h2; exact h
          clear h1 h2
          rw [e] at HQ
          clear e
          go_wp2
          go_region_held3 (fun W => W.cell? ad = some (.int .i64 x.1.1) ∧ W.cell? ⟨ad.block, ad.off + 1, none⟩ = some (.int .i64 x.1.2) ∧ W.cell? bd = some (.int .i64 y.1.1) ∧ W.cell? ⟨bd.block, bd.off + 1, none⟩ = some (.int .i64 y.1.2) ∧ Below wr.heap.size wr W)
            (first | exact ⟨x0, x1, y0, y1, (Below.refl _ _).drew⟩ | go_keep | (refine ⟨keep_cell hb ?_, keep_cell hb ?_, keep_cell hb ?_, keep_cell hb ?_, bchain ?_ hb⟩ <;> go_keep))
            (first | (go_at_call 74; refine (HQ _).mono ?_; rintro e w2 ⟨rfl, hb⟩))
          have hbx : Below wr.heap.size wr w2 := bchain (Below.refl _ _).drew hb
          obtain ⟨x0, x1, x2⟩ := (hx.on below).on hbx
          obtain ⟨y0, y1, y2⟩ := (hy.on below).on hbx
          have f4n : 0 < k := by omega
          have hux : CAt (w2.alloc (.cells #[.int .i64 x.1.1, .int .i64 x.1.2, .int .i64 x.2] 59)).drew ⟨w2.heap.size, 0, none⟩ x := (CAt.new w2 x).on (Below.refl _ _).drew
          have huy : CAt (w2.alloc (.cells #[.int .i64 x.1.1, .int .i64 x.1.2, .int .i64 x.2] 59)).drew bd y := (((hy.on below).on hbx).on (below_new _ _)).on (Below.refl _ _).drew
          obtain ⟨W9, hW9⟩ : ∃ W9, W9 = (w2.alloc (.cells #[.int .i64 x.1.1, .int .i64 x.1.2, .int .i64 x.2] 59)).drew.setCell ⟨w2.heap.size, 2, none⟩ (.int .i64 (max x.2 y.2)) := ⟨_, rfl⟩
          have hu9 : CAt W9 ⟨w2.heap.size, 0, none⟩ (x.1, max x.2 y.2) := by
            rw [hW9]
            exact ⟨(World.cell?_setCell_other _ _ _ _ (by simp)).trans hux.1, (World.cell?_setCell_other _ _ _ _ (by simp)).trans hux.2.1, World.cell?_setCell_same _ _ _ hux.2.2⟩
          have hb9 : Below wr.heap.size wr W9 := by rw [hW9]; exact (bchain hbx (below_new _ _)).drew.setCell (p := ⟨w2.heap.size, 2, none⟩) hbx.size _
          have hs9 : w2.heap.size < W9.heap.size := by rw [hW9]; simp
          go_wp2
          refine wp_region_held_drew (S := fun _ => True) (by kernel_rfl) trivial (fun _ => ?_)
          refine held_take (i := 0) (o := { dst := some 40, op := Op.fieldAddr 59 (Operand.tmp 7) 1, type := 0, pos := "tally.go:54", after := #[], guard := none }) (v := .pointer (some ⟨w2.heap.size, 0 + 2, none⟩)) (by kernel_rfl) (by kernel_rfl) (by kernel_rfl) (by kernel_rfl) (fun _ _ _ h => h) (by kernel_rfl) (fun W _ => exec_fld1 (p := ⟨w2.heap.size, 0, none⟩) rfl (by kernel_rfl) W) trivial ?_
          refine held_take (i := 2) (o := { dst := some 42, op := Op.move (Operand.tmp 1), type := 23, pos := "tally.go:54", after := #[], guard := none }) (v := .slice (some bd) k d1) (by kernel_rfl) (by kernel_rfl) (by kernel_rfl) (by kernel_rfl) (fun _ _ _ h => h) (by kernel_rfl) (fun _ _ => by kernel_rfl) trivial ?_
          refine held_take (i := 3) (o := { dst := some 43, op := Op.indexAddr 23 (Operand.tmp 42) (Operand.const (Value.int IntKind.i64 0)), type := 0, pos := "tally.go:54", after := #[{ on := 2, ground := Ground.data }], guard := none }) (v := .pointer (some bd)) (by kernel_rfl) (by kernel_rfl) (by kernel_rfl) (by kernel_rfl) (fun _ _ _ h => h) (by kernel_rfl) (fun W _ => exec_idx0 (n := k) (c := d1) rfl (by kernel_rfl) rfl f4n W) trivial ?_
          refine held_take (i := 4) (o := { dst := some 44, op := Op.fieldAddr 59 (Operand.tmp 43) 1, type := 0, pos := "tally.go:54", after := #[{ on := 3, ground := Ground.data }], guard := none }) (v := .pointer (some ⟨bd.block, bd.off + 2, none⟩)) (by kernel_rfl) (by kernel_rfl) (by kernel_rfl) (by kernel_rfl) (fun _ _ _ h => h) (by kernel_rfl) (fun W _ => exec_fld1 rfl (by kernel_rfl) W) trivial ?_
          refine held_pair (i := 1) (j := 5) (o := { dst := some 41, op := Op.load 3 (Operand.tmp 40), type := 3, pos := "tally.go:54", after := #[{ on := 0, ground := Ground.data }], guard := none }) (o' := { dst := some 45, op := Op.load 3 (Operand.tmp 44), type := 3, pos := "tally.go:54", after := #[{ on := 4, ground := Ground.data }], guard := none }) (v := .int .i64 x.2) (v' := .int .i64 y.2) (by kernel_rfl) (by kernel_rfl) (by kernel_rfl) (by kernel_rfl) (by kernel_rfl) (by kernel_rfl) (by kernel_rfl) (by kernel_rfl) (by kernel_rfl)
            (exec_ldN (p := ⟨w2.heap.size, 0, none⟩) rfl (by kernel_rfl) hux) (exec_ldN (p := bd) rfl (by kernel_rfl) huy) (exec_ldN (p := bd) rfl (by kernel_rfl) huy) (exec_ldN (p := ⟨w2.heap.size, 0, none⟩) rfl (by kernel_rfl) hux) (by kernel_rfl) (by kernel_rfl) trivial ?_
          refine held_do (i := 6) (o := { dst := some 46, op := Op.call { callee := Callee.builtin Builtin.max, args := #[Operand.tmp 41, Operand.tmp 45], argTypes := #[3, 3] }, type := 3, pos := "tally.go:54", after := #[{ on := 1, ground := Ground.data }, { on := 5, ground := Ground.data }], guard := none }) (v := .int .i64 (max x.2 y.2)) (by kernel_rfl) (by kernel_rfl) (by kernel_rfl) (exec_max rfl (by kernel_rfl) (by kernel_rfl) _) trivial ?_
          refine held_do (i := 7) (o := { dst := some 47, op := Op.fieldAddr 59 (Operand.tmp 7) 1, type := 0, pos := "tally.go:54", after := #[{ on := 0, ground := Ground.phase }, { on := 1, ground := Ground.phase }, { on := 2, ground := Ground.phase }, { on := 3, ground := Ground.phase }, { on := 4, ground := Ground.phase }, { on := 5, ground := Ground.phase }, { on := 6, ground := Ground.phase }], guard := none }) (v := .pointer (some ⟨w2.heap.size, 0 + 2, none⟩)) (by kernel_rfl) (by kernel_rfl) (by kernel_rfl) (exec_fld1 (p := ⟨w2.heap.size, 0, none⟩) rfl (by kernel_rfl) _) trivial ?_
          refine held_doW (i := 8) (o := { dst := none, op := Op.store 3 (Operand.tmp 47) (Operand.tmp 46), type := 0, pos := "tally.go:54", after := #[{ on := 7, ground := Ground.data }, { on := 6, ground := Ground.data }, { on := 0, ground := Ground.phase }, { on := 1, ground := Ground.phase }, { on := 2, ground := Ground.phase }, { on := 3, ground := Ground.phase }, { on := 4, ground := Ground.phase }, { on := 5, ground := Ground.phase }, { on := 6, ground := Ground.phase }], guard := none }) (by kernel_rfl) (by kernel_rfl) (by kernel_rfl) (exec_stN (b := w2.heap.size) (z := max x.2 y.2) rfl (by kernel_rfl) (by kernel_rfl) hux (by simp)) trivial ?_
          refine wpAnyH_done (by kernel_rfl) ?_ _
          simp only [Act.put, List.setIfInBounds_toArray, List.set_cons_zero, List.set_cons_succ]
          rw [← hW9]
          clear hW9 hux huy x0 x1 x2
          obtain ⟨z0, z1, z2⟩ := hu9
          have f7 : acc.length + [(x.1, max x.2 y.2)].length ≤ 2000000 := by simp at few ⊢; omega
          have own2 := own_on (own_on own hb9) (below_new W9 (.cells #[.int .i64 x.1.1, .int .i64 x.1.2, .int .i64 (max x.2 y.2)] 59))
          have hone := cntsIn_one W9 (x.1, max x.2 y.2)
          have below2 : Below w.heap.size w (W9.alloc (.cells #[.int .i64 x.1.1, .int .i64 x.1.2, .int .i64 (max x.2 y.2)] 59)) := below.trans ((bchain hb9 (below_new _ _)).mono hB)
          go_wp2_with (at_builtin; refine append_cnts rfl _ _ rfl w.heap.size below2.size _ acc rfl own2 _ [(x.1, max x.2 y.2)] rfl hone f7 ?_; intro r3 w3 own3 below3)
          go_roundw
          case rel =>
            refine ⟨a', b', acc ++ [(x.1, max x.2 y.2)], ?_⟩
            have h : JI w (na + nb) J _ _ r3 w3 a' b' (acc ++ [(x.1, max x.2 y.2)]) := ⟨ft, st, own3, by rw [← HT.out, Ct.join_eq HEQ.out, List.append_assoc]; rfl, by simp at few ⊢; omega, below2.trans below3⟩
            exact h
          case measure => simp only [slen]; omega
        · have hgt : Ct.lt y.1 x.1 := by simp only [Ct.lt]; omega
          clear h
          rw [e] at HQ
          clear e
          go_wp2
          go_region_held3 (fun W => W.cell? ad = some (.int .i64 x.1.1) ∧ W.cell? ⟨ad.block, ad.off + 1, none⟩ = some (.int .i64 x.1.2) ∧ W.cell? bd = some (.int .i64 y.1.1) ∧ W.cell? ⟨bd.block, bd.off + 1, none⟩ = some (.int .i64 y.1.2) ∧ Below wr.heap.size wr W)
            (first | exact ⟨x0, x1, y0, y1, (Below.refl _ _).drew⟩ | go_keep | (refine ⟨keep_cell hb ?_, keep_cell hb ?_, keep_cell hb ?_, keep_cell hb ?_, bchain ?_ hb⟩ <;> go_keep))
            (first | (go_at_call 74; refine (HQ _).mono ?_; rintro e w2 ⟨rfl, hb⟩))
          have hbx : Below wr.heap.size wr w2 := bchain (Below.refl _ _).drew hb
          obtain ⟨x0, x1, x2⟩ := (hx.on below).on hbx
          obtain ⟨y0, y1, y2⟩ := (hy.on below).on hbx
          have f7 : acc.length + [y].length ≤ 2000000 := by simp at few ⊢; omega
          have own2 := own_on (own_on own hbx) (below_new2 w2 (.cells #[.int .i64 y.1.1, .int .i64 y.1.2, .int .i64 y.2] 59) (.cells #[.int .i64 y.1.1, .int .i64 y.1.2, .int .i64 y.2] 59))
          have hone := cntsIn_one (w2.alloc (.cells #[.int .i64 y.1.1, .int .i64 y.1.2, .int .i64 y.2] 59)) y
          have hsz : (w2.alloc (.cells #[.int .i64 y.1.1, .int .i64 y.1.2, .int .i64 y.2] 59)).heap.size = w2.heap.size + 1 := by simp
          rw [hsz] at hone
          have below2 : Below w.heap.size w ((w2.alloc (.cells #[.int .i64 y.1.1, .int .i64 y.1.2, .int .i64 y.2] 59)).alloc (.cells #[.int .i64 y.1.1, .int .i64 y.1.2, .int .i64 y.2] 59)) := below.trans ((bchain hbx (below_new2 _ _ _)).mono hB)
          go_wp2_with (at_builtin; refine append_cnts rfl _ _ rfl w.heap.size below2.size _ acc rfl own2 _ [y] rfl hone f7 ?_; intro r3 w3 own3 below3)
          go_roundw
          case rel =>
            refine ⟨b', x :: a', acc ++ [y], ?_⟩
            have h : JI w (na + nb) J _ _ r3 w3 b' (x :: a') (acc ++ [y]) := ⟨st, HFst.out, own3, by rw [← HT.out, Ct.join_gt hgt, List.append_assoc, Ct.join_turn b']; rfl, by simp at few ⊢; omega, below2.trans below3⟩
            exact h
          case measure => simp only [slen]; omega
end Go.Proofs.Ytbeinicbkbkbpaa.T
