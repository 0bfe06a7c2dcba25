/- The walk of view's Of: what is at all leaves: a copy of the items, put in order by their leaves, is taken leaf by leaf · The entries of items that may be: their lines can be told. -/
import Derived.Test.YthlhopdlkkeohaaGreatDoorESortAll
import Derived.Test.YthlhopdlkkeohaaGreatDoorKeysAll
import Derived.Test.YthlhopdlkkeohaaGreatDoorERefLineAll
/- The walk of view's Of: what is at all leaves: a copy of the items, put in order by their leaves, is taken leaf by leaf. -/
namespace Go.Proofs.YthlhopdlkkeohaaGreatDoor.O
open Go.RowKit

theorem ex_cut {o : Oper} {a : Act} {x y : Operand} {X Y V : Value} (ho : o.op = .slice 28 x none (some y) none) (hx : a.eval x = X) (hy : a.eval y = Y) (hs : ∀ wx, (Instr.slice 28 X none (some Y) none).run Tryz.prog wx = .ok V wx) (w : World) : (execOp a.eval o).run Tryz.prog w = .ok (.value V) w := by
  unfold execOp
  simp only [ho, hx, hy, Sem.run_bind, Option.map_some, Option.map_none]
  go_simp
theorem cut_run {ao : Option Addr} {n cap i : Nat} (h : i ≤ n) (hc : n ≤ cap) (wx : World) : (Instr.slice 28 (.slice ao n cap) none (some (.int .i64 (i : Int))) none).run Tryz.prog wx = .ok (.slice ao i cap) wx := by
  have h0 : (0 : Int) ≤ (i : Int) := by omega
  have h2 : (i : Int) ≤ (cap : Int) := by omega
  go_simp
theorem drop_run {ao : Option Addr} {n cap i : Nat} (h : i ≤ n) (hc : n ≤ cap) (wx : World) : (Instr.slice 28 (.slice ao n cap) (some (.int .i64 (i : Int))) none none).run Tryz.prog wx = .ok (.slice (if cap = i then ao else ao.map (·.add (i * 11))) (n - i) (cap - i)) wx := by
  have h0 : (0 : Int) ≤ (i : Int) := by omega
  have h1 : (i : Int) ≤ (n : Int) := by omega
  have h2 : (n : Int) ≤ (cap : Int) := by omega
  have h3 : (i : Int) ≤ (cap : Int) := by omega
  go_simp
/-- An entry whose path's row and whose values' row a call made. -/
structure EOwnP (W : World) (B : Nat) (out : Value) (x : EE) : Prop where
  path : W.ownsRow B 9 1 x.2.1 x.1.p.length (U.cellsS x.1.p)
  vals : rowR vcell 3 W B x.2.2 x.1.l
  sep : ∀ g, x.2.2.ownBlock = some g → 0 < x.1.l.length → out.ownBlock ≠ some g
theorem EOwnP.on {W W' : World} {B : Nat} {out : Value} {x : EE} (h : EOwnP W B out x) (hb : Below W.heap.size W W') : EOwnP W' B out x := ⟨own_on h.path hb, h.vals.on hb, h.sep⟩
theorem EOwnP.ok {W : World} {B : Nat} {out : Value} {x : EE} (h : EOwnP W B out x) : EOk W x := ⟨U.strsAt_own h.path, h.vals.rows vcell_len⟩
theorem EOwnP.grown {W W' : World} {B n n' : Nat} {out out' pv : Value} {cs cs' : List Value} {x : EE} (h : EOwnP W B out x) (hown : W.ownsRow B 38 4 out n cs) (hg : W.grownBy W' out.ownBlock) (hown' : W'.ownsRow B 38 4 out' n' cs') (hc : cs'[0]? = some pv) (hp : ∃ ao m c, pv = .slice ao m c) : EOwnP W' B out' x := by
  refine ⟨own_grown_other h.path hg (own_types h.path hown (by decide)), ?_, fun g e hl => sep_new hg hown' hc hp h.vals hl e (h.sep g e hl)⟩
  rcases Nat.eq_zero_or_pos x.1.l.length with q | q
  · have e0 := List.eq_nil_of_length_eq_zero q
    rcases h.vals with ⟨e1, _⟩ | ⟨g, cap, e1, h2, h3, h4, h5⟩
    · exact .inl ⟨e1, e0⟩
    · exact .inr ⟨g, cap, e1, h2, h3, h4, Nat.lt_of_lt_of_le h5.1 hg.size, fun k hk => absurd hk (by omega)⟩
  · exact h.vals.keep fun g e => hg.block g (h.vals.lt e).2 fun x => h.sep g e q x.symm
theorem first_slice {W : World} {B : Nat} {out : Value} {acc : List EE} (h : ∀ x ∈ acc, EOwnP W B out x) {y : EE} (hy : ∃ ao m c, y.2.1 = .slice ao m c) : ∃ pv, ((acc ++ [y]).flatMap ecell)[0]? = some pv ∧ ∃ ao m c, pv = .slice ao m c := by
  cases acc with
  | nil => exact ⟨y.2.1, rfl, hy⟩
  | cons a r =>
    obtain ⟨ao, m, c, e⟩ := own_slice (h a (by simp)).path
    exact ⟨a.2.1, rfl, ao, m, c, e⟩

/-- What is left to be told while leaves are gone through. -/
structure OfI (wL : World) (its : List Lv.Item) (ls : List Tr.Leaf) (k : Nat) (cur : Value) (rest : List IE) (acc : List Vw.Entry) : Prop where
  cur : itsE wL cur rest
  up : Vw.Up (rest.map (·.1))
  lv : Tr.leaves (rest.map (·.1)) = ls.drop k
  of : acc ++ Vw.of (rest.map (·.1)) = Vw.of its
  len : rest.length ≤ 1000000
  short : ShortI rest
  small : C.SmallN rest
  alen : acc.length = k
theorem OfI.full {wL : World} {its : List Lv.Item} {ls : List Tr.Leaf} {k n cap : Nat} {ao : Option Addr} {rest : List IE} {acc : List Vw.Entry} (h : OfI wL its ls k (.slice ao n cap) rest acc) (hk : k < ls.length) : ∃ ad, ao = some ad := by
  have h0 : rest ≠ [] := fun e => by
    have h1 : Tr.leaves (rest.map (·.1)) = ls[k] :: ls.drop (k + 1) := h.lv.trans (List.drop_eq_getElem_cons hk)
    rw [e] at h1
    have h2 : ([] : List Tr.Leaf) = ls[k] :: ls.drop (k + 1) := h1
    cases h2
  obtain ⟨ad, e, _⟩ := h.cur.get (k := 0) (List.length_pos_iff.2 h0)
  exact ⟨ad, e⟩
theorem OfI.step {wL : World} {its : List Lv.Item} {ls : List Tr.Leaf} {k cap : Nat} {ao : Option Addr} {rest : List IE} {acc : List Vw.Entry} (h : OfI wL its ls k (.slice ao rest.length cap) rest acc) (hk : k < ls.length) {n9 : Nat} (hr : Vw.Run ls[k] (rest.map (·.1)) n9) :
    OfI wL its ls (k + 1) (.slice (if cap = n9 then ao else ao.map (·.add (n9 * 11))) (rest.length - n9) (cap - n9)) (rest.drop n9) (acc ++ [Vw.at' ((rest.take n9).map (·.1)) ls[k].1 ls[k].2]) := by
  have hl := h.lv
  rw [List.drop_eq_getElem_cons hk] at hl
  obtain ⟨e1, e2⟩ := Vw.split h.up hl hr
  have hle : n9 ≤ rest.length := by have := hr.1; simpa using this
  refine ⟨h.cur.dropAt hle, ?_, ?_, ?_, ?_, fun x hx => h.short x (List.mem_of_mem_drop hx), fun x hx => h.small x (List.mem_of_mem_drop hx), by simp [h.alen]⟩
  · rw [List.map_drop]; exact h.up.drop n9
  · rw [List.map_drop]; exact e2
  · rw [List.map_drop, List.map_take, List.append_assoc, List.singleton_append, ← e1]; exact h.of
  · rw [List.length_drop]; have := h.len; omega
/-- What one round leaves: the items at the leaf, what At tells of them, and the rest. -/
def OfN (wL : World) (its : List Lv.Item) (ls : List Tr.Leaf) (k : Nat) (ad : Addr) (m cap : Nat) (acc : List Vw.Entry) (p : List (List UInt8)) (z : Int) (pv : Value) (n9 : Nat) : Prop :=
  n9 ≤ m ∧ m ≤ cap ∧ ∃ l9 m9, (∀ W, Below wL.heap.size wL W → Calls Tryz.prog 13 #[.slice (some ad) n9 cap, pv, .int .i64 z] W fun e w' => ∃ pa pn pc ra rn rk, e = .returned (entV (.slice pa pn pc) z (.slice ra rn rk) m9) ∧ w'.ownsRow W.heap.size 9 1 (.slice pa pn pc) p.length (U.cellsS p) ∧ rowR vcell 3 w' W.heap.size (.slice ra rn rk) l9 ∧ Below W.heap.size W w') ∧
    ∃ rest', OfI wL its ls (k + 1) (.slice (if cap = n9 then some ad else (some ad).map (·.add (n9 * 11))) (m - n9) (cap - n9)) rest' (acc ++ [⟨p, z, l9, m9⟩])
theorem OfI.next {wL : World} {its : List Lv.Item} {ls : List Tr.Leaf} {k cap : Nat} {ad : Addr} {rest : List IE} {acc : List Vw.Entry} (h : OfI wL its ls k (.slice (some ad) rest.length cap) rest acc) (hk : k < ls.length) {p : List (List UInt8)} {z : Int} (hlk : ls[k] = (p, z)) {pv : Value} (hpv : U.strsAt wL pv p) (hpn : p.length ≤ 1000000) {n9 : Nat} (hr : Vw.Run (p, z) (rest.map (·.1)) n9) : OfN wL its ls k ad rest.length cap acc p z pv n9 := by
  have hle : n9 ≤ rest.length := by have := hr.1; simpa using this
  have hcap : rest.length ≤ cap := by
    obtain ⟨ao', c, e, h1, _⟩ := h.cur.1
    cases e
    exact h1
  refine ⟨hle, hcap, (Vw.at' ((rest.take n9).map (·.1)) p z).l, (Vw.at' ((rest.take n9).map (·.1)) p z).n, fun W hb => ?_, rest.drop n9, ?_⟩
  · exact at18_any _ pv (rest.take n9) _ p z W ((h.cur.cutAt hle).on hb) rfl (U.strsAt_below hpv hb (Nat.le_refl _)) (by rw [List.length_take]; have := h.len; omega) hpn (fun x hx => h.short x (List.mem_of_mem_take hx)) (fun x hx => h.small x (List.mem_of_mem_take hx))
  · have hs := h.step hk (n9 := n9) (by rw [hlk]; exact hr)
    rw [hlk] at hs
    exact hs
/-- A leaf in its variable while a region goes. -/
structure OfP (wL : World) (lb : Nat) (pv : Value) (z : Int) (W : World) : Prop where
  c0 : W.cell? ⟨lb, 0, none⟩ = some pv
  c1 : W.cell? ⟨lb, 1, none⟩ = some (.int .i64 z)
  below : Below wL.heap.size wL W
  low : wL.heap.size ≤ W.heap.size
theorem OfP.on {wL W W' : World} {lb : Nat} {pv : Value} {z : Int} (h : OfP wL lb pv z W) (hb : Below W.heap.size W W') : OfP wL lb pv z W' := ⟨keep_cell hb h.c0, keep_cell hb h.c1, bchain h.below hb, Nat.le_trans h.low hb.size⟩
theorem OfP.grown {wL W W' : World} {lb : Nat} {pv r : Value} {z : Int} {n : Nat} {cs : List Value} (h : OfP wL lb pv z W) (hg : W.grownBy W' r.ownBlock) (hown : W.ownsRow wL.heap.size 38 4 r n cs) (hne : some lb ≠ r.ownBlock) : OfP wL lb pv z W' :=
  ⟨hg.cell h.c0 hne, hg.cell h.c1 hne, h.below.grown hg h.low (fun g e => (hown.lt g e).1), Nat.le_trans h.low hg.size⟩

set_option maxRecDepth 20000 in
set_option maxHeartbeats 4000000 in
theorem of18_any (v : Value) (xs : List IE) (its : List Lv.Item) (w : World) (hv : itsE w v xs) (he : xs.map (·.1) = its) (hn : xs.length ≤ 1000000) (hs : ShortI xs) (hz : C.SmallN xs) :
    Calls Tryz.prog 11 #[v] w fun e w' => ∃ r es, e = .returned r ∧ es.map Prod.fst = Vw.of its ∧ entsE w' r es ∧ Below w.heap.size w w' := by
  obtain ⟨i0, hI0, hz0, hz1, hz2⟩ := einfo38
  have HCn := iclone_any v xs w hv hn
  have HSo : Hid (∀ r wC, wC.ownsRow w.heap.size 76 11 r xs.length (xs.flatMap icell) → Below w.heap.size w wC → Calls Tryz.prog 33 #[r, .func (.func 34) #[] #[]] wC fun e w' => e = .returned (.tuple #[]) ∧ ∃ ys, OfI w' its (Tr.leaves (ys.map (·.1))) 0 r ys [] ∧ Below w.heap.size w w') := by
    have h : ∀ r wC, wC.ownsRow w.heap.size 76 11 r xs.length (xs.flatMap icell) → Below w.heap.size w wC → Calls Tryz.prog 33 #[r, .func (.func 34) #[] #[]] wC fun e w' => e = .returned (.tuple #[]) ∧ ∃ ys, OfI w' its (Tr.leaves (ys.map (·.1))) 0 r ys [] ∧ Below w.heap.size w w' := fun r wC ho hb =>
      (sortI_any r xs w wC hb (rowR.of_own icell_len ho) hv.2 hs hn).mono fun e w' ⟨e1, ys, hp, hu, hr, hb'⟩ => ⟨e1, ys, ⟨⟨hr.rows icell_len, fun y hy => (hv.2 y (hp.mem_iff.1 hy)).on hb'⟩, by show List.Pairwise _ _; rw [List.pairwise_map]; exact hu, rfl, by rw [List.nil_append, ← he]; exact Vw.of_perm (hp.map _), by rw [hp.length_eq]; exact hn, fun y hy => hs y (hp.mem_iff.1 hy), fun y hy => hz y (hp.mem_iff.1 hy), rfl⟩, hb'⟩
    exact h
  have HLv : Hid (∀ r W ys, OfI W its (Tr.leaves (ys.map (·.1))) 0 r ys [] → Calls Tryz.prog 35 #[r] W fun e w' => ∃ zo zc zs, e = .returned (.slice zo zs.length zc) ∧ lvsE w' (.slice zo zs.length zc) zs ∧ OfI w' its (zs.map Prod.fst) 0 r ys [] ∧ zs.length ≤ 1000000 ∧ (∀ x ∈ zs, x.1.1.length ≤ 1000000) ∧ Below W.heap.size W w') := by
    have h : ∀ r W ys, OfI W its (Tr.leaves (ys.map (·.1))) 0 r ys [] → Calls Tryz.prog 35 #[r] W fun e w' => ∃ zo zc zs, e = .returned (.slice zo zs.length zc) ∧ lvsE w' (.slice zo zs.length zc) zs ∧ OfI w' its (zs.map Prod.fst) 0 r ys [] ∧ zs.length ≤ 1000000 ∧ (∀ x ∈ zs, x.1.1.length ≤ 1000000) ∧ Below W.heap.size W w' := fun r W ys h =>
      (leavesT_any r ys W h.cur h.len h.short).mono fun e w' ⟨q, zs, e1, e2, e3, e4⟩ => by
        obtain ⟨zo, zc, rfl⟩ := e3.slice
        refine ⟨zo, zc, zs, e1, e3, ?_, ?_, fun x hx => ?_, e4⟩
        · rw [e2]
          exact ⟨h.cur.on e4, h.up, h.lv, h.of, h.len, h.short, h.small, h.alen⟩
        · have h1 := congrArg List.length e2
          rw [List.length_map] at h1
          have h2 : (Tr.leaves (ys.map (·.1))).length ≤ (ys.map (·.1)).length := by
            unfold Tr.leaves
            refine Nat.le_trans (Li.vals_len _) ?_
            rw [List.length_map]
            exact Nat.le_refl _
          rw [List.length_map] at h2
          have := h.len
          omega
        · have h1 : x.1 ∈ Tr.leaves (ys.map (·.1)) := by rw [← e2]; exact List.mem_map.2 ⟨x, hx, rfl⟩
          obtain ⟨i, hi, e5⟩ := Tr.mem_leaves.1 h1
          obtain ⟨y, hy, rfl⟩ := List.mem_map.1 hi
          have h2 := (short_parts (h.short y hy)).1.1
          have e6 : y.1.o.p = x.1.1 := congrArg Prod.fst e5
          rw [← e6]
          omega
    exact h
  clear hv hs hz he hn
  go_enter Tryz.func11, Tryz.ntmps11
  go_wp2_with (first
    | (go_at_call 32; refine HCn.mono ?_; rintro e wC ⟨r, rfl, hoC, hbC⟩)
    | (go_at_call 33; refine (HSo.out r wC hoC hbC).mono ?_; rintro e wS ⟨rfl, ys, hI0s, hbS⟩; have HIs : Hid (OfI wS its (Tr.leaves (ys.map (·.1))) 0 r ys []) := hI0s; clear hI0s hoC hbC HCn)
    | (go_at_call 35; refine (HLv.out r wS ys HIs.out).mono ?_; rintro e wL ⟨zo, zc, zs, rfl, hlv, hi9, hzl, hzp, hbL⟩; have HI9 : Hid (OfI wL its (zs.map Prod.fst) 0 r ys []) := hi9; have hbSL := bchain hbS hbL; clear hi9 hbS hbL HIs))
  obtain ⟨n, hn0⟩ : ∃ n, n = zs.length := ⟨_, rfl⟩
  have HN : Hid (n = zs.length) := hn0
  rw [← hn0] at hlv hzl ⊢
  have HV : Hid (lvsE wL (.slice zo n zc) zs) := hlv
  have HZP : Hid (∀ x ∈ zs, x.1.1.length ≤ 1000000) := hzp
  clear hn0 hlv hzp HSo HLv
  go_loopw [0, 3, 5, 6, 14] (fun cur out _ _ i wr => ∃ (k : Nat) (acc : List EE) (rest : List IE), k ≤ n ∧ i = .int .i64 k ∧ Hid (OfI wL its (zs.map Prod.fst) k cur rest (acc.map Prod.fst)) ∧ wr.ownsRow wL.heap.size 38 4 out acc.length (acc.flatMap ecell) ∧ Hid (∀ x ∈ acc, EOwnP wr wL.heap.size out x) ∧ Below wL.heap.size wL wr) (fun _ _ _ _ i _ => n - (intOf i).toNat)
  case atStart => exact ⟨0, [], ys, by omega, rfl, HI9, World.ownsRow_nil _ _ _ _, fun x hx => by simp at hx, Below.refl _ _⟩
  case round =>
    obtain ⟨k, acc, rest, hk, rfl, HI, hown, HLo, hbw⟩ := hrel
    obtain ⟨ao, cap, rfl⟩ := HI.out.cur.slice
    have hal : acc.length = k := by have := HI.out.alen; simpa using this
    have hroom : acc.length + 1 ≤ 1000001 := by omega
    clear HI9
    by_cases hkn : k < n
    · have hkx : k < zs.length := by rw [← HN.out]; exact hkn
      have hkl : k < (zs.map Prod.fst).length := by simpa using hkx
      obtain ⟨ad, e0⟩ := HI.out.full hkl
      subst e0
      obtain ⟨zad, e9, -, hX1, hXo⟩ := HV.out.get hkx
      subst e9
      have hX := hX1.on hbw
      have HNx : Hid (∀ n9, Vw.Run zs[k].1 (rest.map (·.1)) n9 → OfN wL its (zs.map Prod.fst) k ad rest.length cap (acc.map Prod.fst) zs[k].1.1 zs[k].1.2 zs[k].2 n9) := by
        have h : ∀ n9, Vw.Run zs[k].1 (rest.map (·.1)) n9 → OfN wL its (zs.map Prod.fst) k ad rest.length cap (acc.map Prod.fst) zs[k].1.1 zs[k].1.2 zs[k].2 n9 := fun n9 hr => HI.out.next hkl (by rw [List.getElem_map]) hXo (HZP.out _ (List.getElem_mem hkx)) hr
        exact h
      have HAh : Hid (∀ W, Below wL.heap.size wL W → Calls Tryz.prog 36 #[.slice (some ad) rest.length cap, .agg #[zs[k].2, .int .i64 zs[k].1.2]] W fun e w' => ∃ n9 : Nat, e = .returned (.int .i64 (n9 : Int)) ∧ Vw.Run zs[k].1 (rest.map (·.1)) n9 ∧ Below W.heap.size W w') := by
        have h : ∀ W, Below wL.heap.size wL W → Calls Tryz.prog 36 #[.slice (some ad) rest.length cap, .agg #[zs[k].2, .int .i64 zs[k].1.2]] W fun e w' => ∃ n9 : Nat, e = .returned (.int .i64 (n9 : Int)) ∧ Vw.Run zs[k].1 (rest.map (·.1)) n9 ∧ Below W.heap.size W w' := fun W hb => ahead_any _ zs[k].2 rest zs[k].1.1 zs[k].1.2 W (HI.out.cur.on hb) (U.strsAt_below hXo hb (Nat.le_refl _)) HI.out.len HI.out.short
        exact h
      clear hX1 HI hal
      generalize rest.length = m at *
      generalize zs[k] = y at *
      obtain ⟨⟨p9, z⟩, pv⟩ := y
      obtain ⟨pa, pn, pc, rfl⟩ := strs_slice hXo
      obtain ⟨x0, x1⟩ := hX
      have bA := below_new wr (.cells #[.slice pa pn pc, .int .i64 z] 85)
      have hq0 : (wr.alloc (.cells #[.slice pa pn pc, .int .i64 z] 85)).cell? ⟨wr.heap.size, 0, none⟩ = some (.slice pa pn pc) := by simp
      have hq1 : (wr.alloc (.cells #[.slice pa pn pc, .int .i64 z] 85)).cell? ⟨wr.heap.size, 1, none⟩ = some (.int .i64 z) := by simp
      have hlb : some wr.heap.size ≠ u3.ownBlock := fun e => by have := (hown.lt _ e.symm).2; omega
      clear hXo
      go_wp2_with (go_at_call 36; refine (HAh.out _ (bchain hbw bA)).mono ?_; rintro e wA ⟨n9, rfl, hrun, hbA⟩; obtain ⟨hn9, hmc, l9, m9, hAT, rest', hI2⟩ := HNx.out n9 hrun; have HAT : Hid (∀ W, Below wL.heap.size wL W → Calls Tryz.prog 13 #[.slice (some ad) n9 cap, .slice pa pn pc, .int .i64 z] W fun e w' => ∃ pa pn pc ra rn rk, e = .returned (entV (.slice pa pn pc) z (.slice ra rn rk) m9) ∧ w'.ownsRow W.heap.size 9 1 (.slice pa pn pc) p9.length (U.cellsS p9) ∧ rowR vcell 3 w' W.heap.size (.slice ra rn rk) l9 ∧ Below W.heap.size W w') := hAT; have HI2 : Hid (OfI wL its (zs.map Prod.fst) (k + 1) (.slice (if cap = n9 then some ad else (some ad).map (·.add (n9 * 11))) (m - n9) (cap - n9)) rest' (acc.map Prod.fst ++ [⟨p9, z, l9, m9⟩])) := hI2; have hdrop := drop_run (ao := some ad) hn9 hmc; clear hrun hAT hI2 HAh HNx)
      have hbwA : Below wL.heap.size wL wA := bchain hbw (bchain bA hbA)
      have hc0 := keep_cell hbA hq0
      have hc1 := keep_cell hbA hq1
      have hownA := own_on hown (bchain bA hbA)
      have HLoA : ∀ x ∈ acc, EOwnP wA wL.heap.size u3 x := fun x hx => (HLo.out x hx).on (bchain bA hbA)
      clear hq0 hq1 bA hbA hown HLo x0 x1 hbw
      generalize (if cap = n9 then some ad else (some ad).map (·.add (n9 * 11))) = bo at *
      generalize m - n9 = mi at *
      generalize cap - n9 = ci at *
      refine wp_region_held_drew (S := fun W => OfP wL wr.heap.size (.slice pa pn pc) z W) (by kernel_rfl) (⟨hc0, hc1, hbwA.drew, hbwA.size⟩) (fun hH0 => ?_)
      refine held_take (i := 0) (o := { dst := some 21, op := Op.move (Operand.tmp 3), type := 32, pos := "view.go:66", after := #[], guard := none }) (v := u3) (by kernel_rfl) (by kernel_rfl) (by kernel_rfl) (by kernel_rfl) (fun _ _ _ h => h) (by kernel_rfl) (fun _ _ => by kernel_rfl) hH0 ?_
      refine held_take (i := 1) (o := { dst := some 22, op := Op.move (Operand.tmp 0), type := 28, pos := "view.go:66", after := #[], guard := none }) (v := .slice (some ad) m cap) (by kernel_rfl) (by kernel_rfl) (by kernel_rfl) (by kernel_rfl) (fun _ _ _ h => h) (by kernel_rfl) (fun _ _ => by kernel_rfl) hH0 ?_
      refine held_take (i := 2) (o := { dst := some 23, op := Op.move (Operand.tmp 6), type := 3, pos := "view.go:66", after := #[], guard := none }) (v := .int .i64 (n9 : Int)) (by kernel_rfl) (by kernel_rfl) (by kernel_rfl) (by kernel_rfl) (fun _ _ _ h => h) (by kernel_rfl) (fun _ _ => by kernel_rfl) hH0 ?_
      refine held_take (i := 3) (o := { dst := some 24, op := Op.slice 28 (Operand.tmp 22) none (some (Operand.tmp 23)) none, type := 28, pos := "view.go:66", after := #[{ on := 1, ground := Ground.data }, { on := 2, ground := Ground.data }], guard := none }) (v := .slice (some ad) n9 cap) (by kernel_rfl) (by kernel_rfl) (by kernel_rfl) (by kernel_rfl) (fun _ _ _ h => h) (by kernel_rfl) (fun W _ => ex_cut rfl (by kernel_rfl) (by kernel_rfl) (cut_run hn9 hmc) W) hH0 ?_
      refine held_take (i := 4) (o := { dst := some 25, op := Op.fieldAddr 85 (Operand.tmp 5) 0, type := 0, pos := "view.go:66", after := #[], guard := none }) (v := .pointer (some ⟨wr.heap.size, 0, none⟩)) (by kernel_rfl) (by kernel_rfl) (by kernel_rfl) (by kernel_rfl) (fun _ _ _ h => h) (by kernel_rfl) (fun W _ => ex_f_lf_0 (p := ⟨wr.heap.size, 0, none⟩) rfl (by kernel_rfl) W) hH0 ?_
      refine held_take (i := 5) (o := { dst := some 26, op := Op.load 24 (Operand.tmp 25), type := 24, pos := "view.go:66", after := #[{ on := 4, ground := Ground.data }], guard := none }) (v := .slice pa pn pc) (by kernel_rfl) (by kernel_rfl) (by kernel_rfl) (by kernel_rfl) (fun _ _ _ h => h) (by kernel_rfl) (fun _ h => ex_l1_strs (p := ⟨wr.heap.size, 0, none⟩) rfl (by kernel_rfl) (h.c0)) hH0 ?_
      refine held_take (i := 6) (o := { dst := some 27, op := Op.fieldAddr 85 (Operand.tmp 5) 1, type := 0, pos := "view.go:66", after := #[], guard := none }) (v := .pointer (some ⟨wr.heap.size, 0 + 1, none⟩)) (by kernel_rfl) (by kernel_rfl) (by kernel_rfl) (by kernel_rfl) (fun _ _ _ h => h) (by kernel_rfl) (fun W _ => ex_f_lf_1 (p := ⟨wr.heap.size, 0, none⟩) rfl (by kernel_rfl) W) hH0 ?_
      refine held_take (i := 7) (o := { dst := some 28, op := Op.load 3 (Operand.tmp 27), type := 3, pos := "view.go:66", after := #[{ on := 6, ground := Ground.data }], guard := none }) (v := .int .i64 z) (by kernel_rfl) (by kernel_rfl) (by kernel_rfl) (by kernel_rfl) (fun _ _ _ h => h) (by kernel_rfl) (fun _ h => ex_l1_int (p := ⟨wr.heap.size, 0 + 1, none⟩) rfl (by kernel_rfl) (h.c1)) hH0 ?_
      refine held_callX (i := 8) (o := { dst := some 29, op := Op.call { callee := Callee.value (Operand.func 13), args := #[Operand.tmp 24, Operand.tmp 26, Operand.tmp 28], argTypes := #[28, 24, 3] }, type := 38, pos := "view.go:66", after := #[{ on := 3, ground := Ground.data }, { on := 5, ground := Ground.data }, { on := 7, ground := Ground.data }], guard := none }) (F := 13) (vs := #[.slice (some ad) n9 cap, .slice pa pn pc, .int .i64 z]) (by kernel_rfl) (by kernel_rfl) (by kernel_rfl) (fun _ => by kernel_rfl) (HAT.out _ hH0.below) ?_
      rintro e w1 ⟨qa, qn, qc, ra, rn, rk, rfl, hpo, hro, hb1⟩
      have hH1 := hH0.on hb1
      refine ⟨.agg #[.slice qa qn qc, .int .i64 z, .slice ra rn rk, .int .i64 m9], rfl, hH1, ?_⟩
      have hH2 := hH1.on (below_new w1 (entO (.slice qa qn qc) z (.slice ra rn rk) m9 38))
      have hown9 := own_on hownA (bchain (Below.refl _ _).drew (bchain hb1 (below_new w1 (entO (.slice qa qn qc) z (.slice ra rn rk) m9 38))))
      have hpo9 := own_on hpo (below_new w1 (entO (.slice qa qn qc) z (.slice ra rn rk) m9 38))
      have hro9 := hro.on (below_new w1 (entO (.slice qa qn qc) z (.slice ra rn rk) m9 38))
      have HLo9 : ∀ x ∈ acc, EOwnP (w1.alloc (entO (.slice qa qn qc) z (.slice ra rn rk) m9 38)) wL.heap.size u3 x := fun x hx => (HLoA x hx).on (bchain (Below.refl _ _).drew (bchain hb1 (below_new w1 (entO (.slice qa qn qc) z (.slice ra rn rk) m9 38))))
      refine held_run (i := 9) (o := { dst := some 30, op := Op.buildSlice 32 1 #[(0, Operand.tmp 29)], type := 32, pos := "view.go:66", after := #[{ on := 8, ground := Ground.data }], guard := none }) (v := .slice (some ⟨w1.heap.size, 0, none⟩) 1 1) (w' := (w1.alloc (entO (.slice qa qn qc) z (.slice ra rn rk) m9 38))) (by kernel_rfl) (by kernel_rfl) (by kernel_rfl) (by kernel_rfl) hH2 ?_
      refine held_wp (i := 10) (o := { dst := some 31, op := Op.call { callee := Callee.builtin Builtin.append, args := #[Operand.tmp 21, Operand.tmp 30], argTypes := #[32, 32] }, type := 32, pos := "view.go:66", after := #[{ on := 0, ground := Ground.data }, { on := 9, ground := Ground.data }, { on := 8, ground := Ground.chain }], guard := none }) (R := fun v' w' => w'.ownsRow wL.heap.size 38 4 v' (acc ++ [((⟨p9, z, l9, m9⟩, .slice qa qn qc, .slice ra rn rk) : EE)]).length ((acc ++ [((⟨p9, z, l9, m9⟩, .slice qa qn qc, .slice ra rn rk) : EE)]).flatMap ecell) ∧ World.grownBy (w1.alloc (entO (.slice qa qn qc) z (.slice ra rn rk) m9 38)) w' u3.ownBlock) (by kernel_rfl) (by kernel_rfl) (by kernel_rfl) (fun K9 Q9 hK9 => wp_append_one (f := ecell) (m := 4) ecell_len (Nat.succ_pos 3) (ST := 32) (T := 38) Tryz.underlying32 hI0 hz0 hz1 hz2 rfl (by decide) _ _ rfl wL.heap.size hH2.low u3 acc (by kernel_rfl) hown9 _ ((⟨p9, z, l9, m9⟩, .slice qa qn qc, .slice ra rn rk) : EE) (by kernel_rfl) (new_cells w1 (ecell ((⟨p9, z, l9, m9⟩, .slice qa qn qc, .slice ra rn rk) : EE)) 38) (ecell_one ⟨_, _, _, rfl⟩ ⟨_, _, _, rfl⟩) hroom hK9) ?_
      rintro v2 w3 ⟨hown2, hg2⟩
      have hH3 := hH2.grown hg2 hown9 hlb
      refine ⟨hH3, ?_⟩
      refine held_do (i := 11) (o := { dst := some 3, op := Op.assign (Operand.tmp 31), type := 32, pos := "view.go:66", after := #[{ on := 10, ground := Ground.data }, { on := 10, ground := Ground.chain }, { on := 0, ground := Ground.phase }, { on := 1, ground := Ground.phase }, { on := 2, ground := Ground.phase }, { on := 3, ground := Ground.phase }, { on := 4, ground := Ground.phase }, { on := 5, ground := Ground.phase }, { on := 6, ground := Ground.phase }, { on := 7, ground := Ground.phase }, { on := 8, ground := Ground.phase }, { on := 9, ground := Ground.phase }, { on := 10, ground := Ground.phase }], guard := none }) (v := v2) (by kernel_rfl) (by kernel_rfl) (by kernel_rfl) (by kernel_rfl) hH3 ?_
      refine wpAnyH_done (by kernel_rfl) ?_ _
      simp only [Act.put, List.setIfInBounds_toArray, List.set_cons_zero, List.set_cons_succ]
      go_wp2
      go_roundw
      case rel => exact ⟨k + 1, acc ++ [((⟨p9, z, l9, m9⟩, .slice qa qn qc, .slice ra rn rk) : EE)], rest', by omega, by go_num, by
        have h := HI2.out
        have e : (acc ++ [((⟨p9, z, l9, m9⟩, .slice qa qn qc, .slice ra rn rk) : EE)]).map Prod.fst = acc.map Prod.fst ++ [⟨p9, z, l9, m9⟩] := by rw [List.map_append]; rfl
        rw [← e] at h
        exact h, hown2, fun x hx => by
        obtain ⟨pv0, hc9, hp9⟩ := first_slice HLo9 (y := ((⟨p9, z, l9, m9⟩, .slice qa qn qc, .slice ra rn rk) : EE)) ⟨_, _, _, rfl⟩
        have HY : EOwnP (w1.alloc (entO (.slice qa qn qc) z (.slice ra rn rk) m9 38)) wL.heap.size u3 ((⟨p9, z, l9, m9⟩, .slice qa qn qc, .slice ra rn rk) : EE) := ⟨own_base hpo9 hbwA.size, hro9.mono hbwA.size, fun g e hl q => by
          have h1 := (hro9.lt e).1
          have h2 := (hownA.lt g q).2
          have h3 : wA.drew.heap.size = wA.heap.size := rfl
          omega⟩
        rcases List.mem_append.1 hx with hx | hx
        · exact (HLo9 x hx).grown hown9 hg2 hown2 hc9 hp9
        · rw [List.mem_singleton.1 hx]
          exact HY.grown hown9 hg2 hown2 hc9 hp9, hH3.below⟩
      case measure => simp [intOf]; omega
    · have HE : Hid (acc.map Prod.fst = Vw.of its) := by
        have h1 := HI.out.of
        have h2 := HI.out.lv
        rw [List.drop_eq_nil_of_le (by rw [List.length_map, ← HN.out]; omega)] at h2
        rw [Vw.of_nil h2, List.append_nil] at h1
        exact h1
      go_wp2
      go_ret
      exact ⟨_, acc, rfl, HE.out, entsE_row (rowR.of_own ecell_len hown) fun x hx => (HLo.out x hx).ok, bchain hbSL hbw⟩
end Go.Proofs.YthlhopdlkkeohaaGreatDoor.O

/- The entries of items that may be: their lines can be told. -/
namespace Go.Proofs.YthlhopdlkkeohaaGreatDoor.O
open Go.RowKit

/-- Items whose operations may be, and are short. -/
def FineI (its : List Lv.Item) : Prop := ∀ i ∈ its, Os.check i.o = 0 ∧ Os.short i.o = true ∧ Lv.able i.o.k = true
theorem fine_few {o : Os.Op} (h : Os.short o = true) : U.Few o.p := by
  simp only [Os.short, Pt.short, Bool.and_eq_true, decide_eq_true_eq, List.all_eq_true] at h
  exact ⟨h.1.1.1, fun x hx => by simpa using h.1.1.2 x hx⟩
/-- What stands at a Register's leaf, or a Bag's, is a right value. -/
theorem fine_right {i : Lv.Item} (h : Os.check i.o = 0) (hl : Os.leaf i.o.k = 1 ∨ Os.leaf i.o.k = 2) : Vl.Right (Rg.valOf i).1 (Rg.valOf i).2.1 (Rg.valOf i).2.2 := by
  obtain ⟨_, _, _, h4, _⟩ := Os.check_zero h
  have hk : Os.hv i.o.k = true := by
    simp only [Os.hv, decide_eq_true_eq]
    unfold Os.leaf at hl
    split at hl
    · exact .inl ‹_›
    · split at hl
      · rename_i h2; exact .inr h2
      · split at hl <;> omega
  unfold Os.rv at h4
  rw [if_pos hk] at h4
  exact Vl.right_iff.1 h4
theorem fine_amount {o : Os.Op} (h : Os.check o = 0) : -2147483647 ≤ o.n ∧ o.n ≤ 2147483647 := by
  obtain ⟨_, _, _, _, h5, _⟩ := Os.check_zero h
  unfold Os.ra at h5
  split at h5
  · have := of_decide_eq_true h5; omega
  · have := of_decide_eq_true h5; omega
theorem sum_fine {its : List Lv.Item} (h : FineI its) (hn : its.length ≤ 1000000) (p : List (List UInt8)) : -2147483647000000 ≤ Vw.sum its p ∧ Vw.sum its p ≤ 2147483647000000 := by
  have h1 := Li.ups_range 2147483647 (by decide) (Tr.nums its p) fun n hm => by
    obtain ⟨i, hi, rfl⟩ := List.mem_map.1 hm
    exact fine_amount (h i (List.mem_filter.1 hi).1).1
  have hl : (Tr.nums its p).length ≤ its.length := by
    unfold Tr.nums
    rw [List.length_map]
    exact List.length_filter_le _ _
  have h2 : ((Tr.nums its p).length : Int) * 2147483647 ≤ 1000000 * 2147483647 := Int.mul_le_mul_of_nonneg_right (by omega) (by decide)
  have h3 := Li.sum_ups (Tr.nums its p)
  unfold Vw.sum
  generalize ((Tr.nums its p).length : Int) * 2147483647 = q at *
  omega
/-- What is at a leaf of such items can be told. -/
theorem fine_at {its : List Lv.Item} (h : FineI its) (hn : its.length ≤ 1000000) {p : List (List UInt8)} (hp : U.Few p) (k : Int) : EFine (Vw.at' its p k) := by
  refine ⟨hp, fun v hv => ?_, Nat.le_trans (Vw.at_len its p k) hn, ?_, ?_⟩
  · unfold Vw.at' at hv
    dsimp only at hv
    split at hv
    · rename_i hk
      have hm := Rg.mem_vals.1 hv
      obtain ⟨i, hi, rfl⟩ := List.mem_map.1 hm
      obtain ⟨h1, h2⟩ := Tr.mem_atLeaf.1 hi
      refine fine_right (h i h1).1 ?_
      have e : Os.leaf i.o.k = k := congrArg Prod.snd h2
      omega
    · simp at hv
  · have := sum_fine h hn p
    unfold Vw.at'
    dsimp only
    split <;> omega
  · have := sum_fine h hn p
    unfold Vw.at'
    dsimp only
    split <;> omega
theorem fine_of {its : List Lv.Item} (h : FineI its) (hn : its.length ≤ 1000000) : ∀ e ∈ Vw.of its, EFine e := fun e he => by
  obtain ⟨x, hx, rfl⟩ := Vw.mem_of.1 he
  obtain ⟨i, hi, e1⟩ := Tr.mem_leaves.1 hx
  have e2 : i.o.p = x.1 := congrArg Prod.fst e1
  exact fine_at h hn (e2 ▸ fine_few (h i hi).2.1) x.2
/-- Of transactions that may be, all items are so. -/
theorem fine_all {l : List Tx.Txn} {sn : D → Bool} (h : ∀ t ∈ l, ∀ o ∈ t.ops, Os.short o = true ∧ (Os.gone o = true ∨ Os.check o = 0)) : FineI (Lv.all l sn) := fun i hi => by
  obtain ⟨t, ht, _, j, hj, ha, _, rfl⟩ := Lv.mem_all.1 hi
  obtain ⟨h1, h2⟩ := h t ht t.ops[j] (List.getElem_mem hj)
  refine ⟨?_, h1, ha⟩
  rcases h2 with h2 | h2
  · have e := Os.gone_is h2
    simp only [e] at ha
    exact absurd ha (by decide)
  · exact h2
end Go.Proofs.YthlhopdlkkeohaaGreatDoor.O
