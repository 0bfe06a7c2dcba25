/- The walk of settle: a right set of a vector's dots and of those of lists. -/
import Derived.Test.YtenfbjlmfdiniaaSettle
namespace Go.Proofs.Ytenfbjlmfdiniaa
open Go.RowKit Go.Shelf

/-- A slice of the call's own, or none: its block is from B on and ahead of C. -/
def OwnV (w : World) (B C : Nat) (v : Value) (ds : List D) : Prop :=
  (v = .slice none 0 0 ∧ ds = []) ∨ ∃ g cap, v = .slice (some ⟨g, 0, none⟩) ds.length cap ∧ ds.length ≤ cap ∧ cap ≤ maxLen ∧ B ≤ g ∧ g < C ∧ Own w g ds
theorem OwnV.in {w : World} {B C : Nat} {v : Value} {ds : List D} (h : OwnV w B C v ds) : dotsIn w v ds := by
  rcases h with ⟨rfl, rfl⟩ | ⟨g, cap, rfl, _, _, _, _, hO⟩
  · exact dotsIn_nil w
  · exact hO.in
theorem OwnV.upto {w w' : World} {B C : Nat} {v : Value} {ds : List D} (h : OwnV w B C v ds) (hb : Below C w w') : OwnV w' B C v ds := by
  rcases h with ⟨rfl, rfl⟩ | ⟨g, cap, rfl, h1, h2, h3, h4, hO⟩
  · exact Or.inl ⟨rfl, rfl⟩
  · refine Or.inr ⟨g, cap, rfl, h1, h2, h3, h4, Nat.lt_of_lt_of_le hO.1 hb.size, fun k hk => ?_⟩
    obtain ⟨a, b, c, d⟩ := hO.2 k hk
    exact ⟨(hb.cell (p := ⟨g, k * 2, none⟩) h4).trans a, (hb.cell (p := ⟨g, k * 2 + 1, none⟩) h4).trans b, (hb.frozen (p := ⟨g, k * 2, none⟩) h4).trans c, (hb.frozen (p := ⟨g, k * 2 + 1, none⟩) h4).trans d⟩
theorem OwnV.wide {w : World} {B C C' : Nat} {v : Value} {ds : List D} (h : OwnV w B C v ds) (hC : C ≤ C') : OwnV w B C' v ds := by
  rcases h with ⟨rfl, rfl⟩ | ⟨g, cap, rfl, h1, h2, h3, h4, hO⟩
  · exact Or.inl ⟨rfl, rfl⟩
  · exact Or.inr ⟨g, cap, rfl, h1, h2, h3, by omega, hO⟩
theorem own_cells {w : World} {g : Nat} {cur : Array Value} {ds : List D} (hg : w.heap[g]? = some (.cells cur 28 (0, 0))) (ht : cur.toList.take (ds.length * 2) = dcells ds) : Own w g ds := by
  have hlt : g < w.heap.size := (Array.getElem?_eq_some_iff.1 hg).1
  have key : ∀ j u, (dcells ds)[j]? = some u → w.cell? ⟨g, j, none⟩ = some u := fun j u hu => by
    rw [cell_of_row w g j _ 28 (0, 0) hg]
    rw [← ht, List.getElem?_take] at hu
    split at hu
    · simpa using hu
    · cases hu
  exact ⟨hlt, fun k hk => ⟨key _ _ (dcells_at ds k hk).1, key _ _ (dcells_at ds k hk).2, frozen_of_row w g _ _ 28 hg, frozen_of_row w g _ _ 28 hg⟩⟩
theorem ownV_of {w : World} {B : Nat} {v : Value} {ds : List D} (h : w.ownsRow B 28 2 v ds.length (dcells ds)) : OwnV w B w.heap.size v ds := by
  rcases h.2 with ⟨rfl, h0⟩ | ⟨g, cap, cur, rfl, hB, hg, h1, h2, _, ht⟩
  · exact Or.inl ⟨rfl, List.eq_nil_of_length_eq_zero h0⟩
  · have hO := own_cells hg ht
    exact Or.inr ⟨g, cap, rfl, h1, h2, hB, hO.1, hO⟩

theorem deleteFunc_nil (w : World) : Calls Try.prog 82 #[.slice none 0 0, .func (.func 84) #[] #[]] w fun e w' => e = .returned (.slice none 0 0) ∧ Below w.heap.size w w' := by
  have HI := indexFunc_any (.slice none 0 0) [] w (dotsIn_nil w) (by simp) 84 #[] (fun d => !rightD d) eg84 (asks84 w)
  rw [show idx (fun d => !rightD d) [] = -1 from rfl] at HI
  go_enter Try.func82, Try.ntmps82
  go_wp2_with (go_at_call 89; refine HI.mono ?_; rintro e w1 ⟨rfl, hb1⟩)
  go_ret
  exact ⟨rfl, hb1⟩
theorem delete_v {w : World} {B C : Nat} {v : Value} {ds : List D} (h : OwnV w B C v ds) (hn : ds.length ≤ 1000000) (hB : B ≤ w.heap.size) :
    Calls Try.prog 82 #[v, .func (.func 84) #[] #[]] w fun e w' => ∃ v', e = .returned v' ∧ OwnV w' B C v' (ds.filter rightD) ∧ Below B w w' := by
  rcases h with ⟨rfl, rfl⟩ | ⟨g, cap, rfl, h1, h2, h3, h4, hO⟩
  · exact (deleteFunc_nil w).mono fun _ _ ⟨he, hb⟩ => ⟨_, he, Or.inl ⟨rfl, rfl⟩, hb.mono hB⟩
  · exact (deleteFunc_any g cap ds B w hO hn h1 h2 h3).mono fun _ _ ⟨he, ho, hb⟩ => ⟨_, he, Or.inr ⟨g, cap, rfl, Nat.le_trans (List.length_filter_le _ _) h1, h2, h3, h4, ho⟩, hb⟩
theorem sort_v {w : World} {B C : Nat} {v : Value} {ds : List D} (h : OwnV w B C v ds) (hn : ds.length ≤ 1000000) :
    Calls Try.prog 85 #[v, .func (.func 47) #[] #[]] w fun e w' => e = .returned (.tuple #[]) ∧ OwnV w' B C v (sorted ds) ∧ Below B w w' := by
  rcases h with ⟨rfl, rfl⟩ | ⟨g, cap, rfl, h1, h2, h3, h4, hO⟩
  · exact (sortFunc_none 0 none w).mono fun _ _ ⟨he, hw⟩ => ⟨he, Or.inl ⟨rfl, by simp [sorted]⟩, by rw [hw]; exact Below.refl _ _⟩
  · exact (sortFunc_any g cap ds B w hO hn h3).mono fun _ _ ⟨he, ho, hb⟩ => ⟨he, Or.inr ⟨g, cap, by rw [sorted_length], by rw [sorted_length]; exact h1, h2, h3, h4, ho⟩, hb⟩
theorem compact_nil (w : World) : Calls Try.prog 86 #[.slice none 0 0] w fun e w' => e = .returned (.slice none 0 0) ∧ w' = w := by
  go_enter Try.func86, Try.ntmps86
  go_wp2
  go_ret
  exact ⟨rfl, rfl⟩
/-- All is as it was, but for what lies from B on and ahead of C. -/
structure Apart (B C : Nat) (w w' : World) : Prop where
  os : w'.os = w.os
  tape : w'.tape = w.tape
  output : w'.output = w.output
  size : w.heap.size ≤ w'.heap.size
  block : ∀ k, k < w.heap.size → k < B ∨ C ≤ k → w'.heap[k]? = w.heap[k]?
theorem compact_v {w : World} {B C : Nat} {v : Value} {ds : List D} (h : OwnV w B C v ds) (hn : ds.length ≤ 1000000) :
    Calls Try.prog 86 #[v] w fun e w' => ∃ v', e = .returned v' ∧ OwnV w' B C v' (ddTo ds ds.length) ∧ Apart B C w w' := by
  rcases h with ⟨rfl, rfl⟩ | ⟨g, cap, rfl, h1, h2, h3, h4, hO⟩
  · refine (compact_nil w).mono ?_
    rintro _ _ ⟨he, rfl⟩
    exact ⟨_, he, Or.inl ⟨rfl, rfl⟩, rfl, rfl, rfl, Nat.le_refl _, fun _ _ _ => rfl⟩
  · refine (compact_any g cap ds w hO hn h1 h2).mono ?_
    rintro _ _ ⟨he, ho, hb⟩
    have hlen : (ddTo ds ds.length).length ≤ ds.length := by
      have : ∀ k, (ddTo ds k).length ≤ k := fun k => by
        induction k with
        | zero => simp [ddTo]
        | succ k ih =>
          rw [ddTo]
          split
          · rw [List.length_append]
            have : (ds[k]?).toList.length ≤ 1 := by cases ds[k]? <;> simp
            omega
          · omega
      exact this _
    exact ⟨_, he, Or.inr ⟨g, cap, rfl, by omega, h2, h3, h4, ho⟩, hb.os, hb.tape, hb.output, hb.size, fun k hk hn => hb.block k hk (by omega)⟩

/-- Behind the first ones. -/
def pre (l : List Int) (xs : List D) (k : Nat) : List Int × List D := (xs.take k).foldl St.step (l, [])
theorem pre_zero (l : List Int) (xs : List D) : pre l xs 0 = (l, []) := by simp [pre]
theorem pre_step (l : List Int) (xs : List D) (k : Nat) (h : k < xs.length) : pre l xs (k + 1) = St.step (pre l xs k) xs[k] := by
  unfold pre
  rw [List.take_succ_eq_append_getElem h, List.foldl_append]
  rfl
theorem pre_all (l : List Int) (xs : List D) : pre l xs xs.length = St.fill l xs := by simp [pre, St.fill]
theorem pre_std {l : List Int} {xs : List D} (hl : l.length = 16) (hv : Vc.right l = true) (hr : ∀ d ∈ xs, rightD d = true) (hp : xs.Pairwise St.lt) (k : Nat) :
    St.Std (pre l xs k).1 (pre l xs k).2 ∧ (pre l xs k).2.length ≤ xs.length := by
  obtain ⟨a, _, c⟩ := St.fill_std (ds := xs.take k) hl hv (fun d hd => hr d (List.mem_of_mem_take hd)) (hp.sublist (List.take_sublist _ _))
  exact ⟨a, Nat.le_trans c (by simp; omega)⟩

theorem own_on {w w' : World} {B s n : Nat} {e : TypeId} {v : Value} {xs : List Value} (h : w.ownsRow B e s v n xs) (hb : Below w.heap.size w w') : w'.ownsRow B e s v n xs := by
  refine ⟨h.1, ?_⟩
  rcases h.2 with hn | ⟨g, cap, cur, hv, hbg, hg, r⟩
  · exact Or.inl hn
  · exact Or.inr ⟨g, cap, cur, hv, hbg, (hb.block g (Array.getElem?_eq_some_iff.1 hg).1).trans hg, r⟩
theorem own_other {w w' : World} {B s n : Nat} {e : TypeId} {v : Value} {xs : List Value} (h : w.ownsRow B e s v n xs) (hb : ∀ k, B ≤ k → w'.heap[k]? = w.heap[k]?) : w'.ownsRow B e s v n xs := by
  refine ⟨h.1, ?_⟩
  rcases h.2 with hn | ⟨g, cap, cur, hv, hbg, hg, r⟩
  · exact Or.inl hn
  · exact Or.inr ⟨g, cap, cur, hv, hbg, (hb g hbg).trans hg, r⟩
theorem new_row (w : World) (d : D) : ∀ j u, (dcells [d])[j]? = some u → (w.alloc (.cells #[.int .i64 d.1, .int .i64 d.2] 28)).cell? ((⟨w.heap.size, 0, none⟩ : Addr).add j) = some u := by
  intro j u hu
  have e : (⟨w.heap.size, 0, none⟩ : Addr).add j = ⟨w.heap.size, j, none⟩ := by unfold Addr.add; split <;> simp_all
  rw [e, cell_of_row _ w.heap.size j _ 28 (0, 0) (heap_alloc_new w _)]
  simpa [dcells] using hu
theorem own_sl {w : World} {b s n : Nat} {e : TypeId} {v : Value} {xs : List Value} (h : w.ownsRow b e s v n xs) : isSl v := by
  rcases h.2 with ⟨rfl, _⟩ | ⟨g, cap, cur, rfl, _⟩
  · exact ⟨_, _, _, rfl⟩
  · exact ⟨_, _, _, rfl⟩
theorem own_base {w : World} {b b' s n : Nat} {e : TypeId} {v : Value} {xs : List Value} (h : w.ownsRow b e s v n xs) (hb : b' ≤ b) : w.ownsRow b' e s v n xs := by
  refine ⟨h.1, ?_⟩
  rcases h.2 with hn | ⟨g, cap, cur, hv, hbg, r⟩
  · exact Or.inl hn
  · exact Or.inr ⟨g, cap, cur, hv, Nat.le_trans hb hbg, r⟩
theorem own_ne {w : World} {b s n : Nat} {e : TypeId} {v : Value} {xs : List Value} (h : w.ownsRow (b + 1) e s v n xs) : some b ≠ v.ownBlock := fun e' => by
  have := (h.lt b e'.symm).1
  omega

set_option maxRecDepth 20000 in
set_option maxHeartbeats 1000000 in
theorem settle_any (l : List Int) (hl : l.length = 16) (hv : Vc.right l = true) (lv : Value) (vs : List Value) (dss : List (List D)) (w : World) (hli : listsIn w lv vs) (hda : dotsAll w vs dss) (hn : dss.length ≤ 1000) (hs : dss.flatten.length ≤ 1000000) :
    Calls Try.prog 53 #[vecV l, lv] w fun e w' => ∃ sl, e = .returned (setV (settled l dss.flatten).1 sl) ∧ w'.ownsRow w.heap.size 28 2 sl (settled l dss.flatten).2.length (dcells (settled l dss.flatten).2) ∧ Below w.heap.size w w' := by
  obtain ⟨W0, hW0⟩ : ∃ W0, W0 = (w.alloc (.cells (ints l).toArray 23)).alloc (.cells (setC noughts (.slice none 0 0)).toArray 26) := ⟨_, rfl⟩
  have hB0 : Below w.heap.size w W0 := by rw [hW0]; exact below_new2 _ _ _
  have hsz : W0.heap.size = w.heap.size + 2 := by rw [hW0]; simp
  have hV0 : VecAt W0 w.heap.size l := by rw [hW0]; exact (VecAt.new w l).alloc _
  have hR0 : SetAt W0 (w.heap.size + 1) noughts (.slice none 0 0) := by
    rw [hW0]
    have := SetAt.zero (w.alloc (.cells (ints l).toArray 23))
    simpa using this
  have hli0 : listsIn W0 lv vs := by
    obtain ⟨b, cap, e, hc⟩ := hli
    exact ⟨b, cap, e, fun k hk => keep_cell hB0 (hc k hk)⟩
  have HC := concat_any lv vs dss W0 hli0 (hda.on hB0) hn hs
  have hse := settled_is dss.flatten hl hv
  have htr := tidy_row dss.flatten
  generalize dss.flatten = ds at *
  clear hli hda hli0
  obtain ⟨xs, hxs⟩ : ∃ xs, xs = tidy ds := ⟨_, rfl⟩
  have hset : settled l ds = St.fill l xs := by rw [hxs]; rfl
  have hr : ∀ d ∈ xs, rightD d = true := fun d hd => ((htr.2.1 d).1 (by rw [← hxs]; exact hd)).2
  have hrow : xs.Pairwise St.lt := by rw [hxs]; exact htr.1
  have hlen : xs.length ≤ 1000000 := by rw [hxs]; exact Nat.le_trans htr.2.2 hs
  rw [hset]
  have HX : Hid (xs = tidy ds) := hxs
  have HP : Hid (∀ k, St.Std (pre l xs k).1 (pre l xs k).2 ∧ (pre l xs k).2.length ≤ xs.length) := fun k => pre_std hl hv hr hrow k
  have HR : Hid (∀ d ∈ xs, rightD d = true) := hr
  clear hset hr hrow hxs htr hse
  go_enter Try.func53, Try.ntmps53
  go_wp2_with fail
  change Calls Try.prog 83 #[lv] ((w.alloc (.cells (ints l).toArray 23)).alloc (.cells (setC noughts (.slice none 0 0)).toArray 26)) _
  rw [← hW0]
  clear hW0
  refine HC.mono ?_
  rintro e w1 ⟨v1, rfl, hown, hb1⟩
  have hO1 := ownV_of hown
  clear hown HC
  go_wp2_with fail
  refine (delete_v hO1 hs hb1.size).mono ?_
  rintro e w2 ⟨v2, rfl, hO2, hb2⟩
  clear hO1
  go_wp2_with fail
  refine (sort_v hO2 (Nat.le_trans (List.length_filter_le _ _) hs)).mono ?_
  rintro e w3 ⟨rfl, hO3, hb3⟩
  have hb13 : Below W0.heap.size W0 w3 := (hb1.trans hb2).trans hb3
  have hs13 : w1.heap.size ≤ w3.heap.size := Nat.le_trans hb2.size hb3.size
  have hV3 := hV0.on hb13
  have hR3 := hR0.on hb13
  have hO3' := hO3.wide hs13
  have hb03 := bchain hB0 hb13
  have hn3 : (sorted (ds.filter rightD)).length ≤ 1000000 := by rw [sorted_length]; exact Nat.le_trans (List.length_filter_le _ _) hs
  have hsz3 : w.heap.size + 2 ≤ w3.heap.size := by rw [← hsz]; exact hb13.size
  have hZ3 := SetAt.zero w3
  clear hO2 hO3 hb1 hb2 hb3 hs13 hV0 hR0 hB0 hb13
  go_wp2_with (first | (refine load_vec rfl _ rfl w.heap.size l hl rfl hV3 ?_) | (refine take_build rfl _ rfl l hl rfl ?_) | (refine store_set rfl _ _ rfl w3.heap.size l noughts (.slice none 0 0) (.slice none 0 0) hl noughts_length ⟨none, 0, 0, rfl⟩ rfl rfl hZ3 ?_))
  obtain ⟨W3, hW3⟩ : ∃ W3, W3 = (w3.alloc (.cells (setC noughts (.slice none 0 0)).toArray 26)).setRow w3.heap.size (setC l (.slice none 0 0)).toArray := ⟨_, rfl⟩
  have hS3 : SetAt W3 w3.heap.size l (.slice none 0 0) := by rw [hW3]; exact hZ3.row l _
  have hb3' : Below w3.heap.size w3 W3 := by rw [hW3]; exact below_setRow (below_new _ _) (Nat.le_refl _) _
  have hszW : W3.heap.size = w3.heap.size + 1 := by rw [hW3, setRow_size]; simp
  change Calls Try.prog 86 #[v2] ((w3.alloc (.cells (setC noughts (.slice none 0 0)).toArray 26)).setRow w3.heap.size (setC l (.slice none 0 0)).toArray) _
  rw [← hW3]
  clear hW3 hZ3
  have HK := compact_v (hO3'.upto hb3') hn3
  refine HK.mono ?_
  rintro e w4 ⟨v4, rfl, hO4, ha4⟩
  change OwnV w4 _ _ v4 (tidy ds) at hO4
  have hS4 : SetAt w4 w3.heap.size l (.slice none 0 0) := (ha4.block _ (by omega) (Or.inr (Nat.le_refl _))).trans hS3
  have hR4 : SetAt w4 (w.heap.size + 1) noughts (.slice none 0 0) := (ha4.block _ (by omega) (Or.inl (by omega))).trans (hR3.on hb3')
  have hb4 : Below w.heap.size w w4 := by
    have h := bchain hb03 hb3'
    exact ⟨ha4.os.trans h.os, ha4.tape.trans h.tape, ha4.output.trans h.output, Nat.le_trans h.size ha4.size, fun k hk => (ha4.block k (Nat.lt_of_lt_of_le hk h.size) (Or.inl (by omega))).trans (h.block k hk)⟩
  have hsz4 : w3.heap.size + 1 ≤ w4.heap.size := by rw [← hszW]; exact ha4.size
  clear HK hO3' hb03 hb3' hV3 hR3 hS3 ha4 hn3 hszW
  generalize w3.heap.size = sb at *
  rw [← HX.out] at hO4
  have HO : Hid (OwnV w4 W0.heap.size sb v4 xs) := hO4
  have HS : Hid (SetAt w4 sb l (.slice none 0 0)) := hS4
  have HR4 : Hid (SetAt w4 (w.heap.size + 1) noughts (.slice none 0 0)) := hR4
  clear hO4 hS4 hR4
  obtain ⟨ao, cap, hv4, _, _⟩ := HO.out.in
  subst hv4
  obtain ⟨n, hn0⟩ : ∃ n, n = xs.length := ⟨_, rfl⟩
  have HN : Hid (n = xs.length) := hn0
  rw [← hn0] at hlen ⊢
  rw [← hn0] at HO
  have HF : Hid (pre l xs n = St.fill l xs) := by have h := pre_all l xs; rw [← hn0] at h; exact h
  clear hn0
  go_wp2
  go_loopw [8, 19] (fun _ i wr => ∃ k : Nat, k ≤ n ∧ i = .int .i64 k ∧ ∃ sl, Hid (SetAt wr sb (pre l xs k).1 sl) ∧ Hid (wr.ownsRow (sb + 1) 28 2 sl (pre l xs k).2.length (dcells (pre l xs k).2)) ∧ Below sb w4 wr) (fun _ i _ => n - (intOf i).toNat)
  case atStart => exact ⟨0, by omega, rfl, .slice none 0 0, by rw [pre_zero]; exact HS, by rw [pre_zero]; exact World.ownsRow_nil _ _ _ _, Below.refl _ _⟩
  case round =>
    obtain ⟨k, hk, rfl, sl, HA, HW, hbw⟩ := hrel
    have hsr : sb + 1 ≤ wr.heap.size := Nat.le_trans hsz4 hbw.size
    by_cases hlt : k < n
    · have hkx : k < xs.length := by have := HN.out; omega
      obtain ⟨hSk, hlk⟩ := HP.out k
      have hpk := pre_step l xs k hkx
      have hdr : rightD xs[k] = true := HR.out _ (List.getElem_mem hkx)
      have hgap := gap_any (pre l xs k).1 hSk.len hSk.vec xs[k] hdr
      have hOr := HO.out.upto hbw
      obtain ⟨ao2, cap2, e2, _, hc⟩ := hOr.in
      obtain ⟨ad, hao, c0, c1⟩ := hc k hkx
      cases e2
      subst hao
      clear hc hOr
      have HK : Hid (pre l xs (k + 1) = St.step (pre l xs k) xs[k]) := hpk
      have hA := HA.out
      have hW := HW.out
      clear hpk HA HW HP
      generalize pre l xs k = S at *
      obtain ⟨lk, mk⟩ := S
      simp only at *
      generalize xs[k] = d at *
      have hmk : mk.length ≤ 1000000 := by have := HN.out; omega
      have hl16 : lk.length = 16 := hSk.len
      clear hSk hlk
      have hV := hA.vrange
      have hd0 : (wr.alloc (.cells #[.int .i64 d.1, .int .i64 d.2] 28)).cell? ⟨wr.heap.size, 0, none⟩ = some (.int .i64 d.1) := by simp
      have hd1 : (wr.alloc (.cells #[.int .i64 d.1, .int .i64 d.2] 28)).cell? ⟨wr.heap.size, 1, none⟩ = some (.int .i64 d.2) := by simp
      have hA1 := hA.alloc (.cells #[.int .i64 d.1, .int .i64 d.2] 28)
      by_cases hg : St.at' lk d + 1 < d.2
      · have HK2 : Hid (St.step (lk, mk) d = (lk, mk ++ [d])) := by
          have h : St.step (lk, mk) d = (lk, mk ++ [d]) := by unfold St.step; rw [if_pos hg]
          exact h
        rw [decide_eq_true hg] at hgap
        clear hg
        obtain ⟨i0, hi, hz, hz1, hz2⟩ := info28
        have h63 : mk.length + 1 ≤ maxLen := by unfold maxLen; omega
        have hby : (mk.length + 1) * 16 ≤ 140737488355328 := by omega
        go_wp2_with (first
          | (go_at_call 46; refine (hgap _).mono ?_; rintro e w5 ⟨rfl, hb5⟩
             have hA5 := hA1.on hb5
             have m5 := hA5.more hl16
             have e0 := keep_cell hb5 hd0
             have e1 := keep_cell hb5 hd1
             have hW5 := own_on (own_on hW (below_new wr _)) hb5
             have hb45 : Below sb w4 w5 := (hbw.alloc (by omega) _).trans (hb5.mono (by simp; omega))
             have hs5 : sb + 1 ≤ w5.heap.size := Nat.le_trans hsr (Nat.le_trans (by simp) hb5.size))
          | (refine load_setVec rfl _ rfl sb lk sl hl16 rfl hA1 ?_)
          | (at_builtin; refine wpList_append_own _ rfl _ _ 24 rfl (sb + 1) 28 i0 _ 2 16 Try.underlying24 hi hz hz1 hz2 rfl (by decide) _ _ _ rfl (own_on hW5 (below_new w5 _)) ⟨w5.heap.size, 0, none⟩ 1 1 (dcells [d]) rfl rfl (new_row w5 d) (dcells_one [d]) h63 hby (Nat.le_trans hs5 (by simp)) ?_
             intro v' w6 hown' hg6 _
             obtain ⟨ao6, n6, c6, rfl⟩ := own_sl hown'
             have hA6 : SetAt w6 sb lk sl := (hg6.block sb (by simp; omega) (own_ne hW5)).trans (hA5.alloc _)
             have m6 := hA6.more hl16
             have f6 := hA6.frozen 16))
        go_roundw
        case rel => exact ⟨k + 1, by omega, by go_num, .slice ao6 n6 c6, by rw [HK.out, HK2.out]; exact hA6.setMore hl16 _, by rw [HK.out, HK2.out]; exact own_other (by simpa [dcells_append] using hown') (fun q hq => heap_setCell_other w6 _ q _ (by simp; omega)), ((hb45.alloc (by omega) _).grown hg6 (by simp; omega) (fun q hq => Nat.le_trans (by omega) (hW5.lt q hq).1)).setCell (p := ⟨sb, 16, none⟩) (Nat.le_refl _) _⟩
        case measure => simp [intOf]; omega
      · have hdr' := St.right_at hdr
        obtain ⟨r, y⟩ := d
        simp only at hdr' hgap hd0 hd1 hA1 c0 c1
        obtain ⟨q, rfl⟩ : ∃ q : Nat, r = (q : Int) := ⟨r.toNat, by omega⟩
        have hq : q < 16 := by omega
        have HK2 : Hid (St.step (lk, mk) ((q : Int), y) = (lk.set q (max (lk.getD q 0) y), mk)) := by
          have h : St.step (lk, mk) ((q : Int), y) = (lk.set q (max (lk.getD q 0) y), mk) := by
            unfold St.step
            rw [if_neg hg]
            simp only [St.at', Int.toNat_natCast]
          exact h
        rw [decide_eq_false hg] at hgap
        have hcq := hA1.cell (k := q) (by omega)
        have hix := indexAt_vec sb q hq
        have hq16 : (q : Int) < 16 := by omega
        clear hg hdr hdr'
        generalize lk.getD q 0 = x at *
        have key : ∀ w5 : World, Below (wr.alloc (.cells #[.int .i64 (q : Int), .int .i64 y] 28)).heap.size (wr.alloc (.cells #[.int .i64 (q : Int), .int .i64 y] 28)) w5 →
            SetAt (w5.setCell ⟨sb, q, none⟩ (.int .i64 (max x y))).drew sb (pre l xs (k + 1)).1 sl ∧ (w5.setCell ⟨sb, q, none⟩ (.int .i64 (max x y))).drew.ownsRow (sb + 1) 28 2 sl (pre l xs (k + 1)).2.length (dcells (pre l xs (k + 1)).2) ∧ Below sb w4 (w5.setCell ⟨sb, q, none⟩ (.int .i64 (max x y))).drew := fun w5 hb5 => by
          rw [HK.out, HK2.out]
          refine ⟨(hA1.on hb5).setNum (by omega) _, own_other (own_on (own_on hW (below_new wr _)) hb5) (fun p hp => heap_setCell_other _ _ p _ (by simp; omega)), ?_⟩
          exact (((hbw.alloc (by omega) _).trans (hb5.mono (by simp; omega))).setCell (p := ⟨sb, q, none⟩) (Nat.le_refl _) _).drew
        have KEY : Hid (∀ w5 : World, Below (wr.alloc (.cells #[.int .i64 (q : Int), .int .i64 y] 28)).heap.size (wr.alloc (.cells #[.int .i64 (q : Int), .int .i64 y] 28)) w5 →
            SetAt (w5.setCell ⟨sb, q, none⟩ (.int .i64 (max x y))).drew sb (pre l xs (k + 1)).1 sl ∧ (w5.setCell ⟨sb, q, none⟩ (.int .i64 (max x y))).drew.ownsRow (sb + 1) 28 2 sl (pre l xs (k + 1)).2.length (dcells (pre l xs (k + 1)).2) ∧ Below sb w4 (w5.setCell ⟨sb, q, none⟩ (.int .i64 (max x y))).drew) := key
        clear key hW hA hV
        go_wp2_with (first
          | (go_at_call 46; refine (hgap _).mono ?_; rintro e w5 ⟨rfl, hb5⟩
             have hA5 := hA1.on hb5
             have e0 := keep_cell hb5 hd0
             have e1 := keep_cell hb5 hd1
             have e2 := keep_cell hb5 hcq
             have f2 := hA5.frozen q)
          | (refine load_setVec rfl _ rfl sb lk sl hl16 rfl hA1 ?_))
        have KK := KEY.out w5 hb5
        have HKK : Hid _ := KK
        clear KK hA5 hb5 KEY hcq hd0 hd1 hA1
        go_region
        all_goals
          go_wp2
          go_roundw
          case rel => exact ⟨k + 1, by omega, by go_num, sl, HKK.out.1, HKK.out.2.1, HKK.out.2.2⟩
          case measure => simp [intOf]; omega
    · obtain rfl : k = n := by omega
      rw [HF.out] at HA HW
      have hS9 := (HP.out xs.length).1
      rw [pre_all] at hS9
      generalize hG : St.fill l xs = S at *
      obtain ⟨lf, mf⟩ := S
      have HG : Hid (St.fill l xs = (lf, mf)) := hG
      clear hG
      have hlf : lf.length = 16 := hS9.len
      have hRr := HR4.out.upto hbw (by omega)
      have hsl : isSl sl := (dotsIn_own HW.out).sl
      have hAr := HA.out
      simp only at hAr
      clear HP HO hS9
      go_wp2_with (first | (refine load_set rfl _ rfl sb lf sl hlf rfl hAr ?_) | (refine store_set rfl _ _ rfl (w.heap.size + 1) lf noughts sl (.slice none 0 0) hlf noughts_length hsl rfl rfl hRr ?_))
      refine bodyPost_ret (ret_set rfl _ hlf rfl (hRr.row lf sl)) rfl ⟨sl, by rw [HG.out], ?_, ?_⟩
      · rw [HG.out]
        exact own_base (own_other HW.out fun q hq => setRow_other wr _ q _ (by omega)) (by omega)
      · exact below_setRow (hb4.trans (hbw.mono (by omega))) (by omega) _
end Go.Proofs.Ytenfbjlmfdiniaa
