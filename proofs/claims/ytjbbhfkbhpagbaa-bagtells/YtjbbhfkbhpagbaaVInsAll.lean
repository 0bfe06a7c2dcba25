/- A value in its place, as the document's walk goes · The walk of the document's Insert · The walk of the document's Values. -/
import Derived.Test.YtjbbhfkbhpagbaaRegsAll
import Derived.Test.YtjbbhfkbhpagbaaLaySAll
import Derived.Test.YtjbbhfkbhpagbaaAtPAll
import Derived.Test.YtjbbhfkbhpagbaaBVals
/- A value in its place, as the document's walk goes. -/
namespace Go.Proofs.Ytjbbhfkbhpagbaa
namespace Rg

/-- Where the walk stands: of the first i all are laid, and, once laid, v ahead of the first that stands behind it. -/
def InsS (v : Va) (l : List Va) (i : Nat) (laid : Bool) (out : List Va) : Prop :=
  (laid = false ∧ out = l.take i ∧ ∀ j (h : j < l.length), j < i → lt l[j] v) ∨
  (laid = true ∧ ∃ k, k < i ∧ (∀ j (h : j < l.length), j < k → lt l[j] v) ∧ (∃ h : k < l.length, lt v l[k]) ∧ out = l.take k ++ v :: (l.take i).drop k)
theorem InsS.start (v : Va) (l : List Va) : InsS v l 0 false [] := .inl ⟨rfl, by simp, fun _ _ h => absurd h (Nat.not_lt_zero _)⟩
theorem InsS.len {v : Va} {l : List Va} {i : Nat} {b : Bool} {out : List Va} (h : InsS v l i b out) : out.length ≤ i + 1 := by
  rcases h with ⟨_, rfl, _⟩ | ⟨_, k, hk, _, _, rfl⟩
  · rw [List.length_take]; omega
  · simp only [List.length_append, List.length_take, List.length_cons, List.length_drop]; omega
theorem InsS.before {v : Va} {l : List Va} {i : Nat} {out : List Va} (h : InsS v l i false out) (hi : i < l.length) (hv : lt v l[i]) : InsS v l (i + 1) true (out ++ [v] ++ [l[i]]) := by
  rcases h with ⟨_, rfl, h1⟩ | ⟨e, _⟩
  · refine .inr ⟨rfl, i, by omega, h1, ⟨hi, hv⟩, ?_⟩
    rw [List.take_succ_eq_append_getElem hi, List.drop_append_of_le_length (by rw [List.length_take]; omega)]
    rw [List.drop_eq_nil_of_le (by rw [List.length_take]; omega)]
    simp
  · cases e
theorem InsS.after {v : Va} {l : List Va} {i : Nat} {out : List Va} (h : InsS v l i true out) (hi : i < l.length) : InsS v l (i + 1) true (out ++ [l[i]]) := by
  rcases h with ⟨e, _⟩ | ⟨_, k, hk, h1, ⟨h2, h3⟩, rfl⟩
  · cases e
  · refine .inr ⟨rfl, k, by omega, h1, ⟨h2, h3⟩, ?_⟩
    rw [List.take_succ_eq_append_getElem hi, List.drop_append_of_le_length (by rw [List.length_take]; omega)]
    simp
theorem InsS.behind {v : Va} {l : List Va} {i : Nat} {out : List Va} (h : InsS v l i false out) (hi : i < l.length) (hv : lt l[i] v) : InsS v l (i + 1) false (out ++ [l[i]]) := by
  rcases h with ⟨_, rfl, h1⟩ | ⟨e, _⟩
  · refine .inl ⟨rfl, by rw [List.take_succ_eq_append_getElem hi], fun j hj hji => ?_⟩
    by_cases e : j = i
    · subst e; exact hv
    · exact h1 j hj (by omega)
  · cases e
theorem rise_lt {l : List Va} (hr : Rise l) {a b : Nat} (hab : a < b) (hb : b < l.length) : lt (l[a]'(by omega)) l[b] := List.pairwise_iff_getElem.1 hr a b (by omega) hb hab
theorem InsS.never {v : Va} {l : List Va} {i : Nat} {out : List Va} (h : InsS v l i true out) (hr : Rise l) (hi : i < l.length) (hv : lt l[i] v) : False := by
  rcases h with ⟨e, _⟩ | ⟨_, k, hk, _, ⟨h2, h3⟩, _⟩
  · cases e
  · exact lt_irrefl v (lt_trans h3 (lt_trans (rise_lt hr hk hi) hv))
theorem InsS.same {v : Va} {l : List Va} {i : Nat} (hr : Rise l) (hi : i < l.length) (hv : v = l[i]) : ins v l = l := ins_there hr (by rw [hv]; exact List.getElem_mem hi)
theorem InsS.last {v : Va} {l : List Va} {i : Nat} {out : List Va} (h : InsS v l i false out) (hi : ¬ i < l.length) : ins v l = out ++ [v] := by
  rcases h with ⟨_, rfl, h1⟩ | ⟨e, _⟩
  · rw [ins_split (k := l.length) (Nat.le_refl _) (fun j hj _ => h1 j hj (by omega)) (fun h => absurd h (Nat.lt_irrefl _)), List.take_length, List.drop_length, List.take_of_length_le (by omega)]
  · cases e
theorem InsS.done {v : Va} {l : List Va} {i : Nat} {out : List Va} (h : InsS v l i true out) (hi : ¬ i < l.length) : ins v l = out := by
  rcases h with ⟨e, _⟩ | ⟨_, k, hk, h1, ⟨h2, h3⟩, rfl⟩
  · cases e
  · rw [ins_split (k := k) (by omega) h1 (fun _ => h3), show l.take i = l from List.take_of_length_le (by omega)]
end Rg
end Go.Proofs.Ytjbbhfkbhpagbaa
/- The walk of the document's Insert. -/
namespace Go.Proofs.Ytjbbhfkbhpagbaa.O
open Go.RowKit

set_option maxRecDepth 20000 in
set_option maxHeartbeats 4000000 in
theorem refInsert_any (v : Value) (l : List Rg.Va) (x : Rg.Va) (w : World) (hv : valsIn w v l) (hr : Rg.Rise l) (hn : l.length ≤ 1000000) (hx : x.2.2.length ≤ 2000000) :
    Calls Try.prog 29 #[v, vV x] w fun e w' => ∃ r, e = .returned r ∧ valsIn w' r (Rg.ins x l) ∧ Below w.heap.size w w' := by
  obtain ⟨ao, cap, rfl⟩ := hv.slice
  obtain ⟨n, hn0⟩ : ∃ n, n = l.length := ⟨_, rfl⟩
  have HN : Hid (n = l.length) := hn0
  rw [← hn0] at hv hn ⊢
  have B0 := below_new w (vO x)
  have V0 := VAt.new w x.1 x.2.1 x.2.2
  obtain ⟨W0, hW0⟩ : ∃ W0, W0 = w.alloc (vO x) := ⟨_, rfl⟩
  rw [show w.alloc (valO x.1 x.2.1 x.2.2) = W0 from hW0.symm] at V0
  rw [← hW0] at B0
  have HV : Hid (valsIn W0 (.slice ao n cap) l) := hv.on B0
  have HR : Hid (Rg.Rise l) := hr
  clear hn0 hv hr
  go_enter Try.func29, Try.ntmps29
  go_wp2
  rw [← hW0]
  clear hW0
  go_loopw [5, 6, 7, 8] (fun out b i _ wr => ∃ (k : Nat) (laid : Bool) (acc : List Rg.Va), k ≤ n ∧ i = .int .i64 k ∧ b = .bool laid ∧ Hid (Rg.InsS x l k laid acc) ∧ wr.ownsRow W0.heap.size 26 3 out acc.length (acc.flatMap vcell) ∧ Below W0.heap.size W0 wr) (fun _ _ i _ _ => n - (intOf i).toNat)
  case atStart => exact ⟨0, false, [], by omega, rfl, rfl, Rg.InsS.start x l, World.ownsRow_nil _ _ _ _, Below.refl _ _⟩
  case round =>
    obtain ⟨k, laid, acc, hk, rfl, rfl, HI, hown, hbw⟩ := hrel
    obtain ⟨b0, b1, b2, -, -, -⟩ := V0.on hbw
    by_cases hkn : k < n
    · have hkx : k < l.length := by rw [← HN.out]; exact hkn
      obtain ⟨ad, rfl, hA⟩ := HV.out.get hkx
      obtain ⟨a0, a1, a2⟩ := hA.on hbw
      have HC := fun W => V.refComp_any x.1 x.2.1 x.2.2 l[k].1 l[k].2.1 l[k].2.2 W hx
      have hi0 : (0 : Int) ≤ (k : Int) := by omega
      have hi1 : (k : Int) < (n : Int) := by omega
      have hle1 : acc.length + 1 ≤ 1000001 := by have h := HI.out.len; omega
      rcases Rg.tri x l[k] with ⟨hlt, e⟩ | ⟨heq, e⟩ | ⟨hlt, e⟩
      · rw [show Rg.comp (x.1, x.2.1, x.2.2) (l[k].1, l[k].2.1, l[k].2.2) = -1 from e] at HC
        cases laid with
        | false =>
          have HI' : Hid (Rg.InsS x l (k + 1) true (acc ++ [x] ++ [l[k]])) := by have h := HI.out.before hkx hlt; exact h
          have hle2 : (acc ++ [x]).length + 1 ≤ 1000001 := by have h := HI'.out.len; rw [List.length_append, List.length_singleton] at h; omega
          clear HI hlt e
          generalize l[k] = y at *
          go_wp2_with fail
          go_region_held3 (fun w' => w'.cell? ⟨w.heap.size, 0, none⟩ = some (.int .i64 x.1) ∧ w'.cell? ⟨w.heap.size, 1, none⟩ = some (.int .i64 x.2.1) ∧ w'.cell? ⟨w.heap.size, 2, none⟩ = some (.string ⟨x.2.2.toArray⟩) ∧ w'.cell? (ad.add (k * 3)) = some (.int .i64 y.1) ∧ w'.cell? ⟨(ad.add (k * 3)).block, (ad.add (k * 3)).off + 1, none⟩ = some (.int .i64 y.2.1) ∧ w'.cell? ⟨(ad.add (k * 3)).block, (ad.add (k * 3)).off + 2, none⟩ = some (.string ⟨y.2.2.toArray⟩))
            (first | go_keep | (refine ⟨keep_cell hb ?_, keep_cell hb ?_, keep_cell hb ?_, keep_cell hb ?_, keep_cell hb ?_, keep_cell hb ?_⟩ <;> go_keep))
            (first | (go_at_call 48; refine (HC _).mono ?_; rintro e w1 ⟨rfl, hb⟩))
          have hbx : Below wr.heap.size wr w1 := bchain (Below.refl _ wr).drew hb
          have hb1 : Below W0.heap.size W0 w1 := bchain hbw.drew hb
          have hown0 : w1.ownsRow W0.heap.size 26 3 _ acc.length (acc.flatMap vcell) := own_on hown hbx
          clear b0 b1 b2 a0 a1 a2
          obtain ⟨b0, b1, b2, -, -, -⟩ := V0.on hb1
          obtain ⟨a0, a1, a2⟩ := hA.on hb1
          go_wp2_with (first
            | (at_builtin; refine append_val rfl _ _ rfl W0.heap.size (bchain hb3 (below_new w3 (vO y))).size _ (acc ++ [x]) rfl (own_on hown2 (below_new w3 (vO y))) _ y rfl (new_val w3 y) hle2 ?_; intro v4 w5 hown4 hg4)
            | (at_builtin; refine append_val rfl _ _ rfl W0.heap.size (bchain hb1 (below_new w1 (vO x))).size _ acc rfl (own_on hown0 (below_new w1 (vO x))) _ x rfl (new_val w1 x) hle1 ?_; intro v2 w3 hown2 hg2; have hb3 : Below W0.heap.size W0 w3 := (bchain hb1 (below_new w1 (vO x))).grown hg2 (bchain hb1 (below_new w1 (vO x))).size (fun g e => (hown0.lt g e).1); obtain ⟨a0, a1, a2⟩ := hA.on hb3)
            | go_in)
          go_roundw
          case rel => exact ⟨k + 1, true, acc ++ [x] ++ [y], by omega, by go_num, rfl, HI', hown4, (bchain hb3 (below_new w3 (vO y))).grown hg4 (bchain hb3 (below_new w3 (vO y))).size (fun g e => (hown2.lt g e).1)⟩
          case measure => simp [intOf]; omega
        | true =>
          have HI' : Hid (Rg.InsS x l (k + 1) true (acc ++ [l[k]])) := by have h := HI.out.after hkx; exact h
          clear HI hlt e
          generalize l[k] = y at *
          go_wp2_with fail
          go_region_held3 (fun w' => w'.cell? ⟨w.heap.size, 0, none⟩ = some (.int .i64 x.1) ∧ w'.cell? ⟨w.heap.size, 1, none⟩ = some (.int .i64 x.2.1) ∧ w'.cell? ⟨w.heap.size, 2, none⟩ = some (.string ⟨x.2.2.toArray⟩) ∧ w'.cell? (ad.add (k * 3)) = some (.int .i64 y.1) ∧ w'.cell? ⟨(ad.add (k * 3)).block, (ad.add (k * 3)).off + 1, none⟩ = some (.int .i64 y.2.1) ∧ w'.cell? ⟨(ad.add (k * 3)).block, (ad.add (k * 3)).off + 2, none⟩ = some (.string ⟨y.2.2.toArray⟩))
            (first | go_keep | (refine ⟨keep_cell hb ?_, keep_cell hb ?_, keep_cell hb ?_, keep_cell hb ?_, keep_cell hb ?_, keep_cell hb ?_⟩ <;> go_keep))
            (first | (go_at_call 48; refine (HC _).mono ?_; rintro e w1 ⟨rfl, hb⟩))
          have hbx : Below wr.heap.size wr w1 := bchain (Below.refl _ wr).drew hb
          have hb1 : Below W0.heap.size W0 w1 := bchain hbw.drew hb
          have hown0 : w1.ownsRow W0.heap.size 26 3 _ acc.length (acc.flatMap vcell) := own_on hown hbx
          clear b0 b1 b2 a0 a1 a2
          obtain ⟨b0, b1, b2, -, -, -⟩ := V0.on hb1
          obtain ⟨a0, a1, a2⟩ := hA.on hb1
          go_wp2_with (first
            | (at_builtin; refine append_val rfl _ _ rfl W0.heap.size (bchain hb1 (below_new w1 (vO y))).size _ acc rfl (own_on hown0 (below_new w1 (vO y))) _ y rfl (new_val w1 y) hle1 ?_; intro v2 w3 hown2 hg2)
            | go_in)
          go_roundw
          case rel => exact ⟨k + 1, true, acc ++ [y], by omega, by go_num, rfl, HI', hown2, (bchain hb1 (below_new w1 (vO y))).grown hg2 (bchain hb1 (below_new w1 (vO y))).size (fun g e => (hown0.lt g e).1)⟩
          case measure => simp [intOf]; omega
      · rw [show Rg.comp (x.1, x.2.1, x.2.2) (l[k].1, l[k].2.1, l[k].2.2) = 0 from e] at HC
        have HE : Hid (Rg.ins x l = l) := by have h := Rg.InsS.same HR.out hkx heq; exact h
        clear HI heq e
        generalize l[k] = y at *
        go_wp2_with fail
        go_region_held3 (fun w' => w'.cell? ⟨w.heap.size, 0, none⟩ = some (.int .i64 x.1) ∧ w'.cell? ⟨w.heap.size, 1, none⟩ = some (.int .i64 x.2.1) ∧ w'.cell? ⟨w.heap.size, 2, none⟩ = some (.string ⟨x.2.2.toArray⟩) ∧ w'.cell? (ad.add (k * 3)) = some (.int .i64 y.1) ∧ w'.cell? ⟨(ad.add (k * 3)).block, (ad.add (k * 3)).off + 1, none⟩ = some (.int .i64 y.2.1) ∧ w'.cell? ⟨(ad.add (k * 3)).block, (ad.add (k * 3)).off + 2, none⟩ = some (.string ⟨y.2.2.toArray⟩))
          (first | go_keep | (refine ⟨keep_cell hb ?_, keep_cell hb ?_, keep_cell hb ?_, keep_cell hb ?_, keep_cell hb ?_, keep_cell hb ?_⟩ <;> go_keep))
          (first | (go_at_call 48; refine (HC _).mono ?_; rintro e w1 ⟨rfl, hb⟩))
        have hbx : Below wr.heap.size wr w1 := bchain (Below.refl _ wr).drew hb
        have hb1 : Below W0.heap.size W0 w1 := bchain hbw.drew hb
        have hown0 : w1.ownsRow W0.heap.size 26 3 _ acc.length (acc.flatMap vcell) := own_on hown hbx
        clear b0 b1 b2 a0 a1 a2
        obtain ⟨b0, b1, b2, -, -, -⟩ := V0.on hb1
        obtain ⟨a0, a1, a2⟩ := hA.on hb1
        go_wp2
        go_ret
        exact ⟨_, rfl, by rw [HE.out]; exact HV.out.on hb1, bchain B0 hb1⟩
      · rw [show Rg.comp (x.1, x.2.1, x.2.2) (l[k].1, l[k].2.1, l[k].2.2) = 1 from e] at HC
        cases laid with
        | false =>
          have HI' : Hid (Rg.InsS x l (k + 1) false (acc ++ [l[k]])) := by have h := HI.out.behind hkx hlt; exact h
          clear HI hlt e
          generalize l[k] = y at *
          go_wp2_with fail
          go_region_held3 (fun w' => w'.cell? ⟨w.heap.size, 0, none⟩ = some (.int .i64 x.1) ∧ w'.cell? ⟨w.heap.size, 1, none⟩ = some (.int .i64 x.2.1) ∧ w'.cell? ⟨w.heap.size, 2, none⟩ = some (.string ⟨x.2.2.toArray⟩) ∧ w'.cell? (ad.add (k * 3)) = some (.int .i64 y.1) ∧ w'.cell? ⟨(ad.add (k * 3)).block, (ad.add (k * 3)).off + 1, none⟩ = some (.int .i64 y.2.1) ∧ w'.cell? ⟨(ad.add (k * 3)).block, (ad.add (k * 3)).off + 2, none⟩ = some (.string ⟨y.2.2.toArray⟩))
            (first | go_keep | (refine ⟨keep_cell hb ?_, keep_cell hb ?_, keep_cell hb ?_, keep_cell hb ?_, keep_cell hb ?_, keep_cell hb ?_⟩ <;> go_keep))
            (first | (go_at_call 48; refine (HC _).mono ?_; rintro e w1 ⟨rfl, hb⟩))
          have hbx : Below wr.heap.size wr w1 := bchain (Below.refl _ wr).drew hb
          have hb1 : Below W0.heap.size W0 w1 := bchain hbw.drew hb
          have hown0 : w1.ownsRow W0.heap.size 26 3 _ acc.length (acc.flatMap vcell) := own_on hown hbx
          clear b0 b1 b2 a0 a1 a2
          obtain ⟨b0, b1, b2, -, -, -⟩ := V0.on hb1
          obtain ⟨a0, a1, a2⟩ := hA.on hb1
          go_wp2_with (first
            | (at_builtin; refine append_val rfl _ _ rfl W0.heap.size (bchain hb1 (below_new w1 (vO y))).size _ acc rfl (own_on hown0 (below_new w1 (vO y))) _ y rfl (new_val w1 y) hle1 ?_; intro v2 w3 hown2 hg2)
            | go_in)
          go_roundw
          case rel => exact ⟨k + 1, false, acc ++ [y], by omega, by go_num, rfl, HI', hown2, (bchain hb1 (below_new w1 (vO y))).grown hg2 (bchain hb1 (below_new w1 (vO y))).size (fun g e => (hown0.lt g e).1)⟩
          case measure => simp [intOf]; omega
        | true => exact (HI.out.never HR.out hkx hlt).elim
    · cases laid with
      | false =>
        have hle0 : acc.length + 1 ≤ 1000001 := by
          rcases HI.out with ⟨-, h, -⟩ | ⟨h, -⟩
          · rw [h, List.length_take]; omega
          · cases h
        have HE : Hid (Rg.ins x l = acc ++ [x]) := by
          have h := HI.out.last (by rw [← HN.out]; exact hkn)
          exact h
        go_wp2_with (first
          | (at_builtin; refine append_val rfl _ _ rfl W0.heap.size (bchain hbw (below_new wr (vO x))).size _ acc rfl (own_on hown (below_new wr (vO x))) _ x rfl (new_val wr x) hle0 ?_; intro v2 w3 hown2 hg2)
          | go_in)
        go_ret
        exact ⟨_, rfl, by rw [HE.out]; exact valsIn_own hown2, bchain B0 ((bchain hbw (below_new wr (vO x))).grown hg2 (bchain hbw (below_new wr (vO x))).size (fun g e => (hown.lt g e).1))⟩
      | true =>
        have HE : Hid (Rg.ins x l = acc) := by
          have h := HI.out.done (by rw [← HN.out]; exact hkn)
          exact h
        go_wp2
        go_ret
        exact ⟨_, rfl, by rw [HE.out]; exact valsIn_own hown, bchain B0 hbw⟩
end Go.Proofs.Ytjbbhfkbhpagbaa.O
/- The walk of the document's Values. -/
namespace Go.Proofs.Ytjbbhfkbhpagbaa.O
open Go.RowKit

theorem short_text {o : Os.Op} (h : Os.short o = true) : o.vs.length ≤ 2000000 := by
  simp only [Os.short, Bool.and_eq_true, decide_eq_true_eq] at h
  omega

set_option maxRecDepth 20000 in
set_option maxHeartbeats 2000000 in
theorem refValues_any (v vp : Value) (xs : List IE) (p : List (List UInt8)) (w : World) (hv : itsE w v xs) (hp : U.strsAt w vp p) (hn : xs.length ≤ 1000000) (hpn : p.length ≤ 2000000) (hs : ShortI xs) :
    Calls Try.prog 12 #[v, vp] w fun e w' => ∃ r, e = .returned r ∧ valsIn w' r (Rg.vals (vof (xs.filter fun x => isAt p 2 x.1))) ∧ Below w.heap.size w w' := by
  have HC := refAt_any v vp xs p 2 w hv hp hn hpn hs
  have hn1 : (xs.filter fun x => isAt p 2 x.1).length ≤ 1000000 := Nat.le_trans (List.length_filter_le _ _) hn
  have HSh : Hid (ShortI (xs.filter fun x => isAt p 2 x.1)) := by have h : ShortI (xs.filter fun x => isAt p 2 x.1) := fun x hx => hs x (List.mem_filter.1 hx).1; exact h
  clear hv hp hs hn
  generalize (xs.filter fun x => isAt p 2 x.1) = ys at *
  go_enter Try.func12, Try.ntmps12
  go_wp2_with (go_at_call 24; refine HC.mono ?_; rintro e w1 ⟨r, rfl, hr, hb1⟩; obtain ⟨ao, cap, rfl⟩ := hr.slice; have HV : Hid (itsE w1 (.slice ao ys.length cap) ys) := hr; obtain ⟨n, hn0⟩ : ∃ n, n = ys.length := ⟨_, rfl⟩; have HN : Hid (n = ys.length) := hn0; rw [← hn0] at HV hn1 ⊢; clear hr hn0)
  go_loopw [5, 7] (fun out i wr => ∃ k : Nat, k ≤ n ∧ i = .int .i64 k ∧ valsIn wr out (Rg.vals ((vof ys).take k)) ∧ Below w1.heap.size w1 wr) (fun _ i _ => n - (intOf i).toNat)
  case atStart => exact ⟨0, by omega, rfl, valsIn_nil _, Below.refl _ _⟩
  case round =>
    obtain ⟨k, hk, rfl, hout, hbw⟩ := hrel
    by_cases hkn : k < n
    · have hkx : k < ys.length := by rw [← HN.out]; exact hkn
      obtain ⟨ad, rfl, -, hX, hXi⟩ := (HV.out.on hbw).get hkx
      have hkv : k < (vof ys).length := by rw [vof, List.length_map]; exact hkx
      have HI : Calls Try.prog 29 #[u5, vV (Rg.valOf ys[k].1)] wr fun e w' => ∃ r, e = .returned r ∧ valsIn w' r (Rg.vals ((vof ys).take (k + 1))) ∧ Below wr.heap.size wr w' := by
        rw [Rg.vals_step _ hkv, show (vof ys)[k] = Rg.valOf ys[k].1 from List.getElem_map _]
        refine refInsert_any _ _ _ wr hout (Rg.vals_rise _) (Nat.le_trans (Rg.vals_len _) (by rw [List.length_take]; omega)) (short_text (HSh.out _ (List.getElem_mem hkx)))
      clear hout
      generalize ys[k] = x at *
      obtain ⟨it, pv, sv⟩ := x
      obtain ⟨c0, c1, c2, c3, c4, c5, c6, c7, c8, c9, c10⟩ := hX
      clear hXi
      go_wp2_with (first
        | (go_at_call 29; refine HI.mono ?_; rintro e w2 ⟨r2, rfl, hr2, hb2⟩)
        | go_in)
      go_roundw
      case rel => exact ⟨k + 1, by omega, by go_num, hr2, bchain hbw hb2⟩
      case measure => simp [intOf]; omega
    · rw [List.take_of_length_le (by rw [vof, List.length_map, ← HN.out]; omega)] at hout
      go_wp2
      go_ret
      exact ⟨_, rfl, hout, bchain hb1 hbw⟩
end Go.Proofs.Ytjbbhfkbhpagbaa.O
