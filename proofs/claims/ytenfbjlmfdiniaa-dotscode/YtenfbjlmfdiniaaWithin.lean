/- The walks of Within and of the document's Good. -/
import Derived.Test.YtenfbjlmfdiniaaUnions
import Derived.Test.YtenfbjlmfdiniaaRefRights
namespace Go.Proofs.Ytenfbjlmfdiniaa
open Go.RowKit Go.Shelf

theorem lacks_any (bb : Nat) (m : List Int) (hm : m.length = 16) (u : Value) (es : List D) (x : D) (w : World) (hS : SetAt w bb m u) (hd : dotsIn w u es) (hn : es.length ≤ 1000000) (hp : es.Pairwise St.lt) :
    Calls Try.prog 60 #[dV x, .pointer (some ⟨bb, 0, none⟩)] w fun e w' => e = .returned (.bool (!St.has m es x)) ∧ Below w.heap.size w w' := by
  have hS1 := hS.alloc (.cells #[.int .i64 x.1, .int .i64 x.2] 28)
  have hD1 := DotAt.new w x
  have hB1 := below_new w (.cells #[.int .i64 x.1, .int .i64 x.2] 28)
  have HC := hasSet_any m hm u es x _ (hd.on hB1) hn hp
  generalize St.has m es x = q at *
  clear hS hd hp
  go_enter Try.func60, Try.ntmps60
  go_wp2_with (first | (refine load_set rfl _ rfl bb m u hm rfl hS1 ?_) | (refine load_dot rfl _ rfl w.heap.size x rfl hD1 ?_) | (go_at_call 12; refine HC.mono ?_; rintro e w1 ⟨rfl, hb1⟩))
  go_ret
  exact ⟨rfl, bchain hB1 hb1⟩
theorem eg60 : ∀ args w, (callFunc 60 args).run Try.prog w = .ok (.enter 60 args) w := enters_of Try.func60 (by kernel_rfl) rfl

set_option maxRecDepth 20000 in
set_option maxHeartbeats 400000 in
theorem within_any (l m : List Int) (hl : l.length = 16) (hm : m.length = 16) (v u : Value) (ds es : List D) (w : World) (hd : dotsIn w v ds) (he : dotsIn w u es) (hn : ds.length ≤ 1000000) (hn2 : es.length ≤ 1000000) (hp : es.Pairwise St.lt) :
    Calls Try.prog 24 #[setV l v, setV m u] w fun e w' => e = .returned (.bool (wit (l, ds) (m, es))) ∧ Below w.heap.size w w' := by
  obtain ⟨W0, hW0⟩ : ∃ W0, W0 = (w.alloc (.cells (setC l v).toArray 26)).alloc (.cells (setC m u).toArray 26) := ⟨_, rfl⟩
  have hB0 : Below w.heap.size w W0 := by rw [hW0]; exact below_new2 _ _ _
  have hA0 : SetAt W0 w.heap.size l v := by rw [hW0]; exact (SetAt.new w l v).alloc _
  have hA1 : SetAt W0 (w.heap.size + 1) m u := by
    rw [hW0]
    have := SetAt.new (w.alloc (.cells (setC l v).toArray 26)) m u
    simpa using this
  have HV := fun W => within_vec l m hl hm W
  have HF : Hid (∀ W, Below W0.heap.size W0 W → Calls Try.prog 59 #[v, .func (.func 60) #[] #[.pointer (some ⟨w.heap.size + 1, 0, none⟩)]] W fun e w' => e = .returned (.bool (ds.any fun d => !St.has m es d)) ∧ Below W.heap.size W w') := fun W hW =>
    containsFunc_any v ds W ((hd.on hB0).on hW) hn 60 #[.pointer (some ⟨w.heap.size + 1, 0, none⟩)] (fun d => !St.has m es d) eg60 (fun W' x hW' => lacks_any (w.heap.size + 1) m hm u es x W' ((hA1.on hW).on hW') (((he.on hB0).on hW).on hW') hn2 hp)
  have e : wit (l, ds) (m, es) = (Vc.within l m && !(ds.any fun d => !St.has m es d)) := rfl
  rw [e]
  obtain ⟨ao, na, ca, rfl⟩ := hd.sl
  have HA : Hid (SetAt W0 w.heap.size l (.slice ao na ca)) := hA0
  have HB : Hid (Below w.heap.size w W0) := hB0
  have HW : Hid (W0 = (w.alloc (.cells (setC l (.slice ao na ca)).toArray 26)).alloc (.cells (setC m u).toArray 26)) := hW0
  rw [hW0] at hA0 hA1
  clear hW0 hd he hp hB0 e
  generalize (ds.any fun d => !St.has m es d) = q at *
  cases hq : Vc.within l m with
  | false =>
    rw [hq] at HV
    rw [Bool.false_and]
    go_enter Try.func24, Try.ntmps24
    go_wp2_with (first | (refine load_setVec rfl _ rfl w.heap.size l _ hl rfl hA0 ?_) | (refine load_setVec rfl _ rfl (w.heap.size + 1) m _ hm rfl hA1 ?_) | (go_at_call 58; refine (HV _).mono ?_; rintro e w1 ⟨rfl, hb1⟩))
    go_ret
    rw [← HW.out] at hb1
    exact ⟨rfl, bchain HB.out hb1⟩
  | true =>
    rw [hq] at HV
    rw [Bool.true_and]
    go_enter Try.func24, Try.ntmps24
    go_wp2_with (first
      | (refine load_setVec rfl _ rfl w.heap.size l _ hl rfl hA0 ?_)
      | (refine load_setVec rfl _ rfl (w.heap.size + 1) m _ hm rfl hA1 ?_)
      | (go_at_call 58; refine (HV _).mono ?_; rintro e w1 ⟨rfl, hb1⟩
         rw [← HW.out] at hb1
         have m1 := (HA.out.on hb1).more hl
         have HC := HF.out w1 hb1)
      | (go_at_call 59; refine HC.mono ?_; rintro e w2 ⟨rfl, hb2⟩))
    go_ret
    exact ⟨rfl, bchain HB.out (bchain hb1 hb2)⟩

/-- What is told is whether this holds. -/
def saidB (P : Prop) (e : Ending) : Prop := ∃ b : Bool, e = .returned (.bool b) ∧ (b = true ↔ P)
theorem saidB.yes {P : Prop} {e : Ending} (h : saidB P e) (hP : P) : e = .returned (.bool true) := by
  obtain ⟨b, rfl, hb⟩ := h
  rw [hb.2 hP]
theorem saidB.no {P : Prop} {e : Ending} (h : saidB P e) (hP : ¬ P) : e = .returned (.bool false) := by
  obtain ⟨b, rfl, hb⟩ := h
  cases b
  · rfl
  · exact absurd (hb.1 rfl) hP
theorem refRight_said (l : List Int) (hl : l.length = 16) (v : Value) (ds : List D) (w : World) (hd : dotsIn w v ds) (hn : ds.length ≤ 1000000) :
    Calls Try.prog 11 #[setV l v] w fun e w' => saidB (St.Std l ds ∧ ds.length ≤ 4096) e ∧ Below w.heap.size w w' :=
  (refRight_bool l hl v ds w hd hn).mono fun _ _ ⟨b, h1, h2, h3⟩ => ⟨⟨b, h1, h2⟩, h3⟩

set_option maxRecDepth 20000 in
set_option maxHeartbeats 400000 in
theorem good_any (l : List Int) (hl : l.length = 16) (v : Value) (ds : List D) (w : World) (hd : dotsIn w v ds) (b : Bool) (hb : b = true ↔ (St.Std l ds ∧ ds.length ≤ 100)) :
    Calls Try.prog 21 #[setV l v] w fun e w' => e = .returned (.bool b) ∧ Below w.heap.size w w' := by
  obtain ⟨W0, hW0⟩ : ∃ W0, W0 = w.alloc (.cells (setC l v).toArray 26) := ⟨_, rfl⟩
  have hB0 : Below w.heap.size w W0 := by rw [hW0]; exact below_new _ _
  have hA0 : SetAt W0 w.heap.size l v := by rw [hW0]; exact SetAt.new w l v
  obtain ⟨ao, ca, rfl, _, _⟩ := id hd
  by_cases hn : ds.length ≤ 100
  · have HR : Calls Try.prog 11 #[setV l (.slice ao ds.length ca)] W0 fun e w' => e = .returned (.bool b) ∧ Below W0.heap.size W0 w' := (refRight_said l hl _ ds W0 (hd.on hB0) (by omega)).mono fun e w' ⟨h1, h2⟩ => by
      refine ⟨?_, h2⟩
      by_cases hP : St.Std l ds
      · rw [h1.yes ⟨hP, by omega⟩, hb.2 ⟨hP, hn⟩]
      · rw [h1.no fun h => hP h.1]
        cases b
        · rfl
        · exact absurd (hb.1 rfl).1 hP
    have hn9 : (ds.length : Int) ≤ 100 := by omega
    have hB1 := hB0
    rw [hW0] at hA0 HR hB1
    clear hW0 hd hb hB0
    go_enter Try.func21, Try.ntmps21
    go_wp2_with (first | (refine load_more rfl _ rfl w.heap.size l _ hl rfl hA0 ?_) | (refine load_setG (by kernel_rfl) _ rfl w.heap.size l _ hl rfl hA0 ?_) | (go_at_call 11; refine HR.mono ?_; rintro e w1 ⟨rfl, hb1⟩))
    go_ret
    exact ⟨rfl, bchain hB1 hb1⟩
  · obtain rfl : b = false := by
      cases b
      · rfl
      · exact absurd (hb.1 rfl).2 hn
    have hn9 : ¬ (ds.length : Int) ≤ 100 := by omega
    rw [hW0] at hA0 hB0
    clear hW0 hd hb
    go_enter Try.func21, Try.ntmps21
    go_wp2_with (first | (refine load_more rfl _ rfl w.heap.size l _ hl rfl hA0 ?_))
    go_ret
    exact ⟨rfl, hB0⟩
end Go.Proofs.Ytenfbjlmfdiniaa
