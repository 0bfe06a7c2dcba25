/- The walks of 'each' and of its closures: a vector of what a function answers to each place and number. -/
import Derived.Test.YtmifkfeobdnocaaArr
import Derived.Test.YtmifkfeobdnocaaVecs
namespace Go.Proofs.Ytmifkfeobdnocaa
open Go.RowKit

/-- What a vector new in memory is. -/
def noughts : List Int := List.replicate 16 0
theorem noughts_length : noughts.length = 16 := by simp [noughts]

theorem join_one (b : List Int) (hb : b.length = 16) (k : Nat) (hk : k < 16) (x : Int) (c : Nat) (w : World) (h : VecAt w c b) :
    Calls Try.prog 30 #[.int .i64 (k : Int), .int .i64 x, .pointer (some ⟨c, 0, none⟩)] w fun e w' => e = .returned (.int .i64 (max x (b.getD k 0))) ∧ w' = w := by
  have hc := h.cell (k := k) (by omega)
  generalize b.getD k 0 = y at *
  clear h hb
  by_cases hxy : y < x
  · rw [show max x y = x by omega]
    go_enter Try.func30, Try.ntmps30
    go_wp2
    go_ret
    exact ⟨rfl, rfl⟩
  · rw [show max x y = y by omega]
    go_enter Try.func30, Try.ntmps30
    go_wp2
    all_goals
      go_ret
      first | exact ⟨rfl, rfl⟩ | exact ⟨ret_int (by omega), rfl⟩

set_option maxRecDepth 20000 in
set_option maxHeartbeats 1000000 in
theorem each_join (l : List Int) (hl : l.length = 16) (b : List Int) (hb : b.length = 16) (c : Nat) (w : World) (h : VecAt w c b) :
    Calls Try.prog 29 #[vecV l, .func (.func 30) #[] #[.pointer (some ⟨c, 0, none⟩)]] w fun e w' => e = .returned (vecV (Vc.join l b)) ∧ Below w.heap.size w w' := by
  have hW0 : VecAt ((w.alloc (.cells (ints l).toArray 23)).alloc (.cells (ints noughts).toArray 23)) w.heap.size l := (VecAt.new w l).alloc _
  have hW1 : VecAt ((w.alloc (.cells (ints l).toArray 23)).alloc (.cells (ints noughts).toArray 23)) (w.heap.size + 1) noughts := by
    have := VecAt.new (w.alloc (.cells (ints l).toArray 23)) noughts
    simpa using this
  have hB : Below w.heap.size w ((w.alloc (.cells (ints l).toArray 23)).alloc (.cells (ints noughts).toArray 23)) := below_new2 _ _ _
  obtain ⟨f, hf⟩ : ∃ f : Nat → Int → Int, f = fun i x => max x (b.getD i 0) := ⟨_, rfl⟩
  have HF : Hid (f = fun i x => max x (b.getD i 0)) := hf
  clear hf
  go_enter Try.func29, Try.ntmps29
  go_wp2_with (refine load_vec rfl _ rfl w.heap.size l hl rfl hW0 ?_)
  go_loopw [8] (fun i wr => ∃ k : Nat, k ≤ 16 ∧ i = .int .i64 k ∧ VecAt wr w.heap.size (Vc.upto f l k) ∧ VecAt wr (w.heap.size + 1) noughts ∧ Below w.heap.size w wr) (fun i _ => 16 - (intOf i).toNat)
  case atStart => exact ⟨0, by omega, rfl, by rw [Vc.upto_zero]; exact hW0, hW1, hB⟩
  case round =>
    clear hW0 hW1 hB
    obtain ⟨k, hk, rfl, h0, h1, hB⟩ := hrel
    by_cases hlt : k < 16
    · have hix := index_vec hl hlt
      have hst := Vc.upto_step f l k (by omega)
      obtain ⟨x, hx⟩ : ∃ x, l.getD k 0 = x := ⟨_, rfl⟩
      rw [hx] at hix hst
      obtain ⟨y, hy⟩ : ∃ y, y = f k x := ⟨_, rfl⟩
      have HC : ∀ w1, Below w.heap.size w w1 → Calls Try.prog 30 #[.int .i64 (k : Int), .int .i64 x, .pointer (some ⟨c, 0, none⟩)] w1 fun e w2 => e = .returned (.int .i64 y) ∧ w2 = w1 := fun w1 hb1 => by
        rw [hy, HF.out]
        exact join_one b hb k hlt x c w1 (h.on hb1)
      rw [← hy] at hst
      clear hx hy
      have hc := h0.cell (k := k) (by rw [Vc.upto_length]; omega)
      generalize (Vc.upto f l k).getD k 0 = z at hc
      have hfz := h0.frozen k
      have HR : Hid (VecAt (wr.setCell ⟨w.heap.size, k, none⟩ (.int .i64 y)) w.heap.size (Vc.upto f l (k + 1)) ∧ VecAt (wr.setCell ⟨w.heap.size, k, none⟩ (.int .i64 y)) (w.heap.size + 1) noughts ∧ Below w.heap.size w (wr.setCell ⟨w.heap.size, k, none⟩ (.int .i64 y))) := by
        refine (⟨?_, ?_, ?_⟩ : _ ∧ _ ∧ _)
        · rw [← hst]; exact h0.set k y
        · exact h1.other _ _ (by simp)
        · exact hB.setCell (p := ⟨w.heap.size, k, none⟩) (Nat.le_refl _) _
      clear h0 h1 hst
      go_wp2_with (go_at_call 30; refine (HC _ hB).mono ?_; rintro e w1 ⟨rfl, rfl⟩)
      go_roundw
      case rel => exact ⟨k + 1, by omega, by go_num, HR.out⟩
      case measure => simp [intOf]; omega
    · obtain rfl : k = 16 := by omega
      rw [Vc.upto_all f l 16 (by omega)] at h0
      have hm : (l.mapIdx f).length = 16 := by simp [hl]
      have HE : Hid (l.mapIdx f = Vc.join l b) := by
        have h : l.mapIdx f = Vc.join l b := by rw [HF.out]; rfl
        exact h
      generalize l.mapIdx f = m at *
      go_wp2_with (first | (refine load_vec rfl _ rfl w.heap.size m hm rfl h0 ?_) | (refine store_vec rfl _ _ rfl (w.heap.size + 1) m noughts hm noughts_length rfl rfl h1 ?_))
      refine bodyPost_ret (ret_vec rfl _ hm rfl (h1.row m)) rfl ⟨by rw [HE.out], below_setRow hB (by omega) _⟩

theorem meet_one (b : List Int) (hb : b.length = 16) (k : Nat) (hk : k < 16) (x : Int) (c : Nat) (w : World) (h : VecAt w c b) :
    Calls Try.prog 31 #[.int .i64 (k : Int), .int .i64 x, .pointer (some ⟨c, 0, none⟩)] w fun e w' => e = .returned (.int .i64 (min x (b.getD k 0))) ∧ w' = w := by
  have hc := h.cell (k := k) (by omega)
  generalize b.getD k 0 = y at *
  clear h hb
  by_cases hxy : y < x
  · rw [show min x y = y by omega]
    go_enter Try.func31, Try.ntmps31
    go_wp2
    go_ret
    exact ⟨rfl, rfl⟩
  · rw [show min x y = x by omega]
    go_enter Try.func31, Try.ntmps31
    go_wp2
    all_goals
      go_ret
      first | exact ⟨rfl, rfl⟩ | exact ⟨ret_int (by omega), rfl⟩

set_option maxRecDepth 20000 in
set_option maxHeartbeats 1000000 in
theorem each_meet (l : List Int) (hl : l.length = 16) (b : List Int) (hb : b.length = 16) (c : Nat) (w : World) (h : VecAt w c b) :
    Calls Try.prog 29 #[vecV l, .func (.func 31) #[] #[.pointer (some ⟨c, 0, none⟩)]] w fun e w' => e = .returned (vecV (Vc.meet l b)) ∧ Below w.heap.size w w' := by
  have hW0 : VecAt ((w.alloc (.cells (ints l).toArray 23)).alloc (.cells (ints noughts).toArray 23)) w.heap.size l := (VecAt.new w l).alloc _
  have hW1 : VecAt ((w.alloc (.cells (ints l).toArray 23)).alloc (.cells (ints noughts).toArray 23)) (w.heap.size + 1) noughts := by
    have := VecAt.new (w.alloc (.cells (ints l).toArray 23)) noughts
    simpa using this
  have hB : Below w.heap.size w ((w.alloc (.cells (ints l).toArray 23)).alloc (.cells (ints noughts).toArray 23)) := below_new2 _ _ _
  obtain ⟨f, hf⟩ : ∃ f : Nat → Int → Int, f = fun i x => min x (b.getD i 0) := ⟨_, rfl⟩
  have HF : Hid (f = fun i x => min x (b.getD i 0)) := hf
  clear hf
  go_enter Try.func29, Try.ntmps29
  go_wp2_with (refine load_vec rfl _ rfl w.heap.size l hl rfl hW0 ?_)
  go_loopw [8] (fun i wr => ∃ k : Nat, k ≤ 16 ∧ i = .int .i64 k ∧ VecAt wr w.heap.size (Vc.upto f l k) ∧ VecAt wr (w.heap.size + 1) noughts ∧ Below w.heap.size w wr) (fun i _ => 16 - (intOf i).toNat)
  case atStart => exact ⟨0, by omega, rfl, by rw [Vc.upto_zero]; exact hW0, hW1, hB⟩
  case round =>
    clear hW0 hW1 hB
    obtain ⟨k, hk, rfl, h0, h1, hB⟩ := hrel
    by_cases hlt : k < 16
    · have hix := index_vec hl hlt
      have hst := Vc.upto_step f l k (by omega)
      obtain ⟨x, hx⟩ : ∃ x, l.getD k 0 = x := ⟨_, rfl⟩
      rw [hx] at hix hst
      obtain ⟨y, hy⟩ : ∃ y, y = f k x := ⟨_, rfl⟩
      have HC : ∀ w1, Below w.heap.size w w1 → Calls Try.prog 31 #[.int .i64 (k : Int), .int .i64 x, .pointer (some ⟨c, 0, none⟩)] w1 fun e w2 => e = .returned (.int .i64 y) ∧ w2 = w1 := fun w1 hb1 => by
        rw [hy, HF.out]
        exact meet_one b hb k hlt x c w1 (h.on hb1)
      rw [← hy] at hst
      clear hx hy
      have hc := h0.cell (k := k) (by rw [Vc.upto_length]; omega)
      generalize (Vc.upto f l k).getD k 0 = z at hc
      have hfz := h0.frozen k
      have HR : Hid (VecAt (wr.setCell ⟨w.heap.size, k, none⟩ (.int .i64 y)) w.heap.size (Vc.upto f l (k + 1)) ∧ VecAt (wr.setCell ⟨w.heap.size, k, none⟩ (.int .i64 y)) (w.heap.size + 1) noughts ∧ Below w.heap.size w (wr.setCell ⟨w.heap.size, k, none⟩ (.int .i64 y))) := by
        refine (⟨?_, ?_, ?_⟩ : _ ∧ _ ∧ _)
        · rw [← hst]; exact h0.set k y
        · exact h1.other _ _ (by simp)
        · exact hB.setCell (p := ⟨w.heap.size, k, none⟩) (Nat.le_refl _) _
      clear h0 h1 hst
      go_wp2_with (go_at_call 31; refine (HC _ hB).mono ?_; rintro e w1 ⟨rfl, rfl⟩)
      go_roundw
      case rel => exact ⟨k + 1, by omega, by go_num, HR.out⟩
      case measure => simp [intOf]; omega
    · obtain rfl : k = 16 := by omega
      rw [Vc.upto_all f l 16 (by omega)] at h0
      have hm : (l.mapIdx f).length = 16 := by simp [hl]
      have HE : Hid (l.mapIdx f = Vc.meet l b) := by
        have h : l.mapIdx f = Vc.meet l b := by rw [HF.out]; rfl
        exact h
      generalize l.mapIdx f = m at *
      go_wp2_with (first | (refine load_vec rfl _ rfl w.heap.size m hm rfl h0 ?_) | (refine store_vec rfl _ _ rfl (w.heap.size + 1) m noughts hm noughts_length rfl rfl h1 ?_))
      refine bodyPost_ret (ret_vec rfl _ hm rfl (h1.row m)) rfl ⟨by rw [HE.out], below_setRow hB (by omega) _⟩
end Go.Proofs.Ytmifkfeobdnocaa
