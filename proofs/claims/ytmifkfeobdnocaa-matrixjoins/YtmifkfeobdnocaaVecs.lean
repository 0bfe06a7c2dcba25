/- Vectors as plain mathematics: the join and the meet, which are right, whose a dot is, how many, and their bytes. -/
import Derived.Test.YtmifkfeobdnocaaDots
namespace Go.Proofs.Ytmifkfeobdnocaa
namespace Vc

/-- The first k numbers are what a function makes of them. -/
def upto (f : Nat → Int → Int) (l : List Int) (k : Nat) : List Int := (l.mapIdx f).take k ++ l.drop k
theorem upto_zero (f : Nat → Int → Int) (l : List Int) : upto f l 0 = l := by simp [upto]
theorem upto_all (f : Nat → Int → Int) (l : List Int) (k : Nat) (h : l.length ≤ k) : upto f l k = l.mapIdx f := by
  simp [upto, List.drop_eq_nil_of_le h, List.take_of_length_le, h]
theorem upto_length (f : Nat → Int → Int) (l : List Int) (k : Nat) : (upto f l k).length = l.length := by
  simp [upto]; omega
theorem upto_step (f : Nat → Int → Int) (l : List Int) (k : Nat) (h : k < l.length) : (upto f l k).set k (f k (l.getD k 0)) = upto f l (k + 1) := by
  apply List.ext_getElem
  · simp [upto_length]
  · intro i h1 h2
    have hi : i < l.length := by rw [upto_length] at h2; exact h2
    simp only [upto, List.getElem_set, List.getElem_append, List.length_take, List.length_mapIdx, List.getElem_take, List.getElem_mapIdx, List.getElem_drop]
    by_cases e : k = i
    · subst e
      simp [h]
      omega
    · simp only [e, if_false]
      by_cases e2 : i < k
      · rw [dif_pos (by omega), dif_pos (by omega)]
      · rw [dif_neg (by omega), dif_neg (by omega)]
        congr 1
        omega

/-- Number by number the greater one, the lesser one. -/
def join (a b : List Int) : List Int := a.mapIdx fun i x => max x (b.getD i 0)
def meet (a b : List Int) : List Int := a.mapIdx fun i x => min x (b.getD i 0)
/-- Number by number into the bounds of a right vector. -/
def clip (a : List Int) : List Int := a.mapIdx fun _ x => min (max x 0) 1048576
theorem join_length (a b : List Int) : (join a b).length = a.length := by simp [join]
theorem meet_length (a b : List Int) : (meet a b).length = a.length := by simp [meet]
theorem clip_length (a : List Int) : (clip a).length = a.length := by simp [clip]
theorem join_at (a b : List Int) (k : Nat) (h : k < a.length) : (join a b).getD k 0 = max (a.getD k 0) (b.getD k 0) := by simp [join, List.getD, h]
theorem meet_at (a b : List Int) (k : Nat) (h : k < a.length) : (meet a b).getD k 0 = min (a.getD k 0) (b.getD k 0) := by simp [meet, List.getD, h]
theorem clip_at (a : List Int) (k : Nat) (h : k < a.length) : (clip a).getD k 0 = min (max (a.getD k 0) 0) 1048576 := by simp [clip, List.getD, h]
/-- Two vectors are the same, if their numbers are. -/
theorem same_of {a b : List Int} (h : a.length = b.length) (hk : ∀ k, k < a.length → a.getD k 0 = b.getD k 0) : a = b := by
  apply List.ext_getElem h
  intro i h1 h2
  have := hk i h1
  simpa [List.getD, h1, h2] using this
theorem at_same {a b : List Int} (h : a = b) (k : Nat) : a.getD k 0 = b.getD k 0 := by rw [h]

/-- May it be? -/
def right (l : List Int) : Bool := decide (∀ k, k < l.length → 0 ≤ l.getD k 0 ∧ l.getD k 0 ≤ 1048576)
theorem right_iff {l : List Int} : right l = true ↔ ∀ k, k < l.length → 0 ≤ l.getD k 0 ∧ l.getD k 0 ≤ 1048576 := by simp [right]
theorem right_clip (l : List Int) : decide (l = clip l) = right l := by
  rw [Bool.eq_iff_iff, right_iff, decide_eq_true_iff]
  constructor
  · intro h k hk
    have := at_same h k
    rw [clip_at l k hk] at this
    omega
  · intro h
    refine same_of (clip_length l).symm fun k hk => ?_
    rw [clip_at l k hk]
    have := h k hk
    omega
/-- Is each number at most the other's? -/
def within (a b : List Int) : Bool := decide (∀ k, k < a.length → a.getD k 0 ≤ b.getD k 0)
theorem within_iff {a b : List Int} : within a b = true ↔ ∀ k, k < a.length → a.getD k 0 ≤ b.getD k 0 := by simp [within]
theorem within_meet (a b : List Int) : decide (a = meet a b) = within a b := by
  rw [Bool.eq_iff_iff, within_iff, decide_eq_true_iff]
  constructor
  · intro h k hk
    have := at_same h k
    rw [meet_at a b k hk] at this
    omega
  · intro h
    refine same_of (meet_length a b).symm fun k hk => ?_
    rw [meet_at a b k hk]
    have := h k hk
    omega
theorem within_join (a b : List Int) (h : a.length = b.length) : decide (join a b = b) = within a b := by
  rw [Bool.eq_iff_iff, within_iff, decide_eq_true_iff]
  constructor
  · intro e k hk
    have := at_same e k
    rw [join_at a b k hk] at this
    omega
  · intro e
    refine same_of ((join_length a b).trans h) fun k hk => ?_
    rw [join_length] at hk
    rw [join_at a b k hk]
    have := e k hk
    omega
/-- Is a dot a vector's? -/
def has (l : List Int) (r n : Int) : Bool := Dt.right r n && decide (n ≤ l.getD r.toNat 0)
theorem has_iff {l : List Int} {r n : Int} : has l r n = true ↔ Dt.right r n = true ∧ n ≤ l.getD r.toNat 0 := by simp [has]

theorem join_turn (a b : List Int) (h : a.length = b.length) : join a b = join b a := same_of (by simp [join_length, h]) fun k hk => by
  rw [join_length] at hk; rw [join_at a b k hk, join_at b a k (by omega)]; omega
theorem meet_turn (a b : List Int) (h : a.length = b.length) : meet a b = meet b a := same_of (by simp [meet_length, h]) fun k hk => by
  rw [meet_length] at hk; rw [meet_at a b k hk, meet_at b a k (by omega)]; omega
theorem join_on (a b c : List Int) (h : a.length = b.length) : join (join a b) c = join a (join b c) := same_of (by simp [join_length]) fun k hk => by
  rw [join_length, join_length] at hk
  rw [join_at _ c k (by rw [join_length]; exact hk), join_at a b k hk, join_at a _ k hk, join_at b c k (by omega)]; omega
theorem meet_on (a b c : List Int) (h : a.length = b.length) : meet (meet a b) c = meet a (meet b c) := same_of (by simp [meet_length]) fun k hk => by
  rw [meet_length, meet_length] at hk
  rw [meet_at _ c k (by rw [meet_length]; exact hk), meet_at a b k hk, meet_at a _ k hk, meet_at b c k (by omega)]; omega
theorem join_up (a b : List Int) : join a (meet a b) = a := same_of (join_length _ _) fun k hk => by
  rw [join_length] at hk; rw [join_at a _ k hk, meet_at a b k hk]; omega
theorem meet_up (a b : List Int) : meet a (join a b) = a := same_of (meet_length _ _) fun k hk => by
  rw [meet_length] at hk; rw [meet_at a _ k hk, join_at a b k hk]; omega
theorem join_self (a : List Int) : join a a = a := same_of (join_length _ _) fun k hk => by
  rw [join_length] at hk; rw [join_at a a k hk]; omega
theorem has_join (a b : List Int) (r n : Int) (h : a.length = 16) : has (join a b) r n = (has a r n || has b r n) := by
  rw [Bool.eq_iff_iff, Bool.or_eq_true, has_iff, has_iff, has_iff]
  by_cases hr : Dt.right r n = true
  · have := Dt.right_iff.1 hr
    rw [join_at a b r.toNat (by omega)]
    simp only [hr, true_and]
    omega
  · simp [hr]
theorem has_meet (a b : List Int) (r n : Int) (h : a.length = 16) : has (meet a b) r n = (has a r n && has b r n) := by
  rw [Bool.eq_iff_iff, Bool.and_eq_true, has_iff, has_iff, has_iff]
  by_cases hr : Dt.right r n = true
  · have := Dt.right_iff.1 hr
    rw [meet_at a b r.toNat (by omega)]
    simp only [hr, true_and]
    omega
  · simp [hr]
theorem has_within (a b : List Int) (r n : Int) (h : a.length = 16) (hw : within a b = true) (ha : has a r n = true) : has b r n = true := by
  rw [has_iff] at ha ⊢
  have := Dt.right_iff.1 ha.1
  have := within_iff.1 hw r.toNat (by omega)
  exact ⟨ha.1, by omega⟩

/-- How many, of the first k. -/
def count (l : List Int) : Nat → Int
  | 0 => 0
  | k + 1 => count l k + max (l.getD k 0) 0
theorem count_bound {l : List Int} (h : right l = true) : ∀ k, k ≤ l.length → 0 ≤ count l k ∧ count l k ≤ k * 1048576
  | 0, _ => by simp [count]
  | k + 1, hk => by
    have ih := count_bound h k (by omega)
    have := right_iff.1 h k (by omega)
    simp only [count]
    omega
end Vc
end Go.Proofs.Ytmifkfeobdnocaa
