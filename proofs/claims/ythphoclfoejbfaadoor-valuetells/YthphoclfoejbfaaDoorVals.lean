/- Values as plain mathematics: which are right, how they stand, their texts and bytes; a text is at most one right value's. -/
import Derived.Test.YthphoclfoejbfaaDoorDots
import Derived.Test.YthphoclfoejbfaaDoorUtf
import Derived.Test.YthphoclfoejbfaaDoorPlain
import Derived.Lib.RuneBytes
namespace Go.Proofs.YthphoclfoejbfaaDoor
namespace Vl
open Go.Lib

/-- Is a text UTF-8? -/
def utf (l : List UInt8) : Bool := (Nm.runes l).isSome
theorem utf_nil : utf [] = true := rfl
/-- May a value be? -/
def Right (k n : Int) (l : List UInt8) : Prop := (k = 1 ∧ l = [] ∧ -2147483647 ≤ n ∧ n ≤ 2147483647) ∨ (k = 2 ∧ n = 0 ∧ utf l = true ∧ l.length ≤ 64) ∨ (k = 3 ∧ l = [] ∧ 0 ≤ n ∧ n ≤ 1)
def right (k n : Int) (l : List UInt8) : Bool :=
  (decide (k = 1) && (decide (l = []) && (decide (-2147483647 ≤ n) && decide (n ≤ 2147483647)))) || (decide (k = 2) && (decide (n = 0) && (utf l && decide (l.length ≤ 64)))) || (decide (k = 3) && (decide (l = []) && (decide (0 ≤ n) && decide (n ≤ 1))))
theorem right_iff {k n : Int} {l : List UInt8} : right k n l = true ↔ Right k n l := by
  simp [right, Right, or_assoc]
theorem right_no {k n : Int} {l : List UInt8} (h : ¬ Right k n l) : right k n l = false := by
  cases e : right k n l with
  | false => rfl
  | true => exact absurd (right_iff.1 e) h
theorem right_yes {k n : Int} {l : List UInt8} (h : Right k n l) : right k n l = true := right_iff.2 h
theorem Right.len {k n : Int} {l : List UInt8} (h : Right k n l) : l.length ≤ 64 := by
  rcases h with ⟨_, rfl, _⟩ | ⟨_, _, _, h⟩ | ⟨_, rfl, _⟩ <;> simp_all
theorem Right.amount {k n : Int} {l : List UInt8} (h : Right k n l) : -2147483647 ≤ n ∧ n ≤ 2147483647 := by
  rcases h with ⟨_, _, h1, h2⟩ | ⟨_, rfl, _, h⟩ | ⟨_, _, h1, h2⟩ <;> omega
theorem Right.kind {k n : Int} {l : List UInt8} (h : Right k n l) : 1 ≤ k ∧ k ≤ 3 := by
  rcases h with ⟨rfl, _⟩ | ⟨rfl, _⟩ | ⟨rfl, _⟩ <;> omega
theorem Right.utf {k n : Int} {l : List UInt8} (h : Right k n l) : utf l = true := by
  rcases h with ⟨_, rfl, _⟩ | ⟨_, _, h, _⟩ | ⟨_, rfl, _⟩
  · rfl
  · exact h
  · rfl

/-! ### The row -/
theorem cb_self (a : List UInt8) : compareBytes a a = 0 := by
  induction a with
  | nil => rfl
  | cons x a ih => simp [compareBytes, ih]
theorem cb_zero : ∀ {a b : List UInt8}, compareBytes a b = 0 → a = b
  | [], [], _ => rfl
  | [], _ :: _, h => by simp [compareBytes] at h
  | _ :: _, [], h => by simp [compareBytes] at h
  | x :: a, y :: b, h => by
    simp only [compareBytes] at h
    split at h
    · cases h
    · split at h
      · cases h
      · rename_i h1 h2
        have e : x = y := UInt8.le_antisymm (UInt8.not_lt.1 h2) (UInt8.not_lt.1 h1)
        rw [e, cb_zero h]
theorem cb_turn : ∀ (a b : List UInt8), compareBytes b a = - compareBytes a b
  | [], [] => rfl
  | [], _ :: _ => rfl
  | _ :: _, [] => rfl
  | x :: a, y :: b => by
    simp only [compareBytes]
    have h := cb_turn a b
    by_cases h1 : x < y
    · have h2 : ¬ y < x := UInt8.not_lt.2 (UInt8.le_of_lt h1)
      simp [h1, h2]
    · by_cases h2 : y < x
      · simp [h1, h2]
      · simp [h1, h2, h]
theorem cb_cases (a b : List UInt8) : compareBytes a b = -1 ∨ compareBytes a b = 0 ∨ compareBytes a b = 1 := by
  induction a generalizing b with
  | nil => cases b <;> simp [compareBytes]
  | cons x a ih =>
    cases b with
    | nil => simp [compareBytes]
    | cons y b =>
      simp only [compareBytes]
      split
      · simp
      · split
        · simp
        · exact ih b
theorem cb_trans : ∀ (a b c : List UInt8), compareBytes a b ≤ 0 → compareBytes b c ≤ 0 → compareBytes a c ≤ 0
  | [], _, [], _, _ => by simp [compareBytes]
  | [], _, _ :: _, _, _ => by simp [compareBytes]
  | _ :: _, [], _, h, _ => by simp [compareBytes] at h
  | _ :: _, _ :: _, [], _, h => by simp [compareBytes] at h
  | x :: a, y :: b, z :: c, h1, h2 => by
    simp only [compareBytes] at h1 h2 ⊢
    have t := cb_trans a b c
    have hx : x.toNat = x.toNat := rfl
    simp only [UInt8.lt_iff_toNat_lt] at *
    by_cases a1 : x.toNat < y.toNat
    · by_cases a2 : y.toNat < z.toNat
      · have : x.toNat < z.toNat := by omega
        simp [this]
      · rw [if_neg a2] at h2
        by_cases a3 : z.toNat < y.toNat
        · rw [if_pos a3] at h2; omega
        · have : x.toNat < z.toNat := by omega
          simp [this]
    · rw [if_neg a1] at h1
      by_cases a4 : y.toNat < x.toNat
      · rw [if_pos a4] at h1; omega
      · rw [if_neg a4] at h1
        by_cases a2 : y.toNat < z.toNat
        · have : x.toNat < z.toNat := by omega
          simp [this]
        · rw [if_neg a2] at h2
          by_cases a3 : z.toNat < y.toNat
          · rw [if_pos a3] at h2; omega
          · rw [if_neg a3] at h2
            rw [if_neg (by omega), if_neg (by omega)]
            exact t h1 h2
/-- How two values stand. -/
def comp (k n : Int) (l : List UInt8) (k' n' : Int) (l' : List UInt8) : Int := Dt.two (compareInt k k') (Dt.two (compareInt n n') (compareBytes l l'))
theorem comp_cases (k n : Int) (l : List UInt8) (k' n' : Int) (l' : List UInt8) : comp k n l k' n' l' = -1 ∨ comp k n l k' n' l' = 0 ∨ comp k n l k' n' l' = 1 := by
  unfold comp Dt.two
  have h1 := Dt.compareInt_cases k k'
  have h2 := Dt.compareInt_cases n n'
  have h3 := cb_cases l l'
  split
  · split <;> omega
  · omega
theorem comp_turn (k n : Int) (l : List UInt8) (k' n' : Int) (l' : List UInt8) : comp k' n' l' k n l = - comp k n l k' n' l' := by
  unfold comp Dt.two
  have h1 := Dt.compareInt_cases k k'
  have h2 := Dt.compareInt_cases n n'
  have h4 := Dt.compareInt_cases k' k
  have h5 := Dt.compareInt_cases n' n
  have h3 := cb_turn l l'
  generalize compareInt k k' = x1 at *
  generalize compareInt n n' = x2 at *
  generalize compareInt k' k = x3 at *
  generalize compareInt n' n = x4 at *
  by_cases e1 : x1 = 0
  · have e3 : x3 = 0 := by omega
    rw [if_pos e1, if_pos e3]
    by_cases e2 : x2 = 0
    · have e4 : x4 = 0 := by omega
      rw [if_pos e2, if_pos e4, h3]
    · have e4 : x4 ≠ 0 := by omega
      rw [if_neg e2, if_neg e4]; omega
  · have e3 : x3 ≠ 0 := by omega
    rw [if_neg e1, if_neg e3]; omega
theorem comp_zero {k n : Int} {l : List UInt8} {k' n' : Int} {l' : List UInt8} : comp k n l k' n' l' = 0 ↔ k = k' ∧ n = n' ∧ l = l' := by
  unfold comp Dt.two
  have h1 := Dt.compareInt_cases k k'
  have h2 := Dt.compareInt_cases n n'
  generalize compareInt k k' = x1 at *
  generalize compareInt n n' = x2 at *
  by_cases e1 : x1 = 0
  · rw [if_pos e1]
    by_cases e2 : x2 = 0
    · rw [if_pos e2]
      constructor
      · intro h; exact ⟨by omega, by omega, cb_zero h⟩
      · rintro ⟨_, _, rfl⟩; exact cb_self _
    · rw [if_neg e2]
      constructor
      · intro h; omega
      · rintro ⟨_, h, _⟩; omega
  · rw [if_neg e1]
    constructor
    · intro h; omega
    · rintro ⟨h, _, _⟩; omega
theorem two_two (x y z : Int) : (x ≠ 0 ∧ (if x = 0 then if y = 0 then z else y else x) = x) ∨ (x = 0 ∧ y ≠ 0 ∧ (if x = 0 then if y = 0 then z else y else x) = y) ∨ (x = 0 ∧ y = 0 ∧ (if x = 0 then if y = 0 then z else y else x) = z) := by
  by_cases h : x = 0
  · by_cases h' : y = 0
    · simp [h, h']
    · simp [h, h']
  · simp [h]
theorem comp_trans {k n : Int} {l : List UInt8} {k' n' : Int} {l' : List UInt8} {k'' n'' : Int} {l'' : List UInt8} (h : comp k n l k' n' l' ≤ 0) (h' : comp k' n' l' k'' n'' l'' ≤ 0) : comp k n l k'' n'' l'' ≤ 0 := by
  unfold comp Dt.two at *
  have t := cb_trans l l' l''
  have h1 := Dt.compareInt_cases k k'
  have h2 := Dt.compareInt_cases n n'
  have h3 := Dt.compareInt_cases k' k''
  have h4 := Dt.compareInt_cases n' n''
  have h5 := Dt.compareInt_cases k k''
  have h6 := Dt.compareInt_cases n n''
  generalize compareInt k k' = x1 at *
  generalize compareInt n n' = x2 at *
  generalize compareInt k' k'' = x3 at *
  generalize compareInt n' n'' = x4 at *
  generalize compareInt k k'' = x5 at *
  generalize compareInt n n'' = x6 at *
  generalize compareBytes l l' = y1 at *
  generalize compareBytes l' l'' = y2 at *
  generalize compareBytes l l'' = y3 at *
  have A := two_two x1 x2 y1
  have B := two_two x3 x4 y2
  have C := two_two x5 x6 y3
  generalize (if x1 = 0 then if x2 = 0 then y1 else x2 else x1) = a at *
  generalize (if x3 = 0 then if x4 = 0 then y2 else x4 else x3) = b at *
  generalize (if x5 = 0 then if x6 = 0 then y3 else x6 else x5) = c at *
  omega

/-! ### Texts -/
def tru : List UInt8 := [116, 114, 117, 101]
def fls : List UInt8 := [102, 97, 108, 115, 101]
theorem formatBool_eq (b : Bool) : formatBool b = if b then tru else fls := by cases b <;> decide +kernel
def quoted (l : List UInt8) : List UInt8 := 34 :: (Nm.quote l ++ [34])
/-- A right value's text. -/
def text (k n : Int) (l : List UInt8) : List UInt8 := if k = 1 then itoa n else if k = 2 then quoted l else if n = 1 then tru else fls
theorem text_str (l : List UInt8) : text 2 0 l = quoted l := rfl
theorem text_int (n : Int) : text 1 n [] = itoa n := rfl
theorem quoted_len (l : List UInt8) : (quoted l).length ≤ 2 * l.length + 2 := by
  have := Nm.quote_length l
  simp [quoted]; omega
theorem text_len {k n : Int} {l : List UInt8} (h : Right k n l) : (text k n l).length ≤ 130 := by
  have := h.len
  have := h.amount
  have := quoted_len l
  unfold text
  split
  · have := itoa_length_le n (by omega) (by omega); omega
  · split
    · omega
    · split <;> simp [tru, fls]

/-- What a quoted text holds, read byte by byte: what is read, what is still to read. -/
def up : List UInt8 → List UInt8 → Option (List UInt8)
  | _, [] => none
  | acc, [b] => if b = 34 then some acc else none
  | acc, b :: c :: l => if b = 34 then none else if b = 92 then (if c = 34 ∨ c = 92 then up (acc ++ [c]) l else none) else up (acc ++ [b]) (c :: l)
theorem up_end (acc l : List UInt8) : up acc (34 :: l) = if l = [] then some acc else none := by
  cases l <;> simp [up]
theorem up_esc (acc : List UInt8) (c : UInt8) (l : List UInt8) (h : c = 34 ∨ c = 92) : up acc (92 :: c :: l) = up (acc ++ [c]) l := by
  simp [up, h]
theorem up_bad (acc : List UInt8) (c : UInt8) (l : List UInt8) (h : ¬ (c = 34 ∨ c = 92)) : up acc (92 :: c :: l) = none := by
  simp [up, h]
theorem up_stop (acc : List UInt8) : up acc [92] = none := by simp [up]
theorem up_step (acc : List UInt8) (b : UInt8) (l : List UInt8) (h1 : b ≠ 34) (h2 : b ≠ 92) : up acc (b :: l) = up (acc ++ [b]) l := by
  cases l <;> simp [up, h1, h2]
theorem isQ_iff {b : UInt8} : Nm.isQ b = true ↔ b = 34 ∨ b = 92 := by simp [Nm.isQ]
theorem up_quote : ∀ (t acc : List UInt8), up acc (Nm.quote t ++ [34]) = some (acc ++ t)
  | [], acc => by simp [Nm.quote_nil, up]
  | b :: t, acc => by
    rw [Nm.quote_cons]
    by_cases h : Nm.isQ b = true
    · rw [if_pos h]
      simp only [List.cons_append, List.nil_append]
      rw [up_esc _ _ _ (isQ_iff.1 h), up_quote t]
      simp
    · rw [if_neg h]
      have h1 : ¬ (b = 34 ∨ b = 92) := fun e => h (isQ_iff.2 e)
      simp only [List.cons_append, List.nil_append]
      rw [up_step _ _ _ (fun e => h1 (.inl e)) (fun e => h1 (.inr e)), up_quote t]
      simp
theorem up_some : ∀ (l acc t : List UInt8), up acc l = some t → ∃ u, t = acc ++ u ∧ l = Nm.quote u ++ [34]
  | [], acc, t, h => by simp [up] at h
  | [b], acc, t, h => by
    simp only [up] at h
    split at h
    · rename_i e
      simp only [Option.some.injEq] at h
      exact ⟨[], by simp [h], by simp [e, Nm.quote_nil]⟩
    · cases h
  | b :: c :: l, acc, t, h => by
    by_cases e : b = 34
    · rw [e, up_end] at h; simp at h
    · by_cases e2 : b = 92
      · subst e2
        by_cases e3 : c = 34 ∨ c = 92
        · rw [up_esc _ _ _ e3] at h
          obtain ⟨u, h1, h2⟩ := up_some l _ _ h
          refine ⟨c :: u, by simp [h1], ?_⟩
          rw [Nm.quote_cons, if_pos (isQ_iff.2 e3), h2]
          simp
        · rw [up_bad _ _ _ e3] at h; cases h
      · rw [up_step _ _ _ e e2] at h
        obtain ⟨u, h1, h2⟩ := up_some (c :: l) _ _ h
        refine ⟨b :: u, by simp [h1], ?_⟩
        rw [Nm.quote_cons, if_neg (fun x => (isQ_iff.1 x).elim e e2), h2]
        simp
theorem quote_inj {t u : List UInt8} (h : Nm.quote t ++ [34] = Nm.quote u ++ [34]) : t = u := by
  have h1 := up_quote t []
  rw [h, up_quote u []] at h1
  simpa using h1.symm
theorem up_iff {l t : List UInt8} : up [] l = some t ↔ l = Nm.quote t ++ [34] := by
  constructor
  · intro h
    obtain ⟨u, h1, h2⟩ := up_some l [] t h
    simp at h1
    rw [h1]; exact h2
  · rintro rfl
    rw [up_quote]; rfl

/-- What a quoted text holds, read rune by rune, as the program does. -/
def ugF : Nat → Bool → List UInt8 → List UInt8
  | 0, _, _ => []
  | f + 1, e, l => if l = [] then [] else (if ((decodeL l).1 == 92 && !e) = true then [] else encodeRune ((decodeL l).1 : Int)) ++ ugF f ((decodeL l).1 == 92 && !e) (Nm.rest l)
def ug (e : Bool) (l : List UInt8) : List UInt8 := ugF l.length e l
theorem ugF_nil (f : Nat) (e : Bool) : ugF f e [] = [] := by cases f <;> simp [ugF]
theorem ugF_fuel (f : Nat) : ∀ (g : Nat) (e : Bool) (l : List UInt8), l.length ≤ f → l.length ≤ g → ugF f e l = ugF g e l := by
  induction f with
  | zero =>
    intro g e l h _
    obtain rfl : l = [] := List.eq_nil_of_length_eq_zero (by omega)
    rw [ugF_nil, ugF_nil]
  | succ f ih =>
    intro g e l h hg
    cases g with
    | zero =>
      obtain rfl : l = [] := List.eq_nil_of_length_eq_zero (by omega)
      rw [ugF_nil, ugF_nil]
    | succ g =>
      by_cases hl : l = []
      · subst hl; rw [ugF_nil, ugF_nil]
      · have := Nm.rest_lt hl
        simp only [ugF, if_neg hl]
        rw [ih g _ (Nm.rest l) (by omega) (by omega)]
theorem ug_nil (e : Bool) : ug e [] = [] := rfl
theorem ug_skip {e : Bool} {l : List UInt8} (h : l ≠ []) (h1 : ((decodeL l).1 == 92 && !e) = true) : ug e l = ug true (Nm.rest l) := by
  have := Nm.rest_lt h
  unfold ug
  cases hl : l.length with
  | zero => omega
  | succ m =>
    rw [ugF, if_neg h, if_pos h1, h1, List.nil_append]
    exact ugF_fuel _ _ _ _ (by omega) (by omega)
theorem ug_keep {e : Bool} {l : List UInt8} (h : l ≠ []) (h1 : ((decodeL l).1 == 92 && !e) = false) : ug e l = encodeRune ((decodeL l).1 : Int) ++ ug false (Nm.rest l) := by
  have := Nm.rest_lt h
  unfold ug
  cases hl : l.length with
  | zero => omega
  | succ m =>
    rw [ugF, if_neg h, if_neg (by rw [h1]; simp), h1]
    congr 1
    exact ugF_fuel _ _ _ _ (by omega) (by omega)
theorem decode_one (b : UInt8) (l : List UInt8) (h : b.toNat < 128) : decodeL (b :: l) = (b.toNat, 1) := by
  rcases Nm.chunk (b :: l) (by simp) with ⟨_, h2⟩ | ⟨h2, _⟩
  · simpa using h2
  · simp only [List.getD_cons_zero] at h2; omega
theorem rest_one (b : UInt8) (l : List UInt8) (h : b.toNat < 128) : Nm.rest (b :: l) = l := by
  unfold Nm.rest; rw [decode_one b l h]; rfl
theorem enc_one (b : UInt8) (h : b.toNat < 128) : encodeRune (b.toNat : Int) = [b] := by
  unfold encodeRune
  rw [encodeRuneZ_one (by omega) (by omega)]
  simp
theorem runes_some {l : List UInt8} (hne : l ≠ []) (h : utf l = true) : Nm.isBad l = false ∧ utf (Nm.rest l) = true := by
  unfold utf at *
  cases hb : Nm.isBad l with
  | true => rw [Nm.runes_bad hne hb] at h; cases h
  | false =>
    rw [Nm.runes_step hne hb] at h
    exact ⟨rfl, by simpa using h⟩
theorem ug_quote (m : Nat) : ∀ t : List UInt8, t.length ≤ m → utf t = true → ug false (Nm.quote t) = t := by
  induction m with
  | zero =>
    intro t h _
    obtain rfl : t = [] := List.eq_nil_of_length_eq_zero (by omega)
    rfl
  | succ m ih =>
    intro t h hu
    by_cases hne : t = []
    · subst hne; rfl
    · obtain ⟨hb, hr⟩ := runes_some hne hu
      have hlt := Nm.rest_lt hne
      have IH := ih (Nm.rest t) (by omega) hr
      rcases Nm.chunk t hne with ⟨h1, h2⟩ | ⟨_, h2, h3⟩
      · cases t with
        | nil => exact absurd rfl hne
        | cons b t =>
          simp only [List.getD_cons_zero] at h1 h2
          rw [rest_one b t h1] at IH
          rw [Nm.quote_cons]
          by_cases hq : Nm.isQ b = true
          · rw [if_pos hq]
            simp only [List.cons_append, List.nil_append]
            have e9 : (92 : UInt8).toNat < 128 := by decide
            rw [ug_skip (by simp) (by rw [decode_one _ _ e9]; rfl), rest_one _ _ e9, ug_keep (by simp) (by simp), decode_one _ _ h1, rest_one _ _ h1, IH, enc_one b h1]
            rfl
          · rw [if_neg hq]
            simp only [List.cons_append, List.nil_append]
            have hb9 : b.toNat ≠ 92 := fun e => hq (isQ_iff.2 (.inr (UInt8.toNat_inj.1 e)))
            rw [ug_keep (by simp) (by rw [decode_one _ _ h1]; simp [hb9]), decode_one _ _ h1, rest_one _ _ h1, IH, enc_one b h1]
            rfl
      · have e1 : Nm.quote t = t.take (decodeL t).2 ++ Nm.quote (Nm.rest t) := by
          conv => lhs; rw [← List.take_append_drop (decodeL t).2 t]
          rw [Nm.quote_append, Nm.quote_high (fun x hx => Nm.isQ_high (h3 x hx))]
          rfl
        have e2 := Nm.decode_prefix t hne hb (Nm.quote (Nm.rest t))
        rw [← e1] at e2
        have hn : Nm.quote t ≠ [] := by
          intro e
          have := Nm.quote_append (t.take 1) (t.drop 1)
          rw [List.take_append_drop, e] at this
          cases t with
          | nil => exact hne rfl
          | cons b t => rw [Nm.quote_cons] at e; split at e <;> simp at e
        have e3 : Nm.rest (Nm.quote t) = Nm.quote (Nm.rest t) := by
          have hl := decodeL_le t hne
          unfold Nm.rest
          rw [e2, e1]
          rw [List.drop_append_of_le_length (by simp; omega)]
          rw [List.drop_eq_nil_of_le (by simp; omega)]
          rfl
        rw [ug_keep hn (by rw [e2]; simp; omega), e2, e3, IH, encode_decode t hne (Nm.not_bad hb)]
        exact List.take_append_drop _ _
theorem ug_len (m : Nat) : ∀ (e : Bool) (l : List UInt8), l.length ≤ m → (ug e l).length ≤ 4 * l.length := by
  induction m with
  | zero =>
    intro e l h
    obtain rfl : l = [] := List.eq_nil_of_length_eq_zero (by omega)
    simp [ug_nil]
  | succ m ih =>
    intro e l h
    by_cases hne : l = []
    · subst hne; simp [ug_nil]
    · have hlt := Nm.rest_lt hne
      cases hc : ((decodeL l).1 == 92 && !e) with
      | true =>
        rw [ug_skip hne hc]
        have := ih true (Nm.rest l) (by omega); omega
      | false =>
        rw [ug_keep hne hc, List.length_append]
        have := ih false (Nm.rest l) (by omega)
        have h4 := runeCells_le ((decodeL l).1 : Int)
        rw [runeCells_length] at h4
        omega
/-- What 'unquoted' tells of any text. -/
def unq (l : List UInt8) : List UInt8 := ug false (trimSuffix (trimPrefix l [34]) [34])
theorem unq_quoted {t : List UInt8} (h : utf t = true) : unq (quoted t) = t := by
  unfold unq quoted
  have e1 : trimPrefix (34 :: (Nm.quote t ++ [34])) [34] = Nm.quote t ++ [34] := by simp [trimPrefix, hasPrefix]
  have e2 : trimSuffix (Nm.quote t ++ [34]) [34] = Nm.quote t := by
    have : hasSuffix (Nm.quote t ++ [34]) [34] = true := by
      unfold hasSuffix
      rw [List.isSuffixOf_iff_suffix]
      exact ⟨_, rfl⟩
    unfold trimSuffix
    rw [if_pos this]
    simp
  rw [e1, e2]
  exact ug_quote _ t (Nat.le_refl _) h
theorem trim_len (l : List UInt8) : (trimSuffix (trimPrefix l [34]) [34]).length ≤ l.length := by
  have h1 : (trimPrefix l [34]).length ≤ l.length := by unfold trimPrefix; split <;> simp
  have h2 : ∀ m : List UInt8, (trimSuffix m [34]).length ≤ m.length := by intro m; unfold trimSuffix; split <;> simp
  exact Nat.le_trans (h2 _) h1
theorem unq_len (l : List UInt8) : (unq l).length ≤ 4 * l.length := by
  have h1 := ug_len _ false (trimSuffix (trimPrefix l [34]) [34]) (Nat.le_refl _)
  have h2 := trim_len l
  unfold unq; omega

/-! ### What is in a value, and the way back -/
inductive In where
  | int (n : Int)
  | str (l : List UInt8)
  | bool (b : Bool)
def inside (k n : Int) (l : List UInt8) : In := if k = 1 then .int n else if k = 2 then .str l else .bool (n == 1)
def In.k : In → Int | .int _ => 1 | .str _ => 2 | .bool _ => 3
def In.n : In → Int | .int n => n | .str _ => 0 | .bool b => if b then 1 else 0
def In.s : In → List UInt8 | .int _ => [] | .str l => l | .bool _ => []
def In.is (x : In) (k n : Int) (l : List UInt8) : Prop := x.k = k ∧ x.n = n ∧ x.s = l
def meant (l : List UInt8) : In := if hasPrefix l [34] = true then .str (unq l) else match atoiAll l with | .ok v => .int v | _ => .bool (l == tru)
theorem inside_is {k n : Int} {l : List UInt8} (h : Right k n l) : (inside k n l).is k n l := by
  rcases h with ⟨rfl, rfl, _⟩ | ⟨rfl, rfl, _⟩ | ⟨rfl, rfl, h1, h2⟩
  · exact ⟨rfl, rfl, rfl⟩
  · exact ⟨rfl, rfl, rfl⟩
  · have : n = 0 ∨ n = 1 := by omega
    rcases this with rfl | rfl <;> exact ⟨rfl, rfl, rfl⟩
theorem right_of_is {k n : Int} {l : List UInt8} (h : (inside k n l).is k n l) (h1 : -2147483647 ≤ n) (h2 : n ≤ 2147483647) (h3 : l.length ≤ 64) (h4 : utf l = true) : Right k n l := by
  obtain ⟨a, b, c⟩ := h
  unfold inside at a b c
  split at a
  · rename_i e
    rw [if_pos e] at c
    exact .inl ⟨e, c.symm, h1, h2⟩
  · rename_i e
    rw [if_neg e] at b c
    split at a
    · rename_i e2
      rw [if_pos e2] at b
      exact .inr (.inl ⟨e2, b.symm, h4, h3⟩)
    · rename_i e2
      rw [if_neg e2] at b c
      refine .inr (.inr ⟨a.symm, c.symm, ?_⟩)
      cases hb : (n == 1) <;> rw [hb] at b <;> simp [In.n] at b <;> omega
theorem atoi_neg (u : Nat) (h0 : 0 < u) (hu : u < 9223372036854775808) : atoiAll (45 :: decDigits u) = .ok (-(u : Int)) := by
  have hm : parseMag (decDigits u) = .ok u := by
    unfold parseMag
    rw [if_neg (Dt.dec_ne u)]
    have := Dt.parse_dec u (by omega) []
    rw [List.append_nil] at this
    rw [this]; rfl
  have e : (45 : UInt8).toNat = 45 := rfl
  have h3 : ¬ 9223372036854775808 < u := by omega
  simp [atoiAll, hm, h3]
theorem atoi_itoa (n : Int) (h1 : -2147483647 ≤ n) (h2 : n ≤ 2147483647) : atoiAll (itoa n) = .ok n := by
  by_cases hn : 0 ≤ n
  · obtain ⟨k, rfl⟩ := Int.eq_ofNat_of_zero_le hn
    rw [itoa_nonneg]
    exact Dt.atoi_dec k (by omega)
  · obtain ⟨a, rfl⟩ : ∃ a : Nat, n = -(a : Int) := ⟨n.natAbs, by omega⟩
    rw [itoa_neg a (by omega)]
    exact atoi_neg a (by omega) (by omega)
/-- A number's text begins with a digit or a minus. -/
theorem itoa_head (n : Int) : ∃ b r, itoa n = b :: r ∧ (b = 45 ∨ (48 ≤ b.toNat ∧ b.toNat ≤ 57)) := by
  by_cases hn : 0 ≤ n
  · obtain ⟨k, rfl⟩ := Int.eq_ofNat_of_zero_le hn
    rw [itoa_nonneg]
    cases hd : decDigits k with
    | nil => exact absurd hd (Dt.dec_ne k)
    | cons b r => exact ⟨b, r, rfl, .inr (Dt.dec_digit k b (by rw [hd]; simp))⟩
  · obtain ⟨a, rfl⟩ : ∃ a : Nat, n = -(a : Int) := ⟨n.natAbs, by omega⟩
    rw [itoa_neg a (by omega)]
    exact ⟨45, _, rfl, .inl rfl⟩
theorem itoa_not_quote (n : Int) : hasPrefix (itoa n) [34] = false := by
  obtain ⟨b, r, e, h⟩ := itoa_head n
  rw [e]
  have : b ≠ 34 := by
    rintro rfl
    have e4 : (34 : UInt8).toNat = 34 := rfl
    rcases h with h | h
    · cases h
    · omega
  simp only [hasPrefix, List.isPrefixOf, Bool.and_true, beq_eq_false_iff_ne]
  exact fun e => this e.symm
theorem itoa_inj {n m : Int} (h : itoa n = itoa m) : n = m := by
  by_cases hn : 0 ≤ n
  · obtain ⟨a, rfl⟩ := Int.eq_ofNat_of_zero_le hn
    by_cases hm : 0 ≤ m
    · obtain ⟨b, rfl⟩ := Int.eq_ofNat_of_zero_le hm
      rw [itoa_nonneg, itoa_nonneg] at h
      rw [Dt.dec_inj h]
    · obtain ⟨b, rfl⟩ : ∃ a : Nat, m = -(a : Int) := ⟨m.natAbs, by omega⟩
      rw [itoa_nonneg, itoa_neg b (by omega)] at h
      have := Dt.dec_digit a 45 (by rw [h]; simp)
      have e : (45 : UInt8).toNat = 45 := rfl
      omega
  · obtain ⟨a, rfl⟩ : ∃ a : Nat, n = -(a : Int) := ⟨n.natAbs, by omega⟩
    by_cases hm : 0 ≤ m
    · obtain ⟨b, rfl⟩ := Int.eq_ofNat_of_zero_le hm
      rw [itoa_nonneg, itoa_neg a (by omega)] at h
      have := Dt.dec_digit b 45 (by rw [← h]; simp)
      have e : (45 : UInt8).toNat = 45 := rfl
      omega
    · obtain ⟨b, rfl⟩ : ∃ a : Nat, m = -(a : Int) := ⟨m.natAbs, by omega⟩
      rw [itoa_neg a (by omega), itoa_neg b (by omega)] at h
      simp only [List.cons.injEq, true_and] at h
      rw [Dt.dec_inj h]
theorem meant_text {k n : Int} {l : List UInt8} (h : Right k n l) : meant (text k n l) = inside k n l := by
  rcases h with ⟨rfl, rfl, h1, h2⟩ | ⟨rfl, rfl, h1, _⟩ | ⟨rfl, rfl, h1, h2⟩
  · unfold meant text inside
    rw [if_pos rfl, itoa_not_quote, if_neg (by simp), atoi_itoa n h1 h2]
    rfl
  · have e : hasPrefix (quoted l) [34] = true := by simp [hasPrefix, quoted]
    rw [text_str]
    unfold meant inside
    rw [if_pos e, unq_quoted h1]
    rfl
  · have : n = 0 ∨ n = 1 := by omega
    rcases this with rfl | rfl
    · rfl
    · rfl
/-- The right value whose text it is. -/
def pars (l : List UInt8) : Option (Int × Int × List UInt8) := if right (meant l).k (meant l).n (meant l).s = true ∧ text (meant l).k (meant l).n (meant l).s = l then some ((meant l).k, (meant l).n, (meant l).s) else none
theorem pars_iff {l : List UInt8} {k n : Int} {t : List UInt8} : pars l = some (k, n, t) ↔ Right k n t ∧ text k n t = l := by
  unfold pars
  constructor
  · intro h
    split at h
    · rename_i h1
      simp only [Option.some.injEq, Prod.mk.injEq] at h
      obtain ⟨rfl, rfl, rfl⟩ := h
      exact ⟨right_iff.1 h1.1, h1.2⟩
    · cases h
  · rintro ⟨h1, rfl⟩
    rw [meant_text h1]
    obtain ⟨a, b, c⟩ := inside_is h1
    rw [a, b, c, if_pos ⟨right_yes h1, rfl⟩]
theorem pars_none {l : List UInt8} (h : ∀ k n t, Right k n t → text k n t ≠ l) : pars l = none := by
  cases hp : pars l with
  | none => rfl
  | some x =>
    obtain ⟨k, n, t⟩ := x
    obtain ⟨h1, h2⟩ := pars_iff.1 hp
    exact absurd h2 (h k n t h1)
theorem pars_yes {k n : Int} {t : List UInt8} (h : Right k n t) : pars (text k n t) = some (k, n, t) := pars_iff.2 ⟨h, rfl⟩
theorem text_inj {k n : Int} {t : List UInt8} {k' n' : Int} {t' : List UInt8} (h : Right k n t) (h' : Right k' n' t') (e : text k n t = text k' n' t') : k = k' ∧ n = n' ∧ t = t' := by
  have h1 := pars_yes h
  rw [e, pars_yes h'] at h1
  simp only [Option.some.injEq, Prod.mk.injEq] at h1
  exact ⟨h1.1.symm, h1.2.1.symm, h1.2.2.symm⟩
/-- What a text is that begins with a quote. -/
theorem pars_quote (r : List UInt8) : pars (34 :: r) = match up [] r with | some t => if right 2 0 t = true then some (2, 0, t) else none | none => none := by
  cases hu : up [] r with
  | some t =>
    have e := up_iff.1 hu
    simp only
    split
    · rename_i hr
      exact pars_iff.2 ⟨right_iff.1 hr, by rw [text_str, quoted, e]⟩
    · rename_i hr
      apply pars_none
      rintro k n t' h1 h2
      rcases h1 with ⟨rfl, rfl, _⟩ | ⟨rfl, rfl, hh⟩ | ⟨rfl, rfl, _⟩
      · rw [text_int] at h2
        have := itoa_not_quote n
        rw [h2] at this
        simp [hasPrefix] at this
      · rw [text_str, quoted, e] at h2
        simp only [List.cons.injEq, true_and] at h2
        rw [quote_inj h2] at hh
        exact hr (right_yes (.inr (.inl ⟨rfl, rfl, hh⟩)))
      · unfold text at h2
        rw [if_neg (by omega), if_neg (by omega)] at h2
        split at h2 <;> simp [tru, fls] at h2
  | none =>
    simp only
    apply pars_none
    rintro k n t' h1 h2
    rcases h1 with ⟨rfl, rfl, _⟩ | ⟨rfl, rfl, hh⟩ | ⟨rfl, rfl, _⟩
    · rw [text_int] at h2
      have := itoa_not_quote n
      rw [h2] at this
      simp [hasPrefix] at this
    · rw [text_str, quoted] at h2
      simp only [List.cons.injEq, true_and] at h2
      rw [up_iff.2 h2.symm] at hu
      cases hu
    · unfold text at h2
      rw [if_neg (by omega), if_neg (by omega)] at h2
      split at h2 <;> simp [tru, fls] at h2
theorem pars_int {n : Int} (h1 : -2147483647 ≤ n) (h2 : n ≤ 2147483647) : pars (itoa n) = some (1, n, []) := pars_iff.2 ⟨.inl ⟨rfl, rfl, h1, h2⟩, rfl⟩
theorem pars_true : pars tru = some (3, 1, []) := pars_iff.2 ⟨.inr (.inr ⟨rfl, rfl, by omega, by omega⟩), rfl⟩
theorem pars_false : pars fls = some (3, 0, []) := pars_iff.2 ⟨.inr (.inr ⟨rfl, rfl, by omega, by omega⟩), rfl⟩
/-- No number's, no text's, no truth's. -/
theorem pars_no {l : List UInt8} (h1 : l ≠ tru) (h2 : l ≠ fls) (h3 : l.head? ≠ some 34) (h4 : ∀ n, -2147483647 ≤ n → n ≤ 2147483647 → itoa n ≠ l) : pars l = none := by
  apply pars_none
  rintro k n t h5 rfl
  rcases h5 with ⟨rfl, rfl, a, b⟩ | ⟨rfl, rfl, hh⟩ | ⟨rfl, rfl, _⟩
  · exact h4 n a b rfl
  · exact h3 rfl
  · unfold text at h1 h2
    rw [if_neg (by omega), if_neg (by omega)] at h1 h2
    split at h1
    · exact h1 rfl
    · rename_i hn
      rw [if_neg hn] at h2
      exact h2 rfl

/-! ### Bytes -/
def fold (n : Int) : Int := if n < 0 then -2 * n - 1 else 2 * n
theorem fold_pos (n : Int) : 0 ≤ fold n := by unfold fold; split <;> omega
theorem fold_le {n : Int} (h1 : -2147483647 ≤ n) (h2 : n ≤ 2147483647) : fold n ≤ 4294967294 := by unfold fold; split <;> omega
def unfold' (n : Int) : Int := if n % 2 = 0 then n / 2 else -(n / 2) - 1
theorem unfold_fold (n : Int) : unfold' (fold n) = n := by
  unfold unfold' fold
  split <;> split <;> omega
/-- A right value's bytes. -/
def code (k n : Int) (l : List UInt8) : List UInt8 := Pk.enc k.toNat ++ (if k = 2 then Pk.enc l.length ++ l else Pk.enc (fold n).toNat)
end Vl
end Go.Proofs.YthphoclfoejbfaaDoor
