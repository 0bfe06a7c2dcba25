/- Transactions as plain mathematics (for stage 12): what is wrong with one, how two stand, which rise, where a dot's stands, one put in its place, bytes · Transactions in memory: a slice of operations, a transaction in a variable and in a slice · Rows of operations, and of transactions, that a call owns: how they read, and how they grow · What the proofs of this seat share: transactions that came in. -/
import Derived.Test.YtmnehekcealjhaaGreatUtfAll
import Derived.Test.YtmnehekcealjhaaGreatOpMemAll
import Derived.Test.YtmnehekcealjhaaGreatValAll
/- Transactions as plain mathematics (for stage 12): what is wrong with one, how two stand, which rise, where a dot's stands, one put in its place, bytes. -/
namespace Go.Proofs.YtmnehekcealjhaaGreat

/-- The names of operations that are the same are the operations. -/
theorem Os.same_eq {a b : Os.Op} : Os.same a b = true ↔ a = b := by
  obtain ⟨k, p, vk, vn, vs, n, l⟩ := a
  obtain ⟨k', p', vk', vn', vs', n', l'⟩ := b
  simp only [Os.same, decide_eq_true_eq, Os.Op.mk.injEq]
  constructor
  · rintro ⟨h1, h2, ⟨h3, h4, h5⟩, h6, h7⟩; exact ⟨h1, h2, h3, h4, h5, h6, h7⟩
  · rintro ⟨h1, h2, h3, h4, h5, h6, h7⟩; exact ⟨h1, h2, ⟨h3, h4, h5⟩, h6, h7⟩

namespace Tx
/-! ### Dots in a row -/
abbrev dlt (x y : D) : Prop := x.1 < y.1 ∨ (x.1 = y.1 ∧ x.2 < y.2)
theorem dlt_trans {x y z : D} (h : dlt x y) (k : dlt y z) : dlt x z := by simp only [dlt] at *; omega
theorem dlt_irrefl (x : D) : ¬ dlt x x := by simp only [dlt]; omega
theorem dlt_ne {x y : D} (h : dlt x y) : x ≠ y := fun e => dlt_irrefl x (by rw [← e] at h; exact h)
theorem dlt_total (x y : D) : dlt x y ∨ x = y ∨ dlt y x := by
  obtain ⟨a, b⟩ := x
  obtain ⟨c, d⟩ := y
  simp only [dlt, Prod.mk.injEq]
  omega
theorem dcomp_neg (x y : D) : Dt.comp x.1 x.2 y.1 y.2 = -1 ↔ dlt x y := by
  have h := Dt.comp_cases x.1 x.2 y.1 y.2
  simp only [dlt]
  omega
theorem dcomp_lt (x y : D) : Dt.comp x.1 x.2 y.1 y.2 < 0 ↔ dlt x y := by
  have h := Dt.comp_cases x.1 x.2 y.1 y.2
  simp only [dlt]
  omega
theorem dcomp_zero (x y : D) : Dt.comp x.1 x.2 y.1 y.2 = 0 ↔ x = y := by
  have h := Dt.comp_cases x.1 x.2 y.1 y.2
  obtain ⟨a, b⟩ := x
  obtain ⟨c, d⟩ := y
  simp only [Prod.mk.injEq] at *
  omega

/-! ### Transactions -/
structure Txn where
  d : D
  u : Int
  t : Int
  thin : Bool
  ops : List Os.Op
/-- What is wrong with the first operation that is wrong. -/
def opsErr (thin : Bool) : List Os.Op → Nat
  | [] => 0
  | o :: r => if Os.check o ≠ 0 ∧ ¬ (thin = true ∧ Os.gone o = true) then Os.check o else opsErr thin r
def check (t : Txn) : Nat :=
  if Dt.right t.d.1 t.d.2 = false ∨ t.u < 0 ∨ 7 < t.u ∨ t.t < 1 ∨ 1099511627776 < t.t then 2 else if t.ops.length = 0 then 11 else if 16 < t.ops.length then 7 else opsErr t.thin t.ops
def comp (a b : Txn) : Int := Dt.two (Dt.compareInt a.t b.t) (Dt.comp a.d.1 a.d.2 b.d.1 b.d.2)
def sameOps : List Os.Op → List Os.Op → Bool
  | [], [] => true
  | a :: r, b :: q => Os.same a b && sameOps r q
  | _, _ => false
def same (a b : Txn) : Bool := decide (a.d = b.d ∧ a.u = b.u ∧ a.t = b.t ∧ a.thin = b.thin) && sameOps a.ops b.ops
theorem sameOps_eq : ∀ {a b : List Os.Op}, sameOps a b = true ↔ a = b
  | [], [] => by simp [sameOps]
  | [], _ :: _ => by simp [sameOps]
  | _ :: _, [] => by simp [sameOps]
  | a :: r, b :: q => by
    simp only [sameOps, Bool.and_eq_true, Os.same_eq, List.cons.injEq]
    rw [sameOps_eq]
theorem same_eq {a b : Txn} : same a b = true ↔ a = b := by
  obtain ⟨d, u, t, th, o⟩ := a
  obtain ⟨d', u', t', th', o'⟩ := b
  simp only [same, Bool.and_eq_true, decide_eq_true_eq, sameOps_eq, Txn.mk.injEq]
  constructor
  · rintro ⟨⟨h1, h2, h3, h4⟩, h5⟩; exact ⟨h1, h2, h3, h4, h5⟩
  · rintro ⟨h1, h2, h3, h4, h5⟩; exact ⟨⟨h1, h2, h3, h4⟩, h5⟩
theorem same_self (a : Txn) : same a a = true := same_eq.2 rfl
theorem sameOps_at {a b : List Os.Op} {k : Nat} (h1 : k < a.length) (h2 : k < b.length) (h : Os.same a[k] b[k] = false) : sameOps a b = false := by
  cases e : sameOps a b with
  | false => rfl
  | true =>
    obtain rfl := sameOps_eq.1 e
    rw [Os.same_self] at h
    cases h
theorem sameOps_all {a b : List Os.Op} (hl : a.length = b.length) (h : ∀ k (h1 : k < a.length) (h2 : k < b.length), Os.same a[k] b[k] = true) : sameOps a b = true :=
  sameOps_eq.2 (List.ext_getElem hl fun k h1 h2 => Os.same_eq.1 (h k h1 h2))
theorem sameOps_len {a b : List Os.Op} (h : a.length ≠ b.length) : sameOps a b = false := by
  cases e : sameOps a b with
  | false => rfl
  | true => exact absurd (by rw [sameOps_eq.1 e]) h
/-- So many operations have no error. -/
theorem opsErr_take {th : Bool} : ∀ {l : List Os.Op} {k : Nat} (_ : k < l.length) (_ : opsErr th (l.take k) = 0), (∀ j (h : j < l.length), j < k → Os.check l[j] = 0 ∨ (th = true ∧ Os.gone l[j] = true)) → opsErr th l = opsErr th (l.drop k)
  | [], _, h, _, _ => by simp at h
  | o :: r, 0, _, _, _ => rfl
  | o :: r, k + 1, h, h0, ha => by
    have ho := ha 0 (by simp) (by omega)
    have e : opsErr th (o :: r) = opsErr th r := by
      rw [opsErr, if_neg]
      rintro ⟨h1, h2⟩
      rcases ho with ho | ho
      · exact h1 ho
      · exact h2 ho
    rw [List.drop_succ_cons, e]
    refine opsErr_take (by simpa using h) ?_ fun j hj hk => ha (j + 1) (by simpa using hj) (by omega)
    rw [List.take_succ_cons, opsErr, if_neg] at h0
    · exact h0
    · rintro ⟨h1, h2⟩
      rcases ho with ho | ho
      · exact h1 ho
      · exact h2 ho
theorem opsErr_zero {th : Bool} : ∀ {l : List Os.Op}, opsErr th l = 0 ↔ ∀ o ∈ l, Os.check o = 0 ∨ (th = true ∧ Os.gone o = true)
  | [] => by simp [opsErr]
  | o :: r => by
    rw [opsErr]
    by_cases h : Os.check o ≠ 0 ∧ ¬ (th = true ∧ Os.gone o = true)
    · rw [if_pos h]
      constructor
      · intro e; exact absurd e h.1
      · intro e
        rcases e o (by simp) with e | e
        · exact e
        · exact absurd e h.2
    · rw [if_neg h, opsErr_zero]
      constructor
      · intro e x hx
        rcases List.mem_cons.1 hx with rfl | hx
        · by_cases e0 : Os.check x = 0
          · exact .inl e0
          · exact .inr (Classical.byContradiction fun q => h ⟨e0, q⟩)
        · exact e x hx
      · intro e x hx
        exact e x (by simp [hx])
theorem check_zero {t : Txn} (h : check t = 0) : Dt.right t.d.1 t.d.2 = true ∧ (0 ≤ t.u ∧ t.u ≤ 7) ∧ (1 ≤ t.t ∧ t.t ≤ 1099511627776) ∧ (1 ≤ t.ops.length ∧ t.ops.length ≤ 16) ∧ ∀ o ∈ t.ops, Os.check o = 0 ∨ (t.thin = true ∧ Os.gone o = true) := by
  unfold check at h
  split at h
  · omega
  · rename_i h1
    split at h
    · omega
    · split at h
      · omega
      · simp only [not_or, Bool.not_eq_false] at h1
        exact ⟨h1.1, by omega, by omega, by omega, opsErr_zero.1 h⟩

/-! ### Transactions that rise -/
abbrev Rises (l : List Txn) : Prop := l.Pairwise fun a b => dlt a.d b.d
def rises (l : List Txn) : Bool := decide (Rises l)
theorem rises_iff {l : List Txn} : rises l = true ↔ Rises l := by simp [rises]
theorem rises_step {l : List Txn} {k : Nat} (h : Rises (l.take k)) (hk : k < l.length) (hl : k = 0 ∨ ∃ h1 : k - 1 < l.length, dlt l[k - 1].d l[k].d) : Rises (l.take (k + 1)) := by
  rw [List.take_succ_eq_append_getElem hk]
  refine List.pairwise_append.2 ⟨h, List.pairwise_singleton _ _, fun a ha b hb => ?_⟩
  rw [List.mem_singleton.1 hb]
  obtain ⟨i, hi, rfl⟩ := List.mem_iff_getElem.1 ha
  rw [List.length_take] at hi
  rcases hl with rfl | ⟨h1, hl⟩
  · omega
  · rw [List.getElem_take]
    by_cases e : i = k - 1
    · subst e; exact hl
    · have := List.pairwise_iff_getElem.1 h i (k - 1) (by rw [List.length_take]; omega) (by rw [List.length_take]; omega) (by omega)
      rw [List.getElem_take, List.getElem_take] at this
      exact dlt_trans this hl
theorem not_rises {l : List Txn} {k : Nat} (hk : k + 1 < l.length) (ho : ¬ dlt l[k].d l[k + 1].d) : rises l = false := by
  cases e : rises l with
  | false => rfl
  | true => exact absurd (List.pairwise_iff_getElem.1 (rises_iff.1 e) k (k + 1) (by omega) hk (by omega)) ho
/-- Where the dot's stands, from k on. -/
def findFrom (d : D) : Nat → List Txn → Int
  | _, [] => -1
  | k, x :: r => if x.d = d then (k : Int) else findFrom d (k + 1) r
def find (l : List Txn) (d : D) : Int := findFrom d 0 l
theorem findFrom_none {d : D} : ∀ {l : List Txn} {k : Nat}, (∀ x ∈ l, x.d ≠ d) → findFrom d k l = -1
  | [], _, _ => rfl
  | x :: r, k, h => by rw [findFrom, if_neg (h x (by simp)), findFrom_none fun y hy => h y (by simp [hy])]
theorem findFrom_at {d : D} : ∀ {l : List Txn} {k i : Nat} (hi : i < l.length), l[i].d = d → (∀ j (h : j < l.length), j < i → l[j].d ≠ d) → findFrom d k l = ((k + i : Nat) : Int)
  | [], _, _, hi, _, _ => by simp at hi
  | x :: r, k, 0, _, he, _ => by rw [findFrom, if_pos (by simpa using he)]; rfl
  | x :: r, k, i + 1, hi, he, hn => by
    rw [findFrom, if_neg (by have := hn 0 (by simp) (by omega); simpa using this), findFrom_at (i := i) (by simpa using hi) (by simpa using he) (fun j h hj => by have := hn (j + 1) (by simpa using h) (by omega); simpa using this)]
    congr 1; omega
theorem find_none {l : List Txn} {d : D} (h : ∀ x ∈ l, x.d ≠ d) : find l d = -1 := findFrom_none h
theorem find_at {l : List Txn} {d : D} {i : Nat} (hp : Rises l) (hi : i < l.length) (he : l[i].d = d) : find l d = (i : Int) := by
  have := findFrom_at (k := 0) hi he fun j h hj e => by
    have := List.pairwise_iff_getElem.1 hp j i h hi hj
    rw [e, ← he] at this
    exact dlt_irrefl _ this
  rw [find, this]
  congr 1; omega
/-- One put in its place. -/
def put : List Txn → Txn → List Txn
  | [], t => [t]
  | x :: r, t => if t.d = x.d then x :: r else if dlt t.d x.d then t :: x :: r else x :: put r t
theorem put_mem {t : Txn} : ∀ {l : List Txn} (x : Txn), x ∈ put l t → x = t ∨ x ∈ l
  | [], x, h => by simp only [put, List.mem_singleton] at h; exact .inl h
  | y :: r, x, h => by
    unfold put at h
    split at h
    · exact .inr h
    · split at h
      · rcases List.mem_cons.1 h with h | h
        · exact .inl h
        · exact .inr h
      · rcases List.mem_cons.1 h with h | h
        · exact .inr (by simp [h])
        · rcases put_mem x h with h | h
          · exact .inl h
          · exact .inr (by simp [h])
theorem put_old {t : Txn} : ∀ {l : List Txn} (x : Txn), x ∈ l → x ∈ put l t
  | [], x, h => by simp at h
  | y :: r, x, h => by
    unfold put
    split
    · exact h
    · split
      · exact List.mem_cons_of_mem _ h
      · rcases List.mem_cons.1 h with h | h
        · simp [h]
        · exact List.mem_cons_of_mem _ (put_old x h)
theorem put_new {t : Txn} : ∀ {l : List Txn}, (∀ x ∈ l, x.d ≠ t.d) → t ∈ put l t
  | [], _ => by simp [put]
  | y :: r, h => by
    unfold put
    rw [if_neg (fun e => h y (by simp) e.symm)]
    split
    · simp
    · exact List.mem_cons_of_mem _ (put_new fun x hx => h x (by simp [hx]))
theorem put_same {t : Txn} : ∀ {l : List Txn}, Rises l → (∃ x ∈ l, x.d = t.d) → put l t = l
  | [], _, h => by obtain ⟨x, hx, _⟩ := h; simp at hx
  | y :: r, hp, h => by
    unfold put
    by_cases e : t.d = y.d
    · rw [if_pos e]
    · obtain ⟨x, hx, hd⟩ := h
      rcases List.mem_cons.1 hx with rfl | hx
      · exact absurd hd.symm e
      · have hr := List.pairwise_cons.1 hp
        have h1 := hr.1 x hx
        rw [hd] at h1
        rw [if_neg e, if_neg (fun q => dlt_irrefl _ (dlt_trans q h1)), put_same hr.2 ⟨x, hx, hd⟩]
theorem put_rises {t : Txn} : ∀ {l : List Txn}, Rises l → Rises (put l t)
  | [], _ => List.pairwise_singleton _ _
  | y :: r, hp => by
    have hr := List.pairwise_cons.1 hp
    unfold put
    split
    · exact hp
    · split
      · rename_i h1 h2
        refine List.pairwise_cons.2 ⟨fun x hx => ?_, hp⟩
        rcases List.mem_cons.1 hx with rfl | hx
        · exact h2
        · exact dlt_trans h2 (hr.1 x hx)
      · rename_i h1 h2
        refine List.pairwise_cons.2 ⟨fun x hx => ?_, put_rises hr.2⟩
        rcases put_mem x hx with rfl | hx
        · rcases dlt_total x.d y.d with h | h | h
          · exact absurd h h2
          · exact absurd h h1
          · exact h
        · exact hr.1 x hx
/-- Two that rise, with the same ones in them, are the same. -/
theorem rises_eq : ∀ {a b : List Txn}, Rises a → Rises b → (∀ x, x ∈ a ↔ x ∈ b) → a = b
  | [], [], _, _, _ => rfl
  | [], y :: b, _, _, h => by have := (h y).2 (by simp); simp at this
  | x :: a, [], _, _, h => by have := (h x).1 (by simp); simp at this
  | x :: a, y :: b, ha, hb, h => by
    have ha' := List.pairwise_cons.1 ha
    have hb' := List.pairwise_cons.1 hb
    have e : x = y := by
      rcases List.mem_cons.1 ((h x).1 (by simp)) with e | e
      · exact e
      · rcases List.mem_cons.1 ((h y).2 (by simp)) with q | q
        · exact q.symm
        · exact absurd (dlt_trans (hb'.1 x e) (ha'.1 y q)) (dlt_irrefl _)
    subst e
    congr 1
    refine rises_eq ha'.2 hb'.2 fun z => ⟨fun hz => ?_, fun hz => ?_⟩
    · rcases List.mem_cons.1 ((h z).1 (List.mem_cons_of_mem _ hz)) with q | q
      · exact absurd (ha'.1 z hz) (by rw [q]; exact dlt_irrefl _)
      · exact q
    · rcases List.mem_cons.1 ((h z).2 (List.mem_cons_of_mem _ hz)) with q | q
      · exact absurd (hb'.1 z hz) (by rw [q]; exact dlt_irrefl _)
      · exact q
/-- All put, one behind the other. -/
def puts (a : List Txn) (l : List Txn) : List Txn := l.foldl put a
theorem puts_rises : ∀ {l a : List Txn}, Rises a → Rises (puts a l)
  | [], _, h => h
  | _ :: r, _, h => puts_rises (l := r) (put_rises h)
theorem puts_mem : ∀ {l a : List Txn}, (∀ x ∈ a, ∀ y ∈ l, x.d ≠ y.d) → (l.Pairwise fun x y => x.d ≠ y.d) → ∀ z, z ∈ puts a l ↔ z ∈ a ∨ z ∈ l
  | [], a, _, _, z => by simp [puts]
  | t :: r, a, h, hp, z => by
    have hp' := List.pairwise_cons.1 hp
    have h1 : ∀ x ∈ put a t, ∀ y ∈ r, x.d ≠ y.d := fun x hx y hy => by
      rcases put_mem x hx with rfl | hx
      · exact hp'.1 y hy
      · exact h x hx y (by simp [hy])
    rw [show puts a (t :: r) = puts (put a t) r from rfl, puts_mem h1 hp'.2 z]
    constructor
    · rintro (q | q)
      · rcases put_mem z q with rfl | q
        · exact .inr (by simp)
        · exact .inl q
      · exact .inr (by simp [q])
    · rintro (q | q)
      · exact .inl (put_old z q)
      · rcases List.mem_cons.1 q with rfl | q
        · exact .inl (put_new fun x hx => h x hx z (by simp))
        · exact .inr q
/-- The order does not matter. -/
theorem puts_order {l m : List Txn} (hp : l.Pairwise fun x y => x.d ≠ y.d) (hm : ∀ x, x ∈ m ↔ x ∈ l) (hq : m.Pairwise fun x y => x.d ≠ y.d) : puts [] l = puts [] m := by
  refine rises_eq (puts_rises List.Pairwise.nil) (puts_rises List.Pairwise.nil) fun z => ?_
  rw [puts_mem (by simp) hp, puts_mem (by simp) hq, hm]
theorem put_len {t : Txn} : ∀ {l : List Txn}, (∀ x ∈ l, x.d ≠ t.d) → (put l t).length = l.length + 1
  | [], _ => rfl
  | y :: r, h => by
    unfold put
    rw [if_neg (fun e => h y (by simp) e.symm)]
    split
    · rfl
    · rw [List.length_cons, put_len fun x hx => h x (by simp [hx]), List.length_cons]
theorem puts_len : ∀ {l a : List Txn}, (∀ x ∈ a, ∀ y ∈ l, x.d ≠ y.d) → (l.Pairwise fun x y => x.d ≠ y.d) → (puts a l).length = a.length + l.length
  | [], _, _, _ => rfl
  | t :: r, a, h, hp => by
    have hp' := List.pairwise_cons.1 hp
    rw [show puts a (t :: r) = puts (put a t) r from rfl, puts_len (fun x hx y hy => by
      rcases put_mem x hx with rfl | hx
      · exact hp'.1 y hy
      · exact h x hx y (by simp [hy])) hp'.2, put_len (fun x hx => h x hx t (by simp)), List.length_cons]
    omega

/-! ### Bytes -/
def head (t : Txn) : List UInt8 := (Pk.enc t.d.1.toNat ++ Pk.enc t.d.2.toNat) ++ (Pk.enc t.u.toNat ++ (Pk.enc t.t.toNat ++ (Pk.enc (if t.thin = true then 1 else 0) ++ Pk.enc t.ops.length)))
def code (t : Txn) : List UInt8 := head t ++ t.ops.flatMap Os.code
def list (l : List Txn) : List UInt8 := Pk.enc l.length ++ l.flatMap code
end Tx
end Go.Proofs.YtmnehekcealjhaaGreat
/- Transactions in memory: a slice of operations, a transaction in a variable and in a slice. -/
namespace Go.Proofs.YtmnehekcealjhaaGreat.O
open Go.RowKit

/-- An operation, its slices written out. -/
abbrev oV (o : Os.Op) (pv sv : Value) : Value := opV o.k pv o.vk o.vn o.vs o.n sv
abbrev oO (o : Os.Op) (pv sv : Value) : Obj := opO o.k pv o.vk o.vn o.vs o.n sv
/-- At this place there is this operation. -/
structure OcAt (w : World) (p : Addr) (o : Os.Op) (pv sv : Value) : Prop where
  c0 : w.cell? p = some (.int .i64 o.k)
  c1 : w.cell? ⟨p.block, p.off + 1, none⟩ = some pv
  c2 : w.cell? ⟨p.block, p.off + 2, none⟩ = some (.int .i64 o.vk)
  c3 : w.cell? ⟨p.block, p.off + 3, none⟩ = some (.int .i64 o.vn)
  c4 : w.cell? ⟨p.block, p.off + 4, none⟩ = some (.string ⟨o.vs.toArray⟩)
  c5 : w.cell? ⟨p.block, p.off + 5, none⟩ = some (.int .i64 o.n)
  c6 : w.cell? ⟨p.block, p.off + 6, none⟩ = some sv
theorem OcAt.on {w w' : World} {p : Addr} {o : Os.Op} {pv sv : Value} (h : OcAt w p o pv sv) (hb : Below w.heap.size w w') : OcAt w' p o pv sv :=
  ⟨keep_cell hb h.c0, keep_cell hb h.c1, keep_cell hb h.c2, keep_cell hb h.c3, keep_cell hb h.c4, keep_cell hb h.c5, keep_cell hb h.c6⟩
theorem strs_slice {w : World} {v : Value} {xs : List (List UInt8)} (h : U.strsAt w v xs) : ∃ ao n cap, v = .slice ao n cap := by
  obtain ⟨ao, cap, e, _⟩ := h
  exact ⟨ao, _, cap, e⟩
theorem refs_slice {w : World} {v : Value} {l : List U} (h : refsIn w v l) : ∃ ao n cap, v = .slice ao n cap := by
  obtain ⟨ao, cap, e, _⟩ := h
  exact ⟨ao, _, cap, e⟩
/-- A slice reads as these operations. -/
def opsIn (w : World) (v : Value) (os : List Os.Op) : Prop :=
  ∃ ao cap, v = .slice ao os.length cap ∧ os.length ≤ cap ∧ (ao = none → cap = 0) ∧ ∀ k (h : k < os.length), ∃ ad pv sv, ao = some ad ∧ OcAt w (ad.add (k * 7)) os[k] pv sv ∧ U.strsAt w pv os[k].p ∧ refsIn w sv os[k].l
theorem opsIn_nil (w : World) : opsIn w (.slice none 0 0) [] := ⟨none, 0, rfl, by simp, fun _ => rfl, fun k h => by simp at h⟩
theorem opsIn.on {w w' : World} {v : Value} {os : List Os.Op} (h : opsIn w v os) (hb : Below w.heap.size w w') : opsIn w' v os := by
  obtain ⟨ao, cap, hv, hm, h0, hc⟩ := h
  refine ⟨ao, cap, hv, hm, h0, fun k hk => ?_⟩
  obtain ⟨ad, pv, sv, h1, h2, h3, h4⟩ := hc k hk
  exact ⟨ad, pv, sv, h1, h2.on hb, U.strsAt_below h3 hb (Nat.le_refl _), h4.on hb⟩
theorem opsIn.len {w : World} {ao : Option Addr} {n cap : Nat} {os : List Os.Op} (h : opsIn w (.slice ao n cap) os) : n = os.length := by
  obtain ⟨_, _, e, _⟩ := h
  cases e
  rfl
theorem opsIn.slice {w : World} {v : Value} {os : List Os.Op} (h : opsIn w v os) : ∃ ao cap, v = .slice ao os.length cap := by
  obtain ⟨ao, cap, e, _⟩ := h
  exact ⟨ao, cap, e⟩
/-- The operation at a place. -/
theorem opsIn.get {w : World} {ao : Option Addr} {n cap : Nat} {os : List Os.Op} (h : opsIn w (.slice ao n cap) os) {k : Nat} (hk : k < os.length) :
    ∃ ad pv sv, ao = some ad ∧ OcAt w (ad.add (k * 7)) os[k] pv sv ∧ U.strsAt w pv os[k].p ∧ refsIn w sv os[k].l := by
  obtain ⟨ao', cap', e, _, _, hc⟩ := h
  cases e
  exact hc k hk

/-! ### Transactions -/
abbrev txV (t : Tx.Txn) (ov : Value) : Value := .agg #[.int .i64 t.d.1, .int .i64 t.d.2, .int .i64 t.u, .int .i64 t.t, .bool t.thin, ov]
abbrev txO (t : Tx.Txn) (ov : Value) : Obj := .cells #[.int .i64 t.d.1, .int .i64 t.d.2, .int .i64 t.u, .int .i64 t.t, .bool t.thin, ov] 57
/-- At this place there is this transaction. -/
structure TcAt (w : World) (p : Addr) (t : Tx.Txn) (ov : Value) : Prop where
  c0 : w.cell? p = some (.int .i64 t.d.1)
  c1 : w.cell? ⟨p.block, p.off + 1, none⟩ = some (.int .i64 t.d.2)
  c2 : w.cell? ⟨p.block, p.off + 2, none⟩ = some (.int .i64 t.u)
  c3 : w.cell? ⟨p.block, p.off + 3, none⟩ = some (.int .i64 t.t)
  c4 : w.cell? ⟨p.block, p.off + 4, none⟩ = some (.bool t.thin)
  c5 : w.cell? ⟨p.block, p.off + 5, none⟩ = some ov
theorem TcAt.on {w w' : World} {p : Addr} {t : Tx.Txn} {ov : Value} (h : TcAt w p t ov) (hb : Below w.heap.size w w') : TcAt w' p t ov :=
  ⟨keep_cell hb h.c0, keep_cell hb h.c1, keep_cell hb h.c2, keep_cell hb h.c3, keep_cell hb h.c4, keep_cell hb h.c5⟩
/-- In a variable there is this transaction. -/
structure TAt (w : World) (b : Nat) (t : Tx.Txn) (ov : Value) : Prop where
  c0 : w.cell? ⟨b, 0, none⟩ = some (.int .i64 t.d.1)
  c1 : w.cell? ⟨b, 1, none⟩ = some (.int .i64 t.d.2)
  c2 : w.cell? ⟨b, 2, none⟩ = some (.int .i64 t.u)
  c3 : w.cell? ⟨b, 3, none⟩ = some (.int .i64 t.t)
  c4 : w.cell? ⟨b, 4, none⟩ = some (.bool t.thin)
  c5 : w.cell? ⟨b, 5, none⟩ = some ov
section
variable {w w' : World} {b : Nat} {t : Tx.Txn} {ov : Value}
theorem TAt.new (w : World) (t : Tx.Txn) (ov : Value) : TAt (w.alloc (txO t ov)) w.heap.size t ov := ⟨by simp, by simp, by simp, by simp, by simp, by simp⟩
theorem TAt.lt (h : TAt w b t ov) : b < w.heap.size := World.block_lt_of_cell? w ⟨b, 0, none⟩ h.c0
theorem TAt.blk (h : TAt w b t ov) (hb : w'.heap[b]? = w.heap[b]?) : TAt w' b t ov :=
  ⟨(World.cell?_of_block (w := w) hb).trans h.c0, (World.cell?_of_block (w := w) hb).trans h.c1, (World.cell?_of_block (w := w) hb).trans h.c2, (World.cell?_of_block (w := w) hb).trans h.c3, (World.cell?_of_block (w := w) hb).trans h.c4, (World.cell?_of_block (w := w) hb).trans h.c5⟩
theorem TAt.on (h : TAt w b t ov) (hb : Below w.heap.size w w') : TAt w' b t ov := h.blk (hb.block b h.lt)
theorem TAt.but {g : Nat} (h : TAt w b t ov) (hb : But g w w') (hg : b ≠ g) : TAt w' b t ov := h.blk (hb.block b h.lt hg)
theorem TAt.drew (h : TAt w b t ov) : TAt w.drew b t ov := h.blk rfl
theorem TAt.setOther (h : TAt w b t ov) {p : Addr} (hp : p.block ≠ b) (v : Value) : TAt (w.setCell p v) b t ov := h.blk (Below.heap_setCell w p v b (Ne.symm hp))
theorem TAt.new2 (w : World) (t : Tx.Txn) (ov : Value) (t' : Tx.Txn) (ov' : Value) :
    TAt ((w.alloc (txO t ov)).alloc (txO t' ov')) w.heap.size t ov ∧ TAt ((w.alloc (txO t ov)).alloc (txO t' ov')) (w.heap.size + 1) t' ov' := by
  refine ⟨(TAt.new w t ov).on (below_new _ _), ?_⟩
  have h := TAt.new (w.alloc (txO t ov)) t' ov'
  have e : (w.alloc (txO t ov)).heap.size = w.heap.size + 1 := by simp
  rw [e] at h
  exact h
end
/-- Where a field's cells begin. -/
def toff : Nat → Nat
  | 0 => 0
  | 1 => 2
  | 2 => 3
  | 3 => 4
  | _ => 5
section
variable {o : Oper} {a : Act} {w : World} {b : Nat} {t : Tx.Txn} {ov : Value}
theorem exec_tfld {x : Operand} {i : Nat} (hi : i < 5) (ho : o.op = .fieldAddr 57 x i) (hx : a.eval x = .pointer (some ⟨b, 0, none⟩)) (w : World) :
    (execOp a.eval o).run Tryz.prog w = .ok (.value (.pointer (some ⟨b, toff i, none⟩))) w := by
  unfold execOp
  match i, hi with
  | 0, _ =>
    simp only [ho, hx, Sem.run_bind]
    go_simp
    rfl
  | 1, _ =>
    simp only [ho, hx, Sem.run_bind]
    go_simp
    rfl
  | 2, _ =>
    simp only [ho, hx, Sem.run_bind]
    go_simp
    rfl
  | 3, _ =>
    simp only [ho, hx, Sem.run_bind]
    go_simp
    rfl
  | 4, _ =>
    simp only [ho, hx, Sem.run_bind]
    go_simp
    rfl
theorem exec_ldT {x : Operand} (ho : o.op = .load 57 x) (hx : a.eval x = .pointer (some ⟨b, 0, none⟩)) (h : TAt w b t ov) :
    (execOp a.eval o).run Tryz.prog w = .ok (.value (txV t ov)) w := by
  obtain ⟨h0, h1, h2, h3, h4, h5⟩ := h
  unfold execOp
  simp only [ho, hx, Sem.run_bind]
  go_simp
end
/-- A slice reads as these transactions. -/
def txsIn (w : World) (v : Value) (ts : List Tx.Txn) : Prop :=
  ∃ ao cap, v = .slice ao ts.length cap ∧ ts.length ≤ cap ∧ (ao = none → cap = 0) ∧ ∀ k (h : k < ts.length), ∃ ad ov, ao = some ad ∧ TcAt w (ad.add (k * 6)) ts[k] ov ∧ opsIn w ov ts[k].ops
theorem txsIn_nil (w : World) : txsIn w (.slice none 0 0) [] := ⟨none, 0, rfl, by simp, fun _ => rfl, fun k h => by simp at h⟩
theorem txsIn.on {w w' : World} {v : Value} {ts : List Tx.Txn} (h : txsIn w v ts) (hb : Below w.heap.size w w') : txsIn w' v ts := by
  obtain ⟨ao, cap, hv, hm, h0, hc⟩ := h
  refine ⟨ao, cap, hv, hm, h0, fun k hk => ?_⟩
  obtain ⟨ad, ov, h1, h2, h3⟩ := hc k hk
  exact ⟨ad, ov, h1, h2.on hb, h3.on hb⟩
theorem txsIn.get {w : World} {ao : Option Addr} {n cap : Nat} {ts : List Tx.Txn} (h : txsIn w (.slice ao n cap) ts) {k : Nat} (hk : k < ts.length) :
    ∃ ad ov, ao = some ad ∧ TcAt w (ad.add (k * 6)) ts[k] ov ∧ opsIn w ov ts[k].ops := by
  obtain ⟨ao', cap', e, _, _, hc⟩ := h
  cases e
  exact hc k hk
/-- What came in has lengths that a machine's number tells. -/
def opWide (o : Os.Op) : Prop := o.p.length ≤ 9223372036854775807 ∧ ∀ x ∈ o.p, x.length ≤ 9223372036854775807
def txWide (t : Tx.Txn) : Prop := ∀ o ∈ t.ops, opWide o
end Go.Proofs.YtmnehekcealjhaaGreat.O
/- Rows of operations, and of transactions, that a call owns: how they read, and how they grow. -/
namespace Go.Proofs.YtmnehekcealjhaaGreat.O
open Go.RowKit

theorem own_slice {w : World} {b s n : Nat} {e : TypeId} {v : Value} {xs : List Value} (h : w.ownsRow b e s v n xs) : ∃ ao n c, v = .slice ao n c := by
  rcases h.2 with ⟨rfl, _⟩ | ⟨g, cap, cur, rfl, _⟩
  · exact ⟨_, _, _, rfl⟩
  · exact ⟨_, _, _, rfl⟩
theorem own_set {w : World} {B s n g j : Nat} {e : TypeId} {v : Value} {xs : List Value} (h : w.ownsRow B e s v n xs) (hg : v.ownBlock ≠ some g) (x : Value) : (w.setCell ⟨g, j, none⟩ x).ownsRow B e s v n xs := by
  refine ⟨h.1, ?_⟩
  rcases h.2 with hn | ⟨q, cap, cur, hv, hbq, hq, r⟩
  · exact Or.inl hn
  · refine Or.inr ⟨q, cap, cur, hv, hbq, ?_, r⟩
    have hne : q ≠ g := fun e => hg (by rw [hv, ← e]; rfl)
    exact (Below.heap_setCell w ⟨g, j, none⟩ x q hne).trans hq
theorem add_plus (ad : Addr) (a i : Nat) (hi : 0 < i) : ad.add (a + i) = ⟨(ad.add a).block, (ad.add a).off + i, none⟩ := by
  unfold Addr.add
  rw [if_neg (by omega)]
  by_cases h : a = 0
  · subst h; simp
  · rw [if_neg h]
    simp; omega
/-- A row is not changed where another one grows. -/
theorem own_grown_other {w w1 : World} {B s n : Nat} {e : TypeId} {v : Value} {xs : List Value} {row : Option Nat} (h : w.ownsRow B e s v n xs) (hg : w.grownBy w1 row) (hne : ∀ g, row = some g → v.ownBlock ≠ some g) : w1.ownsRow B e s v n xs := by
  refine ⟨h.1, ?_⟩
  rcases h.2 with hn | ⟨g, cap, cur, hv, hbg, hq, r⟩
  · exact Or.inl hn
  · refine Or.inr ⟨g, cap, cur, hv, hbg, ?_, r⟩
    rw [hg.block g (Array.getElem?_eq_some_iff.1 hq).1 (fun e => hne g e.symm (by rw [hv]; rfl))]
    exact hq
theorem own_types {w : World} {B s n B' s' n' : Nat} {e e' : TypeId} {v v' : Value} {xs xs' : List Value} (h : w.ownsRow B e s v n xs) (h' : w.ownsRow B' e' s' v' n' xs') (he : e ≠ e') : ∀ g, v'.ownBlock = some g → v.ownBlock ≠ some g := by
  intro g hg hg'
  rcases h.2 with ⟨rfl, _⟩ | ⟨k, cap, cur, rfl, _, hk, _⟩
  · cases hg'
  · rcases h'.2 with ⟨rfl, _⟩ | ⟨k', cap', cur', rfl, _, hk', _⟩
    · cases hg
    · have e1 : k = g := Option.some.inj hg'
      have e2 : k' = g := Option.some.inj hg
      subst e1
      subst e2
      rw [hk] at hk'
      have := Option.some.inj hk'
      injection this with _ e3 _
      exact he e3

/-! ### Operations -/
abbrev OE := Os.Op × Value × Value
def ocell (x : OE) : List Value := [.int .i64 x.1.k, x.2.1, .int .i64 x.1.vk, .int .i64 x.1.vn, .string ⟨x.1.vs.toArray⟩, .int .i64 x.1.n, x.2.2]
def ocells (xs : List OE) : List Value := xs.flatMap ocell
theorem ocells_append (a b : List OE) : ocells (a ++ b) = ocells a ++ ocells b := by simp [ocells]
theorem ocells_length : ∀ l : List OE, (ocells l).length = l.length * 7
  | [] => rfl
  | u :: l => by have := ocells_length l; simp [ocells, ocell] at *; omega
theorem ocells_at : ∀ (l : List OE) (k : Nat) (h : k < l.length) (i : Nat) (_ : i < 7), (ocells l)[k * 7 + i]? = (ocell l[k])[i]?
  | u :: l, 0, _, i, hi => by
    have e : ocells (u :: l) = ocell u ++ ocells l := rfl
    rw [e, List.getElem?_append_left (by simp [ocell]; omega)]
    simp
  | u :: l, k + 1, h, i, hi => by
    have := ocells_at l k (by simpa using h) i hi
    have e : ocells (u :: l) = ocell u ++ ocells l := rfl
    rw [e, List.getElem?_append_right (by simp [ocell]; omega)]
    simp only [List.getElem_cons_succ]
    rw [← this]
    congr 1
    simp [ocell]
    omega
theorem slice_one {v : Value} (h : ∃ ao n c, v = .slice ao n c) : v.oneCell' = true := by
  obtain ⟨_, _, _, rfl⟩ := h
  rfl
/-- What each operation's own slices are. -/
def OIn (w : World) (B : Nat) (x : OE) : Prop := w.ownsRow B 9 1 x.2.1 x.1.p.length (U.cellsS x.1.p) ∧ w.ownsRow B 62 3 x.2.2 x.1.l.length (ucells x.1.l)
def opsOwn (w : World) (B : Nat) (v : Value) (os : List Os.Op) : Prop := ∃ xs : List OE, xs.map (·.1) = os ∧ w.ownsRow B 52 7 v xs.length (ocells xs) ∧ ∀ x ∈ xs, OIn w B x
theorem opsOwn_nil (w : World) (B : Nat) : opsOwn w B (.slice none 0 0) [] := ⟨[], rfl, World.ownsRow_nil _ _ _ _, fun x h => by simp at h⟩
theorem ocells_one {w : World} {B : Nat} {xs : List OE} (h : ∀ x ∈ xs, OIn w B x) : ∀ u ∈ ocells xs, u.oneCell' = true := by
  intro u hu
  simp only [ocells, List.mem_flatMap] at hu
  obtain ⟨x, hx, hu⟩ := hu
  obtain ⟨h1, h2⟩ := h x hx
  simp only [ocell, List.mem_cons, List.not_mem_nil, or_false] at hu
  rcases hu with rfl | rfl | rfl | rfl | rfl | rfl | rfl
  · rfl
  · exact slice_one (own_slice h1)
  · rfl
  · rfl
  · rfl
  · rfl
  · exact slice_one (own_slice h2)
theorem opsOwn.map {w w' : World} {B B' : Nat} {v : Value} {os : List Os.Op} (h : opsOwn w B v os) (f : ∀ {e s n v xs}, e ≠ 48 → w.ownsRow B e s v n xs → w'.ownsRow B' e s v n xs) : opsOwn w' B' v os := by
  obtain ⟨xs, h1, h2, h3⟩ := h
  exact ⟨xs, h1, f (by decide) h2, fun x hx => ⟨f (by decide) (h3 x hx).1, f (by decide) (h3 x hx).2⟩⟩
theorem opsOwn.on {w w' : World} {B : Nat} {v : Value} {os : List Os.Op} (h : opsOwn w B v os) (hb : Below w.heap.size w w') : opsOwn w' B v os := h.map fun _ k => own_on k hb
theorem opsOwn.but {w w' : World} {B g : Nat} {v : Value} {os : List Os.Op} (h : opsOwn w B v os) (hb : But g w w') (hg : g < B) : opsOwn w' B v os := h.map fun _ k => own_but k hb hg
theorem opsOwn.low {w : World} {B g j : Nat} {v : Value} {os : List Os.Op} (h : opsOwn w B v os) (hg : g < B) (x : Value) : opsOwn (w.setCell ⟨g, j, none⟩ x) B v os := h.map fun _ k => own_set k (fun q => by have := (k.lt g q).1; omega) x
theorem opsOwn.base {w : World} {B B' : Nat} {v : Value} {os : List Os.Op} (h : opsOwn w B v os) (hb : B' ≤ B) : opsOwn w B' v os := h.map fun _ k => own_base k hb
theorem opsOwn.slice {w : World} {B : Nat} {v : Value} {os : List Os.Op} (h : opsOwn w B v os) : ∃ ao n c, v = .slice ao n c := by
  obtain ⟨xs, _, h2, _⟩ := h
  exact own_slice h2
theorem opsIn_own {w : World} {B : Nat} {v : Value} {os : List Os.Op} (h : opsOwn w B v os) : opsIn w v os := by
  obtain ⟨xs, rfl, h2, h3⟩ := h
  rcases h2.2 with ⟨rfl, h0⟩ | ⟨g, cap, cur, rfl, r⟩
  · obtain rfl : xs = [] := List.eq_nil_of_length_eq_zero h0
    exact opsIn_nil w
  · refine ⟨_, cap, by rw [List.length_map], by rw [List.length_map]; exact r.2.2.1, fun e => by simp at e, fun k hk => ?_⟩
    have hk' : k < xs.length := by simpa using hk
    have hc := fun i (hi : i < 7) (u : Value) (hu : (ocell xs[k])[i]? = some u) => h2.cells rfl (k * 7 + i) u ((ocells_at xs k hk' i hi).trans hu)
    have hx := h3 _ (List.getElem_mem hk')
    refine ⟨_, xs[k].2.1, xs[k].2.2, rfl, ?_, ?_, ?_⟩
    · simp only [List.getElem_map]
      refine ⟨hc 0 (by omega) _ rfl, ?_, ?_, ?_, ?_, ?_, ?_⟩
      · rw [← add_plus _ _ 1 (by omega)]; exact hc 1 (by omega) _ rfl
      · rw [← add_plus _ _ 2 (by omega)]; exact hc 2 (by omega) _ rfl
      · rw [← add_plus _ _ 3 (by omega)]; exact hc 3 (by omega) _ rfl
      · rw [← add_plus _ _ 4 (by omega)]; exact hc 4 (by omega) _ rfl
      · rw [← add_plus _ _ 5 (by omega)]; exact hc 5 (by omega) _ rfl
      · rw [← add_plus _ _ 6 (by omega)]; exact hc 6 (by omega) _ rfl
    · simp only [List.getElem_map]; exact U.strsAt_own hx.1
    · simp only [List.getElem_map]; exact refsIn_own hx.2
theorem info47 : ∃ i0, Tryz.prog.info? 52 = some i0 ∧ i0.zero = some (opV 0 (.slice none 0 0) 0 0 [] 0 (.slice none 0 0)) ∧ i0.size = 7 ∧ i0.bytes = 96 := info_parts (by kernel_rfl)
theorem new_op (w : World) (x : OE) : ∀ j v, (ocells [x])[j]? = some v → (w.alloc (oO x.1 x.2.1 x.2.2)).cell? ((⟨w.heap.size, 0, none⟩ : Addr).add j) = some v := by
  intro j v hv
  have e : (⟨w.heap.size, 0, none⟩ : Addr).add j = ⟨w.heap.size, j, none⟩ := by unfold Addr.add; split <;> simp_all
  rw [e, cell_of_row _ w.heap.size j _ 52 (0, 0) (heap_alloc_new w _)]
  simpa [ocells, ocell] using hv
/-- One operation is appended to a row that the call owns. -/
theorem append_op {ops : Array Oper} {rest : List Oper} {o : Oper} {a : Act} {w : World} {Q : Exit → Act → World → Prop} (hgd : o.guard = none) (s x : Operand)
    (ho : o.op = .call { callee := .builtin .append, args := #[s, x], argTypes := #[53, 53] }) (B : Nat) (hB : B ≤ w.heap.size) (r : Value) (acc : List OE) (hs : a.eval s = r) (hown : w.ownsRow B 52 7 r acc.length (ocells acc))
    (g : Nat) (y : OE) (hx : a.eval x = .slice (some ⟨g, 0, none⟩) 1 1) (hv : ∀ j v, (ocells [y])[j]? = some v → w.cell? ((⟨g, 0, none⟩ : Addr).add j) = some v) (hone : ∀ u ∈ ocells [y], u.oneCell' = true) (hn : acc.length + 1 ≤ 1000000)
    (h : ∀ r' w', w'.ownsRow B 52 7 r' (acc ++ [y]).length (ocells (acc ++ [y])) → w.grownBy w' r.ownBlock → wpList Tryz.prog ops Q rest (a.put o.dst r') w') : wpList Tryz.prog ops Q (o :: rest) a w := by
  obtain ⟨i0, hi, hz, hz1, hz2⟩ := info47
  refine wpList_append_own w hgd s x 53 ho B 52 i0 _ 7 96 Tryz.underlying53 hi hz hz1 hz2 rfl (by decide) r _ _ hs hown ⟨g, 0, none⟩ 1 1 (ocells [y]) hx (ocells_length [y]) hv hone (by unfold maxLen; omega) (by omega) hB ?_
  intro v' w1 hown' hg _
  refine h v' w1 ?_ hg
  rw [ocells_append, List.length_append]
  exact hown'

/-! ### Transactions -/
abbrev TE := Tx.Txn × Value
def tcell (x : TE) : List Value := [.int .i64 x.1.d.1, .int .i64 x.1.d.2, .int .i64 x.1.u, .int .i64 x.1.t, .bool x.1.thin, x.2]
def tcells (xs : List TE) : List Value := xs.flatMap tcell
theorem tcells_append (a b : List TE) : tcells (a ++ b) = tcells a ++ tcells b := by simp [tcells]
theorem tcells_length : ∀ l : List TE, (tcells l).length = l.length * 6
  | [] => rfl
  | u :: l => by have := tcells_length l; simp [tcells, tcell] at *; omega
theorem tcells_at : ∀ (l : List TE) (k : Nat) (h : k < l.length) (i : Nat) (_ : i < 6), (tcells l)[k * 6 + i]? = (tcell l[k])[i]?
  | u :: l, 0, _, i, hi => by
    have e : tcells (u :: l) = tcell u ++ tcells l := rfl
    rw [e, List.getElem?_append_left (by simp [tcell]; omega)]
    simp
  | u :: l, k + 1, h, i, hi => by
    have := tcells_at l k (by simpa using h) i hi
    have e : tcells (u :: l) = tcell u ++ tcells l := rfl
    rw [e, List.getElem?_append_right (by simp [tcell]; omega)]
    simp only [List.getElem_cons_succ]
    rw [← this]
    congr 1
    simp [tcell]
    omega
theorem tcells_one {xs : List TE} (h : ∀ x ∈ xs, ∃ ao n c, x.2 = .slice ao n c) : ∀ u ∈ tcells xs, u.oneCell' = true := by
  intro u hu
  simp only [tcells, List.mem_flatMap] at hu
  obtain ⟨x, hx, hu⟩ := hu
  simp only [tcell, List.mem_cons, List.not_mem_nil, or_false] at hu
  rcases hu with rfl | rfl | rfl | rfl | rfl | rfl
  · rfl
  · rfl
  · rfl
  · rfl
  · rfl
  · exact slice_one (h x hx)
/-- A row of transactions that reads as these, their operations as they are told. -/
theorem txsIn_row {w : World} {B : Nat} {v : Value} {xs : List TE} (h2 : w.ownsRow B 57 6 v xs.length (tcells xs)) (h3 : ∀ x ∈ xs, opsIn w x.2 x.1.ops) : txsIn w v (xs.map (·.1)) := by
  rcases h2.2 with ⟨rfl, h0⟩ | ⟨g, cap, cur, rfl, r⟩
  · obtain rfl : xs = [] := List.eq_nil_of_length_eq_zero h0
    exact txsIn_nil w
  · refine ⟨_, cap, by rw [List.length_map], by rw [List.length_map]; exact r.2.2.1, fun e => by simp at e, fun k hk => ?_⟩
    have hk' : k < xs.length := by simpa using hk
    have hc := fun i (hi : i < 6) (u : Value) (hu : (tcell xs[k])[i]? = some u) => h2.cells rfl (k * 6 + i) u ((tcells_at xs k hk' i hi).trans hu)
    have hx := h3 _ (List.getElem_mem hk')
    refine ⟨_, xs[k].2, rfl, ?_, ?_⟩
    · simp only [List.getElem_map]
      refine ⟨hc 0 (by omega) _ rfl, ?_, ?_, ?_, ?_, ?_⟩
      · rw [← add_plus _ _ 1 (by omega)]; exact hc 1 (by omega) _ rfl
      · rw [← add_plus _ _ 2 (by omega)]; exact hc 2 (by omega) _ rfl
      · rw [← add_plus _ _ 3 (by omega)]; exact hc 3 (by omega) _ rfl
      · rw [← add_plus _ _ 4 (by omega)]; exact hc 4 (by omega) _ rfl
      · rw [← add_plus _ _ 5 (by omega)]; exact hc 5 (by omega) _ rfl
    · simp only [List.getElem_map]; exact hx
theorem info26 : ∃ i0, Tryz.prog.info? 57 = some i0 ∧ i0.zero = some (.agg #[.int .i64 0, .int .i64 0, .int .i64 0, .int .i64 0, .bool false, .slice none 0 0]) ∧ i0.size = 6 ∧ i0.bytes = 64 := info_parts (by kernel_rfl)
theorem new_tx (w : World) (x : TE) : ∀ j v, (tcells [x])[j]? = some v → (w.alloc (txO x.1 x.2)).cell? ((⟨w.heap.size, 0, none⟩ : Addr).add j) = some v := by
  intro j v hv
  have e : (⟨w.heap.size, 0, none⟩ : Addr).add j = ⟨w.heap.size, j, none⟩ := by unfold Addr.add; split <;> simp_all
  rw [e, cell_of_row _ w.heap.size j _ 57 (0, 0) (heap_alloc_new w _)]
  simpa [tcells, tcell] using hv
/-- Transactions are appended to a row that the call owns. -/
theorem append_txs {ops : Array Oper} {rest : List Oper} {o : Oper} {a : Act} {w : World} {Q : Exit → Act → World → Prop} (hgd : o.guard = none) (s x : Operand)
    (ho : o.op = .call { callee := .builtin .append, args := #[s, x], argTypes := #[22, 22] }) (B : Nat) (hB : B ≤ w.heap.size) (r : Value) (acc : List TE) (hs : a.eval s = r) (hown : w.ownsRow B 57 6 r acc.length (tcells acc))
    (ad : Addr) (ys : List TE) (c : Nat) (hx : a.eval x = .slice (some ad) ys.length c) (hv : ∀ j v, (tcells ys)[j]? = some v → w.cell? (ad.add j) = some v) (hone : ∀ u ∈ tcells ys, u.oneCell' = true) (hn : acc.length + ys.length ≤ 1000000)
    (h : ∀ r' w', w'.ownsRow B 57 6 r' (acc ++ ys).length (tcells (acc ++ ys)) → w.grownBy w' r.ownBlock → wpList Tryz.prog ops Q rest (a.put o.dst r') w') : wpList Tryz.prog ops Q (o :: rest) a w := by
  obtain ⟨i0, hi, hz, hz1, hz2⟩ := info26
  refine wpList_append_own w hgd s x 22 ho B 57 i0 _ 6 64 Tryz.underlying22 hi hz hz1 hz2 rfl (by decide) r _ _ hs hown ad ys.length c (tcells ys) hx (tcells_length ys) hv hone (by unfold maxLen; omega) (by omega) hB ?_
  intro v' w1 hown' hg _
  refine h v' w1 ?_ hg
  rw [tcells_append, List.length_append]
  exact hown'
end Go.Proofs.YtmnehekcealjhaaGreat.O
/- What the proofs of this seat share: transactions that came in. -/
namespace Go.Proofs.YtmnehekcealjhaaGreat
open Go.ChangeShapes Go.WideShapes Go.ChangeAt Go.RowKit Go.Deep

theorem reads57 : Tryz.prog.readableRec 57 = true := by kernel_rfl
theorem rows57 : 57 < Tryz.prog.types.size := by decide +kernel
theorem reads22 : Tryz.prog.readableRec 22 = true := by kernel_rfl
theorem rows22 : 22 < Tryz.prog.types.size := by decide +kernel
theorem cellsStr : Tryz.prog.cellsOf 24 = 1 := by kernel_rfl
theorem cellsVal : Tryz.prog.cellsOf 49 = 3 := by kernel_rfl
theorem cellsRefs : Tryz.prog.cellsOf 50 = 1 := by kernel_rfl
theorem cellsOp : Tryz.prog.cellsOf 52 = 7 := by kernel_rfl
theorem cellsDot : Tryz.prog.cellsOf 55 = 2 := by kernel_rfl
theorem cellsOps : Tryz.prog.cellsOf 53 = 1 := by kernel_rfl
theorem cellsTx : Tryz.prog.cellsOf 57 = 6 := by kernel_rfl
theorem cellsB : Tryz.prog.cellsOf 4 = 1 := by kernel_rfl
theorem array6 {α : Type} {cs : Array α} (h : cs.size = 6) : ∃ c0 c1 c2 c3 c4 c5, cs = #[c0, c1, c2, c3, c4, c5] := by
  obtain ⟨l⟩ := cs
  match l, h with
  | [c0, c1, c2, c3, c4, c5], _ => exact ⟨c0, c1, c2, c3, c4, c5, rfl⟩

set_option maxRecDepth 100000 in
/-- Seven cells of an operation. -/
theorem cells_op {H : Type} {enc : TypeId × Value → H} {W : World} {fuel : Nat} {c0 c1 c2 c3 c4 c5 c6 : Value} {x : DataW H × List MemPlace} (h : DataW.trod enc Tryz.prog W 0 (fun _ => true) true fuel 52 [c0, c1, c2, c3, c4, c5, c6] = some x) :
    ∃ o : Os.Op, (c0 = .int .i64 o.k ∧ c2 = .int .i64 o.vk ∧ c3 = .int .i64 o.vn ∧ c4 = .string ⟨o.vs.toArray⟩ ∧ c5 = .int .i64 o.n) ∧ O.opWide o ∧ U.strsAt W c1 o.p ∧ O.refsIn W c6 o.l := by
  obtain ⟨y0, y1, y2, y3, y4, m, hy0, hy1, hy2, hy3, hy4⟩ := trod_struct5 Tryz.underlying52 h
  simp only [cells3, cellsStr, cellsVal, cellsRefs, List.drop_zero, List.take_succ_cons, List.take_zero, List.drop_succ_cons] at hy0 hy1 hy2 hy3 hy4
  obtain ⟨k, e0, _, _⟩ := DataW.trod_int Tryz.underlying3 hy0
  obtain ⟨pv, xs, e1, hn, hz, hp⟩ := cells_strs hy1
  obtain ⟨vk, vn, vs, e2, e3, e4⟩ := cells_val hy2
  obtain ⟨n, e5, _, _⟩ := DataW.trod_int Tryz.underlying3 hy3
  obtain ⟨sv, l, e6, hs⟩ := cells_refs hy4
  have hmx : maxLen ≤ 9223372036854775807 := by decide
  simp only [List.cons.injEq, and_true] at e0 e1 e5 e6
  subst e1 e6
  exact ⟨⟨k, xs, vk, vn, vs, n, l⟩, ⟨e0, e2, e3, e4, e5⟩, ⟨by show xs.length ≤ _; omega, fun x hx => Nat.le_trans (hz x hx) hmx⟩, hp, hs⟩
set_option maxRecDepth 100000 in
/-- A slice of operations, by its cell. -/
theorem cells_ops {H : Type} {enc : TypeId × Value → H} {W : World} {fuel : Nat} {cs : List Value} {x : DataW H × List MemPlace} (h : DataW.trod enc Tryz.prog W 0 (fun _ => true) true fuel 53 cs = some x) :
    ∃ v os, cs = [v] ∧ O.opsIn W v os ∧ ∀ o ∈ os, O.opWide o := by
  rcases Go.Deep.open_slice Tryz.underlying53 h with ⟨e, _⟩ | ⟨a, len, cap, m, n, Dd, Pl, e, hb, hl, hm, hmm, _, hx⟩
  · exact ⟨_, [], e, O.opsIn_nil W, by simp⟩
  · have hlm : len ≤ m := by rw [hmm]; split <;> omega
    have each : ∀ i, i < len → ∃ o : Os.Op, O.opWide o ∧ ∃ pv sv, O.OcAt W (a.add (i * 7)) o pv sv ∧ U.strsAt W pv o.p ∧ O.refsIn W sv o.l := fun i hi => by
      obtain ⟨cs', h1, h2⟩ := hx i (by omega)
      rw [cellsOp] at h1
      obtain ⟨_, hlen, hcell⟩ := World.cells?_some h1
      match cs', hlen with
      | [c0, c1, c2, c3, c4, c5, c6], _ =>
        obtain ⟨o, ⟨e0, e2, e3, e4, e5⟩, hw, hp, hs⟩ := cells_op h2
        have g0 := hcell 0 (by omega)
        have g1 := hcell 1 (by omega)
        have g2 := hcell 2 (by omega)
        have g3 := hcell 3 (by omega)
        have g4 := hcell 4 (by omega)
        have g5 := hcell 5 (by omega)
        have g6 := hcell 6 (by omega)
        rw [O.add_add] at g0 g1 g2 g3 g4 g5 g6
        refine ⟨o, hw, c1, c6, ⟨?_, ?_, ?_, ?_, ?_, ?_, ?_⟩, hp, hs⟩
        · rw [← e0]; simpa using g0
        · rw [← O.add_plus _ _ 1 (by omega)]; simpa using g1
        · rw [← e2, ← O.add_plus _ _ 2 (by omega)]; simpa using g2
        · rw [← e3, ← O.add_plus _ _ 3 (by omega)]; simpa using g3
        · rw [← e4, ← O.add_plus _ _ 4 (by omega)]; simpa using g4
        · rw [← e5, ← O.add_plus _ _ 5 (by omega)]; simpa using g5
        · rw [← O.add_plus _ _ 6 (by omega)]; simpa using g6
    refine ⟨_, (List.range len).attach.map fun i => (each i.1 (List.mem_range.1 i.2)).choose, e, ⟨some a, cap, by simp, by simpa using hl, fun e => by simp at e, fun k hk => ?_⟩, fun o ho => ?_⟩
    · simp only [List.getElem_map, List.getElem_attach, List.getElem_range]
      obtain ⟨pv, sv, h1, h2, h3⟩ := (each k (by simpa using hk)).choose_spec.2
      exact ⟨a, pv, sv, rfl, h1, h2, h3⟩
    · obtain ⟨i, _, rfl⟩ := List.mem_map.1 ho
      exact (each i.1 (List.mem_range.1 i.2)).choose_spec.1
set_option maxRecDepth 100000 in
/-- Six cells of a transaction. -/
theorem cells_tx {H : Type} {enc : TypeId × Value → H} {W : World} {fuel : Nat} {c0 c1 c2 c3 c4 c5 : Value} {x : DataW H × List MemPlace} (h : DataW.trod enc Tryz.prog W 0 (fun _ => true) true fuel 57 [c0, c1, c2, c3, c4, c5] = some x) :
    ∃ t : Tx.Txn, (c0 = .int .i64 t.d.1 ∧ c1 = .int .i64 t.d.2 ∧ c2 = .int .i64 t.u ∧ c3 = .int .i64 t.t ∧ c4 = .bool t.thin) ∧ O.txWide t ∧ O.opsIn W c5 t.ops := by
  obtain ⟨y0, y1, y2, y3, y4, m, hy0, hy1, hy2, hy3, hy4⟩ := trod_struct5 Tryz.underlying57 h
  simp only [cells3, cellsB, cellsDot, cellsOps, List.drop_zero, List.take_succ_cons, List.take_zero, List.drop_succ_cons] at hy0 hy1 hy2 hy3 hy4
  obtain ⟨d, e0, e1⟩ := cells_dot hy0
  obtain ⟨u, e2, _, _⟩ := DataW.trod_int Tryz.underlying3 hy1
  obtain ⟨tt, e3, _, _⟩ := DataW.trod_int Tryz.underlying3 hy2
  obtain ⟨th, e4, _⟩ := DataW.trod_bool Tryz.underlying4 hy3
  obtain ⟨ov, os, e5, ho, hw⟩ := cells_ops hy4
  simp only [List.cons.injEq, and_true] at e2 e3 e4 e5
  subst e5
  exact ⟨⟨d, u, tt, th, os⟩, ⟨e0, e1, e2, e3, e4⟩, hw, ho⟩
set_option maxRecDepth 100000 in
/-- A transaction that came in. -/
theorem tx_read {H : Type} {enc : TypeId × Value → H} {W : World} {base : Nat} {v : Value} {d : DataW H} {p : List MemPlace} (hv : Value.okWide Tryz.prog W .any base 57 v) (h : DataW.Trod enc Tryz.prog W 0 (fun _ => true) true 57 v d p) :
    ∃ (t : Tx.Txn) (ov : Value), v = O.txV t ov ∧ O.txWide t ∧ O.opsIn W ov t.ops := by
  obtain ⟨cs, rfl, hsz⟩ := okWide_struct Tryz.underlying57 hv
  rw [cellsTx] at hsz
  obtain ⟨c0, c1, c2, c3, c4, c5, rfl⟩ := array6 hsz
  obtain ⟨fuel, hf⟩ := h
  simp only [Value.cells] at hf
  obtain ⟨t, ⟨e0, e1, e2, e3, e4⟩, hw, ho⟩ := cells_tx hf
  exact ⟨t, c5, by rw [e0, e1, e2, e3, e4], hw, ho⟩
set_option maxRecDepth 100000 in
/-- Transactions that came in. -/
theorem txs_read {H : Type} {enc : TypeId × Value → H} {W : World} {base : Nat} {v : Value} {d : DataW H} {p : List MemPlace} (hv : Value.okWide Tryz.prog W .any base 22 v) (h : DataW.Trod enc Tryz.prog W 0 (fun _ => true) true 22 v d p) :
    ∃ l : List Tx.Txn, (∀ t ∈ l, O.txWide t) ∧ l.length ≤ 9223372036854775807 ∧ O.txsIn W v l := by
  obtain ⟨a0, len0, cap0, rfl⟩ := okWide_slice Tryz.underlying22 hv
  obtain ⟨fuel, hf⟩ := h
  rcases Go.Deep.open_slice Tryz.underlying22 hf with ⟨e, _⟩ | ⟨a, len, cap, m, n, Dd, Pl, e, hb, hl, hm, hmm, _, hx⟩
  · simp [Value.cells] at e
    obtain ⟨rfl, rfl, rfl⟩ := e
    exact ⟨[], by simp, by simp, O.txsIn_nil W⟩
  · simp [Value.cells] at e
    obtain ⟨rfl, rfl, rfl⟩ := e
    have hmx : maxLen ≤ 9223372036854775807 := by decide
    have hlm : len0 ≤ m := by rw [hmm]; split <;> omega
    have each : ∀ i, i < len0 → ∃ t : Tx.Txn, O.txWide t ∧ ∃ ov, O.TcAt W (a.add (i * 6)) t ov ∧ O.opsIn W ov t.ops := fun i hi => by
      obtain ⟨cs', h1, h2⟩ := hx i (by omega)
      rw [cellsTx] at h1
      obtain ⟨_, hlen, hcell⟩ := World.cells?_some h1
      match cs', hlen with
      | [c0, c1, c2, c3, c4, c5], _ =>
        obtain ⟨t, ⟨e0, e1, e2, e3, e4⟩, hw, ho⟩ := cells_tx h2
        have g0 := hcell 0 (by omega)
        have g1 := hcell 1 (by omega)
        have g2 := hcell 2 (by omega)
        have g3 := hcell 3 (by omega)
        have g4 := hcell 4 (by omega)
        have g5 := hcell 5 (by omega)
        rw [O.add_add] at g0 g1 g2 g3 g4 g5
        refine ⟨t, hw, c5, ⟨?_, ?_, ?_, ?_, ?_, ?_⟩, ho⟩
        · rw [← e0]; simpa using g0
        · rw [← e1, ← O.add_plus _ _ 1 (by omega)]; simpa using g1
        · rw [← e2, ← O.add_plus _ _ 2 (by omega)]; simpa using g2
        · rw [← e3, ← O.add_plus _ _ 3 (by omega)]; simpa using g3
        · rw [← e4, ← O.add_plus _ _ 4 (by omega)]; simpa using g4
        · rw [← O.add_plus _ _ 5 (by omega)]; simpa using g5
    refine ⟨(List.range len0).attach.map fun i => (each i.1 (List.mem_range.1 i.2)).choose, fun t ht => ?_, by simp; omega, some a, cap0, by simp, by simpa using hl, fun e => by simp at e, fun k hk => ?_⟩
    · obtain ⟨i, _, rfl⟩ := List.mem_map.1 ht
      exact (each i.1 (List.mem_range.1 i.2)).choose_spec.1
    · simp only [List.getElem_map, List.getElem_attach, List.getElem_range]
      obtain ⟨ov, h1, h2⟩ := (each k (by simpa using hk)).choose_spec.2
      exact ⟨a, ov, rfl, h1, h2⟩
end Go.Proofs.YtmnehekcealjhaaGreat
