/- Transactions as plain mathematics (for stage 12): what is wrong with one, how two stand, which rise, where a dot's stands, one put in its place, bytes · Transactions in memory: a slice of operations, a transaction in a variable and in a slice. -/
import Derived.Test.YthlhopdlkkeohaaGreatDoorOpsAll
import Derived.Test.YthlhopdlkkeohaaGreatDoorQuotesAll
import Derived.Test.YthlhopdlkkeohaaGreatDoorMemAll
/- Transactions as plain mathematics (for stage 12): what is wrong with one, how two stand, which rise, where a dot's stands, one put in its place, bytes. -/
namespace Go.Proofs.YthlhopdlkkeohaaGreatDoor

/-- The names of operations that are the same are the operations. -/
theorem Os.same_eq {a b : Os.Op} : Os.same a b = true ↔ a = b := by
  obtain ⟨k, p, vk, vn, vs, n, l⟩ := a
  obtain ⟨k', p', vk', vn', vs', n', l'⟩ := b
  simp only [Os.same, decide_eq_true_eq, Os.Op.mk.injEq]
  constructor
  · rintro ⟨h1, h2, ⟨h3, h4, h5⟩, h6, h7⟩; exact ⟨h1, h2, h3, h4, h5, h6, h7⟩
  · rintro ⟨h1, h2, h3, h4, h5, h6, h7⟩; exact ⟨h1, h2, ⟨h3, h4, h5⟩, h6, h7⟩

namespace Tx
/-! ### Dots in a row -/
abbrev dlt (x y : D) : Prop := x.1 < y.1 ∨ (x.1 = y.1 ∧ x.2 < y.2)
theorem dlt_trans {x y z : D} (h : dlt x y) (k : dlt y z) : dlt x z := by simp only [dlt] at *; omega
theorem dlt_irrefl (x : D) : ¬ dlt x x := by simp only [dlt]; omega
theorem dlt_ne {x y : D} (h : dlt x y) : x ≠ y := fun e => dlt_irrefl x (by rw [← e] at h; exact h)
theorem dlt_total (x y : D) : dlt x y ∨ x = y ∨ dlt y x := by
  obtain ⟨a, b⟩ := x
  obtain ⟨c, d⟩ := y
  simp only [dlt, Prod.mk.injEq]
  omega
theorem dcomp_neg (x y : D) : Dt.comp x.1 x.2 y.1 y.2 = -1 ↔ dlt x y := by
  have h := Dt.comp_cases x.1 x.2 y.1 y.2
  simp only [dlt]
  omega
theorem dcomp_lt (x y : D) : Dt.comp x.1 x.2 y.1 y.2 < 0 ↔ dlt x y := by
  have h := Dt.comp_cases x.1 x.2 y.1 y.2
  simp only [dlt]
  omega
theorem dcomp_zero (x y : D) : Dt.comp x.1 x.2 y.1 y.2 = 0 ↔ x = y := by
  have h := Dt.comp_cases x.1 x.2 y.1 y.2
  obtain ⟨a, b⟩ := x
  obtain ⟨c, d⟩ := y
  simp only [Prod.mk.injEq] at *
  omega

/-! ### Transactions -/
structure Txn where
  d : D
  u : Int
  t : Int
  thin : Bool
  ops : List Os.Op
/-- What is wrong with the first operation that is wrong. -/
def opsErr (thin : Bool) : List Os.Op → Nat
  | [] => 0
  | o :: r => if Os.check o ≠ 0 ∧ ¬ (thin = true ∧ Os.gone o = true) then Os.check o else opsErr thin r
def check (t : Txn) : Nat :=
  if Dt.right t.d.1 t.d.2 = false ∨ t.u < 0 ∨ 7 < t.u ∨ t.t < 1 ∨ 1099511627776 < t.t then 2 else if t.ops.length = 0 then 11 else if 16 < t.ops.length then 7 else opsErr t.thin t.ops
def comp (a b : Txn) : Int := Dt.two (Dt.compareInt a.t b.t) (Dt.comp a.d.1 a.d.2 b.d.1 b.d.2)
def sameOps : List Os.Op → List Os.Op → Bool
  | [], [] => true
  | a :: r, b :: q => Os.same a b && sameOps r q
  | _, _ => false
def same (a b : Txn) : Bool := decide (a.d = b.d ∧ a.u = b.u ∧ a.t = b.t ∧ a.thin = b.thin) && sameOps a.ops b.ops
theorem sameOps_eq : ∀ {a b : List Os.Op}, sameOps a b = true ↔ a = b
  | [], [] => by simp [sameOps]
  | [], _ :: _ => by simp [sameOps]
  | _ :: _, [] => by simp [sameOps]
  | a :: r, b :: q => by
    simp only [sameOps, Bool.and_eq_true, Os.same_eq, List.cons.injEq]
    rw [sameOps_eq]
theorem same_eq {a b : Txn} : same a b = true ↔ a = b := by
  obtain ⟨d, u, t, th, o⟩ := a
  obtain ⟨d', u', t', th', o'⟩ := b
  simp only [same, Bool.and_eq_true, decide_eq_true_eq, sameOps_eq, Txn.mk.injEq]
  constructor
  · rintro ⟨⟨h1, h2, h3, h4⟩, h5⟩; exact ⟨h1, h2, h3, h4, h5⟩
  · rintro ⟨h1, h2, h3, h4, h5⟩; exact ⟨⟨h1, h2, h3, h4⟩, h5⟩
theorem same_self (a : Txn) : same a a = true := same_eq.2 rfl
theorem sameOps_all {a b : List Os.Op} (hl : a.length = b.length) (h : ∀ k (h1 : k < a.length) (h2 : k < b.length), Os.same a[k] b[k] = true) : sameOps a b = true :=
  sameOps_eq.2 (List.ext_getElem hl fun k h1 h2 => Os.same_eq.1 (h k h1 h2))
theorem sameOps_len {a b : List Os.Op} (h : a.length ≠ b.length) : sameOps a b = false := by
  cases e : sameOps a b with
  | false => rfl
  | true => exact absurd (by rw [sameOps_eq.1 e]) h
/-- So many operations have no error. -/
theorem opsErr_take {th : Bool} : ∀ {l : List Os.Op} {k : Nat} (_ : k < l.length) (_ : opsErr th (l.take k) = 0), (∀ j (h : j < l.length), j < k → Os.check l[j] = 0 ∨ (th = true ∧ Os.gone l[j] = true)) → opsErr th l = opsErr th (l.drop k)
  | [], _, h, _, _ => by simp at h
  | o :: r, 0, _, _, _ => rfl
  | o :: r, k + 1, h, h0, ha => by
    have ho := ha 0 (by simp) (by omega)
    have e : opsErr th (o :: r) = opsErr th r := by
      rw [opsErr, if_neg]
      rintro ⟨h1, h2⟩
      rcases ho with ho | ho
      · exact h1 ho
      · exact h2 ho
    rw [List.drop_succ_cons, e]
    refine opsErr_take (by simpa using h) ?_ fun j hj hk => ha (j + 1) (by simpa using hj) (by omega)
    rw [List.take_succ_cons, opsErr, if_neg] at h0
    · exact h0
    · rintro ⟨h1, h2⟩
      rcases ho with ho | ho
      · exact h1 ho
      · exact h2 ho
theorem opsErr_zero {th : Bool} : ∀ {l : List Os.Op}, opsErr th l = 0 ↔ ∀ o ∈ l, Os.check o = 0 ∨ (th = true ∧ Os.gone o = true)
  | [] => by simp [opsErr]
  | o :: r => by
    rw [opsErr]
    by_cases h : Os.check o ≠ 0 ∧ ¬ (th = true ∧ Os.gone o = true)
    · rw [if_pos h]
      constructor
      · intro e; exact absurd e h.1
      · intro e
        rcases e o (by simp) with e | e
        · exact e
        · exact absurd e h.2
    · rw [if_neg h, opsErr_zero]
      constructor
      · intro e x hx
        rcases List.mem_cons.1 hx with rfl | hx
        · by_cases e0 : Os.check x = 0
          · exact .inl e0
          · exact .inr (Classical.byContradiction fun q => h ⟨e0, q⟩)
        · exact e x hx
      · intro e x hx
        exact e x (by simp [hx])
theorem check_zero {t : Txn} (h : check t = 0) : Dt.right t.d.1 t.d.2 = true ∧ (0 ≤ t.u ∧ t.u ≤ 7) ∧ (1 ≤ t.t ∧ t.t ≤ 1099511627776) ∧ (1 ≤ t.ops.length ∧ t.ops.length ≤ 16) ∧ ∀ o ∈ t.ops, Os.check o = 0 ∨ (t.thin = true ∧ Os.gone o = true) := by
  unfold check at h
  split at h
  · omega
  · rename_i h1
    split at h
    · omega
    · split at h
      · omega
      · simp only [not_or, Bool.not_eq_false] at h1
        exact ⟨h1.1, by omega, by omega, by omega, opsErr_zero.1 h⟩

/-! ### Transactions that rise -/
abbrev Rises (l : List Txn) : Prop := l.Pairwise fun a b => dlt a.d b.d
def rises (l : List Txn) : Bool := decide (Rises l)
theorem rises_iff {l : List Txn} : rises l = true ↔ Rises l := by simp [rises]
theorem rises_step {l : List Txn} {k : Nat} (h : Rises (l.take k)) (hk : k < l.length) (hl : k = 0 ∨ ∃ h1 : k - 1 < l.length, dlt l[k - 1].d l[k].d) : Rises (l.take (k + 1)) := by
  rw [List.take_succ_eq_append_getElem hk]
  refine List.pairwise_append.2 ⟨h, List.pairwise_singleton _ _, fun a ha b hb => ?_⟩
  rw [List.mem_singleton.1 hb]
  obtain ⟨i, hi, rfl⟩ := List.mem_iff_getElem.1 ha
  rw [List.length_take] at hi
  rcases hl with rfl | ⟨h1, hl⟩
  · omega
  · rw [List.getElem_take]
    by_cases e : i = k - 1
    · subst e; exact hl
    · have := List.pairwise_iff_getElem.1 h i (k - 1) (by rw [List.length_take]; omega) (by rw [List.length_take]; omega) (by omega)
      rw [List.getElem_take, List.getElem_take] at this
      exact dlt_trans this hl
theorem not_rises {l : List Txn} {k : Nat} (hk : k + 1 < l.length) (ho : ¬ dlt l[k].d l[k + 1].d) : rises l = false := by
  cases e : rises l with
  | false => rfl
  | true => exact absurd (List.pairwise_iff_getElem.1 (rises_iff.1 e) k (k + 1) (by omega) hk (by omega)) ho
/-- Where the dot's stands, from k on. -/
def findFrom (d : D) : Nat → List Txn → Int
  | _, [] => -1
  | k, x :: r => if x.d = d then (k : Int) else findFrom d (k + 1) r
def find (l : List Txn) (d : D) : Int := findFrom d 0 l
theorem findFrom_none {d : D} : ∀ {l : List Txn} {k : Nat}, (∀ x ∈ l, x.d ≠ d) → findFrom d k l = -1
  | [], _, _ => rfl
  | x :: r, k, h => by rw [findFrom, if_neg (h x (by simp)), findFrom_none fun y hy => h y (by simp [hy])]
theorem findFrom_at {d : D} : ∀ {l : List Txn} {k i : Nat} (hi : i < l.length), l[i].d = d → (∀ j (h : j < l.length), j < i → l[j].d ≠ d) → findFrom d k l = ((k + i : Nat) : Int)
  | [], _, _, hi, _, _ => by simp at hi
  | x :: r, k, 0, _, he, _ => by rw [findFrom, if_pos (by simpa using he)]; rfl
  | x :: r, k, i + 1, hi, he, hn => by
    rw [findFrom, if_neg (by have := hn 0 (by simp) (by omega); simpa using this), findFrom_at (i := i) (by simpa using hi) (by simpa using he) (fun j h hj => by have := hn (j + 1) (by simpa using h) (by omega); simpa using this)]
    congr 1; omega
theorem find_none {l : List Txn} {d : D} (h : ∀ x ∈ l, x.d ≠ d) : find l d = -1 := findFrom_none h
theorem find_at {l : List Txn} {d : D} {i : Nat} (hp : Rises l) (hi : i < l.length) (he : l[i].d = d) : find l d = (i : Int) := by
  have := findFrom_at (k := 0) hi he fun j h hj e => by
    have := List.pairwise_iff_getElem.1 hp j i h hi hj
    rw [e, ← he] at this
    exact dlt_irrefl _ this
  rw [find, this]
  congr 1; omega
/-- One put in its place. -/
def put : List Txn → Txn → List Txn
  | [], t => [t]
  | x :: r, t => if t.d = x.d then x :: r else if dlt t.d x.d then t :: x :: r else x :: put r t
theorem put_mem {t : Txn} : ∀ {l : List Txn} (x : Txn), x ∈ put l t → x = t ∨ x ∈ l
  | [], x, h => by simp only [put, List.mem_singleton] at h; exact .inl h
  | y :: r, x, h => by
    unfold put at h
    split at h
    · exact .inr h
    · split at h
      · rcases List.mem_cons.1 h with h | h
        · exact .inl h
        · exact .inr h
      · rcases List.mem_cons.1 h with h | h
        · exact .inr (by simp [h])
        · rcases put_mem x h with h | h
          · exact .inl h
          · exact .inr (by simp [h])
theorem put_old {t : Txn} : ∀ {l : List Txn} (x : Txn), x ∈ l → x ∈ put l t
  | [], x, h => by simp at h
  | y :: r, x, h => by
    unfold put
    split
    · exact h
    · split
      · exact List.mem_cons_of_mem _ h
      · rcases List.mem_cons.1 h with h | h
        · simp [h]
        · exact List.mem_cons_of_mem _ (put_old x h)
theorem put_new {t : Txn} : ∀ {l : List Txn}, (∀ x ∈ l, x.d ≠ t.d) → t ∈ put l t
  | [], _ => by simp [put]
  | y :: r, h => by
    unfold put
    rw [if_neg (fun e => h y (by simp) e.symm)]
    split
    · simp
    · exact List.mem_cons_of_mem _ (put_new fun x hx => h x (by simp [hx]))
theorem put_same {t : Txn} : ∀ {l : List Txn}, Rises l → (∃ x ∈ l, x.d = t.d) → put l t = l
  | [], _, h => by obtain ⟨x, hx, _⟩ := h; simp at hx
  | y :: r, hp, h => by
    unfold put
    by_cases e : t.d = y.d
    · rw [if_pos e]
    · obtain ⟨x, hx, hd⟩ := h
      rcases List.mem_cons.1 hx with rfl | hx
      · exact absurd hd.symm e
      · have hr := List.pairwise_cons.1 hp
        have h1 := hr.1 x hx
        rw [hd] at h1
        rw [if_neg e, if_neg (fun q => dlt_irrefl _ (dlt_trans q h1)), put_same hr.2 ⟨x, hx, hd⟩]
theorem put_rises {t : Txn} : ∀ {l : List Txn}, Rises l → Rises (put l t)
  | [], _ => List.pairwise_singleton _ _
  | y :: r, hp => by
    have hr := List.pairwise_cons.1 hp
    unfold put
    split
    · exact hp
    · split
      · rename_i h1 h2
        refine List.pairwise_cons.2 ⟨fun x hx => ?_, hp⟩
        rcases List.mem_cons.1 hx with rfl | hx
        · exact h2
        · exact dlt_trans h2 (hr.1 x hx)
      · rename_i h1 h2
        refine List.pairwise_cons.2 ⟨fun x hx => ?_, put_rises hr.2⟩
        rcases put_mem x hx with rfl | hx
        · rcases dlt_total x.d y.d with h | h | h
          · exact absurd h h2
          · exact absurd h h1
          · exact h
        · exact hr.1 x hx
/-- Two that rise, with the same ones in them, are the same. -/
theorem rises_eq : ∀ {a b : List Txn}, Rises a → Rises b → (∀ x, x ∈ a ↔ x ∈ b) → a = b
  | [], [], _, _, _ => rfl
  | [], y :: b, _, _, h => by have := (h y).2 (by simp); simp at this
  | x :: a, [], _, _, h => by have := (h x).1 (by simp); simp at this
  | x :: a, y :: b, ha, hb, h => by
    have ha' := List.pairwise_cons.1 ha
    have hb' := List.pairwise_cons.1 hb
    have e : x = y := by
      rcases List.mem_cons.1 ((h x).1 (by simp)) with e | e
      · exact e
      · rcases List.mem_cons.1 ((h y).2 (by simp)) with q | q
        · exact q.symm
        · exact absurd (dlt_trans (hb'.1 x e) (ha'.1 y q)) (dlt_irrefl _)
    subst e
    congr 1
    refine rises_eq ha'.2 hb'.2 fun z => ⟨fun hz => ?_, fun hz => ?_⟩
    · rcases List.mem_cons.1 ((h z).1 (List.mem_cons_of_mem _ hz)) with q | q
      · exact absurd (ha'.1 z hz) (by rw [q]; exact dlt_irrefl _)
      · exact q
    · rcases List.mem_cons.1 ((h z).2 (List.mem_cons_of_mem _ hz)) with q | q
      · exact absurd (hb'.1 z hz) (by rw [q]; exact dlt_irrefl _)
      · exact q
/-- All put, one behind the other. -/
def puts (a : List Txn) (l : List Txn) : List Txn := l.foldl put a
theorem puts_rises : ∀ {l a : List Txn}, Rises a → Rises (puts a l)
  | [], _, h => h
  | _ :: r, _, h => puts_rises (l := r) (put_rises h)
theorem puts_mem : ∀ {l a : List Txn}, (∀ x ∈ a, ∀ y ∈ l, x.d ≠ y.d) → (l.Pairwise fun x y => x.d ≠ y.d) → ∀ z, z ∈ puts a l ↔ z ∈ a ∨ z ∈ l
  | [], a, _, _, z => by simp [puts]
  | t :: r, a, h, hp, z => by
    have hp' := List.pairwise_cons.1 hp
    have h1 : ∀ x ∈ put a t, ∀ y ∈ r, x.d ≠ y.d := fun x hx y hy => by
      rcases put_mem x hx with rfl | hx
      · exact hp'.1 y hy
      · exact h x hx y (by simp [hy])
    rw [show puts a (t :: r) = puts (put a t) r from rfl, puts_mem h1 hp'.2 z]
    constructor
    · rintro (q | q)
      · rcases put_mem z q with rfl | q
        · exact .inr (by simp)
        · exact .inl q
      · exact .inr (by simp [q])
    · rintro (q | q)
      · exact .inl (put_old z q)
      · rcases List.mem_cons.1 q with rfl | q
        · exact .inl (put_new fun x hx => h x hx z (by simp))
        · exact .inr q
theorem put_len {t : Txn} : ∀ {l : List Txn}, (∀ x ∈ l, x.d ≠ t.d) → (put l t).length = l.length + 1
  | [], _ => rfl
  | y :: r, h => by
    unfold put
    rw [if_neg (fun e => h y (by simp) e.symm)]
    split
    · rfl
    · rw [List.length_cons, put_len fun x hx => h x (by simp [hx]), List.length_cons]
theorem puts_len : ∀ {l a : List Txn}, (∀ x ∈ a, ∀ y ∈ l, x.d ≠ y.d) → (l.Pairwise fun x y => x.d ≠ y.d) → (puts a l).length = a.length + l.length
  | [], _, _, _ => rfl
  | t :: r, a, h, hp => by
    have hp' := List.pairwise_cons.1 hp
    rw [show puts a (t :: r) = puts (put a t) r from rfl, puts_len (fun x hx y hy => by
      rcases put_mem x hx with rfl | hx
      · exact hp'.1 y hy
      · exact h x hx y (by simp [hy])) hp'.2, put_len (fun x hx => h x hx t (by simp)), List.length_cons]
    omega

/-! ### Bytes -/
def head (t : Txn) : List UInt8 := (Pk.enc t.d.1.toNat ++ Pk.enc t.d.2.toNat) ++ (Pk.enc t.u.toNat ++ (Pk.enc t.t.toNat ++ (Pk.enc (if t.thin = true then 1 else 0) ++ Pk.enc t.ops.length)))
def code (t : Txn) : List UInt8 := head t ++ t.ops.flatMap Os.code
def list (l : List Txn) : List UInt8 := Pk.enc l.length ++ l.flatMap code
end Tx
end Go.Proofs.YthlhopdlkkeohaaGreatDoor
/- Transactions in memory: a slice of operations, a transaction in a variable and in a slice. -/
namespace Go.Proofs.YthlhopdlkkeohaaGreatDoor.O
open Go.RowKit

/-- An operation, its slices written out. -/
abbrev oV (o : Os.Op) (pv sv : Value) : Value := opV o.k pv o.vk o.vn o.vs o.n sv
abbrev oO (o : Os.Op) (pv sv : Value) : Obj := opO o.k pv o.vk o.vn o.vs o.n sv
/-- At this place there is this operation. -/
structure OcAt (w : World) (p : Addr) (o : Os.Op) (pv sv : Value) : Prop where
  c0 : w.cell? p = some (.int .i64 o.k)
  c1 : w.cell? ⟨p.block, p.off + 1, none⟩ = some pv
  c2 : w.cell? ⟨p.block, p.off + 2, none⟩ = some (.int .i64 o.vk)
  c3 : w.cell? ⟨p.block, p.off + 3, none⟩ = some (.int .i64 o.vn)
  c4 : w.cell? ⟨p.block, p.off + 4, none⟩ = some (.string ⟨o.vs.toArray⟩)
  c5 : w.cell? ⟨p.block, p.off + 5, none⟩ = some (.int .i64 o.n)
  c6 : w.cell? ⟨p.block, p.off + 6, none⟩ = some sv
theorem OcAt.on {w w' : World} {p : Addr} {o : Os.Op} {pv sv : Value} (h : OcAt w p o pv sv) (hb : Below w.heap.size w w') : OcAt w' p o pv sv :=
  ⟨keep_cell hb h.c0, keep_cell hb h.c1, keep_cell hb h.c2, keep_cell hb h.c3, keep_cell hb h.c4, keep_cell hb h.c5, keep_cell hb h.c6⟩
theorem strs_slice {w : World} {v : Value} {xs : List (List UInt8)} (h : U.strsAt w v xs) : ∃ ao n cap, v = .slice ao n cap := by
  obtain ⟨ao, cap, e, _⟩ := h
  exact ⟨ao, _, cap, e⟩
theorem refs_slice {w : World} {v : Value} {l : List U} (h : refsIn w v l) : ∃ ao n cap, v = .slice ao n cap := by
  obtain ⟨ao, cap, e, _⟩ := h
  exact ⟨ao, _, cap, e⟩
/-- A slice reads as these operations. -/
def opsIn (w : World) (v : Value) (os : List Os.Op) : Prop :=
  ∃ ao cap, v = .slice ao os.length cap ∧ os.length ≤ cap ∧ (ao = none → cap = 0) ∧ ∀ k (h : k < os.length), ∃ ad pv sv, ao = some ad ∧ OcAt w (ad.add (k * 7)) os[k] pv sv ∧ U.strsAt w pv os[k].p ∧ refsIn w sv os[k].l
theorem opsIn_nil (w : World) : opsIn w (.slice none 0 0) [] := ⟨none, 0, rfl, by simp, fun _ => rfl, fun k h => by simp at h⟩
theorem opsIn.on {w w' : World} {v : Value} {os : List Os.Op} (h : opsIn w v os) (hb : Below w.heap.size w w') : opsIn w' v os := by
  obtain ⟨ao, cap, hv, hm, h0, hc⟩ := h
  refine ⟨ao, cap, hv, hm, h0, fun k hk => ?_⟩
  obtain ⟨ad, pv, sv, h1, h2, h3, h4⟩ := hc k hk
  exact ⟨ad, pv, sv, h1, h2.on hb, U.strsAt_below h3 hb (Nat.le_refl _), h4.on hb⟩
theorem opsIn.len {w : World} {ao : Option Addr} {n cap : Nat} {os : List Os.Op} (h : opsIn w (.slice ao n cap) os) : n = os.length := by
  obtain ⟨_, _, e, _⟩ := h
  cases e
  rfl
theorem opsIn.slice {w : World} {v : Value} {os : List Os.Op} (h : opsIn w v os) : ∃ ao cap, v = .slice ao os.length cap := by
  obtain ⟨ao, cap, e, _⟩ := h
  exact ⟨ao, cap, e⟩
/-- The operation at a place. -/
theorem opsIn.get {w : World} {ao : Option Addr} {n cap : Nat} {os : List Os.Op} (h : opsIn w (.slice ao n cap) os) {k : Nat} (hk : k < os.length) :
    ∃ ad pv sv, ao = some ad ∧ OcAt w (ad.add (k * 7)) os[k] pv sv ∧ U.strsAt w pv os[k].p ∧ refsIn w sv os[k].l := by
  obtain ⟨ao', cap', e, _, _, hc⟩ := h
  cases e
  exact hc k hk

/-! ### Transactions -/
abbrev txV (t : Tx.Txn) (ov : Value) : Value := .agg #[.int .i64 t.d.1, .int .i64 t.d.2, .int .i64 t.u, .int .i64 t.t, .bool t.thin, ov]
abbrev txO (t : Tx.Txn) (ov : Value) : Obj := .cells #[.int .i64 t.d.1, .int .i64 t.d.2, .int .i64 t.u, .int .i64 t.t, .bool t.thin, ov] 56
/-- At this place there is this transaction. -/
structure TcAt (w : World) (p : Addr) (t : Tx.Txn) (ov : Value) : Prop where
  c0 : w.cell? p = some (.int .i64 t.d.1)
  c1 : w.cell? ⟨p.block, p.off + 1, none⟩ = some (.int .i64 t.d.2)
  c2 : w.cell? ⟨p.block, p.off + 2, none⟩ = some (.int .i64 t.u)
  c3 : w.cell? ⟨p.block, p.off + 3, none⟩ = some (.int .i64 t.t)
  c4 : w.cell? ⟨p.block, p.off + 4, none⟩ = some (.bool t.thin)
  c5 : w.cell? ⟨p.block, p.off + 5, none⟩ = some ov
theorem TcAt.on {w w' : World} {p : Addr} {t : Tx.Txn} {ov : Value} (h : TcAt w p t ov) (hb : Below w.heap.size w w') : TcAt w' p t ov :=
  ⟨keep_cell hb h.c0, keep_cell hb h.c1, keep_cell hb h.c2, keep_cell hb h.c3, keep_cell hb h.c4, keep_cell hb h.c5⟩
/-- In a variable there is this transaction. -/
structure TAt (w : World) (b : Nat) (t : Tx.Txn) (ov : Value) : Prop where
  c0 : w.cell? ⟨b, 0, none⟩ = some (.int .i64 t.d.1)
  c1 : w.cell? ⟨b, 1, none⟩ = some (.int .i64 t.d.2)
  c2 : w.cell? ⟨b, 2, none⟩ = some (.int .i64 t.u)
  c3 : w.cell? ⟨b, 3, none⟩ = some (.int .i64 t.t)
  c4 : w.cell? ⟨b, 4, none⟩ = some (.bool t.thin)
  c5 : w.cell? ⟨b, 5, none⟩ = some ov
section
variable {w w' : World} {b : Nat} {t : Tx.Txn} {ov : Value}
theorem TAt.new (w : World) (t : Tx.Txn) (ov : Value) : TAt (w.alloc (txO t ov)) w.heap.size t ov := ⟨by simp, by simp, by simp, by simp, by simp, by simp⟩
theorem TAt.lt (h : TAt w b t ov) : b < w.heap.size := World.block_lt_of_cell? w ⟨b, 0, none⟩ h.c0
theorem TAt.blk (h : TAt w b t ov) (hb : w'.heap[b]? = w.heap[b]?) : TAt w' b t ov :=
  ⟨(World.cell?_of_block (w := w) hb).trans h.c0, (World.cell?_of_block (w := w) hb).trans h.c1, (World.cell?_of_block (w := w) hb).trans h.c2, (World.cell?_of_block (w := w) hb).trans h.c3, (World.cell?_of_block (w := w) hb).trans h.c4, (World.cell?_of_block (w := w) hb).trans h.c5⟩
theorem TAt.on (h : TAt w b t ov) (hb : Below w.heap.size w w') : TAt w' b t ov := h.blk (hb.block b h.lt)
theorem TAt.but {g : Nat} (h : TAt w b t ov) (hb : But g w w') (hg : b ≠ g) : TAt w' b t ov := h.blk (hb.block b h.lt hg)
theorem TAt.drew (h : TAt w b t ov) : TAt w.drew b t ov := h.blk rfl
theorem TAt.setOther (h : TAt w b t ov) {p : Addr} (hp : p.block ≠ b) (v : Value) : TAt (w.setCell p v) b t ov := h.blk (Below.heap_setCell w p v b (Ne.symm hp))
end
/-- Where a field's cells begin. -/
def toff : Nat → Nat
  | 0 => 0
  | 1 => 2
  | 2 => 3
  | 3 => 4
  | _ => 5
section
variable {o : Oper} {a : Act} {w : World} {b : Nat} {t : Tx.Txn} {ov : Value}
end
/-- A slice reads as these transactions. -/
def txsIn (w : World) (v : Value) (ts : List Tx.Txn) : Prop :=
  ∃ ao cap, v = .slice ao ts.length cap ∧ ts.length ≤ cap ∧ (ao = none → cap = 0) ∧ ∀ k (h : k < ts.length), ∃ ad ov, ao = some ad ∧ TcAt w (ad.add (k * 6)) ts[k] ov ∧ opsIn w ov ts[k].ops
theorem txsIn_nil (w : World) : txsIn w (.slice none 0 0) [] := ⟨none, 0, rfl, by simp, fun _ => rfl, fun k h => by simp at h⟩
theorem txsIn.on {w w' : World} {v : Value} {ts : List Tx.Txn} (h : txsIn w v ts) (hb : Below w.heap.size w w') : txsIn w' v ts := by
  obtain ⟨ao, cap, hv, hm, h0, hc⟩ := h
  refine ⟨ao, cap, hv, hm, h0, fun k hk => ?_⟩
  obtain ⟨ad, ov, h1, h2, h3⟩ := hc k hk
  exact ⟨ad, ov, h1, h2.on hb, h3.on hb⟩
theorem txsIn.get {w : World} {ao : Option Addr} {n cap : Nat} {ts : List Tx.Txn} (h : txsIn w (.slice ao n cap) ts) {k : Nat} (hk : k < ts.length) :
    ∃ ad ov, ao = some ad ∧ TcAt w (ad.add (k * 6)) ts[k] ov ∧ opsIn w ov ts[k].ops := by
  obtain ⟨ao', cap', e, _, _, hc⟩ := h
  cases e
  exact hc k hk
/-- What came in has lengths that a machine's number tells. -/
def opWide (o : Os.Op) : Prop := o.p.length ≤ 9223372036854775807 ∧ ∀ x ∈ o.p, x.length ≤ 9223372036854775807
def txWide (t : Tx.Txn) : Prop := ∀ o ∈ t.ops, opWide o
end Go.Proofs.YthlhopdlkkeohaaGreatDoor.O
