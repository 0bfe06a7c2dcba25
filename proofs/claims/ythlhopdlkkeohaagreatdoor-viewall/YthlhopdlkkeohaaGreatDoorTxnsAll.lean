/- Transactions as plain mathematics (for stage 12): what is wrong with one, how two stand, which rise, where a dot's stands, one put in its place, bytes · Transactions in memory: a slice of operations, a transaction in a variable and in a slice · Transactions as plain mathematics (for stage 12): what is wrong with one, how two stand, which rise, where a dot's stands, one put in its place, bytes · What counts as plain mathematics (for stage 13): which operations a transaction that counts covers, the items, those at a path and under it, one transaction more · Items in memory: a slice of them, one in a variable; the cells of transactions and items, each as a row of its own. -/
import Derived.Test.YthlhopdlkkeohaaGreatDoorOpsAll
import Derived.Test.YthlhopdlkkeohaaGreatDoorMemAllAll
import Derived.Test.YthlhopdlkkeohaaGreatDoorPlainAll
import Derived.Test.YthlhopdlkkeohaaGreatDoorTxnOwnAllAll
/- Transactions as plain mathematics (for stage 12): what is wrong with one, how two stand, which rise, where a dot's stands, one put in its place, bytes · Transactions in memory: a slice of operations, a transaction in a variable and in a slice. -/
/- Transactions as plain mathematics (for stage 12): what is wrong with one, how two stand, which rise, where a dot's stands, one put in its place, bytes. -/
namespace Go.Proofs.YthlhopdlkkeohaaGreatDoor

/-- The names of operations that are the same are the operations. -/
theorem Os.same_eq {a b : Os.Op} : Os.same a b = true ↔ a = b := by
  obtain ⟨k, p, vk, vn, vs, n, l⟩ := a
  obtain ⟨k', p', vk', vn', vs', n', l'⟩ := b
  simp only [Os.same, decide_eq_true_eq, Os.Op.mk.injEq]
  constructor
  · rintro ⟨h1, h2, ⟨h3, h4, h5⟩, h6, h7⟩; exact ⟨h1, h2, h3, h4, h5, h6, h7⟩
  · rintro ⟨h1, h2, h3, h4, h5, h6, h7⟩; exact ⟨h1, h2, ⟨h3, h4, h5⟩, h6, h7⟩

namespace Tx
/-! ### Dots in a row -/
abbrev dlt (x y : D) : Prop := x.1 < y.1 ∨ (x.1 = y.1 ∧ x.2 < y.2)
theorem dlt_trans {x y z : D} (h : dlt x y) (k : dlt y z) : dlt x z := by simp only [dlt] at *; omega
theorem dlt_irrefl (x : D) : ¬ dlt x x := by simp only [dlt]; omega
theorem dlt_ne {x y : D} (h : dlt x y) : x ≠ y := fun e => dlt_irrefl x (by rw [← e] at h; exact h)
theorem dlt_total (x y : D) : dlt x y ∨ x = y ∨ dlt y x := by
  obtain ⟨a, b⟩ := x
  obtain ⟨c, d⟩ := y
  simp only [dlt, Prod.mk.injEq]
  omega
theorem dcomp_neg (x y : D) : Dt.comp x.1 x.2 y.1 y.2 = -1 ↔ dlt x y := by
  have h := Dt.comp_cases x.1 x.2 y.1 y.2
  simp only [dlt]
  omega
theorem dcomp_lt (x y : D) : Dt.comp x.1 x.2 y.1 y.2 < 0 ↔ dlt x y := by
  have h := Dt.comp_cases x.1 x.2 y.1 y.2
  simp only [dlt]
  omega
theorem dcomp_zero (x y : D) : Dt.comp x.1 x.2 y.1 y.2 = 0 ↔ x = y := by
  have h := Dt.comp_cases x.1 x.2 y.1 y.2
  obtain ⟨a, b⟩ := x
  obtain ⟨c, d⟩ := y
  simp only [Prod.mk.injEq] at *
  omega

/-! ### Transactions -/
structure Txn where
  d : D
  u : Int
  t : Int
  thin : Bool
  ops : List Os.Op
/-- What is wrong with the first operation that is wrong. -/
def opsErr (thin : Bool) : List Os.Op → Nat
  | [] => 0
  | o :: r => if Os.check o ≠ 0 ∧ ¬ (thin = true ∧ Os.gone o = true) then Os.check o else opsErr thin r
def check (t : Txn) : Nat :=
  if Dt.right t.d.1 t.d.2 = false ∨ t.u < 0 ∨ 7 < t.u ∨ t.t < 1 ∨ 1099511627776 < t.t then 2 else if t.ops.length = 0 then 11 else if 16 < t.ops.length then 7 else opsErr t.thin t.ops
def comp (a b : Txn) : Int := Dt.two (Dt.compareInt a.t b.t) (Dt.comp a.d.1 a.d.2 b.d.1 b.d.2)
def sameOps : List Os.Op → List Os.Op → Bool
  | [], [] => true
  | a :: r, b :: q => Os.same a b && sameOps r q
  | _, _ => false
def same (a b : Txn) : Bool := decide (a.d = b.d ∧ a.u = b.u ∧ a.t = b.t ∧ a.thin = b.thin) && sameOps a.ops b.ops
theorem sameOps_eq : ∀ {a b : List Os.Op}, sameOps a b = true ↔ a = b
  | [], [] => by simp [sameOps]
  | [], _ :: _ => by simp [sameOps]
  | _ :: _, [] => by simp [sameOps]
  | a :: r, b :: q => by
    simp only [sameOps, Bool.and_eq_true, Os.same_eq, List.cons.injEq]
    rw [sameOps_eq]
theorem same_eq {a b : Txn} : same a b = true ↔ a = b := by
  obtain ⟨d, u, t, th, o⟩ := a
  obtain ⟨d', u', t', th', o'⟩ := b
  simp only [same, Bool.and_eq_true, decide_eq_true_eq, sameOps_eq, Txn.mk.injEq]
  constructor
  · rintro ⟨⟨h1, h2, h3, h4⟩, h5⟩; exact ⟨h1, h2, h3, h4, h5⟩
  · rintro ⟨h1, h2, h3, h4, h5⟩; exact ⟨⟨h1, h2, h3, h4⟩, h5⟩
theorem same_self (a : Txn) : same a a = true := same_eq.2 rfl
theorem sameOps_all {a b : List Os.Op} (hl : a.length = b.length) (h : ∀ k (h1 : k < a.length) (h2 : k < b.length), Os.same a[k] b[k] = true) : sameOps a b = true :=
  sameOps_eq.2 (List.ext_getElem hl fun k h1 h2 => Os.same_eq.1 (h k h1 h2))
theorem sameOps_len {a b : List Os.Op} (h : a.length ≠ b.length) : sameOps a b = false := by
  cases e : sameOps a b with
  | false => rfl
  | true => exact absurd (by rw [sameOps_eq.1 e]) h
/-- So many operations have no error. -/
theorem opsErr_take {th : Bool} : ∀ {l : List Os.Op} {k : Nat} (_ : k < l.length) (_ : opsErr th (l.take k) = 0), (∀ j (h : j < l.length), j < k → Os.check l[j] = 0 ∨ (th = true ∧ Os.gone l[j] = true)) → opsErr th l = opsErr th (l.drop k)
  | [], _, h, _, _ => by simp at h
  | o :: r, 0, _, _, _ => rfl
  | o :: r, k + 1, h, h0, ha => by
    have ho := ha 0 (by simp) (by omega)
    have e : opsErr th (o :: r) = opsErr th r := by
      rw [opsErr, if_neg]
      rintro ⟨h1, h2⟩
      rcases ho with ho | ho
      · exact h1 ho
      · exact h2 ho
    rw [List.drop_succ_cons, e]
    refine opsErr_take (by simpa using h) ?_ fun j hj hk => ha (j + 1) (by simpa using hj) (by omega)
    rw [List.take_succ_cons, opsErr, if_neg] at h0
    · exact h0
    · rintro ⟨h1, h2⟩
      rcases ho with ho | ho
      · exact h1 ho
      · exact h2 ho
theorem opsErr_zero {th : Bool} : ∀ {l : List Os.Op}, opsErr th l = 0 ↔ ∀ o ∈ l, Os.check o = 0 ∨ (th = true ∧ Os.gone o = true)
  | [] => by simp [opsErr]
  | o :: r => by
    rw [opsErr]
    by_cases h : Os.check o ≠ 0 ∧ ¬ (th = true ∧ Os.gone o = true)
    · rw [if_pos h]
      constructor
      · intro e; exact absurd e h.1
      · intro e
        rcases e o (by simp) with e | e
        · exact e
        · exact absurd e h.2
    · rw [if_neg h, opsErr_zero]
      constructor
      · intro e x hx
        rcases List.mem_cons.1 hx with rfl | hx
        · by_cases e0 : Os.check x = 0
          · exact .inl e0
          · exact .inr (Classical.byContradiction fun q => h ⟨e0, q⟩)
        · exact e x hx
      · intro e x hx
        exact e x (by simp [hx])
theorem check_zero {t : Txn} (h : check t = 0) : Dt.right t.d.1 t.d.2 = true ∧ (0 ≤ t.u ∧ t.u ≤ 7) ∧ (1 ≤ t.t ∧ t.t ≤ 1099511627776) ∧ (1 ≤ t.ops.length ∧ t.ops.length ≤ 16) ∧ ∀ o ∈ t.ops, Os.check o = 0 ∨ (t.thin = true ∧ Os.gone o = true) := by
  unfold check at h
  split at h
  · omega
  · rename_i h1
    split at h
    · omega
    · split at h
      · omega
      · simp only [not_or, Bool.not_eq_false] at h1
        exact ⟨h1.1, by omega, by omega, by omega, opsErr_zero.1 h⟩

/-! ### Transactions that rise -/
abbrev Rises (l : List Txn) : Prop := l.Pairwise fun a b => dlt a.d b.d
def rises (l : List Txn) : Bool := decide (Rises l)
theorem rises_iff {l : List Txn} : rises l = true ↔ Rises l := by simp [rises]
theorem rises_step {l : List Txn} {k : Nat} (h : Rises (l.take k)) (hk : k < l.length) (hl : k = 0 ∨ ∃ h1 : k - 1 < l.length, dlt l[k - 1].d l[k].d) : Rises (l.take (k + 1)) := by
  rw [List.take_succ_eq_append_getElem hk]
  refine List.pairwise_append.2 ⟨h, List.pairwise_singleton _ _, fun a ha b hb => ?_⟩
  rw [List.mem_singleton.1 hb]
  obtain ⟨i, hi, rfl⟩ := List.mem_iff_getElem.1 ha
  rw [List.length_take] at hi
  rcases hl with rfl | ⟨h1, hl⟩
  · omega
  · rw [List.getElem_take]
    by_cases e : i = k - 1
    · subst e; exact hl
    · have := List.pairwise_iff_getElem.1 h i (k - 1) (by rw [List.length_take]; omega) (by rw [List.length_take]; omega) (by omega)
      rw [List.getElem_take, List.getElem_take] at this
      exact dlt_trans this hl
theorem not_rises {l : List Txn} {k : Nat} (hk : k + 1 < l.length) (ho : ¬ dlt l[k].d l[k + 1].d) : rises l = false := by
  cases e : rises l with
  | false => rfl
  | true => exact absurd (List.pairwise_iff_getElem.1 (rises_iff.1 e) k (k + 1) (by omega) hk (by omega)) ho
/-- Where the dot's stands, from k on. -/
def findFrom (d : D) : Nat → List Txn → Int
  | _, [] => -1
  | k, x :: r => if x.d = d then (k : Int) else findFrom d (k + 1) r
def find (l : List Txn) (d : D) : Int := findFrom d 0 l
theorem findFrom_none {d : D} : ∀ {l : List Txn} {k : Nat}, (∀ x ∈ l, x.d ≠ d) → findFrom d k l = -1
  | [], _, _ => rfl
  | x :: r, k, h => by rw [findFrom, if_neg (h x (by simp)), findFrom_none fun y hy => h y (by simp [hy])]
theorem findFrom_at {d : D} : ∀ {l : List Txn} {k i : Nat} (hi : i < l.length), l[i].d = d → (∀ j (h : j < l.length), j < i → l[j].d ≠ d) → findFrom d k l = ((k + i : Nat) : Int)
  | [], _, _, hi, _, _ => by simp at hi
  | x :: r, k, 0, _, he, _ => by rw [findFrom, if_pos (by simpa using he)]; rfl
  | x :: r, k, i + 1, hi, he, hn => by
    rw [findFrom, if_neg (by have := hn 0 (by simp) (by omega); simpa using this), findFrom_at (i := i) (by simpa using hi) (by simpa using he) (fun j h hj => by have := hn (j + 1) (by simpa using h) (by omega); simpa using this)]
    congr 1; omega
theorem find_none {l : List Txn} {d : D} (h : ∀ x ∈ l, x.d ≠ d) : find l d = -1 := findFrom_none h
theorem find_at {l : List Txn} {d : D} {i : Nat} (hp : Rises l) (hi : i < l.length) (he : l[i].d = d) : find l d = (i : Int) := by
  have := findFrom_at (k := 0) hi he fun j h hj e => by
    have := List.pairwise_iff_getElem.1 hp j i h hi hj
    rw [e, ← he] at this
    exact dlt_irrefl _ this
  rw [find, this]
  congr 1; omega
/-- One put in its place. -/
def put : List Txn → Txn → List Txn
  | [], t => [t]
  | x :: r, t => if t.d = x.d then x :: r else if dlt t.d x.d then t :: x :: r else x :: put r t
theorem put_mem {t : Txn} : ∀ {l : List Txn} (x : Txn), x ∈ put l t → x = t ∨ x ∈ l
  | [], x, h => by simp only [put, List.mem_singleton] at h; exact .inl h
  | y :: r, x, h => by
    unfold put at h
    split at h
    · exact .inr h
    · split at h
      · rcases List.mem_cons.1 h with h | h
        · exact .inl h
        · exact .inr h
      · rcases List.mem_cons.1 h with h | h
        · exact .inr (by simp [h])
        · rcases put_mem x h with h | h
          · exact .inl h
          · exact .inr (by simp [h])
theorem put_old {t : Txn} : ∀ {l : List Txn} (x : Txn), x ∈ l → x ∈ put l t
  | [], x, h => by simp at h
  | y :: r, x, h => by
    unfold put
    split
    · exact h
    · split
      · exact List.mem_cons_of_mem _ h
      · rcases List.mem_cons.1 h with h | h
        · simp [h]
        · exact List.mem_cons_of_mem _ (put_old x h)
theorem put_new {t : Txn} : ∀ {l : List Txn}, (∀ x ∈ l, x.d ≠ t.d) → t ∈ put l t
  | [], _ => by simp [put]
  | y :: r, h => by
    unfold put
    rw [if_neg (fun e => h y (by simp) e.symm)]
    split
    · simp
    · exact List.mem_cons_of_mem _ (put_new fun x hx => h x (by simp [hx]))
theorem put_same {t : Txn} : ∀ {l : List Txn}, Rises l → (∃ x ∈ l, x.d = t.d) → put l t = l
  | [], _, h => by obtain ⟨x, hx, _⟩ := h; simp at hx
  | y :: r, hp, h => by
    unfold put
    by_cases e : t.d = y.d
    · rw [if_pos e]
    · obtain ⟨x, hx, hd⟩ := h
      rcases List.mem_cons.1 hx with rfl | hx
      · exact absurd hd.symm e
      · have hr := List.pairwise_cons.1 hp
        have h1 := hr.1 x hx
        rw [hd] at h1
        rw [if_neg e, if_neg (fun q => dlt_irrefl _ (dlt_trans q h1)), put_same hr.2 ⟨x, hx, hd⟩]
theorem put_rises {t : Txn} : ∀ {l : List Txn}, Rises l → Rises (put l t)
  | [], _ => List.pairwise_singleton _ _
  | y :: r, hp => by
    have hr := List.pairwise_cons.1 hp
    unfold put
    split
    · exact hp
    · split
      · rename_i h1 h2
        refine List.pairwise_cons.2 ⟨fun x hx => ?_, hp⟩
        rcases List.mem_cons.1 hx with rfl | hx
        · exact h2
        · exact dlt_trans h2 (hr.1 x hx)
      · rename_i h1 h2
        refine List.pairwise_cons.2 ⟨fun x hx => ?_, put_rises hr.2⟩
        rcases put_mem x hx with rfl | hx
        · rcases dlt_total x.d y.d with h | h | h
          · exact absurd h h2
          · exact absurd h h1
          · exact h
        · exact hr.1 x hx
/-- Two that rise, with the same ones in them, are the same. -/
theorem rises_eq : ∀ {a b : List Txn}, Rises a → Rises b → (∀ x, x ∈ a ↔ x ∈ b) → a = b
  | [], [], _, _, _ => rfl
  | [], y :: b, _, _, h => by have := (h y).2 (by simp); simp at this
  | x :: a, [], _, _, h => by have := (h x).1 (by simp); simp at this
  | x :: a, y :: b, ha, hb, h => by
    have ha' := List.pairwise_cons.1 ha
    have hb' := List.pairwise_cons.1 hb
    have e : x = y := by
      rcases List.mem_cons.1 ((h x).1 (by simp)) with e | e
      · exact e
      · rcases List.mem_cons.1 ((h y).2 (by simp)) with q | q
        · exact q.symm
        · exact absurd (dlt_trans (hb'.1 x e) (ha'.1 y q)) (dlt_irrefl _)
    subst e
    congr 1
    refine rises_eq ha'.2 hb'.2 fun z => ⟨fun hz => ?_, fun hz => ?_⟩
    · rcases List.mem_cons.1 ((h z).1 (List.mem_cons_of_mem _ hz)) with q | q
      · exact absurd (ha'.1 z hz) (by rw [q]; exact dlt_irrefl _)
      · exact q
    · rcases List.mem_cons.1 ((h z).2 (List.mem_cons_of_mem _ hz)) with q | q
      · exact absurd (hb'.1 z hz) (by rw [q]; exact dlt_irrefl _)
      · exact q
/-- All put, one behind the other. -/
def puts (a : List Txn) (l : List Txn) : List Txn := l.foldl put a
theorem puts_rises : ∀ {l a : List Txn}, Rises a → Rises (puts a l)
  | [], _, h => h
  | _ :: r, _, h => puts_rises (l := r) (put_rises h)
theorem puts_mem : ∀ {l a : List Txn}, (∀ x ∈ a, ∀ y ∈ l, x.d ≠ y.d) → (l.Pairwise fun x y => x.d ≠ y.d) → ∀ z, z ∈ puts a l ↔ z ∈ a ∨ z ∈ l
  | [], a, _, _, z => by simp [puts]
  | t :: r, a, h, hp, z => by
    have hp' := List.pairwise_cons.1 hp
    have h1 : ∀ x ∈ put a t, ∀ y ∈ r, x.d ≠ y.d := fun x hx y hy => by
      rcases put_mem x hx with rfl | hx
      · exact hp'.1 y hy
      · exact h x hx y (by simp [hy])
    rw [show puts a (t :: r) = puts (put a t) r from rfl, puts_mem h1 hp'.2 z]
    constructor
    · rintro (q | q)
      · rcases put_mem z q with rfl | q
        · exact .inr (by simp)
        · exact .inl q
      · exact .inr (by simp [q])
    · rintro (q | q)
      · exact .inl (put_old z q)
      · rcases List.mem_cons.1 q with rfl | q
        · exact .inl (put_new fun x hx => h x hx z (by simp))
        · exact .inr q
theorem put_len {t : Txn} : ∀ {l : List Txn}, (∀ x ∈ l, x.d ≠ t.d) → (put l t).length = l.length + 1
  | [], _ => rfl
  | y :: r, h => by
    unfold put
    rw [if_neg (fun e => h y (by simp) e.symm)]
    split
    · rfl
    · rw [List.length_cons, put_len fun x hx => h x (by simp [hx]), List.length_cons]
theorem puts_len : ∀ {l a : List Txn}, (∀ x ∈ a, ∀ y ∈ l, x.d ≠ y.d) → (l.Pairwise fun x y => x.d ≠ y.d) → (puts a l).length = a.length + l.length
  | [], _, _, _ => rfl
  | t :: r, a, h, hp => by
    have hp' := List.pairwise_cons.1 hp
    rw [show puts a (t :: r) = puts (put a t) r from rfl, puts_len (fun x hx y hy => by
      rcases put_mem x hx with rfl | hx
      · exact hp'.1 y hy
      · exact h x hx y (by simp [hy])) hp'.2, put_len (fun x hx => h x hx t (by simp)), List.length_cons]
    omega

/-! ### Bytes -/
def head (t : Txn) : List UInt8 := (Pk.enc t.d.1.toNat ++ Pk.enc t.d.2.toNat) ++ (Pk.enc t.u.toNat ++ (Pk.enc t.t.toNat ++ (Pk.enc (if t.thin = true then 1 else 0) ++ Pk.enc t.ops.length)))
def code (t : Txn) : List UInt8 := head t ++ t.ops.flatMap Os.code
def list (l : List Txn) : List UInt8 := Pk.enc l.length ++ l.flatMap code
end Tx
end Go.Proofs.YthlhopdlkkeohaaGreatDoor
/- Transactions in memory: a slice of operations, a transaction in a variable and in a slice. -/
namespace Go.Proofs.YthlhopdlkkeohaaGreatDoor.O
open Go.RowKit

/-- An operation, its slices written out. -/
abbrev oV (o : Os.Op) (pv sv : Value) : Value := opV o.k pv o.vk o.vn o.vs o.n sv
abbrev oO (o : Os.Op) (pv sv : Value) : Obj := opO o.k pv o.vk o.vn o.vs o.n sv
/-- At this place there is this operation. -/
structure OcAt (w : World) (p : Addr) (o : Os.Op) (pv sv : Value) : Prop where
  c0 : w.cell? p = some (.int .i64 o.k)
  c1 : w.cell? ⟨p.block, p.off + 1, none⟩ = some pv
  c2 : w.cell? ⟨p.block, p.off + 2, none⟩ = some (.int .i64 o.vk)
  c3 : w.cell? ⟨p.block, p.off + 3, none⟩ = some (.int .i64 o.vn)
  c4 : w.cell? ⟨p.block, p.off + 4, none⟩ = some (.string ⟨o.vs.toArray⟩)
  c5 : w.cell? ⟨p.block, p.off + 5, none⟩ = some (.int .i64 o.n)
  c6 : w.cell? ⟨p.block, p.off + 6, none⟩ = some sv
theorem OcAt.on {w w' : World} {p : Addr} {o : Os.Op} {pv sv : Value} (h : OcAt w p o pv sv) (hb : Below w.heap.size w w') : OcAt w' p o pv sv :=
  ⟨keep_cell hb h.c0, keep_cell hb h.c1, keep_cell hb h.c2, keep_cell hb h.c3, keep_cell hb h.c4, keep_cell hb h.c5, keep_cell hb h.c6⟩
theorem strs_slice {w : World} {v : Value} {xs : List (List UInt8)} (h : U.strsAt w v xs) : ∃ ao n cap, v = .slice ao n cap := by
  obtain ⟨ao, cap, e, _⟩ := h
  exact ⟨ao, _, cap, e⟩
theorem refs_slice {w : World} {v : Value} {l : List U} (h : refsIn w v l) : ∃ ao n cap, v = .slice ao n cap := by
  obtain ⟨ao, cap, e, _⟩ := h
  exact ⟨ao, _, cap, e⟩
/-- A slice reads as these operations. -/
def opsIn (w : World) (v : Value) (os : List Os.Op) : Prop :=
  ∃ ao cap, v = .slice ao os.length cap ∧ os.length ≤ cap ∧ (ao = none → cap = 0) ∧ ∀ k (h : k < os.length), ∃ ad pv sv, ao = some ad ∧ OcAt w (ad.add (k * 7)) os[k] pv sv ∧ U.strsAt w pv os[k].p ∧ refsIn w sv os[k].l
theorem opsIn_nil (w : World) : opsIn w (.slice none 0 0) [] := ⟨none, 0, rfl, by simp, fun _ => rfl, fun k h => by simp at h⟩
theorem opsIn.on {w w' : World} {v : Value} {os : List Os.Op} (h : opsIn w v os) (hb : Below w.heap.size w w') : opsIn w' v os := by
  obtain ⟨ao, cap, hv, hm, h0, hc⟩ := h
  refine ⟨ao, cap, hv, hm, h0, fun k hk => ?_⟩
  obtain ⟨ad, pv, sv, h1, h2, h3, h4⟩ := hc k hk
  exact ⟨ad, pv, sv, h1, h2.on hb, U.strsAt_below h3 hb (Nat.le_refl _), h4.on hb⟩
theorem opsIn.len {w : World} {ao : Option Addr} {n cap : Nat} {os : List Os.Op} (h : opsIn w (.slice ao n cap) os) : n = os.length := by
  obtain ⟨_, _, e, _⟩ := h
  cases e
  rfl
theorem opsIn.slice {w : World} {v : Value} {os : List Os.Op} (h : opsIn w v os) : ∃ ao cap, v = .slice ao os.length cap := by
  obtain ⟨ao, cap, e, _⟩ := h
  exact ⟨ao, cap, e⟩
/-- The operation at a place. -/
theorem opsIn.get {w : World} {ao : Option Addr} {n cap : Nat} {os : List Os.Op} (h : opsIn w (.slice ao n cap) os) {k : Nat} (hk : k < os.length) :
    ∃ ad pv sv, ao = some ad ∧ OcAt w (ad.add (k * 7)) os[k] pv sv ∧ U.strsAt w pv os[k].p ∧ refsIn w sv os[k].l := by
  obtain ⟨ao', cap', e, _, _, hc⟩ := h
  cases e
  exact hc k hk

/-! ### Transactions -/
abbrev txV (t : Tx.Txn) (ov : Value) : Value := .agg #[.int .i64 t.d.1, .int .i64 t.d.2, .int .i64 t.u, .int .i64 t.t, .bool t.thin, ov]
abbrev txO (t : Tx.Txn) (ov : Value) : Obj := .cells #[.int .i64 t.d.1, .int .i64 t.d.2, .int .i64 t.u, .int .i64 t.t, .bool t.thin, ov] 56
/-- At this place there is this transaction. -/
structure TcAt (w : World) (p : Addr) (t : Tx.Txn) (ov : Value) : Prop where
  c0 : w.cell? p = some (.int .i64 t.d.1)
  c1 : w.cell? ⟨p.block, p.off + 1, none⟩ = some (.int .i64 t.d.2)
  c2 : w.cell? ⟨p.block, p.off + 2, none⟩ = some (.int .i64 t.u)
  c3 : w.cell? ⟨p.block, p.off + 3, none⟩ = some (.int .i64 t.t)
  c4 : w.cell? ⟨p.block, p.off + 4, none⟩ = some (.bool t.thin)
  c5 : w.cell? ⟨p.block, p.off + 5, none⟩ = some ov
theorem TcAt.on {w w' : World} {p : Addr} {t : Tx.Txn} {ov : Value} (h : TcAt w p t ov) (hb : Below w.heap.size w w') : TcAt w' p t ov :=
  ⟨keep_cell hb h.c0, keep_cell hb h.c1, keep_cell hb h.c2, keep_cell hb h.c3, keep_cell hb h.c4, keep_cell hb h.c5⟩
/-- In a variable there is this transaction. -/
structure TAt (w : World) (b : Nat) (t : Tx.Txn) (ov : Value) : Prop where
  c0 : w.cell? ⟨b, 0, none⟩ = some (.int .i64 t.d.1)
  c1 : w.cell? ⟨b, 1, none⟩ = some (.int .i64 t.d.2)
  c2 : w.cell? ⟨b, 2, none⟩ = some (.int .i64 t.u)
  c3 : w.cell? ⟨b, 3, none⟩ = some (.int .i64 t.t)
  c4 : w.cell? ⟨b, 4, none⟩ = some (.bool t.thin)
  c5 : w.cell? ⟨b, 5, none⟩ = some ov
section
variable {w w' : World} {b : Nat} {t : Tx.Txn} {ov : Value}
theorem TAt.new (w : World) (t : Tx.Txn) (ov : Value) : TAt (w.alloc (txO t ov)) w.heap.size t ov := ⟨by simp, by simp, by simp, by simp, by simp, by simp⟩
theorem TAt.lt (h : TAt w b t ov) : b < w.heap.size := World.block_lt_of_cell? w ⟨b, 0, none⟩ h.c0
theorem TAt.blk (h : TAt w b t ov) (hb : w'.heap[b]? = w.heap[b]?) : TAt w' b t ov :=
  ⟨(World.cell?_of_block (w := w) hb).trans h.c0, (World.cell?_of_block (w := w) hb).trans h.c1, (World.cell?_of_block (w := w) hb).trans h.c2, (World.cell?_of_block (w := w) hb).trans h.c3, (World.cell?_of_block (w := w) hb).trans h.c4, (World.cell?_of_block (w := w) hb).trans h.c5⟩
theorem TAt.on (h : TAt w b t ov) (hb : Below w.heap.size w w') : TAt w' b t ov := h.blk (hb.block b h.lt)
theorem TAt.but {g : Nat} (h : TAt w b t ov) (hb : But g w w') (hg : b ≠ g) : TAt w' b t ov := h.blk (hb.block b h.lt hg)
theorem TAt.drew (h : TAt w b t ov) : TAt w.drew b t ov := h.blk rfl
theorem TAt.setOther (h : TAt w b t ov) {p : Addr} (hp : p.block ≠ b) (v : Value) : TAt (w.setCell p v) b t ov := h.blk (Below.heap_setCell w p v b (Ne.symm hp))
end
/-- Where a field's cells begin. -/
def toff : Nat → Nat
  | 0 => 0
  | 1 => 2
  | 2 => 3
  | 3 => 4
  | _ => 5
section
variable {o : Oper} {a : Act} {w : World} {b : Nat} {t : Tx.Txn} {ov : Value}
end
/-- A slice reads as these transactions. -/
def txsIn (w : World) (v : Value) (ts : List Tx.Txn) : Prop :=
  ∃ ao cap, v = .slice ao ts.length cap ∧ ts.length ≤ cap ∧ (ao = none → cap = 0) ∧ ∀ k (h : k < ts.length), ∃ ad ov, ao = some ad ∧ TcAt w (ad.add (k * 6)) ts[k] ov ∧ opsIn w ov ts[k].ops
theorem txsIn_nil (w : World) : txsIn w (.slice none 0 0) [] := ⟨none, 0, rfl, by simp, fun _ => rfl, fun k h => by simp at h⟩
theorem txsIn.on {w w' : World} {v : Value} {ts : List Tx.Txn} (h : txsIn w v ts) (hb : Below w.heap.size w w') : txsIn w' v ts := by
  obtain ⟨ao, cap, hv, hm, h0, hc⟩ := h
  refine ⟨ao, cap, hv, hm, h0, fun k hk => ?_⟩
  obtain ⟨ad, ov, h1, h2, h3⟩ := hc k hk
  exact ⟨ad, ov, h1, h2.on hb, h3.on hb⟩
theorem txsIn.get {w : World} {ao : Option Addr} {n cap : Nat} {ts : List Tx.Txn} (h : txsIn w (.slice ao n cap) ts) {k : Nat} (hk : k < ts.length) :
    ∃ ad ov, ao = some ad ∧ TcAt w (ad.add (k * 6)) ts[k] ov ∧ opsIn w ov ts[k].ops := by
  obtain ⟨ao', cap', e, _, _, hc⟩ := h
  cases e
  exact hc k hk
/-- What came in has lengths that a machine's number tells. -/
def opWide (o : Os.Op) : Prop := o.p.length ≤ 9223372036854775807 ∧ ∀ x ∈ o.p, x.length ≤ 9223372036854775807
def txWide (t : Tx.Txn) : Prop := ∀ o ∈ t.ops, opWide o
end Go.Proofs.YthlhopdlkkeohaaGreatDoor.O
/- Transactions as plain mathematics (for stage 12): what is wrong with one, how two stand, which rise, where a dot's stands, one put in its place, bytes. -/
namespace Go.Proofs.YthlhopdlkkeohaaGreatDoor

/-- The names of operations that are the same are the operations. -/
theorem Os.same_eq {a b : Os.Op} : Os.same a b = true ↔ a = b := by
  obtain ⟨k, p, vk, vn, vs, n, l⟩ := a
  obtain ⟨k', p', vk', vn', vs', n', l'⟩ := b
  simp only [Os.same, decide_eq_true_eq, Os.Op.mk.injEq]
  constructor
  · rintro ⟨h1, h2, ⟨h3, h4, h5⟩, h6, h7⟩; exact ⟨h1, h2, h3, h4, h5, h6, h7⟩
  · rintro ⟨h1, h2, h3, h4, h5, h6, h7⟩; exact ⟨h1, h2, ⟨h3, h4, h5⟩, h6, h7⟩

namespace Tx
/-! ### Dots in a row -/
abbrev dlt (x y : D) : Prop := x.1 < y.1 ∨ (x.1 = y.1 ∧ x.2 < y.2)
theorem dlt_trans {x y z : D} (h : dlt x y) (k : dlt y z) : dlt x z := by simp only [dlt] at *; omega
theorem dlt_irrefl (x : D) : ¬ dlt x x := by simp only [dlt]; omega
theorem dlt_ne {x y : D} (h : dlt x y) : x ≠ y := fun e => dlt_irrefl x (by rw [← e] at h; exact h)
theorem dlt_total (x y : D) : dlt x y ∨ x = y ∨ dlt y x := by
  obtain ⟨a, b⟩ := x
  obtain ⟨c, d⟩ := y
  simp only [dlt, Prod.mk.injEq]
  omega
theorem dcomp_neg (x y : D) : Dt.comp x.1 x.2 y.1 y.2 = -1 ↔ dlt x y := by
  have h := Dt.comp_cases x.1 x.2 y.1 y.2
  simp only [dlt]
  omega
theorem dcomp_lt (x y : D) : Dt.comp x.1 x.2 y.1 y.2 < 0 ↔ dlt x y := by
  have h := Dt.comp_cases x.1 x.2 y.1 y.2
  simp only [dlt]
  omega
theorem dcomp_zero (x y : D) : Dt.comp x.1 x.2 y.1 y.2 = 0 ↔ x = y := by
  have h := Dt.comp_cases x.1 x.2 y.1 y.2
  obtain ⟨a, b⟩ := x
  obtain ⟨c, d⟩ := y
  simp only [Prod.mk.injEq] at *
  omega

/-! ### Transactions -/
structure Txn where
  d : D
  u : Int
  t : Int
  thin : Bool
  ops : List Os.Op
/-- What is wrong with the first operation that is wrong. -/
def opsErr (thin : Bool) : List Os.Op → Nat
  | [] => 0
  | o :: r => if Os.check o ≠ 0 ∧ ¬ (thin = true ∧ Os.gone o = true) then Os.check o else opsErr thin r
def check (t : Txn) : Nat :=
  if Dt.right t.d.1 t.d.2 = false ∨ t.u < 0 ∨ 7 < t.u ∨ t.t < 1 ∨ 1099511627776 < t.t then 2 else if t.ops.length = 0 then 11 else if 16 < t.ops.length then 7 else opsErr t.thin t.ops
def comp (a b : Txn) : Int := Dt.two (Dt.compareInt a.t b.t) (Dt.comp a.d.1 a.d.2 b.d.1 b.d.2)
def sameOps : List Os.Op → List Os.Op → Bool
  | [], [] => true
  | a :: r, b :: q => Os.same a b && sameOps r q
  | _, _ => false
def same (a b : Txn) : Bool := decide (a.d = b.d ∧ a.u = b.u ∧ a.t = b.t ∧ a.thin = b.thin) && sameOps a.ops b.ops
theorem sameOps_eq : ∀ {a b : List Os.Op}, sameOps a b = true ↔ a = b
  | [], [] => by simp [sameOps]
  | [], _ :: _ => by simp [sameOps]
  | _ :: _, [] => by simp [sameOps]
  | a :: r, b :: q => by
    simp only [sameOps, Bool.and_eq_true, Os.same_eq, List.cons.injEq]
    rw [sameOps_eq]
theorem same_eq {a b : Txn} : same a b = true ↔ a = b := by
  obtain ⟨d, u, t, th, o⟩ := a
  obtain ⟨d', u', t', th', o'⟩ := b
  simp only [same, Bool.and_eq_true, decide_eq_true_eq, sameOps_eq, Txn.mk.injEq]
  constructor
  · rintro ⟨⟨h1, h2, h3, h4⟩, h5⟩; exact ⟨h1, h2, h3, h4, h5⟩
  · rintro ⟨h1, h2, h3, h4, h5⟩; exact ⟨⟨h1, h2, h3, h4⟩, h5⟩
theorem same_self (a : Txn) : same a a = true := same_eq.2 rfl
theorem sameOps_all {a b : List Os.Op} (hl : a.length = b.length) (h : ∀ k (h1 : k < a.length) (h2 : k < b.length), Os.same a[k] b[k] = true) : sameOps a b = true :=
  sameOps_eq.2 (List.ext_getElem hl fun k h1 h2 => Os.same_eq.1 (h k h1 h2))
theorem sameOps_len {a b : List Os.Op} (h : a.length ≠ b.length) : sameOps a b = false := by
  cases e : sameOps a b with
  | false => rfl
  | true => exact absurd (by rw [sameOps_eq.1 e]) h
/-- So many operations have no error. -/
theorem opsErr_take {th : Bool} : ∀ {l : List Os.Op} {k : Nat} (_ : k < l.length) (_ : opsErr th (l.take k) = 0), (∀ j (h : j < l.length), j < k → Os.check l[j] = 0 ∨ (th = true ∧ Os.gone l[j] = true)) → opsErr th l = opsErr th (l.drop k)
  | [], _, h, _, _ => by simp at h
  | o :: r, 0, _, _, _ => rfl
  | o :: r, k + 1, h, h0, ha => by
    have ho := ha 0 (by simp) (by omega)
    have e : opsErr th (o :: r) = opsErr th r := by
      rw [opsErr, if_neg]
      rintro ⟨h1, h2⟩
      rcases ho with ho | ho
      · exact h1 ho
      · exact h2 ho
    rw [List.drop_succ_cons, e]
    refine opsErr_take (by simpa using h) ?_ fun j hj hk => ha (j + 1) (by simpa using hj) (by omega)
    rw [List.take_succ_cons, opsErr, if_neg] at h0
    · exact h0
    · rintro ⟨h1, h2⟩
      rcases ho with ho | ho
      · exact h1 ho
      · exact h2 ho
theorem opsErr_zero {th : Bool} : ∀ {l : List Os.Op}, opsErr th l = 0 ↔ ∀ o ∈ l, Os.check o = 0 ∨ (th = true ∧ Os.gone o = true)
  | [] => by simp [opsErr]
  | o :: r => by
    rw [opsErr]
    by_cases h : Os.check o ≠ 0 ∧ ¬ (th = true ∧ Os.gone o = true)
    · rw [if_pos h]
      constructor
      · intro e; exact absurd e h.1
      · intro e
        rcases e o (by simp) with e | e
        · exact e
        · exact absurd e h.2
    · rw [if_neg h, opsErr_zero]
      constructor
      · intro e x hx
        rcases List.mem_cons.1 hx with rfl | hx
        · by_cases e0 : Os.check x = 0
          · exact .inl e0
          · exact .inr (Classical.byContradiction fun q => h ⟨e0, q⟩)
        · exact e x hx
      · intro e x hx
        exact e x (by simp [hx])
theorem check_zero {t : Txn} (h : check t = 0) : Dt.right t.d.1 t.d.2 = true ∧ (0 ≤ t.u ∧ t.u ≤ 7) ∧ (1 ≤ t.t ∧ t.t ≤ 1099511627776) ∧ (1 ≤ t.ops.length ∧ t.ops.length ≤ 16) ∧ ∀ o ∈ t.ops, Os.check o = 0 ∨ (t.thin = true ∧ Os.gone o = true) := by
  unfold check at h
  split at h
  · omega
  · rename_i h1
    split at h
    · omega
    · split at h
      · omega
      · simp only [not_or, Bool.not_eq_false] at h1
        exact ⟨h1.1, by omega, by omega, by omega, opsErr_zero.1 h⟩

/-! ### Transactions that rise -/
abbrev Rises (l : List Txn) : Prop := l.Pairwise fun a b => dlt a.d b.d
def rises (l : List Txn) : Bool := decide (Rises l)
theorem rises_iff {l : List Txn} : rises l = true ↔ Rises l := by simp [rises]
theorem rises_step {l : List Txn} {k : Nat} (h : Rises (l.take k)) (hk : k < l.length) (hl : k = 0 ∨ ∃ h1 : k - 1 < l.length, dlt l[k - 1].d l[k].d) : Rises (l.take (k + 1)) := by
  rw [List.take_succ_eq_append_getElem hk]
  refine List.pairwise_append.2 ⟨h, List.pairwise_singleton _ _, fun a ha b hb => ?_⟩
  rw [List.mem_singleton.1 hb]
  obtain ⟨i, hi, rfl⟩ := List.mem_iff_getElem.1 ha
  rw [List.length_take] at hi
  rcases hl with rfl | ⟨h1, hl⟩
  · omega
  · rw [List.getElem_take]
    by_cases e : i = k - 1
    · subst e; exact hl
    · have := List.pairwise_iff_getElem.1 h i (k - 1) (by rw [List.length_take]; omega) (by rw [List.length_take]; omega) (by omega)
      rw [List.getElem_take, List.getElem_take] at this
      exact dlt_trans this hl
theorem not_rises {l : List Txn} {k : Nat} (hk : k + 1 < l.length) (ho : ¬ dlt l[k].d l[k + 1].d) : rises l = false := by
  cases e : rises l with
  | false => rfl
  | true => exact absurd (List.pairwise_iff_getElem.1 (rises_iff.1 e) k (k + 1) (by omega) hk (by omega)) ho
/-- Where the dot's stands, from k on. -/
def findFrom (d : D) : Nat → List Txn → Int
  | _, [] => -1
  | k, x :: r => if x.d = d then (k : Int) else findFrom d (k + 1) r
def find (l : List Txn) (d : D) : Int := findFrom d 0 l
theorem findFrom_none {d : D} : ∀ {l : List Txn} {k : Nat}, (∀ x ∈ l, x.d ≠ d) → findFrom d k l = -1
  | [], _, _ => rfl
  | x :: r, k, h => by rw [findFrom, if_neg (h x (by simp)), findFrom_none fun y hy => h y (by simp [hy])]
theorem findFrom_at {d : D} : ∀ {l : List Txn} {k i : Nat} (hi : i < l.length), l[i].d = d → (∀ j (h : j < l.length), j < i → l[j].d ≠ d) → findFrom d k l = ((k + i : Nat) : Int)
  | [], _, _, hi, _, _ => by simp at hi
  | x :: r, k, 0, _, he, _ => by rw [findFrom, if_pos (by simpa using he)]; rfl
  | x :: r, k, i + 1, hi, he, hn => by
    rw [findFrom, if_neg (by have := hn 0 (by simp) (by omega); simpa using this), findFrom_at (i := i) (by simpa using hi) (by simpa using he) (fun j h hj => by have := hn (j + 1) (by simpa using h) (by omega); simpa using this)]
    congr 1; omega
theorem find_none {l : List Txn} {d : D} (h : ∀ x ∈ l, x.d ≠ d) : find l d = -1 := findFrom_none h
theorem find_at {l : List Txn} {d : D} {i : Nat} (hp : Rises l) (hi : i < l.length) (he : l[i].d = d) : find l d = (i : Int) := by
  have := findFrom_at (k := 0) hi he fun j h hj e => by
    have := List.pairwise_iff_getElem.1 hp j i h hi hj
    rw [e, ← he] at this
    exact dlt_irrefl _ this
  rw [find, this]
  congr 1; omega
/-- One put in its place. -/
def put : List Txn → Txn → List Txn
  | [], t => [t]
  | x :: r, t => if t.d = x.d then x :: r else if dlt t.d x.d then t :: x :: r else x :: put r t
theorem put_mem {t : Txn} : ∀ {l : List Txn} (x : Txn), x ∈ put l t → x = t ∨ x ∈ l
  | [], x, h => by simp only [put, List.mem_singleton] at h; exact .inl h
  | y :: r, x, h => by
    unfold put at h
    split at h
    · exact .inr h
    · split at h
      · rcases List.mem_cons.1 h with h | h
        · exact .inl h
        · exact .inr h
      · rcases List.mem_cons.1 h with h | h
        · exact .inr (by simp [h])
        · rcases put_mem x h with h | h
          · exact .inl h
          · exact .inr (by simp [h])
theorem put_old {t : Txn} : ∀ {l : List Txn} (x : Txn), x ∈ l → x ∈ put l t
  | [], x, h => by simp at h
  | y :: r, x, h => by
    unfold put
    split
    · exact h
    · split
      · exact List.mem_cons_of_mem _ h
      · rcases List.mem_cons.1 h with h | h
        · simp [h]
        · exact List.mem_cons_of_mem _ (put_old x h)
theorem put_new {t : Txn} : ∀ {l : List Txn}, (∀ x ∈ l, x.d ≠ t.d) → t ∈ put l t
  | [], _ => by simp [put]
  | y :: r, h => by
    unfold put
    rw [if_neg (fun e => h y (by simp) e.symm)]
    split
    · simp
    · exact List.mem_cons_of_mem _ (put_new fun x hx => h x (by simp [hx]))
theorem put_same {t : Txn} : ∀ {l : List Txn}, Rises l → (∃ x ∈ l, x.d = t.d) → put l t = l
  | [], _, h => by obtain ⟨x, hx, _⟩ := h; simp at hx
  | y :: r, hp, h => by
    unfold put
    by_cases e : t.d = y.d
    · rw [if_pos e]
    · obtain ⟨x, hx, hd⟩ := h
      rcases List.mem_cons.1 hx with rfl | hx
      · exact absurd hd.symm e
      · have hr := List.pairwise_cons.1 hp
        have h1 := hr.1 x hx
        rw [hd] at h1
        rw [if_neg e, if_neg (fun q => dlt_irrefl _ (dlt_trans q h1)), put_same hr.2 ⟨x, hx, hd⟩]
theorem put_rises {t : Txn} : ∀ {l : List Txn}, Rises l → Rises (put l t)
  | [], _ => List.pairwise_singleton _ _
  | y :: r, hp => by
    have hr := List.pairwise_cons.1 hp
    unfold put
    split
    · exact hp
    · split
      · rename_i h1 h2
        refine List.pairwise_cons.2 ⟨fun x hx => ?_, hp⟩
        rcases List.mem_cons.1 hx with rfl | hx
        · exact h2
        · exact dlt_trans h2 (hr.1 x hx)
      · rename_i h1 h2
        refine List.pairwise_cons.2 ⟨fun x hx => ?_, put_rises hr.2⟩
        rcases put_mem x hx with rfl | hx
        · rcases dlt_total x.d y.d with h | h | h
          · exact absurd h h2
          · exact absurd h h1
          · exact h
        · exact hr.1 x hx
/-- Two that rise, with the same ones in them, are the same. -/
theorem rises_eq : ∀ {a b : List Txn}, Rises a → Rises b → (∀ x, x ∈ a ↔ x ∈ b) → a = b
  | [], [], _, _, _ => rfl
  | [], y :: b, _, _, h => by have := (h y).2 (by simp); simp at this
  | x :: a, [], _, _, h => by have := (h x).1 (by simp); simp at this
  | x :: a, y :: b, ha, hb, h => by
    have ha' := List.pairwise_cons.1 ha
    have hb' := List.pairwise_cons.1 hb
    have e : x = y := by
      rcases List.mem_cons.1 ((h x).1 (by simp)) with e | e
      · exact e
      · rcases List.mem_cons.1 ((h y).2 (by simp)) with q | q
        · exact q.symm
        · exact absurd (dlt_trans (hb'.1 x e) (ha'.1 y q)) (dlt_irrefl _)
    subst e
    congr 1
    refine rises_eq ha'.2 hb'.2 fun z => ⟨fun hz => ?_, fun hz => ?_⟩
    · rcases List.mem_cons.1 ((h z).1 (List.mem_cons_of_mem _ hz)) with q | q
      · exact absurd (ha'.1 z hz) (by rw [q]; exact dlt_irrefl _)
      · exact q
    · rcases List.mem_cons.1 ((h z).2 (List.mem_cons_of_mem _ hz)) with q | q
      · exact absurd (hb'.1 z hz) (by rw [q]; exact dlt_irrefl _)
      · exact q
/-- All put, one behind the other. -/
def puts (a : List Txn) (l : List Txn) : List Txn := l.foldl put a
theorem puts_rises : ∀ {l a : List Txn}, Rises a → Rises (puts a l)
  | [], _, h => h
  | _ :: r, _, h => puts_rises (l := r) (put_rises h)
theorem puts_mem : ∀ {l a : List Txn}, (∀ x ∈ a, ∀ y ∈ l, x.d ≠ y.d) → (l.Pairwise fun x y => x.d ≠ y.d) → ∀ z, z ∈ puts a l ↔ z ∈ a ∨ z ∈ l
  | [], a, _, _, z => by simp [puts]
  | t :: r, a, h, hp, z => by
    have hp' := List.pairwise_cons.1 hp
    have h1 : ∀ x ∈ put a t, ∀ y ∈ r, x.d ≠ y.d := fun x hx y hy => by
      rcases put_mem x hx with rfl | hx
      · exact hp'.1 y hy
      · exact h x hx y (by simp [hy])
    rw [show puts a (t :: r) = puts (put a t) r from rfl, puts_mem h1 hp'.2 z]
    constructor
    · rintro (q | q)
      · rcases put_mem z q with rfl | q
        · exact .inr (by simp)
        · exact .inl q
      · exact .inr (by simp [q])
    · rintro (q | q)
      · exact .inl (put_old z q)
      · rcases List.mem_cons.1 q with rfl | q
        · exact .inl (put_new fun x hx => h x hx z (by simp))
        · exact .inr q
theorem put_len {t : Txn} : ∀ {l : List Txn}, (∀ x ∈ l, x.d ≠ t.d) → (put l t).length = l.length + 1
  | [], _ => rfl
  | y :: r, h => by
    unfold put
    rw [if_neg (fun e => h y (by simp) e.symm)]
    split
    · rfl
    · rw [List.length_cons, put_len fun x hx => h x (by simp [hx]), List.length_cons]
theorem puts_len : ∀ {l a : List Txn}, (∀ x ∈ a, ∀ y ∈ l, x.d ≠ y.d) → (l.Pairwise fun x y => x.d ≠ y.d) → (puts a l).length = a.length + l.length
  | [], _, _, _ => rfl
  | t :: r, a, h, hp => by
    have hp' := List.pairwise_cons.1 hp
    rw [show puts a (t :: r) = puts (put a t) r from rfl, puts_len (fun x hx y hy => by
      rcases put_mem x hx with rfl | hx
      · exact hp'.1 y hy
      · exact h x hx y (by simp [hy])) hp'.2, put_len (fun x hx => h x hx t (by simp)), List.length_cons]
    omega

/-! ### Bytes -/
def head (t : Txn) : List UInt8 := (Pk.enc t.d.1.toNat ++ Pk.enc t.d.2.toNat) ++ (Pk.enc t.u.toNat ++ (Pk.enc t.t.toNat ++ (Pk.enc (if t.thin = true then 1 else 0) ++ Pk.enc t.ops.length)))
def code (t : Txn) : List UInt8 := head t ++ t.ops.flatMap Os.code
def list (l : List Txn) : List UInt8 := Pk.enc l.length ++ l.flatMap code
end Tx
end Go.Proofs.YthlhopdlkkeohaaGreatDoor
/- What counts as plain mathematics (for stage 13): which operations a transaction that counts covers, the items, those at a path and under it, one transaction more. -/
namespace Go.Proofs.YthlhopdlkkeohaaGreatDoor
namespace Lv

/-- An item: which operation, it, and its transaction's time. -/
structure Item where
  x : U
  o : Os.Op
  t : Int
/-- Does one of the operations name it? -/
def names (os : List Os.Op) (x : U) : Bool := os.any fun o => decide (x ∈ o.l)
/-- Does a transaction that counts ('sn') cover it? -/
def covered (l : List Tx.Txn) (sn : D → Bool) (x : U) : Bool := l.any fun t => sn t.d && names t.ops x
/-- A kind that can be an item's. -/
def able (k : Int) : Bool := decide (1 ≤ k ∧ k ≤ 3)
/-- The items of a transaction that counts, from place k on. -/
def items (cov : U → Bool) (d : D) (tm : Int) : Nat → List Os.Op → List Item
  | _, [] => []
  | k, o :: r => if able o.k = true ∧ cov (d, (k : Int)) = false then ⟨(d, (k : Int)), o, tm⟩ :: items cov d tm (k + 1) r else items cov d tm (k + 1) r
/-- Those of one transaction. -/
def itemsOf (cov : U → Bool) (sn : D → Bool) (t : Tx.Txn) : List Item := if sn t.d = true then items cov t.d t.t 0 t.ops else []
def allBy (cov : U → Bool) (sn : D → Bool) (l : List Tx.Txn) : List Item := l.flatMap (itemsOf cov sn)
def all (l : List Tx.Txn) (sn : D → Bool) : List Item := allBy (covered l sn) sn l
def atLeaf (l : List Item) (p : List (List UInt8)) (leaf : Int) : List Item := l.filter fun i => decide (Os.leaf i.o.k = leaf ∧ i.o.p = p)
def refs (l : List Item) : List U := l.map (·.x)
def withT (l : List Tx.Txn) (t : Tx.Txn) : List Tx.Txn := if t.ops = [] then l else Tx.put l t

/-! ### How they grow, place by place -/
theorem items_append (cov : U → Bool) (d : D) (tm : Int) : ∀ (a b : List Os.Op) (k : Nat), items cov d tm k (a ++ b) = items cov d tm k a ++ items cov d tm (k + a.length) b
  | [], b, k => by simp [items]
  | o :: r, b, k => by
    rw [List.cons_append, items, items, items_append cov d tm r b (k + 1), List.length_cons, show k + (r.length + 1) = k + 1 + r.length by omega]
    split <;> simp
theorem items_step (cov : U → Bool) (d : D) (tm : Int) (os : List Os.Op) {k : Nat} (h : k < os.length) :
    items cov d tm 0 (os.take (k + 1)) = items cov d tm 0 (os.take k) ++ (if able os[k].k = true ∧ cov (d, (k : Int)) = false then [⟨(d, (k : Int)), os[k], tm⟩] else []) := by
  rw [List.take_succ_eq_append_getElem h, items_append, List.length_take, Nat.min_eq_left (Nat.le_of_lt h), Nat.zero_add]
  congr 1
theorem allBy_step (cov : U → Bool) (sn : D → Bool) (l : List Tx.Txn) {k : Nat} (h : k < l.length) : allBy cov sn (l.take (k + 1)) = allBy cov sn (l.take k) ++ itemsOf cov sn l[k] := by
  unfold allBy
  rw [List.take_succ_eq_append_getElem h, List.flatMap_append, List.flatMap_cons, List.flatMap_nil, List.append_nil]
theorem items_len (cov : U → Bool) (d : D) (tm : Int) : ∀ (os : List Os.Op) (k : Nat), (items cov d tm k os).length ≤ os.length
  | [], _ => by simp [items]
  | o :: r, k => by
    have := items_len cov d tm r (k + 1)
    rw [items]
    split
    · simp only [List.length_cons]; omega
    · simp only [List.length_cons]; omega
theorem itemsOf_len (cov : U → Bool) (sn : D → Bool) (t : Tx.Txn) : (itemsOf cov sn t).length ≤ t.ops.length := by
  unfold itemsOf
  split
  · exact items_len _ _ _ _ _
  · simp
theorem allBy_len {cov : U → Bool} {sn : D → Bool} {B : Nat} : ∀ {l : List Tx.Txn}, (∀ t ∈ l, t.ops.length ≤ B) → (allBy cov sn l).length ≤ l.length * B
  | [], _ => by simp [allBy]
  | t :: r, h => by
    have h1 := allBy_len (cov := cov) (sn := sn) (l := r) fun x hx => h x (by simp [hx])
    have h2 := itemsOf_len cov sn t
    have h3 := h t (by simp)
    have e : allBy cov sn (t :: r) = itemsOf cov sn t ++ allBy cov sn r := by simp [allBy]
    rw [e, List.length_append, List.length_cons, Nat.succ_mul]
    omega

/-! ### Who is one -/
theorem items_cons (cov : U → Bool) (d : D) (tm : Int) (k : Nat) (o : Os.Op) (r : List Os.Op) :
    items cov d tm k (o :: r) = if able o.k = true ∧ cov (d, (k : Int)) = false then ⟨(d, (k : Int)), o, tm⟩ :: items cov d tm (k + 1) r else items cov d tm (k + 1) r := by rw [items]
theorem mem_items {cov : U → Bool} {d : D} {tm : Int} {i : Item} : ∀ {os : List Os.Op} {k : Nat}, i ∈ items cov d tm k os ↔ ∃ j, ∃ h : j < os.length, able os[j].k = true ∧ cov (d, ((k + j : Nat) : Int)) = false ∧ i = ⟨(d, ((k + j : Nat) : Int)), os[j], tm⟩
  | [], k => by simp [items]
  | o :: r, k => by
    have ih := mem_items (cov := cov) (d := d) (tm := tm) (i := i) (os := r) (k := k + 1)
    have tail : (∃ j, ∃ h : j < r.length, able r[j].k = true ∧ cov (d, ((k + 1 + j : Nat) : Int)) = false ∧ i = ⟨(d, ((k + 1 + j : Nat) : Int)), r[j], tm⟩) ↔ ∃ j, ∃ h : j + 1 < (o :: r).length, able (o :: r)[j + 1].k = true ∧ cov (d, ((k + (j + 1) : Nat) : Int)) = false ∧ i = ⟨(d, ((k + (j + 1) : Nat) : Int)), (o :: r)[j + 1], tm⟩ := by
      constructor
      · rintro ⟨j, h, a, b, c⟩
        refine ⟨j, by simpa using h, by simpa using a, ?_, ?_⟩
        · rw [show k + (j + 1) = k + 1 + j by omega]; exact b
        · rw [show k + (j + 1) = k + 1 + j by omega]; simpa using c
      · rintro ⟨j, h, a, b, c⟩
        refine ⟨j, by simpa using h, by simpa using a, ?_, ?_⟩
        · rw [show k + 1 + j = k + (j + 1) by omega]; exact b
        · rw [show k + 1 + j = k + (j + 1) by omega]; simpa using c
    have split : (∃ j, ∃ h : j < (o :: r).length, able (o :: r)[j].k = true ∧ cov (d, ((k + j : Nat) : Int)) = false ∧ i = ⟨(d, ((k + j : Nat) : Int)), (o :: r)[j], tm⟩) ↔ (able o.k = true ∧ cov (d, (k : Int)) = false ∧ i = ⟨(d, (k : Int)), o, tm⟩) ∨ ∃ j, ∃ h : j + 1 < (o :: r).length, able (o :: r)[j + 1].k = true ∧ cov (d, ((k + (j + 1) : Nat) : Int)) = false ∧ i = ⟨(d, ((k + (j + 1) : Nat) : Int)), (o :: r)[j + 1], tm⟩ := by
      constructor
      · rintro ⟨j, h, a, b, c⟩
        cases j with
        | zero => exact .inl ⟨a, b, c⟩
        | succ j => exact .inr ⟨j, h, a, b, c⟩
      · rintro (⟨a, b, c⟩ | ⟨j, h, a, b, c⟩)
        · exact ⟨0, by simp, a, b, c⟩
        · exact ⟨j + 1, h, a, b, c⟩
    rw [split, ← tail, ← ih, items_cons]
    split
    · rename_i q
      rw [List.mem_cons]
      constructor
      · rintro (e | e)
        · exact .inl ⟨q.1, q.2, e⟩
        · exact .inr e
      · rintro (⟨_, _, e⟩ | e)
        · exact .inl e
        · exact .inr e
    · rename_i q
      constructor
      · intro e; exact .inr e
      · rintro (⟨a, b, _⟩ | e)
        · exact absurd ⟨a, b⟩ q
        · exact e
theorem mem_all {l : List Tx.Txn} {sn : D → Bool} {i : Item} : i ∈ all l sn ↔ ∃ t ∈ l, sn t.d = true ∧ ∃ j, ∃ h : j < t.ops.length, able t.ops[j].k = true ∧ covered l sn (t.d, (j : Int)) = false ∧ i = ⟨(t.d, (j : Int)), t.ops[j], t.t⟩ := by
  unfold all allBy
  rw [List.mem_flatMap]
  constructor
  · rintro ⟨t, ht, hi⟩
    unfold itemsOf at hi
    split at hi
    · rename_i hs
      obtain ⟨j, h, a, b, c⟩ := mem_items.1 hi
      rw [Nat.zero_add] at b c
      exact ⟨t, ht, hs, j, h, a, b, c⟩
    · simp at hi
  · rintro ⟨t, ht, hs, j, h, a, b, c⟩
    refine ⟨t, ht, ?_⟩
    unfold itemsOf
    rw [if_pos hs]
    exact mem_items.2 ⟨j, h, a, by rw [Nat.zero_add]; exact b, by rw [Nat.zero_add]; exact c⟩

/-! ### What follows -/
theorem allBy_without (cov : U → Bool) {sn : D → Bool} {d : D} (h : sn d = false) : ∀ l : List Tx.Txn, allBy cov sn (l.filter fun t => decide (t.d ≠ d)) = allBy cov sn l
  | [] => rfl
  | t :: r => by
    have ih := allBy_without cov h r
    have e : ∀ q : List Tx.Txn, allBy cov sn (t :: q) = itemsOf cov sn t ++ allBy cov sn q := fun q => by simp [allBy]
    by_cases ht : t.d = d
    · rw [List.filter_cons_of_neg (by simp [ht]), ih, e]
      unfold itemsOf
      rw [ht, h, if_neg (by simp), List.nil_append]
    · rw [List.filter_cons_of_pos (by simp [ht]), e, e, ih]
/-- What counts alike is the same. -/
theorem all_alike (l : List Tx.Txn) {sn sn' : D → Bool} (h : ∀ d, sn d = sn' d) : all l sn = all l sn' := by rw [funext h]
/-- What nobody who counts covers is one, if it can be. -/
theorem again {l : List Tx.Txn} {sn : D → Bool} {t : Tx.Txn} (ht : t ∈ l) (hs : sn t.d = true) {j : Nat} (hj : j < t.ops.length) (hk : able t.ops[j].k = true) (hc : covered l sn (t.d, (j : Int)) = false) : (t.d, (j : Int)) ∈ refs (all l sn) :=
  List.mem_map.2 ⟨⟨(t.d, (j : Int)), t.ops[j], t.t⟩, mem_all.2 ⟨t, ht, hs, j, hj, hk, hc, rfl⟩, rfl⟩

/-! ### One transaction more, that covers nothing -/
theorem names_none {os : List Os.Op} (h : ∀ o ∈ os, o.l = []) (x : U) : names os x = false := by
  cases e : names os x with
  | false => rfl
  | true =>
    obtain ⟨o, ho, q⟩ := List.any_eq_true.1 e
    rw [h o ho] at q
    simp at q
theorem items_dot {cov : U → Bool} {d : D} {tm : Int} {os : List Os.Op} {k : Nat} : ∀ i ∈ items cov d tm k os, i.x.1 = d := fun i hi => by
  obtain ⟨j, _, _, _, rfl⟩ := mem_items.1 hi
  rfl
theorem itemsOf_dot {cov : U → Bool} {sn : D → Bool} {t : Tx.Txn} : ∀ i ∈ itemsOf cov sn t, i.x.1 = t.d := fun i hi => by
  unfold itemsOf at hi
  split at hi
  · exact items_dot i hi
  · simp at hi
theorem filter_itemsOf {cov : U → Bool} {sn : D → Bool} {t : Tx.Txn} {d : D} (h : t.d ≠ d) : (itemsOf cov sn t).filter (fun i => decide (i.x.1 ≠ d)) = itemsOf cov sn t :=
  List.filter_eq_self.2 fun i hi => decide_eq_true (by rw [itemsOf_dot i hi]; exact h)
theorem filter_allBy {cov : U → Bool} {sn : D → Bool} {d : D} : ∀ {l : List Tx.Txn}, (∀ y ∈ l, y.d ≠ d) → (allBy cov sn l).filter (fun i => decide (i.x.1 ≠ d)) = allBy cov sn l
  | [], _ => rfl
  | t :: r, h => by
    have e : allBy cov sn (t :: r) = itemsOf cov sn t ++ allBy cov sn r := by simp [allBy]
    rw [e, List.filter_append, filter_itemsOf (h t (by simp)), filter_allBy fun y hy => h y (by simp [hy])]
theorem filter_put {cov : U → Bool} {sn : D → Bool} {t : Tx.Txn} : ∀ {l : List Tx.Txn}, (∀ y ∈ l, y.d ≠ t.d) → (allBy cov sn (Tx.put l t)).filter (fun i => decide (i.x.1 ≠ t.d)) = allBy cov sn l
  | [], _ => by
    have e : allBy cov sn [t] = itemsOf cov sn t := by simp [allBy]
    show (allBy cov sn [t]).filter _ = []
    rw [e]
    exact List.filter_eq_nil_iff.2 fun i hi => by simp [itemsOf_dot i hi]
  | y :: r, h => by
    have e : ∀ (z : Tx.Txn) (q : List Tx.Txn), allBy cov sn (z :: q) = itemsOf cov sn z ++ allBy cov sn q := fun z q => by simp [allBy]
    have hy := h y (by simp)
    unfold Tx.put
    rw [if_neg fun q => hy q.symm]
    split
    · rw [e t, List.filter_append, filter_allBy h]
      rw [List.filter_eq_nil_iff.2 fun i hi => by simp [itemsOf_dot i hi], List.nil_append]
    · rw [e y, e y, List.filter_append, filter_itemsOf hy, filter_put fun z hz => h z (by simp [hz])]
end Lv
end Go.Proofs.YthlhopdlkkeohaaGreatDoor
/- Items in memory: a slice of them, one in a variable; the cells of transactions and items, each as a row of its own. -/
namespace Go.Proofs.YthlhopdlkkeohaaGreatDoor.O
open Go.RowKit

/-- An item, its operation's slices written out. -/
abbrev IE := Lv.Item × Value × Value
def icell (x : IE) : List Value :=
  [.int .i64 x.1.x.1.1, .int .i64 x.1.x.1.2, .int .i64 x.1.x.2, .int .i64 x.1.o.k, x.2.1, .int .i64 x.1.o.vk, .int .i64 x.1.o.vn, .string ⟨x.1.o.vs.toArray⟩, .int .i64 x.1.o.n, x.2.2, .int .i64 x.1.t]
theorem icell_len (x : IE) : (icell x).length = 11 := rfl
theorem tcell_len (x : TE) : (tcell x).length = 6 := rfl
/-- Its operation's slices read as they should. -/
def IOk (w : World) (x : IE) : Prop := U.strsAt w x.2.1 x.1.o.p ∧ refsIn w x.2.2 x.1.o.l
theorem IOk.on {w w' : World} {x : IE} (h : IOk w x) (hb : Below w.heap.size w w') : IOk w' x := ⟨U.strsAt_below h.1 hb (Nat.le_refl _), h.2.on hb⟩
/-- A slice reads as these items. -/
def itsE (w : World) (v : Value) (xs : List IE) : Prop := rowsIn w icell v xs ∧ ∀ x ∈ xs, IOk w x
theorem itsE.on {w w' : World} {v : Value} {xs : List IE} (h : itsE w v xs) (hb : Below w.heap.size w w') : itsE w' v xs := ⟨h.1.on hb, fun x hx => (h.2 x hx).on hb⟩
theorem itsE.slice {w : World} {v : Value} {xs : List IE} (h : itsE w v xs) : ∃ ao cap, v = .slice ao xs.length cap := by
  obtain ⟨⟨ao, cap, e, _⟩, _⟩ := h
  exact ⟨ao, cap, e⟩
theorem icell_one {w : World} {x : IE} (h : IOk w x) : ∀ u ∈ icell x, u.oneCell' = true := by
  obtain ⟨a1, n1, c1, e1⟩ := strs_slice h.1
  obtain ⟨a2, n2, c2, e2⟩ := refs_slice h.2
  intro u hu
  simp only [icell, List.mem_cons, List.not_mem_nil, or_false] at hu
  rcases hu with rfl | rfl | rfl | rfl | rfl | rfl | rfl | rfl | rfl | rfl | rfl
  any_goals rfl
  · rw [e1]; rfl
  · rw [e2]; rfl
theorem tcell_one {w : World} {x : TE} (h : opsIn w x.2 x.1.ops) : ∀ u ∈ tcell x, u.oneCell' = true := by
  obtain ⟨ao, cap, e⟩ := h.slice
  intro u hu
  simp only [tcell, List.mem_cons, List.not_mem_nil, or_false] at hu
  rcases hu with rfl | rfl | rfl | rfl | rfl | rfl
  any_goals rfl
  rw [e]; rfl
theorem txsE_rows {w : World} {v : Value} {xs : List TE} : txsE w v xs ↔ rowsIn w tcell v xs ∧ ∀ x ∈ xs, opsIn w x.2 x.1.ops := by
  constructor
  · rintro ⟨ao, cap, h1, h2, h3, h4, h5⟩
    exact ⟨⟨ao, cap, h1, h2, h3, h4⟩, h5⟩
  · rintro ⟨⟨ao, cap, h1, h2, h3, h4⟩, h5⟩
    exact ⟨ao, cap, h1, h2, h3, h4, h5⟩
/-- At this place there is this item. -/
structure IcAt (w : World) (p : Addr) (x : IE) : Prop where
  c0 : w.cell? p = some (.int .i64 x.1.x.1.1)
  c1 : w.cell? ⟨p.block, p.off + 1, none⟩ = some (.int .i64 x.1.x.1.2)
  c2 : w.cell? ⟨p.block, p.off + 2, none⟩ = some (.int .i64 x.1.x.2)
  c3 : w.cell? ⟨p.block, p.off + 3, none⟩ = some (.int .i64 x.1.o.k)
  c4 : w.cell? ⟨p.block, p.off + 4, none⟩ = some x.2.1
  c5 : w.cell? ⟨p.block, p.off + 5, none⟩ = some (.int .i64 x.1.o.vk)
  c6 : w.cell? ⟨p.block, p.off + 6, none⟩ = some (.int .i64 x.1.o.vn)
  c7 : w.cell? ⟨p.block, p.off + 7, none⟩ = some (.string ⟨x.1.o.vs.toArray⟩)
  c8 : w.cell? ⟨p.block, p.off + 8, none⟩ = some (.int .i64 x.1.o.n)
  c9 : w.cell? ⟨p.block, p.off + 9, none⟩ = some x.2.2
  c10 : w.cell? ⟨p.block, p.off + 10, none⟩ = some (.int .i64 x.1.t)
theorem IcAt.of {w : World} {p : Addr} {x : IE} (h : ∀ j u, (icell x)[j]? = some u → w.cell? (p.add j) = some u) : IcAt w p x := by
  have e : ∀ i, 0 < i → p.add i = ⟨p.block, p.off + i, none⟩ := fun i hi => by unfold Addr.add; rw [if_neg (by omega)]
  have e0 : p.add 0 = p := by unfold Addr.add; simp
  refine ⟨by rw [← e0]; exact h 0 _ rfl, ?_, ?_, ?_, ?_, ?_, ?_, ?_, ?_, ?_, ?_⟩
  · rw [← e 1 (by omega)]; exact h 1 _ rfl
  · rw [← e 2 (by omega)]; exact h 2 _ rfl
  · rw [← e 3 (by omega)]; exact h 3 _ rfl
  · rw [← e 4 (by omega)]; exact h 4 _ rfl
  · rw [← e 5 (by omega)]; exact h 5 _ rfl
  · rw [← e 6 (by omega)]; exact h 6 _ rfl
  · rw [← e 7 (by omega)]; exact h 7 _ rfl
  · rw [← e 8 (by omega)]; exact h 8 _ rfl
  · rw [← e 9 (by omega)]; exact h 9 _ rfl
  · rw [← e 10 (by omega)]; exact h 10 _ rfl
theorem IcAt.on {w w' : World} {p : Addr} {x : IE} (h : IcAt w p x) (hb : Below w.heap.size w w') : IcAt w' p x :=
  ⟨keep_cell hb h.c0, keep_cell hb h.c1, keep_cell hb h.c2, keep_cell hb h.c3, keep_cell hb h.c4, keep_cell hb h.c5, keep_cell hb h.c6, keep_cell hb h.c7, keep_cell hb h.c8, keep_cell hb h.c9, keep_cell hb h.c10⟩
theorem IcAt.new (w : World) (x : IE) (T : TypeId) : IcAt (w.alloc (.cells (icell x).toArray T)) ⟨w.heap.size, 0, none⟩ x := IcAt.of (new_cells w (icell x) T)
/-- The item at a place. -/
theorem itsE.get {w : World} {ao : Option Addr} {n cap : Nat} {xs : List IE} (h : itsE w (.slice ao n cap) xs) {k : Nat} (hk : k < xs.length) :
    ∃ ad, ao = some ad ∧ (∀ j u, (icell xs[k])[j]? = some u → w.cell? ((ad.add (k * 11)).add j) = some u) ∧ IcAt w (ad.add (k * 11)) xs[k] ∧ IOk w xs[k] := by
  obtain ⟨ad, e, h1⟩ := h.1.get icell_len (by omega) hk
  exact ⟨ad, e, h1, IcAt.of h1, h.2 _ (List.getElem_mem hk)⟩
theorem txsE.get {w : World} {ao : Option Addr} {n cap : Nat} {xs : List TE} (h : txsE w (.slice ao n cap) xs) {k : Nat} (hk : k < xs.length) :
    ∃ ad, ao = some ad ∧ (∀ j u, (tcell xs[k])[j]? = some u → w.cell? ((ad.add (k * 6)).add j) = some u) ∧ opsIn w xs[k].2 xs[k].1.ops := by
  have h := txsE_rows.1 h
  obtain ⟨ad, e, h1⟩ := h.1.get tcell_len (by omega) hk
  exact ⟨ad, e, h1, h.2 _ (List.getElem_mem hk)⟩
theorem tsize48 {cs : List Value} (h : cs.length = 6) : (Tryz.prog.info? 56).map (·.size) = some cs.length := by rw [h]; kernel_rfl
theorem isize56 {cs : List Value} (h : cs.length = 11) : (Tryz.prog.info? 76).map (·.size) = some cs.length := by rw [h]; kernel_rfl
theorem isize81 {cs : List Value} (h : cs.length = 11) : (Tryz.prog.info? 78).map (·.size) = some cs.length := by rw [h]; kernel_rfl
theorem iinfo56 : ∃ i0, Tryz.prog.info? 76 = some i0 ∧ i0.zero = some (.agg #[.int .i64 0, .int .i64 0, .int .i64 0, .int .i64 0, .slice none 0 0, .int .i64 0, .int .i64 0, .string ⟨#[]⟩, .int .i64 0, .slice none 0 0, .int .i64 0]) ∧ i0.size = 11 ∧ i0.bytes = 128 := info_parts (by kernel_rfl)
/-- A row of items that reads so. -/
theorem itsE_own {w : World} {B : Nat} {T : TypeId} {v : Value} {xs : List IE} (h : w.ownsRow B T 11 v xs.length (xs.flatMap icell)) (ho : ∀ x ∈ xs, IOk w x) : itsE w v xs := by
  refine ⟨?_, ho⟩
  rcases id h.2 with ⟨rfl, h0⟩ | ⟨g, cap, cur, rfl, r⟩
  · obtain rfl : xs = [] := List.eq_nil_of_length_eq_zero h0
    exact ⟨none, 0, rfl, Nat.le_refl _, fun _ => rfl, fun j u hu => by simp at hu⟩
  · exact ⟨_, cap, rfl, r.2.2.1, fun e => by simp at e, fun j u hu => ⟨_, rfl, h.cells rfl j u hu⟩⟩
end Go.Proofs.YthlhopdlkkeohaaGreatDoor.O
