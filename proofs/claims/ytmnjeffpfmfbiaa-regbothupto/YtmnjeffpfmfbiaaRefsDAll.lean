/- The walk of the program's Refs (the order of operations' names) · Which item was put last; the walk of the closure of Latest. -/
import Derived.Test.YtmnjeffpfmfbiaaDotAll
import Derived.Test.YtmnjeffpfmfbiaaRwsAll
import Derived.Test.YtmnjeffpfmfbiaaRegsAll
/- The walk of the program's Refs (the order of operations' names). -/
namespace Go.Proofs.Ytmnjeffpfmfbiaa.D
open Go.RowKit

set_option maxRecDepth 20000 in
theorem refs_any (r n i r' n' i' : Int) (w : World) : Calls Try.prog 32 #[refV r n i, refV r' n' i'] w fun e w' => e = .returned (.int .i64 (Dt.two (Dt.comp r n r' n') (Dt.compareInt i i'))) ∧ Below w.heap.size w w' := by
  go_enter Try.func32, Try.ntmps32
  go_wp2_with fail
  go_region_held3 (fun w' => w'.cell? ⟨w.heap.size, 0, none⟩ = some (.int .i64 r) ∧ w'.cell? ⟨w.heap.size, 1, none⟩ = some (.int .i64 n) ∧ w'.cell? ⟨w.heap.size, 2, none⟩ = some (.int .i64 i)
      ∧ w'.cell? ⟨w.heap.size + 1, 0, none⟩ = some (.int .i64 r') ∧ w'.cell? ⟨w.heap.size + 1, 1, none⟩ = some (.int .i64 n') ∧ w'.cell? ⟨w.heap.size + 1, 2, none⟩ = some (.int .i64 i'))
    (first | go_keep | (refine ⟨keep_cell hb ?_, keep_cell hb ?_, keep_cell hb ?_, keep_cell hb ?_, keep_cell hb ?_, keep_cell hb ?_⟩ <;> go_keep))
    (first | (go_at_call 31; refine (cmp_any _ _ _).mono ?_; rintro e w2 ⟨rfl, rfl⟩) | (go_at_call 54; refine (comp_any _ _ _ _ _).mono ?_; rintro e w1 ⟨rfl, hb⟩) | (go_at_call 30; refine (or_new0 _ _ _).mono ?_; rintro e w3 ⟨rfl, rfl⟩))
  go_wp2
  go_ret
  exact ⟨rfl, (bchain (bchain (below_new2 _ _ _).drew hb) (below_new _ _))⟩
end Go.Proofs.Ytmnjeffpfmfbiaa.D
/- Which item was put last; the walk of the closure of Latest. -/
namespace Go.Proofs.Ytmnjeffpfmfbiaa
namespace Rg
/-- How two items stand, by their times and their names. -/
def lcomp (a b : Lv.Item) : Int := Dt.two (Dt.compareInt a.t b.t) (Os.comp a.x b.x)
theorem lcomp_later (a b : Lv.Item) : 0 < lcomp a b ↔ later a b = true := by
  unfold lcomp later Dt.two
  rw [decide_eq_true_eq]
  rcases Dt.compareInt_cases a.t b.t with ⟨h, e⟩ | ⟨h, e⟩ | ⟨h, e⟩ <;> rw [e]
  · rw [if_neg (by decide)]
    constructor
    · intro k; omega
    · rintro (k | ⟨k, _⟩) <;> omega
  · rw [if_pos rfl]
    constructor
    · intro k; exact .inr ⟨h, k⟩
    · rintro (k | ⟨_, k⟩)
      · omega
      · exact k
  · rw [if_neg (by decide)]
    constructor
    · intro _; exact .inl h
    · intro _; omega
end Rg
namespace O
open Go.RowKit

/-- The last one of a list of items, their operations' slices beside them. -/
def lastE (b : IE) (l : List IE) : IE := l.foldl (fun b i => if Rg.later i.1 b.1 = true then i else b) b
theorem lastE_map : ∀ (l : List IE) (b : IE), (lastE b l).1 = Rg.lastFrom b.1 (l.map (·.1))
  | [], _ => rfl
  | i :: l, b => by
    show (lastE (if Rg.later i.1 b.1 = true then i else b) l).1 = Rg.lastFrom (if Rg.later i.1 b.1 = true then i.1 else b.1) (l.map (·.1))
    rw [lastE_map l]
    congr 1
    split <;> rfl
theorem lastE_step (b : IE) (l : List IE) {k : Nat} (h : k < l.length) : lastE b (l.take (k + 1)) = if Rg.later l[k].1 (lastE b (l.take k)).1 = true then l[k] else lastE b (l.take k) := by
  unfold lastE
  rw [List.take_succ_eq_append_getElem h, List.foldl_append]
  rfl
theorem lastE_self (b : IE) (l : List IE) : lastE b (b :: l) = lastE b l := by
  show lastE (if Rg.later b.1 b.1 = true then b else b) l = lastE b l
  rw [if_neg (by rw [Rg.later_irrefl]; exact Bool.noConfusion)]
theorem lastE_mem : ∀ (l : List IE) (b : IE), lastE b l = b ∨ lastE b l ∈ l
  | [], b => .inl rfl
  | i :: l, b => by
    show lastE (if Rg.later i.1 b.1 = true then i else b) l = b ∨ lastE (if Rg.later i.1 b.1 = true then i else b) l ∈ i :: l
    rcases lastE_mem l (if Rg.later i.1 b.1 = true then i else b) with e | e
    · rw [e]
      split
      · exact .inr (by simp)
      · exact .inl rfl
    · exact .inr (List.mem_cons_of_mem _ e)

set_option maxRecDepth 20000 in
set_option maxHeartbeats 2000000 in
/-- The closure of Latest. -/
theorem later_any (a b : Lv.Item) (pa : Option Addr) (pn pc : Nat) (sa : Option Addr) (sn sc : Nat) (qa : Option Addr) (qn qc : Nat) (ra : Option Addr) (rn rc : Nat) (w : World) :
    Calls Try.prog 29 #[.agg (icell (a, .slice pa pn pc, .slice sa sn sc)).toArray, .agg (icell (b, .slice qa qn qc, .slice ra rn rc)).toArray] w fun e w' => e = .returned (.int .i64 (Rg.lcomp a b)) ∧ Below w.heap.size w w' := by
  have bA := below_new2 w (.cells (icell (a, .slice pa pn pc, .slice sa sn sc)).toArray 68) (.cells (icell (b, .slice qa qn qc, .slice ra rn rc)).toArray 68)
  have c0 := (IcAt.new w (a, .slice pa pn pc, .slice sa sn sc) 68).on (below_new _ (.cells (icell (b, .slice qa qn qc, .slice ra rn rc)).toArray 68))
  have e1 : (w.alloc (.cells (icell (a, .slice pa pn pc, .slice sa sn sc)).toArray 68)).heap.size = w.heap.size + 1 := by simp
  have d0 := IcAt.new (w.alloc (.cells (icell (a, .slice pa pn pc, .slice sa sn sc)).toArray 68)) (b, .slice qa qn qc, .slice ra rn rc) 68
  rw [e1] at d0
  obtain ⟨a0, a1, a2, -, -, -, -, -, -, -, a10⟩ := c0
  obtain ⟨b0, b1, b2, -, -, -, -, -, -, -, b10⟩ := d0
  simp only [Nat.zero_add] at a1 a2 a10 b1 b2 b10
  have HR := fun W => D.refs_any a.x.1.1 a.x.1.2 a.x.2 b.x.1.1 b.x.1.2 b.x.2 W
  have HE : Hid (Dt.two (Dt.comp a.x.1.1 a.x.1.2 b.x.1.1 b.x.1.2) (Dt.compareInt a.x.2 b.x.2) = Os.comp a.x b.x) := by
    have h : Dt.two (Dt.comp a.x.1.1 a.x.1.2 b.x.1.1 b.x.1.2) (Dt.compareInt a.x.2 b.x.2) = Os.comp a.x b.x := rfl
    exact h
  rw [HE.out] at HR
  unfold Rg.lcomp
  generalize Os.comp a.x b.x = z at *
  go_enter Try.func29, Try.ntmps29
  go_wp2_with fail
  generalize (w.alloc (.cells (icell (a, .slice pa pn pc, .slice sa sn sc)).toArray 68)).alloc (.cells (icell (b, .slice qa qn qc, .slice ra rn rc)).toArray 68) = W at *
  go_region_held3 (fun w' => w'.cell? ⟨w.heap.size, 0, none⟩ = some (.int .i64 a.x.1.1) ∧ w'.cell? ⟨w.heap.size, 1, none⟩ = some (.int .i64 a.x.1.2) ∧ w'.cell? ⟨w.heap.size, 2, none⟩ = some (.int .i64 a.x.2) ∧ w'.cell? ⟨w.heap.size, 10, none⟩ = some (.int .i64 a.t)
      ∧ w'.cell? ⟨w.heap.size + 1, 0, none⟩ = some (.int .i64 b.x.1.1) ∧ w'.cell? ⟨w.heap.size + 1, 1, none⟩ = some (.int .i64 b.x.1.2) ∧ w'.cell? ⟨w.heap.size + 1, 2, none⟩ = some (.int .i64 b.x.2) ∧ w'.cell? ⟨w.heap.size + 1, 10, none⟩ = some (.int .i64 b.t))
    (first | go_keep | (refine ⟨keep_cell hb ?_, keep_cell hb ?_, keep_cell hb ?_, keep_cell hb ?_, keep_cell hb ?_, keep_cell hb ?_, keep_cell hb ?_, keep_cell hb ?_⟩ <;> go_keep))
    (first | (go_at_call 31; refine (D.cmp_any _ _ _).mono ?_; rintro e w2 ⟨rfl, rfl⟩) | (go_at_call 32; refine (HR _).mono ?_; rintro e w1 ⟨rfl, hb⟩) | (go_at_call 30; refine (D.or_new0 _ _ _).mono ?_; rintro e w3 ⟨rfl, rfl⟩))
  go_wp2
  go_ret
  exact ⟨rfl, bchain (bchain bA.drew hb) (below_new _ _)⟩
end O
end Go.Proofs.Ytmnjeffpfmfbiaa
