/- The walk of the statement TxnOrder. -/
import Derived.Test.YtghkjbekjkejpaaLPlaces12
namespace Go.Proofs.Ytghkjbekjkejpaa.O
open Go.RowKit

/-- So many have dots of their own. -/
def distTo (l : List Tx.Txn) (k : Nat) : Prop := (l.take k).Pairwise fun x y => x.d ≠ y.d
def distIn (l : List Tx.Txn) (i k : Nat) : Prop := ∀ j (h : j < l.length) (h' : i < l.length), j < k → l[j].d ≠ l[i].d
theorem distTo_zero (l : List Tx.Txn) : distTo l 0 := by simp [distTo]
theorem distIn_zero (l : List Tx.Txn) (i : Nat) : distIn l i 0 := fun _ _ _ h => absurd h (Nat.not_lt_zero _)
theorem distIn_step {l : List Tx.Txn} {i k : Nat} (h : distIn l i k) (hk : k < l.length) (hi : i < l.length) (he : l[k].d ≠ l[i].d) : distIn l i (k + 1) := fun j hj hi' hjk => by
  by_cases e : j = k
  · subst e; exact he
  · exact h j hj hi' (by omega)
theorem distTo_step {l : List Tx.Txn} {i : Nat} (h : distTo l i) (hi : i < l.length) (hd : distIn l i i) : distTo l (i + 1) := by
  unfold distTo at *
  rw [List.take_succ_eq_append_getElem hi]
  refine List.pairwise_append.2 ⟨h, List.pairwise_singleton _ _, fun a ha b hb => ?_⟩
  rw [List.mem_singleton.1 hb]
  obtain ⟨j, hj, rfl⟩ := List.mem_iff_getElem.1 ha
  rw [List.length_take] at hj
  rw [List.getElem_take]
  exact hd j (by omega) hi (by omega)
theorem distTo_end {l : List Tx.Txn} {i : Nat} (h : distTo l i) (hi : ¬ i < l.length) : l.Pairwise fun x y => x.d ≠ y.d := by
  unfold distTo at h
  rwa [List.take_of_length_le (by omega)] at h
theorem puts_take (l : List Tx.Txn) {k : Nat} (h : k < l.length) : Tx.puts [] (l.take (k + 1)) = Tx.put (Tx.puts [] (l.take k)) l[k] := by
  unfold Tx.puts
  rw [List.take_succ_eq_append_getElem h, List.foldl_append]
  rfl
theorem puts_len_le : ∀ (l a : List Tx.Txn), (Tx.puts a l).length ≤ a.length + l.length
  | [], a => by simp [Tx.puts]
  | t :: r, a => by
    have h1 := puts_len_le r (Tx.put a t)
    have h2 := put_len_le (t := t) a
    have e : Tx.puts a (t :: r) = Tx.puts (Tx.put a t) r := rfl
    rw [e, List.length_cons]
    omega
theorem puts_in : ∀ (l a : List Tx.Txn) (z : Tx.Txn), z ∈ Tx.puts a l → z ∈ a ∨ z ∈ l
  | [], _, _, h => .inl h
  | t :: r, a, z, h => by
    have e : Tx.puts a (t :: r) = Tx.puts (Tx.put a t) r := rfl
    rw [e] at h
    rcases puts_in r _ z h with h | h
    · rcases Tx.put_mem z h with rfl | h
      · exact .inr (by simp)
      · exact .inl h
    · exact .inr (by simp [h])
/-- What a walk from both ends has made. -/
def made (w : World) (v : Value) (l : List Tx.Txn) (k : Nat) : Prop := txsIn w v (Tx.puts [] (l.take k))

set_option maxRecDepth 20000 in
set_option maxHeartbeats 4000000 in
theorem txnOrder_walk (v : Value) (l : List Tx.Txn) (w : World) (hw : ∀ t ∈ l, txWide t) (hv : txsIn w v l) :
    Calls Try.prog 5 #[v] w fun e w' => e = .returned (.bool true) ∧ Below w.heap.size w w' := by
  have C16 := shortL_any v l w hw hv
  cases h1 : shortL l with
  | false =>
    rw [h1] at C16
    clear hw hv h1
    go_enter Try.func5, Try.ntmps5
    go_wp2_with (first
      | (go_at_call 16; refine C16.mono ?_; rintro e w1 ⟨rfl, hb1⟩)
      | (go_at_call 7; refine (tawake_any _).mono ?_; rintro e w2 ⟨rfl, hb2⟩))
    go_ret
    exact ⟨rfl, bchain hb1 hb2⟩
  | true =>
  rw [h1] at C16
  obtain ⟨hn, hsh⟩ := shortL_parts h1
  have HV : Hid (txsIn w v l) := hv
  have HSH : Hid (∀ t ∈ l, t.ops.length ≤ 1000000 ∧ ∀ o ∈ t.ops, Os.short o = true) := hsh
  obtain ⟨ao, cap, rfl, -⟩ := hv
  obtain ⟨m, hm⟩ : ∃ m, m = l.length := ⟨_, rfl⟩
  have HM : Hid (m = l.length) := hm
  rw [← hm] at HV C16 hn ⊢
  have HD0 : Hid (distTo l 0) := by have h := distTo_zero l; exact h
  clear hw hsh hm h1
  go_enter Try.func5, Try.ntmps5
  go_wp2_with (go_at_call 16; refine C16.mono ?_; rintro e w1 ⟨rfl, hb1⟩)
  clear C16
  go_loopw [5, 6] (fun i _ wr => ∃ k : Nat, k ≤ m ∧ i = .int .i64 k ∧ Hid (distTo l k) ∧ Below w.heap.size w wr) (fun i _ _ => m - (intOf i).toNat)
  case atStart => exact ⟨0, by omega, rfl, HD0, hb1⟩
  case round =>
    clear hb1 HD0
    obtain ⟨i, hi, rfl, HS, hbw⟩ := hrel
    by_cases hlt : i < m
    · have hix : i < l.length := by have := HM.out; omega
      have HI0 : Hid (distIn l i 0) := by have h := distIn_zero l i; exact h
      go_wp2
      go_loopw [6] (fun k wr2 => ∃ j : Nat, j ≤ i ∧ k = .int .i64 j ∧ Hid (distIn l i j) ∧ Below w.heap.size w wr2) (fun k _ => i - (intOf k).toNat)
      case atStart => exact ⟨0, by omega, rfl, HI0, hbw⟩
      case round =>
        clear HI0
        obtain ⟨j, hj, rfl, HI, hbx⟩ := hrel
        by_cases hlj : j < i
        · have hjx : j < l.length := by omega
          obtain ⟨ad, ov, rfl, hA, -⟩ := HV.out.get hix
          obtain ⟨ad', ov', e', hB, -⟩ := HV.out.get hjx
          obtain rfl : ad = ad' := Option.some.inj e'
          obtain ⟨a0, a1, -, -, -, -⟩ := hA.on hbx
          obtain ⟨b0, b1, -, -, -, -⟩ := hB.on hbx
          have hi0 : (0 : Int) ≤ (i : Int) := by omega
          have hi1 : (i : Int) < (m : Int) := by omega
          have hj0 : (0 : Int) ≤ (j : Int) := by omega
          have hj1 : (j : Int) < (m : Int) := by omega
          have hE := eql_dot l[i].d l[j].d
          clear hA hB e'
          by_cases he : l[i].d = l[j].d
          · simp only [he, decide_true] at hE
            rw [he] at a0 a1
            clear he HS HI
            go_wp2
            go_region
            all_goals
              go_wp2_with (go_at_call 7; refine (tawake_any _).mono ?_; rintro e w9 ⟨rfl, hb9⟩)
              go_ret
              exact ⟨rfl, bchain hbx.drew hb9⟩
          · have HI' : Hid (distIn l i (j + 1)) := by have h := distIn_step HI.out hjx hix (fun q => he q.symm); exact h
            simp only [he, decide_false] at hE
            clear he HI
            generalize l[i] = x at *
            generalize l[j] = y at *
            go_wp2
            go_region
            all_goals
              go_wp2
              go_roundw
              case rel => exact ⟨j + 1, by omega, by go_num, HI', hbx.drew⟩
              case measure => simp [intOf]; omega
        · obtain rfl : j = i := by omega
          have HS' : Hid (distTo l (j + 1)) := by have h := distTo_step HS.out hix HI.out; exact h
          clear HS HI
          go_wp2
          go_roundw
          case rel => exact ⟨j + 1, by omega, by go_num, HS', hbx⟩
          case measure => simp [intOf]; omega
    · obtain rfl : i = m := by omega
      have hdist := distTo_end HS.out (by have := HM.out; omega)
      have hro := Tx.puts_order (m := l.reverse) hdist (fun x => by simp) (by
        rw [List.pairwise_reverse]
        exact hdist.imp fun h e => h e.symm)
      have hln := Tx.puts_len (a := []) (by simp) hdist
      have HRO : Hid (Tx.puts [] l = Tx.puts [] l.reverse) := hro
      have HLN : Hid ((Tx.puts [] l).length = i) := by
        have h : (Tx.puts [] l).length = i := by rw [hln, HM.out]; simp
        exact h
      have HA0 : Hid (made w1 (.slice none 0 0) l 0) := by have h : made w1 (.slice none 0 0) l 0 := txsIn_nil _; exact h
      clear HS hdist hro hln hlt
      go_wp2
      go_loopw [3, 4, 7] (fun a b k wr2 => ∃ j : Nat, j ≤ i ∧ k = .int .i64 j ∧ Hid (made wr2 a l j) ∧ Hid (made wr2 b l.reverse j) ∧ Below w.heap.size w wr2) (fun _ _ k _ => i - (intOf k).toNat)
      case atStart => exact ⟨0, by omega, rfl, txsIn_nil _, txsIn_nil _, hbw⟩
      case round =>
        clear HA0 hbw
        obtain ⟨j, hj, rfl, HA, HB, hbx⟩ := hrel
        by_cases hlt : j < i
        · obtain ⟨q, hq⟩ : ∃ q, q = i - 1 - j := ⟨_, rfl⟩
          have hjx : j < l.length := by have := HM.out; omega
          have hqx : q < l.length := by have := HM.out; omega
          have hjr : j < l.reverse.length := by rw [List.length_reverse]; exact hjx
          have hrev : l.reverse[j] = l[q] := by
            rw [List.getElem_reverse]
            congr 1
            have := HM.out
            omega
          have hsub : (i : Int) - 1 - (j : Int) = (q : Int) := by omega
          have hj0 : (0 : Int) ≤ (j : Int) := by omega
          have hj1 : (j : Int) < (i : Int) := by omega
          have hq0 : (0 : Int) ≤ (q : Int) := by omega
          have hq1 : (q : Int) < (i : Int) := by omega
          obtain ⟨ad, ov, rfl, hX, hxo⟩ := HV.out.get hjx
          obtain ⟨ad', ov', e', hY, hyo⟩ := HV.out.get hqx
          obtain rfl : ad = ad' := Option.some.inj e'
          have hT1 := puts_take l hjx
          have hT2 := puts_take l.reverse hjr
          rw [hrev] at hT2
          have hl1 := puts_len_le (l.take j) []
          have hl2 := puts_len_le (l.reverse.take j) []
          rw [List.length_take, List.length_nil] at hl1 hl2
          have hp1 : Tx.Rises (Tx.puts [] (l.take j)) := Tx.puts_rises List.Pairwise.nil
          have hp2 : Tx.Rises (Tx.puts [] (l.reverse.take j)) := Tx.puts_rises List.Pairwise.nil
          have C1 := tput_any _ (Tx.puts [] (l.take j)) l[j] ov _ HA.out (hxo.on hbx) (by omega) hp1
          have C2 := fun W b (h : txsIn W b (Tx.puts [] (l.reverse.take j))) (hb : Below w.heap.size w W) => tput_any b (Tx.puts [] (l.reverse.take j)) l[q] ov' W h (hyo.on hb) (by omega) hp2
          rw [← hT1] at C1
          rw [← hT2] at C2
          have HB' : Hid (txsIn _ _ (Tx.puts [] (l.reverse.take j))) := HB
          obtain ⟨a0, a1, a2, a3, a4, a5⟩ := hX.on hbx
          clear hT1 hT2 hl1 hl2 hp1 hp2 hrev hjr hxo hyo hX e' HA HB hq
          generalize l[j] = x at *
          generalize l[q] = y at *
          go_wp2_with fail
          refine C1.mono ?_
          rintro e w2 ⟨r1, rfl, hr1, hb2⟩
          have B2 := bchain hbx hb2
          obtain ⟨b0, b1, b2, b3, b4, b5⟩ := hY.on B2
          go_wp2_with fail
          refine (C2 _ _ (HB'.out.on hb2) B2).mono ?_
          rintro e w3 ⟨r2, rfl, hr2, hb3⟩
          have HR1 : Hid (made w3 r1 l (j + 1)) := hr1.on hb3
          have HR2 : Hid (made w3 r2 l.reverse (j + 1)) := hr2
          go_wp2
          go_roundw
          case rel => exact ⟨j + 1, by omega, by go_num, HR1, HR2, bchain B2 hb3⟩
          case measure => simp [intOf]; omega
        · obtain rfl : j = i := by omega
          have ha := HA.out
          have hb := HB.out
          unfold made at ha hb
          rw [List.take_of_length_le (by have := HM.out; omega)] at ha
          rw [List.take_of_length_le (by rw [List.length_reverse]; have := HM.out; omega), ← HRO.out] at hb
          have hps : ∀ x ∈ Tx.puts [] l, x.ops.length ≤ 1000000 ∧ ∀ o ∈ x.ops, Os.short o = true := fun x hx => by
            rcases puts_in l [] x hx with h | h
            · simp at h
            · exact HSH.out x h
          have hpp : Tx.Rises (Tx.puts [] l) := Tx.puts_rises List.Pairwise.nil
          have C22 := tall_any _ _ (Tx.puts [] l) _ hps (by have := HLN.out; omega) ha hb
          have C18 := fun W (h : Below _ _ W) => refTrises_any _ (Tx.puts [] l) W (ha.on h) (by have := HLN.out; omega)
          rw [Tx.rises_iff.2 hpp] at C18
          obtain ⟨ba, bc, e, -⟩ := id ha
          rw [HLN.out] at e
          subst e
          clear hps hpp ha hb HA HB
          go_wp2_with (first
            | (go_at_call 22; refine C22.mono ?_; rintro e w8 ⟨rfl, hb8⟩)
            | (go_at_call 18; refine (C18 _ hb8).mono ?_; rintro e w9 ⟨rfl, hb9⟩)
            | (go_at_call 7; refine (tawake_any _).mono ?_; rintro e w10 ⟨rfl, hb10⟩))
          go_ret
          exact ⟨rfl, bchain (bchain (bchain hbx hb8) hb9) hb10⟩
end Go.Proofs.Ytghkjbekjkejpaa.O
/- Its arguments in the order in which they come in. -/
namespace Go.Proofs.Ytghkjbekjkejpaa
theorem txnOrder_walk (v : Value) (l : List Tx.Txn) (w : World) (hw : ∀ t ∈ l, O.txWide t) (hv : O.txsIn w v l) :
    Calls Try.prog 5 #[v] w fun e w' => e = .returned (.bool true) ∧ Go.RowKit.Below w.heap.size w w' := O.txnOrder_walk v l w hw hv
end Go.Proofs.Ytghkjbekjkejpaa
